/-
  A name by value: Check, of the program and of the document.
  Rows of elements of any size that a call owns: append, copy, clear; each as one step of a walk, and of a region that draws its order.
  Rows of names: how they lie, are read, and are appended to; names compared.
  Stamps as plain values: what may be, which is less, the next one, and one behind another one that was seen.
-/
import Derived.Test.YtmnblpjdiplioaaGreatGOp01
import Derived.Deep.AppendSrc
import Derived.Deep.RegionLaw
import Derived.Laws.CopyRow
import Derived.Laws.OwnMore
import Derived.Laws.StructEq
namespace Go.Proofs.YtmnblpjdiplioaaGreat
open Go.RowKit

def dcs (d : Dt) : List Value := [.int .i64 d.1, .int .i64 d.2]
def boxD (w : World) (d : Dt) : World := w.alloc (.cells #[.int .i64 d.1, .int .i64 d.2] 36)
theorem boxD_below (w : World) (d : Dt) : Below w.heap.size w (boxD w d) := (Below.refl _ _).alloc (Nat.le_refl _) _
theorem boxD_size (w : World) (d : Dt) : (boxD w d).heap.size = w.heap.size + 1 := by simp [boxD]
theorem boxD2_below (w : World) (a b : Dt) : Below w.heap.size w (boxD (boxD w a) b) := (boxD_below w a).trans ((boxD_below _ b).mono (by rw [boxD_size]; omega))

set_option maxHeartbeats 1000000 in
set_option maxRecDepth 100000 in
theorem checkC (d : Dt) (w : World) : Calls Tryz.prog 85 #[.agg #[.int .i64 d.1, .int .i64 d.2]] w fun e w' => e = .returned (.int .i64 (chkD d)) ∧ boxD w d = w' := by
  obtain ⟨r, n⟩ := d
  have hd : chkD (r, n) = if r < 0 ∨ 15 < r ∨ n < 1 ∨ 1099511627776 < n then 2 else 0 := rfl
  unfold boxD
  simp only at *
  by_cases h0 : r < 0
  · rw [if_pos (.inl h0)] at hd
    rw [hd]; clear hd
    go_enter Tryz.func85, Tryz.ntmps85
    go_wp2
    go_ret
    exact ⟨rfl, rfl⟩
  · have g0 : decide (r < 0) = false := by simp; omega
    by_cases h1 : 15 < r
    · rw [if_pos (.inr (.inl h1))] at hd
      rw [hd]; clear hd
      have g1 : decide ((16 : Int) ≤ r) = true := by simp; omega
      go_enter Tryz.func85, Tryz.ntmps85
      go_wp2
      go_ret
      exact ⟨rfl, rfl⟩
    · have g1 : decide ((16 : Int) ≤ r) = false := by simp; omega
      by_cases h2 : n < 1
      · rw [if_pos (.inr (.inr (.inl h2)))] at hd
        rw [hd]; clear hd
        have g2 : decide (n < 1) = true := by simp; omega
        go_enter Tryz.func85, Tryz.ntmps85
        go_wp2
        go_ret
        exact ⟨rfl, rfl⟩
      · have g2 : decide (n < 1) = false := by simp; omega
        by_cases h3 : 1099511627776 < n
        · rw [if_pos (.inr (.inr (.inr h3)))] at hd
          rw [hd]; clear hd
          have g3 : decide ((1099511627776 : Int) < n) = true := by simp; omega
          go_enter Tryz.func85, Tryz.ntmps85
          go_wp2
          go_ret
          exact ⟨rfl, rfl⟩
        · rw [if_neg (by omega)] at hd
          rw [hd]; clear hd
          have g3 : decide ((1099511627776 : Int) < n) = false := by simp; omega
          go_enter Tryz.func85, Tryz.ntmps85
          go_wp2
          go_ret
          exact ⟨rfl, rfl⟩

set_option maxHeartbeats 1000000 in
set_option maxRecDepth 100000 in
theorem checkR (d : Dt) (w : World) : Calls Tryz.prog 40 #[.agg #[.int .i64 d.1, .int .i64 d.2]] w fun e w' => e = .returned (.int .i64 (chkD d)) ∧ boxD w d = w' := by
  obtain ⟨r, n⟩ := d
  have hd : chkD (r, n) = if r < 0 ∨ 15 < r ∨ n < 1 ∨ 1099511627776 < n then 2 else 0 := rfl
  unfold boxD
  simp only at *
  by_cases h0 : r < 0
  · rw [if_pos (.inl h0)] at hd
    rw [hd]; clear hd
    go_enter Tryz.func40, Tryz.ntmps40
    go_wp2
    go_ret
    exact ⟨rfl, rfl⟩
  · have g0 : decide (r < 0) = false := by simp; omega
    by_cases h1 : 15 < r
    · rw [if_pos (.inr (.inl h1))] at hd
      rw [hd]; clear hd
      have g1 : decide ((15 : Int) < r) = true := by simp; omega
      go_enter Tryz.func40, Tryz.ntmps40
      go_wp2
      go_ret
      exact ⟨rfl, rfl⟩
    · have g1 : decide ((15 : Int) < r) = false := by simp; omega
      by_cases h2 : n < 1
      · rw [if_pos (.inr (.inr (.inl h2)))] at hd
        rw [hd]; clear hd
        have g2 : decide (n < 1) = true := by simp; omega
        go_enter Tryz.func40, Tryz.ntmps40
        go_wp2
        go_ret
        exact ⟨rfl, rfl⟩
      · have g2 : decide (n < 1) = false := by simp; omega
        by_cases h3 : 1099511627776 < n
        · rw [if_pos (.inr (.inr (.inr h3)))] at hd
          rw [hd]; clear hd
          have g3 : decide ((1099511627776 : Int) < n) = true := by simp; omega
          go_enter Tryz.func40, Tryz.ntmps40
          go_wp2
          go_ret
          exact ⟨rfl, rfl⟩
        · rw [if_neg (by omega)] at hd
          rw [hd]; clear hd
          have g3 : decide ((1099511627776 : Int) < n) = false := by simp; omega
          go_enter Tryz.func40, Tryz.ntmps40
          go_wp2
          go_ret
          exact ⟨rfl, rfl⟩
end Go.Proofs.YtmnblpjdiplioaaGreat

namespace Go.Proofs.YtmnblpjdiplioaaGreat
set_option maxRecDepth 100000
open Go.RowKit

/-- The row's block is the one it was, or a new one. -/
def SF (w : World) (v v' : Value) : Prop := v'.ownBlock = v.ownBlock ∨ ∃ g, v'.ownBlock = some g ∧ w.heap.size ≤ g

section
variable {P : Program}

theorem run_append_room_row (w : World) (t tx ty e : TypeId) (i : TypeInfo) (ht : P.underlying t = some (.slice e)) (hi : P.info? e = some i) (g n cap : Nat) (cur : Array Value) (hg : w.heap[g]? = some (.cells cur e (0, 0)))
    (x : Value) (m : Nat) (news : List Value) (hs : Src P i.size tx x m news w) (hroom : n + m ≤ cap) (hfit : n * i.size + news.length ≤ cur.size) :
    (Builtin.append_ #[t, tx] ty #[.slice (some ⟨g, 0, none⟩) n cap, x]).run P w =
      .ok (.slice (some ⟨g, 0, none⟩) (n + m) cap) (w.setRow g (cur.toList.take (n * i.size) ++ news ++ cur.toList.drop (n * i.size + news.length)).toArray) := by
  have hst := run_storeCells_at P g (n * i.size) e news 0 cur w hg (by simpa using hfit) hs.one
  simp only [Nat.add_zero] at hst
  rcases hs.kind with ⟨e', hk⟩ | hk <;> simp [Builtin.append_, run_underlying ht, run_underlying hk, sizeOf, typeInfo, hi, hs.len, hroom, hs.cells, Addr.add_lit, hst]

theorem run_append_sf (w : World) (B : Nat) (t tx ty e : TypeId) (i : TypeInfo) (z : Value) (size bytes : Nat) (ht : P.underlying t = some (.slice e)) (hi : P.info? e = some i) (hz : i.zero = some z)
    (hsize : i.size = size) (hby : i.bytes = bytes) (hzs : z.cells.size = size)
    (v : Value) (n : Nat) (xs : List Value) (hown : w.ownsRow B e size v n xs) (x : Value) (m : Nat) (news : List Value) (hs : Src P size tx x m news w)
    (h63 : n + m ≤ maxLen) (hbytes : (n + m) * bytes ≤ 140737488355328) (hB : B ≤ w.heap.size) :
    ∃ v' w', (Builtin.append_ #[t, tx] ty #[v, x]).run P w = .ok v' w' ∧ w'.ownsRow B e size v' (n + m) (xs ++ news) ∧ w.grownBy w' v.ownBlock ∧ SF w v v' ∧ (0 < m → ∃ g c, v' = .slice (some ⟨g, 0, none⟩) (n + m) c) := by
  subst hsize
  subst hby
  have hl := hs.newsLen
  have hsmall : ((n + m : Nat) : Int) ≤ 9223372036854775807 := by simp only [maxLen] at h63; omega
  have hlen : (xs ++ news).length = (n + m) * i.size := by rw [List.length_append, hown.1, hl, Nat.add_mul]
  have grown : ∀ (old : Nat), old < n + m → ∀ (row : Option Nat),
      (w.drew.alloc (.cells ((xs ++ news).toArray ++ Builtin.zeroCells z.cells (grownCap w (n + m) old e - (n + m))) e)).ownsRow B e i.size
        (.slice (some ⟨w.heap.size, 0, none⟩) (n + m) (grownCap w (n + m) old e)) (n + m) (xs ++ news) ∧
      w.grownBy (w.drew.alloc (.cells ((xs ++ news).toArray ++ Builtin.zeroCells z.cells (grownCap w (n + m) old e - (n + m))) e)) row := by
    intro old ho row
    have hge := grownCap_ge w (n + m) old e
    have hcm : grownCap w (n + m) old e ≤ maxLen := grownCap_le_maxLen w (n + m) old e h63
    refine ⟨⟨hlen, .inr ⟨w.heap.size, _, _, rfl, hB, heap_alloc_new w.drew _, hge, hcm, ?_, ?_⟩⟩, ⟨rfl, rfl, rfl, by simp, fun k hk _ => Below.heap_alloc w.drew _ k hk⟩⟩
    · simp only [Array.size_append, List.size_toArray, size_zeroCells, hzs, hlen, ← Nat.add_mul]
      congr 1
      omega
    · simp only [Array.toList_append]
      rw [← hlen]
      exact List.take_left
  rcases hown.2 with ⟨rfl, rfl⟩ | ⟨g, cap, cur, rfl, hbg, hg, hnc, hcm, hcs, htake⟩
  · have hx : xs = [] := List.eq_nil_of_length_eq_zero (by simpa using hown.1)
    subst hx
    by_cases hm : m = 0
    · subst hm
      have hn : news = [] := List.eq_nil_of_length_eq_zero (by simpa using hl)
      subst hn
      refine ⟨.slice none 0 0, w, ?_, World.ownsRow_nil w B e i.size, ⟨rfl, rfl, rfl, Nat.le_refl _, fun _ _ _ => rfl⟩, .inl rfl, fun h => absurd h (Nat.lt_irrefl _)⟩
      rcases hs.kind with ⟨e', hk⟩ | hk <;> simp [Builtin.append_, run_underlying ht, run_underlying hk, sizeOf, typeInfo, hi, hs.len, hs.cells]
    · have hr := run_append_grow_src (P := P) w t tx ty e i z ht hi hz none 0 0 [] (run_firstCells_none w.drew i.size 0 0 0) x m news hs (by omega) (by omega) (growslice_fits (by omega) hbytes)
      have hgr := grown 0 (by omega) (Value.ownBlock (.slice none 0 0))
      exact ⟨_, _, hr, hgr.1, hgr.2, .inr ⟨w.heap.size, rfl, Nat.le_refl _⟩, fun _ => ⟨_, _, rfl⟩⟩
  · by_cases hroom : n + m ≤ cap
    · have hfit : n * i.size + news.length ≤ cur.size := by rw [hl, hcs, ← Nat.add_mul]; exact Nat.mul_le_mul_right _ hroom
      have hr := run_append_room_row (P := P) w t tx ty e i ht hi g n cap cur hg x m news hs hroom hfit
      refine ⟨_, _, hr, ⟨hlen, .inr ⟨g, cap, _, rfl, hbg, setRow_heap w g cur _ e _ hg, hroom, hcm, ?_, ?_⟩⟩, ⟨rfl, rfl, rfl, by simp, fun k _ hk => setRow_other w g k _ (fun e => hk (by simp [Value.ownBlock, e]))⟩, .inl rfl, fun _ => ⟨_, _, rfl⟩⟩
      · simp only [List.size_toArray, List.length_append, List.length_take, List.length_drop, Array.length_toList]
        omega
      · rw [htake, ← hlen]
        exact List.take_left
    · have holds : ∀ j u, xs[j]? = some u → w.drew.cell? ((⟨g, 0, none⟩ : Addr).add j) = some u := hown.cells (g := g) rfl
      have hr := run_append_grow_src (P := P) w t tx ty e i z ht hi hz (some ⟨g, 0, none⟩) n cap xs (run_firstCells_some w.drew i.size n ⟨g, 0, none⟩ n cap xs hown.1 holds) x m news hs (by omega) (by omega) (growslice_fits (by omega) hbytes)
      have hgr := grown cap (by omega) (Value.ownBlock (.slice (some ⟨g, 0, none⟩) n cap))
      exact ⟨_, _, hr, hgr.1, hgr.2, .inr ⟨w.heap.size, rfl, Nat.le_refl _⟩, fun _ => ⟨_, _, rfl⟩⟩

theorem wpList_append_run {w : World} {ops : Array Oper} {rest : List Oper} {o : Oper} {a : Act} {Q : Exit → Act → World → Prop} (hgd : o.guard = none) (s x : Operand) (t tx : TypeId)
    (ho : o.op = .call { callee := .builtin .append, args := #[s, x], argTypes := #[t, tx] }) (vs vx v : Value) (w' : World) (hs : a.eval s = vs) (hx : a.eval x = vx)
    (hrun : (Builtin.append_ #[t, tx] o.type #[vs, vx]).run P w = .ok v w') (h : wpList P ops Q rest (a.put o.dst v) w') : wpList P ops Q (o :: rest) a w := by
  refine wpList_plain hgd fun K hK => ?_
  unfold Oper.wp
  simp [execOp, ho, resolve, invoke, builtin, hs, hx, hrun, Result.andThen]
  exact hK _ _ h

end
end Go.Proofs.YtmnblpjdiplioaaGreat

namespace Go.Proofs.YtmnblpjdiplioaaGreat
set_option maxRecDepth 100000
open Go.RowKit

theorem dotInfo : (Tryz.prog.info? 36).map (fun i => (i.zero, i.size, i.bytes)) = some (some (.agg #[.int .i64 0, .int .i64 0]), 2, 16) := by kernel_rfl

def rowD (l : List Dt) : List Value := l.flatMap dcs
theorem rowD_len (l : List Dt) : (rowD l).length = l.length * 2 := by
  induction l with
  | nil => rfl
  | cons d r ih => simp only [rowD, List.flatMap_cons, List.length_append, List.length_cons] at ih ⊢; rw [ih]; simp [dcs]; omega
theorem rowD_append (a b : List Dt) : rowD (a ++ b) = rowD a ++ rowD b := by simp [rowD]
theorem rowD_at : ∀ (l : List Dt) (j : Nat) (d : Dt), l[j]? = some d → (rowD l)[j * 2]? = some (.int .i64 d.1) ∧ (rowD l)[j * 2 + 1]? = some (.int .i64 d.2) := by
  intro l
  induction l with
  | nil => intro j d h; simp at h
  | cons x r ih =>
    intro j d h
    cases j with
    | zero => simp at h; subst h; exact ⟨rfl, rfl⟩
    | succ j =>
      obtain ⟨h1, h2⟩ := ih j d (by simpa using h)
      have e : rowD (x :: r) = .int .i64 x.1 :: .int .i64 x.2 :: rowD r := rfl
      rw [e, show (j + 1) * 2 = j * 2 + 1 + 1 from by omega]
      exact ⟨by simpa using h1, by simpa using h2⟩
theorem rowD_cell (l : List Dt) : ∀ u ∈ rowD l, u.oneCell' = true := by
  intro u hu
  simp only [rowD, List.mem_flatMap] at hu
  obtain ⟨d, _, hd⟩ := hu
  simp [dcs] at hd
  rcases hd with rfl | rfl <;> rfl

/-- The slice v is the call's own, and holds the names l. -/
def OwnD (B : Nat) (v : Value) (l : List Dt) (w : World) : Prop := w.ownsRow B 36 2 v l.length (rowD l)
/-- At a stand the names l, to be read. -/
def DIn (w : World) (a : Option Addr) (l : List Dt) : Prop :=
  l = [] ∨ ∃ b off, a = some ⟨b, off, none⟩ ∧ b < w.heap.size ∧ ∀ j d, l[j]? = some d → w.cell? ⟨b, off + j * 2, none⟩ = some (.int .i64 d.1) ∧ w.cell? ⟨b, off + j * 2 + 1, none⟩ = some (.int .i64 d.2)

theorem DIn.below {w w' : World} {a : Option Addr} {l : List Dt} (h : DIn w a l) (hb : Below w.heap.size w w') : DIn w' a l := by
  rcases h with h | ⟨b, off, rfl, hlt, hc⟩
  · exact .inl h
  · refine .inr ⟨b, off, rfl, Nat.lt_of_lt_of_le hlt hb.size, fun j d hj => ?_⟩
    obtain ⟨h0, h1⟩ := hc j d hj
    exact ⟨by rw [hb.cell (p := ⟨b, off + j * 2, none⟩) hlt]; exact h0, by rw [hb.cell (p := ⟨b, off + j * 2 + 1, none⟩) hlt]; exact h1⟩
theorem DIn.alloc {w : World} {a : Option Addr} {l : List Dt} (h : DIn w a l) (o : Obj) : DIn (w.alloc o) a l := h.below ((Below.refl _ _).alloc (Nat.le_refl _) o)
/-- one of them, at its place -/
theorem DIn.at {w : World} {a : Option Addr} {l : List Dt} (h : DIn w a l) {j : Nat} {d : Dt} (hj : l[j]? = some d) :
    ∃ b off, a = some ⟨b, off, none⟩ ∧ b < w.heap.size ∧ w.cell? ⟨b, off + j * 2, none⟩ = some (.int .i64 d.1) ∧ w.cell? ⟨b, off + j * 2 + 1, none⟩ = some (.int .i64 d.2) := by
  rcases h with rfl | ⟨b, off, rfl, hlt, hc⟩
  · simp at hj
  · exact ⟨b, off, rfl, hlt, hc j d hj⟩

theorem ownD_nil (B : Nat) (w : World) : OwnD B (.slice none 0 0) [] w := World.ownsRow_nil _ _ _ _
theorem OwnD.din {B : Nat} {v : Value} {l : List Dt} {w : World} (h : OwnD B v l w) : ∃ a cap, v = .slice a l.length cap ∧ DIn w a l ∧ l.length ≤ maxLen := by
  obtain ⟨hl, hv⟩ := h
  rcases hv with ⟨rfl, h0⟩ | ⟨g, cap, cur, rfl, hB, hg, hn, hm, hs, htk⟩
  · exact ⟨none, 0, by rw [h0], .inl (List.length_eq_zero_iff.1 h0), by rw [h0]; simp [maxLen]⟩
  · refine ⟨_, cap, rfl, .inr ⟨g, 0, rfl, lt_of_block hg, fun j d hj => ?_⟩, by omega⟩
    obtain ⟨h1, h2⟩ := rowD_at l j d hj
    have hjl : j < l.length := (List.getElem?_eq_some_iff.1 hj).1
    have c1 := Lib.cells_of_row hg (l.length * 2) (j * 2) _ (by rw [htk]; exact h1)
    have c2 := Lib.cells_of_row hg (l.length * 2) (j * 2 + 1) _ (by rw [htk]; exact h2)
    have e1 : ∀ k, (⟨g, 0, none⟩ : Addr).add k = ⟨g, 0 + k, none⟩ := fun k => by cases k <;> simp [Addr.add]
    rw [e1] at c1 c2
    exact ⟨c1, by rw [← Nat.add_assoc] at c2; exact c2⟩
theorem OwnD.below {B C : Nat} {v : Value} {l : List Dt} {w w' : World} (h : OwnD B v l w) (hb : Below C w w') (hC : w.heap.size ≤ C) : OwnD B v l w' := by
  unfold OwnD at *
  refine ⟨h.1, ?_⟩
  rcases h.2 with hn | ⟨g, cap, cur, hv, hB, hg, rest⟩
  · exact .inl hn
  · exact .inr ⟨g, cap, cur, hv, hB, by rw [hb.block g (Nat.lt_of_lt_of_le (lt_of_block hg) hC)]; exact hg, rest⟩
theorem OwnD.mono {B C : Nat} {v : Value} {l : List Dt} {w : World} (h : OwnD B v l w) (hC : C ≤ B) : OwnD C v l w := by
  unfold OwnD at *
  refine ⟨h.1, ?_⟩
  rcases h.2 with hn | ⟨g, cap, cur, hv, hB, rest⟩
  · exact .inl hn
  · exact .inr ⟨g, cap, cur, hv, by omega, rest⟩
theorem OwnD.alloc {B : Nat} {v : Value} {l : List Dt} {w : World} (h : OwnD B v l w) (o : Obj) : OwnD B v l (w.alloc o) := World.ownsRow.alloc h o

/-! names compared -/
theorem eqD_in (d : Nat) (a b : Dt) (W : World) : (Op.equalIn (d + 2) 36 (.agg #[.int .i64 a.1, .int .i64 a.2]) (.agg #[.int .i64 b.1, .int .i64 b.2])).run Tryz.prog W = .ok (decide (a = b)) W := by
  rw [run_equalIn_agg (P := Tryz.prog) W (d + 1) _ _ _ (by kernel_rfl) (by kernel_rfl)]
  have hf : (Tryz.prog.fieldsOf 36).toList.map (fun f => (f.name != "_", f.type, f.offset)) = [(true, 3, 0), (true, 3, 1)] := by kernel_rfl
  generalize (Tryz.prog.fieldsOf 36).toList = fs at hf
  have hfl : fs.length = 2 := by have := congrArg List.length hf; simpa using this
  match fs, hfl with
  | [f0, f1], _ =>
    simp only [List.map_cons, List.map_nil, List.cons.injEq, Prod.mk.injEq, and_true] at hf
    obtain ⟨⟨n0, t0, o0⟩, n1, t1, o1⟩ := hf
    have m0 : f0.name ≠ "_" := by simpa using n0
    have m1 : f1.name ≠ "_" := by simpa using n1
    have p0 : ∀ (x y : Value) (W : World), (part 3 #[x, y] 0).run Tryz.prog W = .ok x W := fun x y W => by rfl
    have p1 : ∀ (x y : Value) (W : World), (part 3 #[x, y] 1).run Tryz.prog W = .ok y W := fun x y W => by rfl
    have q : ∀ (x y : Int) (W : World), (Op.equalIn (d + 1) 3 (.int .i64 x) (.int .i64 y)).run Tryz.prog W = .ok (x == y) W := fun x y W => run_equalIn_int (P := Tryz.prog) W d 3 .i64 .i64 _ _ Tryz.underlying3
    simp only [Op.eqFields, m0, m1, ne_eq, not_false_eq_true, if_true, t0, t1, o0, o1, Sem.run_bind, p0, q, Result.andThen_ok]
    by_cases h1 : a.1 = b.1
    · by_cases h2 : a.2 = b.2
      · have e : a = b := Prod.ext h1 h2
        simp [e, p1, q]
      · have e : a ≠ b := fun e => h2 (by rw [e])
        simp [h1, h2, e, p1, q]
    · have e : a ≠ b := fun e => h1 (by rw [e])
      simp [h1, e]
theorem eqD (a b : Dt) (W : World) : (Op.equalIn 10000 36 (.agg #[.int .i64 a.1, .int .i64 a.2]) (.agg #[.int .i64 b.1, .int .i64 b.2])).run Tryz.prog W = .ok (decide (a = b)) W := eqD_in 9998 a b W
theorem eqlD (a b : Dt) (W : World) : (binOp .eql 36 (.agg #[.int .i64 a.1, .int .i64 a.2]) (.agg #[.int .i64 b.1, .int .i64 b.2])).run Tryz.prog W = .ok (.bool (decide (a = b))) W := by
  rw [run_eql_struct, eqD]; rfl
theorem neqD (a b : Dt) (W : World) : (binOp .neq 36 (.agg #[.int .i64 a.1, .int .i64 a.2]) (.agg #[.int .i64 b.1, .int .i64 b.2])).run Tryz.prog W = .ok (.bool (!decide (a = b))) W := by
  rw [run_neq_struct, eqD]; rfl
end Go.Proofs.YtmnblpjdiplioaaGreat

namespace Go.Proofs.YtmnblpjdiplioaaGreat

structure St where
  t : Int
  c : Int
  r : Int
deriving DecidableEq

def chkS (s : St) : Int := if s.t < 0 ∨ 1099511627776 < s.t ∨ s.c < 0 ∨ 1099511627776 < s.c ∨ s.r < 0 ∨ 15 < s.r then 2 else 0
def ltS (a b : St) : Bool := if a.t ≠ b.t then decide (a.t < b.t) else if a.c ≠ b.c then decide (a.c < b.c) else decide (a.r < b.r)
def badN (now : Int) : Prop := now < 0 ∨ 1099511627776 < now
def badR (r : Int) : Prop := r < 0 ∨ 15 < r
instance (n : Int) : Decidable (badN n) := by unfold badN; infer_instance
instance (n : Int) : Decidable (badR n) := by unfold badR; infer_instance
theorem ltS_iff {a b : St} : ltS a b = true ↔ a.t < b.t ∨ (a.t = b.t ∧ (a.c < b.c ∨ (a.c = b.c ∧ a.r < b.r))) := by
  unfold ltS
  split
  · rw [decide_eq_true_eq]; omega
  · split
    · rw [decide_eq_true_eq]; omega
    · rw [decide_eq_true_eq]; omega
theorem ltS_no {a b : St} : ltS a b = false ↔ ¬ (a.t < b.t ∨ (a.t = b.t ∧ (a.c < b.c ∨ (a.c = b.c ∧ a.r < b.r)))) := by
  rw [← ltS_iff]; simp
theorem ltS_irr (a : St) : ltS a a = false := by rw [ltS_no]; omega
theorem ltS_asym {a b : St} (h : ltS a b = true) : ltS b a = false := by rw [ltS_no]; rw [ltS_iff] at h; omega
theorem ltS_trans {a b c : St} (h : ltS a b = true) (k : ltS b c = true) : ltS a c = true := by rw [ltS_iff] at *; omega
theorem ltS_tri (a b : St) : (ltS a b = true ∧ ltS b a = false ∧ decide (a = b) = false) ∨ (ltS a b = false ∧ ltS b a = true ∧ decide (a = b) = false) ∨ (ltS a b = false ∧ ltS b a = false ∧ decide (a = b) = true) := by
  by_cases e : a = b
  · subst e
    exact .inr (.inr ⟨ltS_irr a, ltS_irr a, decide_eq_true rfl⟩)
  · have hd := decide_eq_false e
    rcases hab : ltS a b with _ | _
    · rcases hba : ltS b a with _ | _
      · exfalso
        rw [ltS_no] at hab hba
        apply e
        obtain ⟨t, c, r⟩ := a
        obtain ⟨t', c', r'⟩ := b
        simp only [St.mk.injEq] at *
        omega
      · exact .inr (.inl ⟨rfl, rfl, hd⟩)
    · exact .inl ⟨rfl, ltS_asym hab, hd⟩
end Go.Proofs.YtmnblpjdiplioaaGreat
