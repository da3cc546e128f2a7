/-
  Rows of elements of any size that a call owns: append, copy, clear; each as one step of a walk, and of a region that draws its order.
  Rows of names: how they lie, are read, and are appended to; names compared.
  Contexts by value and in memory: whole rows boxed, loaded, stored; their vector, their cloud, one place.
-/
import Derived.Test.YtcedliaeipabnaaBase
import Derived.Deep.AppendSrc
import Derived.Deep.RegionLaw
import Derived.Laws.CopyRow
import Derived.Laws.OwnMore
import Derived.Test.YtcedliaeipabnaaGCauC
import Derived.Laws.StructEq
import Derived.Test.YtcedliaeipabnaaCauPlain
import Derived.Deep.MidRow
namespace Go.Proofs.Ytcedliaeipabnaa
set_option maxRecDepth 100000
open Go.RowKit

/-- The row's block is the one it was, or a new one. -/
def SF (w : World) (v v' : Value) : Prop := v'.ownBlock = v.ownBlock ∨ ∃ g, v'.ownBlock = some g ∧ w.heap.size ≤ g

section
variable {P : Program}

theorem run_append_room_row (w : World) (t tx ty e : TypeId) (i : TypeInfo) (ht : P.underlying t = some (.slice e)) (hi : P.info? e = some i) (g n cap : Nat) (cur : Array Value) (hg : w.heap[g]? = some (.cells cur e (0, 0)))
    (x : Value) (m : Nat) (news : List Value) (hs : Src P i.size tx x m news w) (hroom : n + m ≤ cap) (hfit : n * i.size + news.length ≤ cur.size) :
    (Builtin.append_ #[t, tx] ty #[.slice (some ⟨g, 0, none⟩) n cap, x]).run P w =
      .ok (.slice (some ⟨g, 0, none⟩) (n + m) cap) (w.setRow g (cur.toList.take (n * i.size) ++ news ++ cur.toList.drop (n * i.size + news.length)).toArray) := by
  have hst := run_storeCells_at P g (n * i.size) e news 0 cur w hg (by simpa using hfit) hs.one
  simp only [Nat.add_zero] at hst
  rcases hs.kind with ⟨e', hk⟩ | hk <;> simp [Builtin.append_, run_underlying ht, run_underlying hk, sizeOf, typeInfo, hi, hs.len, hroom, hs.cells, Addr.add_lit, hst]

theorem run_append_sf (w : World) (B : Nat) (t tx ty e : TypeId) (i : TypeInfo) (z : Value) (size bytes : Nat) (ht : P.underlying t = some (.slice e)) (hi : P.info? e = some i) (hz : i.zero = some z)
    (hsize : i.size = size) (hby : i.bytes = bytes) (hzs : z.cells.size = size)
    (v : Value) (n : Nat) (xs : List Value) (hown : w.ownsRow B e size v n xs) (x : Value) (m : Nat) (news : List Value) (hs : Src P size tx x m news w)
    (h63 : n + m ≤ maxLen) (hbytes : (n + m) * bytes ≤ 140737488355328) (hB : B ≤ w.heap.size) :
    ∃ v' w', (Builtin.append_ #[t, tx] ty #[v, x]).run P w = .ok v' w' ∧ w'.ownsRow B e size v' (n + m) (xs ++ news) ∧ w.grownBy w' v.ownBlock ∧ SF w v v' ∧ (0 < m → ∃ g c, v' = .slice (some ⟨g, 0, none⟩) (n + m) c) := by
  subst hsize
  subst hby
  have hl := hs.newsLen
  have hsmall : ((n + m : Nat) : Int) ≤ 9223372036854775807 := by simp only [maxLen] at h63; omega
  have hlen : (xs ++ news).length = (n + m) * i.size := by rw [List.length_append, hown.1, hl, Nat.add_mul]
  have grown : ∀ (old : Nat), old < n + m → ∀ (row : Option Nat),
      (w.drew.alloc (.cells ((xs ++ news).toArray ++ Builtin.zeroCells z.cells (grownCap w (n + m) old e - (n + m))) e)).ownsRow B e i.size
        (.slice (some ⟨w.heap.size, 0, none⟩) (n + m) (grownCap w (n + m) old e)) (n + m) (xs ++ news) ∧
      w.grownBy (w.drew.alloc (.cells ((xs ++ news).toArray ++ Builtin.zeroCells z.cells (grownCap w (n + m) old e - (n + m))) e)) row := by
    intro old ho row
    have hge := grownCap_ge w (n + m) old e
    have hcm : grownCap w (n + m) old e ≤ maxLen := grownCap_le_maxLen w (n + m) old e h63
    refine ⟨⟨hlen, .inr ⟨w.heap.size, _, _, rfl, hB, heap_alloc_new w.drew _, hge, hcm, ?_, ?_⟩⟩, ⟨rfl, rfl, rfl, by simp, fun k hk _ => Below.heap_alloc w.drew _ k hk⟩⟩
    · simp only [Array.size_append, List.size_toArray, size_zeroCells, hzs, hlen, ← Nat.add_mul]
      congr 1
      omega
    · simp only [Array.toList_append]
      rw [← hlen]
      exact List.take_left
  rcases hown.2 with ⟨rfl, rfl⟩ | ⟨g, cap, cur, rfl, hbg, hg, hnc, hcm, hcs, htake⟩
  · have hx : xs = [] := List.eq_nil_of_length_eq_zero (by simpa using hown.1)
    subst hx
    by_cases hm : m = 0
    · subst hm
      have hn : news = [] := List.eq_nil_of_length_eq_zero (by simpa using hl)
      subst hn
      refine ⟨.slice none 0 0, w, ?_, World.ownsRow_nil w B e i.size, ⟨rfl, rfl, rfl, Nat.le_refl _, fun _ _ _ => rfl⟩, .inl rfl, fun h => absurd h (Nat.lt_irrefl _)⟩
      rcases hs.kind with ⟨e', hk⟩ | hk <;> simp [Builtin.append_, run_underlying ht, run_underlying hk, sizeOf, typeInfo, hi, hs.len, hs.cells]
    · have hr := run_append_grow_src (P := P) w t tx ty e i z ht hi hz none 0 0 [] (run_firstCells_none w.drew i.size 0 0 0) x m news hs (by omega) (by omega) (growslice_fits (by omega) hbytes)
      have hgr := grown 0 (by omega) (Value.ownBlock (.slice none 0 0))
      exact ⟨_, _, hr, hgr.1, hgr.2, .inr ⟨w.heap.size, rfl, Nat.le_refl _⟩, fun _ => ⟨_, _, rfl⟩⟩
  · by_cases hroom : n + m ≤ cap
    · have hfit : n * i.size + news.length ≤ cur.size := by rw [hl, hcs, ← Nat.add_mul]; exact Nat.mul_le_mul_right _ hroom
      have hr := run_append_room_row (P := P) w t tx ty e i ht hi g n cap cur hg x m news hs hroom hfit
      refine ⟨_, _, hr, ⟨hlen, .inr ⟨g, cap, _, rfl, hbg, setRow_heap w g cur _ e _ hg, hroom, hcm, ?_, ?_⟩⟩, ⟨rfl, rfl, rfl, by simp, fun k _ hk => setRow_other w g k _ (fun e => hk (by simp [Value.ownBlock, e]))⟩, .inl rfl, fun _ => ⟨_, _, rfl⟩⟩
      · simp only [List.size_toArray, List.length_append, List.length_take, List.length_drop, Array.length_toList]
        omega
      · rw [htake, ← hlen]
        exact List.take_left
    · have holds : ∀ j u, xs[j]? = some u → w.drew.cell? ((⟨g, 0, none⟩ : Addr).add j) = some u := hown.cells (g := g) rfl
      have hr := run_append_grow_src (P := P) w t tx ty e i z ht hi hz (some ⟨g, 0, none⟩) n cap xs (run_firstCells_some w.drew i.size n ⟨g, 0, none⟩ n cap xs hown.1 holds) x m news hs (by omega) (by omega) (growslice_fits (by omega) hbytes)
      have hgr := grown cap (by omega) (Value.ownBlock (.slice (some ⟨g, 0, none⟩) n cap))
      exact ⟨_, _, hr, hgr.1, hgr.2, .inr ⟨w.heap.size, rfl, Nat.le_refl _⟩, fun _ => ⟨_, _, rfl⟩⟩

/-- copy, of elements of any size -/
theorem run_copy_cells (w : World) (dT sT ty elem : TypeId) (i : TypeInfo) (g o dLen dCap : Nat) (a : Addr) (sLen sCap : Nat) (cur : Array Value) (t : TypeId) (cs : List Value)
    (hu : P.underlying dT = some (.slice elem)) (hi : P.info? elem = some i) (hg : w.heap[g]? = some (.cells cur t (0, 0))) (hn : cs.length = Nat.min sLen dLen * i.size)
    (hsrc : ∀ j v, cs[j]? = some v → w.cell? (a.add j) = some v) (hfit : o + cs.length ≤ cur.size) (h1 : ∀ v ∈ cs, v.oneCell' = true) :
    (Builtin.copy_ #[dT, sT] ty #[.slice (some ⟨g, o, none⟩) dLen dCap, .slice (some a) sLen sCap]).run P w =
      .ok (goInt (Nat.min sLen dLen : Nat)) (w.setRow g (cur.toList.take o ++ cs ++ cur.toList.drop (o + cs.length)).toArray) := by
  have hl := run_loadCells_list (P := P) w a cs hsrc
  have hst := run_storeCells_at P g o t cs 0 cur w hg (by simpa using hfit) h1
  simp [Builtin.copy_, run_underlying hu, Builtin.lenOf, Builtin.firstCells, sizeOf, typeInfo, hi, ← hn, hl, hst]

/-- clear, of a part of a row -/
theorem run_clear_cells (w : World) (t ty elem : TypeId) (z : Value) (i : TypeInfo) (g o n cap : Nat) (cur : Array Value) (e : TypeId) (ht : P.underlying t = some (.slice elem)) (hi : P.info? elem = some i) (hz : i.zero = some z)
    (hg : w.heap[g]? = some (.cells cur e (0, 0))) (hfit : o + n * z.cells.size ≤ cur.size) (h1 : ∀ v ∈ (Builtin.zeroCells z.cells n).toList, v.oneCell' = true) (hn : 0 < n) :
    (Builtin.clear_ #[t] ty #[.slice (some ⟨g, o, none⟩) n cap]).run P w =
      .ok (.tuple #[]) (w.setRow g (cur.toList.take o ++ (Builtin.zeroCells z.cells n).toList ++ cur.toList.drop (o + (Builtin.zeroCells z.cells n).toList.length)).toArray) := by
  have hst := run_storeCells_at P g o e (Builtin.zeroCells z.cells n).toList 0 cur w hg (by simpa [size_zeroCells] using hfit) h1
  obtain ⟨n, rfl⟩ : ∃ k, n = k + 1 := ⟨n - 1, by omega⟩
  simp [Builtin.clear_, run_underlying ht, zeroValue, typeInfo, hi, hz, hst]

theorem wpList_append_run {w : World} {ops : Array Oper} {rest : List Oper} {o : Oper} {a : Act} {Q : Exit → Act → World → Prop} (hgd : o.guard = none) (s x : Operand) (t tx : TypeId)
    (ho : o.op = .call { callee := .builtin .append, args := #[s, x], argTypes := #[t, tx] }) (vs vx v : Value) (w' : World) (hs : a.eval s = vs) (hx : a.eval x = vx)
    (hrun : (Builtin.append_ #[t, tx] o.type #[vs, vx]).run P w = .ok v w') (h : wpList P ops Q rest (a.put o.dst v) w') : wpList P ops Q (o :: rest) a w := by
  refine wpList_plain hgd fun K hK => ?_
  unfold Oper.wp
  simp [execOp, ho, resolve, invoke, builtin, hs, hx, hrun, Result.andThen]
  exact hK _ _ h

theorem wpList_copy_run {w : World} {ops : Array Oper} {rest : List Oper} {o : Oper} {a : Act} {Q : Exit → Act → World → Prop} (hgd : o.guard = none) (s x : Operand) (t tx : TypeId)
    (ho : o.op = .call { callee := .builtin .copy, args := #[s, x], argTypes := #[t, tx] }) (vs vx v : Value) (w' : World) (hs : a.eval s = vs) (hx : a.eval x = vx)
    (hrun : (Builtin.copy_ #[t, tx] o.type #[vs, vx]).run P w = .ok v w') (h : wpList P ops Q rest (a.put o.dst v) w') : wpList P ops Q (o :: rest) a w := by
  refine wpList_plain hgd fun K hK => ?_
  unfold Oper.wp
  simp [execOp, ho, resolve, invoke, builtin, hs, hx, hrun, Result.andThen]
  exact hK _ _ h

theorem wpList_clear_run {w : World} {ops : Array Oper} {rest : List Oper} {o : Oper} {a : Act} {Q : Exit → Act → World → Prop} (hgd : o.guard = none) (s : Operand) (t : TypeId)
    (ho : o.op = .call { callee := .builtin .clear, args := #[s], argTypes := #[t] }) (vs v : Value) (w' : World) (hs : a.eval s = vs)
    (hrun : (Builtin.clear_ #[t] o.type #[vs]).run P w = .ok v w') (h : wpList P ops Q rest (a.put o.dst v) w') : wpList P ops Q (o :: rest) a w := by
  refine wpList_plain hgd fun K hK => ?_
  unfold Oper.wp
  simp [execOp, ho, resolve, invoke, builtin, hs, hrun, Result.andThen]
  exact hK _ _ h

theorem step_append_run {w : World} {ops : Array Oper} {o : Oper} {a : Act} {K : Act → World → Prop} {Q : Exit → Act → World → Prop} {E : Prop} (hgd : o.guard = none) (s x : Operand) (t tx : TypeId)
    (ho : o.op = .call { callee := .builtin .append, args := #[s, x], argTypes := #[t, tx] }) (vs vx v : Value) (w' : World) (hs : a.eval s = vs) (hx : a.eval x = vx)
    (hrun : (Builtin.append_ #[t, tx] o.type #[vs, vx]).run P w = .ok v w') (h : K (a.put o.dst v) w') : if Region.wanted o (yielded ops a.tmps) = true then Oper.wp P o a w K Q else E := by
  have hw : Region.wanted o (yielded ops a.tmps) = true := by simp [Region.wanted, hgd]
  rw [if_pos hw]
  unfold Oper.wp
  simp [execOp, ho, resolve, invoke, builtin, hs, hx, hrun, Result.andThen]
  exact h

theorem step_copy_run {w : World} {ops : Array Oper} {o : Oper} {a : Act} {K : Act → World → Prop} {Q : Exit → Act → World → Prop} {E : Prop} (hgd : o.guard = none) (s x : Operand) (t tx : TypeId)
    (ho : o.op = .call { callee := .builtin .copy, args := #[s, x], argTypes := #[t, tx] }) (vs vx v : Value) (w' : World) (hs : a.eval s = vs) (hx : a.eval x = vx)
    (hrun : (Builtin.copy_ #[t, tx] o.type #[vs, vx]).run P w = .ok v w') (h : K (a.put o.dst v) w') : if Region.wanted o (yielded ops a.tmps) = true then Oper.wp P o a w K Q else E := by
  have hw : Region.wanted o (yielded ops a.tmps) = true := by simp [Region.wanted, hgd]
  rw [if_pos hw]
  unfold Oper.wp
  simp [execOp, ho, resolve, invoke, builtin, hs, hx, hrun, Result.andThen]
  exact h
end
end Go.Proofs.Ytcedliaeipabnaa

namespace Go.Proofs.Ytcedliaeipabnaa
set_option maxRecDepth 100000
open Go.RowKit

theorem dotInfo : (Try.prog.info? 31).map (fun i => (i.zero, i.size, i.bytes)) = some (some (.agg #[.int .i64 0, .int .i64 0]), 2, 16) := by kernel_rfl

def rowD (l : List Dt) : List Value := l.flatMap dcs
theorem rowD_len (l : List Dt) : (rowD l).length = l.length * 2 := by
  induction l with
  | nil => rfl
  | cons d r ih => simp only [rowD, List.flatMap_cons, List.length_append, List.length_cons] at ih ⊢; rw [ih]; simp [dcs]; omega
theorem rowD_append (a b : List Dt) : rowD (a ++ b) = rowD a ++ rowD b := by simp [rowD]
theorem rowD_one (d : Dt) : rowD [d] = dcs d := by simp [rowD]
theorem rowD_at : ∀ (l : List Dt) (j : Nat) (d : Dt), l[j]? = some d → (rowD l)[j * 2]? = some (.int .i64 d.1) ∧ (rowD l)[j * 2 + 1]? = some (.int .i64 d.2) := by
  intro l
  induction l with
  | nil => intro j d h; simp at h
  | cons x r ih =>
    intro j d h
    cases j with
    | zero => simp at h; subst h; exact ⟨rfl, rfl⟩
    | succ j =>
      obtain ⟨h1, h2⟩ := ih j d (by simpa using h)
      have e : rowD (x :: r) = .int .i64 x.1 :: .int .i64 x.2 :: rowD r := rfl
      rw [e, show (j + 1) * 2 = j * 2 + 1 + 1 from by omega]
      exact ⟨by simpa using h1, by simpa using h2⟩
theorem rowD_cell (l : List Dt) : ∀ u ∈ rowD l, u.oneCell' = true := by
  intro u hu
  simp only [rowD, List.mem_flatMap] at hu
  obtain ⟨d, _, hd⟩ := hu
  simp [dcs] at hd
  rcases hd with rfl | rfl <;> rfl

/-- The slice v is the call's own, and holds the names l. -/
def OwnD (B : Nat) (v : Value) (l : List Dt) (w : World) : Prop := w.ownsRow B 31 2 v l.length (rowD l)
/-- At a stand the names l, to be read. -/
def DIn (w : World) (a : Option Addr) (l : List Dt) : Prop :=
  l = [] ∨ ∃ b off, a = some ⟨b, off, none⟩ ∧ b < w.heap.size ∧ ∀ j d, l[j]? = some d → w.cell? ⟨b, off + j * 2, none⟩ = some (.int .i64 d.1) ∧ w.cell? ⟨b, off + j * 2 + 1, none⟩ = some (.int .i64 d.2)

theorem DIn.below {w w' : World} {a : Option Addr} {l : List Dt} (h : DIn w a l) (hb : Below w.heap.size w w') : DIn w' a l := by
  rcases h with h | ⟨b, off, rfl, hlt, hc⟩
  · exact .inl h
  · refine .inr ⟨b, off, rfl, Nat.lt_of_lt_of_le hlt hb.size, fun j d hj => ?_⟩
    obtain ⟨h0, h1⟩ := hc j d hj
    exact ⟨by rw [hb.cell (p := ⟨b, off + j * 2, none⟩) hlt]; exact h0, by rw [hb.cell (p := ⟨b, off + j * 2 + 1, none⟩) hlt]; exact h1⟩
theorem DIn.alloc {w : World} {a : Option Addr} {l : List Dt} (h : DIn w a l) (o : Obj) : DIn (w.alloc o) a l := h.below ((Below.refl _ _).alloc (Nat.le_refl _) o)
/-- one of them, at its place -/
theorem DIn.at {w : World} {a : Option Addr} {l : List Dt} (h : DIn w a l) {j : Nat} {d : Dt} (hj : l[j]? = some d) :
    ∃ b off, a = some ⟨b, off, none⟩ ∧ b < w.heap.size ∧ w.cell? ⟨b, off + j * 2, none⟩ = some (.int .i64 d.1) ∧ w.cell? ⟨b, off + j * 2 + 1, none⟩ = some (.int .i64 d.2) := by
  rcases h with rfl | ⟨b, off, rfl, hlt, hc⟩
  · simp at hj
  · exact ⟨b, off, rfl, hlt, hc j d hj⟩

theorem ownD_nil (B : Nat) (w : World) : OwnD B (.slice none 0 0) [] w := World.ownsRow_nil _ _ _ _
theorem OwnD.din {B : Nat} {v : Value} {l : List Dt} {w : World} (h : OwnD B v l w) : ∃ a cap, v = .slice a l.length cap ∧ DIn w a l ∧ l.length ≤ maxLen := by
  obtain ⟨hl, hv⟩ := h
  rcases hv with ⟨rfl, h0⟩ | ⟨g, cap, cur, rfl, hB, hg, hn, hm, hs, htk⟩
  · exact ⟨none, 0, by rw [h0], .inl (List.length_eq_zero_iff.1 h0), by rw [h0]; simp [maxLen]⟩
  · refine ⟨_, cap, rfl, .inr ⟨g, 0, rfl, lt_of_block hg, fun j d hj => ?_⟩, by omega⟩
    obtain ⟨h1, h2⟩ := rowD_at l j d hj
    have hjl : j < l.length := (List.getElem?_eq_some_iff.1 hj).1
    have c1 := Lib.cells_of_row hg (l.length * 2) (j * 2) _ (by rw [htk]; exact h1)
    have c2 := Lib.cells_of_row hg (l.length * 2) (j * 2 + 1) _ (by rw [htk]; exact h2)
    have e1 : ∀ k, (⟨g, 0, none⟩ : Addr).add k = ⟨g, 0 + k, none⟩ := fun k => by cases k <;> simp [Addr.add]
    rw [e1] at c1 c2
    exact ⟨c1, by rw [← Nat.add_assoc] at c2; exact c2⟩
theorem OwnD.below {B C : Nat} {v : Value} {l : List Dt} {w w' : World} (h : OwnD B v l w) (hb : Below C w w') (hC : w.heap.size ≤ C) : OwnD B v l w' := by
  unfold OwnD at *
  refine ⟨h.1, ?_⟩
  rcases h.2 with hn | ⟨g, cap, cur, hv, hB, hg, rest⟩
  · exact .inl hn
  · exact .inr ⟨g, cap, cur, hv, hB, by rw [hb.block g (Nat.lt_of_lt_of_le (lt_of_block hg) hC)]; exact hg, rest⟩
theorem OwnD.mono {B C : Nat} {v : Value} {l : List Dt} {w : World} (h : OwnD B v l w) (hC : C ≤ B) : OwnD C v l w := by
  unfold OwnD at *
  refine ⟨h.1, ?_⟩
  rcases h.2 with hn | ⟨g, cap, cur, hv, hB, rest⟩
  · exact .inl hn
  · exact .inr ⟨g, cap, cur, hv, by omega, rest⟩
theorem OwnD.alloc {B : Nat} {v : Value} {l : List Dt} {w : World} (h : OwnD B v l w) (o : Obj) : OwnD B v l (w.alloc o) := World.ownsRow.alloc h o

/-! names compared -/
theorem eqD_in (d : Nat) (a b : Dt) (W : World) : (Op.equalIn (d + 2) 31 (.agg #[.int .i64 a.1, .int .i64 a.2]) (.agg #[.int .i64 b.1, .int .i64 b.2])).run Try.prog W = .ok (decide (a = b)) W := by
  rw [run_equalIn_agg (P := Try.prog) W (d + 1) _ _ _ (by kernel_rfl) (by kernel_rfl)]
  have hf : (Try.prog.fieldsOf 31).toList.map (fun f => (f.name != "_", f.type, f.offset)) = [(true, 3, 0), (true, 3, 1)] := by kernel_rfl
  generalize (Try.prog.fieldsOf 31).toList = fs at hf
  have hfl : fs.length = 2 := by have := congrArg List.length hf; simpa using this
  match fs, hfl with
  | [f0, f1], _ =>
    simp only [List.map_cons, List.map_nil, List.cons.injEq, Prod.mk.injEq, and_true] at hf
    obtain ⟨⟨n0, t0, o0⟩, n1, t1, o1⟩ := hf
    have m0 : f0.name ≠ "_" := by simpa using n0
    have m1 : f1.name ≠ "_" := by simpa using n1
    have p0 : ∀ (x y : Value) (W : World), (part 3 #[x, y] 0).run Try.prog W = .ok x W := fun x y W => by rfl
    have p1 : ∀ (x y : Value) (W : World), (part 3 #[x, y] 1).run Try.prog W = .ok y W := fun x y W => by rfl
    have q : ∀ (x y : Int) (W : World), (Op.equalIn (d + 1) 3 (.int .i64 x) (.int .i64 y)).run Try.prog W = .ok (x == y) W := fun x y W => run_equalIn_int (P := Try.prog) W d 3 .i64 .i64 _ _ Try.underlying3
    simp only [Op.eqFields, m0, m1, ne_eq, not_false_eq_true, if_true, t0, t1, o0, o1, Sem.run_bind, p0, q, Result.andThen_ok]
    by_cases h1 : a.1 = b.1
    · by_cases h2 : a.2 = b.2
      · have e : a = b := Prod.ext h1 h2
        simp [e, p1, q]
      · have e : a ≠ b := fun e => h2 (by rw [e])
        simp [h1, h2, e, p1, q]
    · have e : a ≠ b := fun e => h1 (by rw [e])
      simp [h1, e]
theorem eqD (a b : Dt) (W : World) : (Op.equalIn 10000 31 (.agg #[.int .i64 a.1, .int .i64 a.2]) (.agg #[.int .i64 b.1, .int .i64 b.2])).run Try.prog W = .ok (decide (a = b)) W := eqD_in 9998 a b W
theorem eqlD (a b : Dt) (W : World) : (binOp .eql 31 (.agg #[.int .i64 a.1, .int .i64 a.2]) (.agg #[.int .i64 b.1, .int .i64 b.2])).run Try.prog W = .ok (.bool (decide (a = b))) W := by
  rw [run_eql_struct, eqD]; rfl
theorem neqD (a b : Dt) (W : World) : (binOp .neq 31 (.agg #[.int .i64 a.1, .int .i64 a.2]) (.agg #[.int .i64 b.1, .int .i64 b.2])).run Try.prog W = .ok (.bool (!decide (a = b))) W := by
  rw [run_neq_struct, eqD]; rfl
end Go.Proofs.Ytcedliaeipabnaa

namespace Go.Proofs.Ytcedliaeipabnaa
set_option linter.unusedSimpArgs false
set_option linter.unusedVariables false
set_option maxRecDepth 100000
open Go.RowKit Go.Sort

def ccs (v : Vc) (s : Value) : Array Value := (ics v).push s
theorem ccs_size (v : Vc) (s : Value) : (ccs v s).size = v.length + 1 := by simp [ccs, ics_size]
theorem ccs_get (v : Vc) (s : Value) (j : Nat) (h : j < v.length) : (ccs v s)[j]? = some (.int .i64 (v.getD j 0)) := by
  unfold ccs
  rw [Array.getElem?_push, ics_size, if_neg (by omega)]
  exact ics_get v j h
theorem ccs_last (v : Vc) (s : Value) (h : v.length = 16) : (ccs v s)[16]? = some s := by
  unfold ccs
  rw [Array.getElem?_push, ics_size, if_pos h.symm]
theorem ccs_set (v : Vc) (s : Value) (j : Nat) (x : Int) (h : j < v.length) : (ccs v s).setIfInBounds j (.int .i64 x) = ccs (v.set j x) s := by
  unfold ccs ics
  apply Array.ext'
  simp [List.map_set, List.set_append, h]
theorem ccs_put (v : Vc) (s t : Value) (h : v.length = 16) : (ccs v s).setIfInBounds 16 t = ccs v t := by
  unfold ccs ics
  apply Array.ext'
  simp [List.set_append, h]
theorem ccs_one (v : Vc) (a : Option Addr) (n c : Nat) : (ccs v (.slice a n c)).all (·.oneCell') = true := by
  unfold ccs
  rw [Array.all_push, ics_one]
  rfl
theorem ctxArr : (Try.prog.info? 26).map (·.size) = some 17 := by kernel_rfl
theorem infoC {v : Vc} (s : Value) (h : v.length = 16) : (Try.prog.info? 26).map (·.size) = some (ccs v s).size := by rw [ccs_size, h]; exact ctxArr

/-- a block of a context -/
def CRow (w : World) (b : Nat) (v : Vc) (s : Value) : Prop := w.heap[b]? = some (.cells (ccs v s) 26 (0, 0))
theorem CRow.cell {w : World} {b : Nat} {v : Vc} {s : Value} (h : CRow w b v s) (j : Nat) (hj : j < v.length) : w.cell? ⟨b, j, none⟩ = some (.int .i64 (v.getD j 0)) := by
  rw [Joins.cell_of_block h, ccs_get v s j hj]
theorem CRow.cloud {w : World} {b : Nat} {v : Vc} {s : Value} (h : CRow w b v s) (hv : v.length = 16) : w.cell? ⟨b, 16, none⟩ = some s := by
  rw [Joins.cell_of_block h, ccs_last v s hv]
theorem CRow.free {w : World} {b : Nat} {v : Vc} {s : Value} (h : CRow w b v s) (j : Nat) : w.frozen? ⟨b, j, none⟩ = false := Joins.unfrozen_of_block h j
theorem CRow.lt {w : World} {b : Nat} {v : Vc} {s : Value} (h : CRow w b v s) : b < w.heap.size := (Array.getElem?_eq_some_iff.1 h).1
theorem CRow.set {w : World} {b : Nat} {v : Vc} {s : Value} (h : CRow w b v s) (j : Nat) (x : Int) (hj : j < v.length) : CRow (w.setCell ⟨b, j, none⟩ (.int .i64 x)) b (v.set j x) s := by
  have := Joins.block_setCell (i := j) h (.int .i64 x)
  rw [ccs_set v s j x hj] at this
  exact this
theorem CRow.setS {w : World} {b : Nat} {v : Vc} {s : Value} (h : CRow w b v s) (t : Value) (hv : v.length = 16) : CRow (w.setCell ⟨b, 16, none⟩ t) b v t := by
  have := Joins.block_setCell (i := 16) h t
  rw [ccs_put v s t hv] at this
  exact this
theorem CRow.other {w : World} {b c : Nat} {v : Vc} {s : Value} (h : CRow w b v s) (hc : b ≠ c) (j : Nat) (x : Value) : CRow (w.setCell ⟨c, j, none⟩ x) b v s := by
  unfold CRow; rw [Below.heap_setCell _ _ _ _ hc]; exact h
theorem CRow.drew {w : World} {b : Nat} {v : Vc} {s : Value} (h : CRow w b v s) : CRow w.drew b v s := h
theorem CRow.below {w w' : World} {b B : Nat} {v : Vc} {s : Value} (h : CRow w b v s) (hb : Go.RowKit.Below B w w') (hB : b < B) : CRow w' b v s := by
  unfold CRow; rw [hb.block b hB]; exact h
theorem CRow.keep {w w' : World} {b : Nat} {v : Vc} {s : Value} (h : CRow w b v s) (hb : Go.RowKit.Below w.heap.size w w') : CRow w' b v s := h.below hb h.lt
theorem CRow.alloc {w : World} {b : Nat} {v : Vc} {s : Value} (h : CRow w b v s) (o : Obj) : CRow (w.alloc o) b v s := by
  unfold CRow; rw [Below.heap_alloc _ _ _ h.lt]; exact h
theorem CRow.of_set {w : World} {b c : Nat} {v : Vc} {s : Value} (h : CRow w b v s) (hc : b ≠ c) (C : Array Value) : CRow (w.setRow c C) b v s := by
  unfold CRow; rw [setRow_other _ _ _ _ hc]; exact h
theorem CRow.of_put {w : World} {b : Nat} {old : Array Value} (h : w.heap[b]? = some (.cells old 26 (0, 0))) (v : Vc) (s : Value) : CRow (w.setRow b (ccs v s)) b v s := setRow_heap _ _ _ _ _ _ h
theorem CRow.new (w : World) (v : Vc) (s : Value) : CRow (w.alloc (.cells (ccs v s) 26)) w.heap.size v s := heap_alloc_new w _
theorem CRow.grown {w w' : World} {b : Nat} {row : Option Nat} {v : Vc} {s : Value} (h : CRow w b v s) (hg : w.grownBy w' row) (hne : row ≠ some b) : CRow w' b v s := by
  unfold CRow; rw [hg.block b h.lt (fun j => hne j.symm)]; exact h

def boxC (w : World) (v : Vc) (s : Value) : World := w.alloc (.cells (ccs v s) 26)
theorem boxC_below (w : World) (v : Vc) (s : Value) : Go.RowKit.Below w.heap.size w (boxC w v s) := (Below.refl _ _).alloc (Nat.le_refl _) _
theorem boxC_size (w : World) (v : Vc) (s : Value) : (boxC w v s).heap.size = w.heap.size + 1 := by simp [boxC]

/-- a whole row stored, loaded; its vector loaded -/
theorem cl_store {ops : Array Oper} {rest : List Oper} {o : Oper} {a : Act} {w : World} {Q : Exit → Act → World → Prop} (hgd : o.guard = none) (x y : Operand) (ho : o.op = .store 26 x y) (g : Nat) (v : Vc) (p : Option Addr) (n c : Nat)
    (hx : a.eval x = .pointer (some ⟨g, 0, none⟩)) (hy : a.eval y = .agg (ccs v (.slice p n c))) (hg : ∃ (old : Vc) (so : Value), CRow w g old so ∧ old.length = 16) (hl : v.length = 16)
    (h : wpList Try.prog ops Q rest (a.put o.dst undef) (w.setRow g (ccs v (.slice p n c)))) : wpList Try.prog ops Q (o :: rest) a w := by
  obtain ⟨old, so, hg, ho2⟩ := hg
  exact wpList_store_row hgd 26 x y ho g (ccs v (.slice p n c)) hx hy 26 (ccs old so) hg (infoC _ hl) (by rw [ccs_size, ccs_size, hl, ho2]) (ccs_one _ _ _ _) h
theorem cl_load {ops : Array Oper} {rest : List Oper} {o : Oper} {a : Act} {w : World} {Q : Exit → Act → World → Prop} (hw : Region.wanted o (yielded ops a.tmps) = true) (x : Operand) (ho : o.op = .load 26 x) (g : Nat) (v : Vc) (s : Value)
    (hx : a.eval x = .pointer (some ⟨g, 0, none⟩)) (hg : CRow w g v s) (hl : v.length = 16)
    (h : wpList Try.prog ops Q rest (a.put o.dst (.agg (ccs v s))) w) : wpList Try.prog ops Q (o :: rest) a w := by
  unfold wpList
  rw [if_pos hw]
  exact .inl (wp_load_row 26 x ho g hx 26 (ccs v s) (0, 0) _ hg Try.underlying26 rfl (infoC s hl) h)
theorem CRow.range {w : World} {b : Nat} {v : Vc} {s : Value} (h : CRow w b v s) : w.rangeAt b 0 (v.map (Value.int .i64)) := fun j u hu => by
  have hj : j < v.length := by have := (List.getElem?_eq_some_iff.1 hu).1; simpa using this
  rw [Nat.zero_add, h.cell j hj]
  rw [List.getElem?_map, List.getElem?_eq_getElem hj] at hu
  rw [List.getD_eq_getElem?_getD, List.getElem?_eq_getElem hj]
  exact hu
theorem ics_list (v : Vc) : (v.map (Value.int .i64)).toArray = ics v := rfl
theorem infoVm {v : Vc} (h : v.length = 16) : (Try.prog.info? 23).map (·.size) = some (v.map (Value.int .i64)).length := by rw [List.length_map, h]; exact vecArr
theorem cl_loadV {ops : Array Oper} {rest : List Oper} {o : Oper} {a : Act} {w : World} {Q : Exit → Act → World → Prop} (hw : Region.wanted o (yielded ops a.tmps) = true) (x : Operand) (ho : o.op = .load 23 x) (g : Nat) (v : Vc) (s : Value)
    (hx : a.eval x = .pointer (some ⟨g, 0, none⟩)) (hg : CRow w g v s) (hl : v.length = 16)
    (h : wpList Try.prog ops Q rest (a.put o.dst (.agg (ics v))) w) : wpList Try.prog ops Q (o :: rest) a w := by
  unfold wpList
  rw [if_pos hw]
  exact .inl (wp_load_mid 23 x ho g 0 hx (v.map (Value.int .i64)) _ hg.range Try.underlying23 rfl (infoVm hl) h)

/-- in a region that draws: in any world -/
theorem CRow.loadAt {w : World} {b : Nat} {v : Vc} {s : Value} (h : CRow w b v s) (hl : v.length = 16) : (Instr.loadAt 26 (.pointer (some ⟨b, 0, none⟩))).run Try.prog w = .ok (.agg (ccs v s)) w := by
  simp only [Instr.loadAt, Instr.sureAddr, Sem.run_bind, Sem.run_pure, Result.andThen_ok, run_loadVar_row w b 26 26 (ccs v s) (0, 0) _ h Try.underlying26 rfl (infoC s hl)]
theorem CRow.loadV {w : World} {b : Nat} {v : Vc} {s : Value} (h : CRow w b v s) (hl : v.length = 16) : (Instr.loadAt 23 (.pointer (some ⟨b, 0, none⟩))).run Try.prog w = .ok (.agg (ics v)) w :=
  run_loadAt_mid w b 0 23 (v.map (Value.int .i64)) _ h.range Try.underlying23 rfl (infoVm hl)
theorem cq_load {ops : Array Oper} {C : World → Prop} {Q : Act → Prop} {rest : List Oper} {o : Oper} {a : Act} (hw : Region.wanted o (yielded ops a.tmps) = true) (x : Operand) (ho : o.op = .load 26 x) (g : Nat) (v : Vc) (s : Value)
    (hx : a.eval x = .pointer (some ⟨g, 0, none⟩)) (hg : ∀ w, C w → CRow w g v s) (hl : v.length = 16)
    (h : wpQuiet Try.prog ops C Q rest (a.put o.dst (.agg (ccs v s)))) : wpQuiet Try.prog ops C Q (o :: rest) a := by
  refine wpQuiet_step fun K hK => ?_
  rw [if_pos hw]
  refine ⟨_, fun w hC => ?_, hK _ h⟩
  unfold Oper.quietAt execOp
  simp only [ho, hx, Sem.run_bind, Sem.run_pure, Result.andThen_ok, (hg w hC).loadAt hl]
  exact ⟨rfl, rfl⟩
theorem cq_loadV {ops : Array Oper} {C : World → Prop} {Q : Act → Prop} {rest : List Oper} {o : Oper} {a : Act} (hw : Region.wanted o (yielded ops a.tmps) = true) (x : Operand) (ho : o.op = .load 23 x) (g : Nat) (v : Vc) (s : Value)
    (hx : a.eval x = .pointer (some ⟨g, 0, none⟩)) (hg : ∀ w, C w → CRow w g v s) (hl : v.length = 16)
    (h : wpQuiet Try.prog ops C Q rest (a.put o.dst (.agg (ics v)))) : wpQuiet Try.prog ops C Q (o :: rest) a := by
  refine wpQuiet_step fun K hK => ?_
  rw [if_pos hw]
  refine ⟨_, fun w hC => ?_, hK _ h⟩
  unfold Oper.quietAt execOp
  simp only [ho, hx, Sem.run_bind, Sem.run_pure, Result.andThen_ok, (hg w hC).loadV hl]
  exact ⟨rfl, rfl⟩
theorem CRow.regrown {W : World} {b : Nat} {v : Vc} {s : Value} (h : CRow W b v s) : ∀ w, (∃ p : Regrown, w = grow (redrawn W p.d) p.os) → CRow w b v s := by
  rintro w ⟨p, rfl⟩
  exact h.keep (below_regrown W p.d p.os)

/-- sixteen numbers written out -/
theorem list16 {v : Vc} (h : v.length = 16) : ∃ a b c d e f g h i j k l m n o p : Int, v = [a, b, c, d, e, f, g, h, i, j, k, l, m, n, o, p] := by
  match v, h with
  | [a, b, c, d, e, f, g, h, i, j, k, l, m, n, o, p], _ => exact ⟨a, b, c, d, e, f, g, h, i, j, k, l, m, n, o, p, rfl⟩
set_option maxRecDepth 100000 in
theorem builtC {v : Vc} (h : v.length = 16) (p : Option Addr) (n c : Nat) : Try.prog.built 26 [(0, .agg (ics v)), (1, .slice p n c)] = some (ccs v (.slice p n c)) := by
  obtain ⟨x0, x1, x2, x3, x4, x5, x6, x7, x8, x9, x10, x11, x12, x13, x14, x15, rfl⟩ := list16 h
  kernel_rfl
theorem buildC {v : Vc} (h : v.length = 16) (p : Option Addr) (n c : Nat) (W : World) : (Instr.build 26 #[(0, .agg (ics v)), (1, .slice p n c)]).run Try.prog W = .ok (.agg (ccs v (.slice p n c))) W :=
  run_build W 26 _ _ (builtC h p n c)
theorem buildZ (W : World) : (Instr.build 26 #[]).run Try.prog W = .ok (.agg (ccs zV (.slice none 0 0))) W := run_build W 26 #[] _ (by kernel_rfl)
theorem cl_build {ops : Array Oper} {rest : List Oper} {o : Oper} {a : Act} {w : World} {Q : Exit → Act → World → Prop} (hw : Region.wanted o (yielded ops a.tmps) = true) (x y : Operand) (ho : o.op = .build 26 #[(0, x), (1, y)]) (v : Vc) (p : Option Addr) (n c : Nat)
    (hx : a.eval x = .agg (ics v)) (hy : a.eval y = .slice p n c) (hl : v.length = 16)
    (h : wpList Try.prog ops Q rest (a.put o.dst (.agg (ccs v (.slice p n c)))) w) : wpList Try.prog ops Q (o :: rest) a w :=
  vl_build hw 26 _ ho (ccs v (.slice p n c)) (by simp [hx, hy, builtC hl]) h

/-- a context with its cloud, to be read -/
structure CIn (w : World) (c : Cx) (p : Option Addr) : Prop where
  v16 : c.v.length = 16
  din : DIn w p c.l
  len : c.l.length ≤ 32768
theorem CIn.below {w w' : World} {c : Cx} {p : Option Addr} (h : CIn w c p) (hb : Go.RowKit.Below w.heap.size w w') : CIn w' c p := ⟨h.v16, h.din.below hb, h.len⟩
theorem CIn.alloc {w : World} {c : Cx} {p : Option Addr} (h : CIn w c p) (o : Obj) : CIn (w.alloc o) c p := ⟨h.v16, h.din.alloc o, h.len⟩
/-- by value -/
def cv (c : Cx) (p : Option Addr) (k : Nat) : Value := .agg (ccs c.v (.slice p c.l.length k))
theorem retC {fn : Func} {p : Tmp} (h : fn.results = #[.cell p 26]) (tmps : Array Value) (w : World) (g : Nat) (v : Vc) (s : Value)
    (hp : tmps.getD p undef = .pointer (some ⟨g, 0, none⟩)) (hg : CRow w g v s) (hl : v.length = 16) :
    (results fn tmps).run Try.prog w = .ok (.agg (ccs v s)) w :=
  results_cell_row h tmps w g 26 (ccs v s) (0, 0) _ hp hg Try.underlying26 rfl (infoC s hl)
theorem retCx {fn : Func} {p u : Tmp} (h : fn.results = #[.cell p 26, .tmp u]) (tmps : Array Value) (w : World) (g : Nat) (v : Vc) (s x : Value)
    (hp : tmps.getD p undef = .pointer (some ⟨g, 0, none⟩)) (hx : tmps.getD u undef = x) (hg : CRow w g v s) (hl : v.length = 16) :
    (results fn tmps).run Try.prog w = .ok (.tuple #[.agg (ccs v s), x]) w := by
  rw [results_cell_tmp h, hp, hx]
  simp [asAddr, run_loadVar_row w g 26 26 (ccs v s) (0, 0) _ hg Try.underlying26 rfl (infoC s hl)]
end Go.Proofs.Ytcedliaeipabnaa
