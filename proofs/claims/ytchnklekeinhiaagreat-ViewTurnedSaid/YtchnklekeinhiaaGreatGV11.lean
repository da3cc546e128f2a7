/-
  A stamp by value: Check, of the program and of the document; the document's Less; stamps compared, two of them by '=='.
  A fact by value; rows of facts: how they lie, are read, and are appended to; facts compared.
  What a call leaves that only draws and makes memory: so many draws, these blocks.
-/
import Derived.Test.YtchnklekeinhiaaGreatGV02
import Derived.Laws.StructEq
import Derived.Test.YtchnklekeinhiaaGreatGV10
import Derived.Test.YtchnklekeinhiaaGreatGV04
import Derived.Deep.MidRow
import Derived.Deep.WholeRow
import Derived.Lib.QuietBelow
import Derived.Test.YtchnklekeinhiaaGreatGV01
namespace Go.Proofs.YtchnklekeinhiaaGreat
open Go.RowKit
set_option maxRecDepth 100000

def scs (d : St) : List Value := [.int .i64 d.t, .int .i64 d.c, .int .i64 d.r]
def boxS (w : World) (d : St) : World := w.alloc (.cells #[.int .i64 d.t, .int .i64 d.c, .int .i64 d.r] 46)
theorem boxS_below (w : World) (d : St) : Below w.heap.size w (boxS w d) := (Below.refl _ _).alloc (Nat.le_refl _) _
theorem boxS_size (w : World) (d : St) : (boxS w d).heap.size = w.heap.size + 1 := by simp [boxS]
theorem boxS2_below (w : World) (a b : St) : Below w.heap.size w (boxS (boxS w a) b) := (boxS_below w a).trans ((boxS_below _ b).mono (by rw [boxS_size]; omega))

set_option maxHeartbeats 1000000 in
theorem tlessR (a b : St) (w : World) : Calls Tryz.prog 162 #[.agg #[.int .i64 a.t, .int .i64 a.c, .int .i64 a.r], .agg #[.int .i64 b.t, .int .i64 b.c, .int .i64 b.r]] w fun e w' => e = .returned (.bool (ltS a b)) ∧ boxS (boxS w a) b = w' := by
  obtain ⟨at', ac, ar⟩ := a
  obtain ⟨bt, bc, br⟩ := b
  have hl : ltS ⟨at', ac, ar⟩ ⟨bt, bc, br⟩ = if at' ≠ bt then decide (at' < bt) else if ac ≠ bc then decide (ac < bc) else decide (ar < br) := rfl
  unfold boxS
  simp only at *
  by_cases h : at' = bt
  · rw [if_neg (by omega)] at hl
    have g : (at' != bt) = false := by simp [h]
    by_cases k : ac = bc
    · rw [if_neg (by omega)] at hl
      have g1 : (ac != bc) = false := by simp [k]
      rw [hl]
      clear hl h k
      go_enter Tryz.func162, Tryz.ntmps162
      go_wp2
      go_ret
      exact ⟨rfl, rfl⟩
    · rw [if_pos k] at hl
      have g1 : (ac != bc) = true := by simp [k]
      rw [hl]
      clear hl h k
      go_enter Tryz.func162, Tryz.ntmps162
      go_wp2
      go_ret
      exact ⟨rfl, rfl⟩
  · rw [if_pos h] at hl
    have g : (at' != bt) = true := by simp [h]
    rw [hl]
    clear hl h
    go_enter Tryz.func162, Tryz.ntmps162
    go_wp2
    go_ret
    exact ⟨rfl, rfl⟩

theorem eqS_in (d : Nat) (a b : St) (W : World) : (Op.equalIn (d + 2) 46 (.agg #[.int .i64 a.t, .int .i64 a.c, .int .i64 a.r]) (.agg #[.int .i64 b.t, .int .i64 b.c, .int .i64 b.r])).run Tryz.prog W = .ok (decide (a = b)) W := by
  rw [run_equalIn_agg (P := Tryz.prog) W (d + 1) _ _ _ (by kernel_rfl) (by kernel_rfl)]
  have hf : (Tryz.prog.fieldsOf 46).toList.map (fun f => (f.name != "_", f.type, f.offset)) = [(true, 3, 0), (true, 3, 1), (true, 3, 2)] := by kernel_rfl
  generalize (Tryz.prog.fieldsOf 46).toList = fs at hf
  have hfl : fs.length = 3 := by have := congrArg List.length hf; simpa using this
  match fs, hfl with
  | [f0, f1, f2], _ =>
    simp only [List.map_cons, List.map_nil, List.cons.injEq, Prod.mk.injEq, and_true] at hf
    obtain ⟨⟨n0, t0, o0⟩, ⟨n1, t1, o1⟩, n2, t2, o2⟩ := hf
    have m0 : f0.name ≠ "_" := by simpa using n0
    have m1 : f1.name ≠ "_" := by simpa using n1
    have m2 : f2.name ≠ "_" := by simpa using n2
    have p0 : ∀ (x y z : Value) (W : World), (part 3 #[x, y, z] 0).run Tryz.prog W = .ok x W := fun x y z W => by rfl
    have p1 : ∀ (x y z : Value) (W : World), (part 3 #[x, y, z] 1).run Tryz.prog W = .ok y W := fun x y z W => by rfl
    have p2 : ∀ (x y z : Value) (W : World), (part 3 #[x, y, z] 2).run Tryz.prog W = .ok z W := fun x y z W => by rfl
    have q : ∀ (x y : Int) (W : World), (Op.equalIn (d + 1) 3 (.int .i64 x) (.int .i64 y)).run Tryz.prog W = .ok (x == y) W := fun x y W => run_equalIn_int (P := Tryz.prog) W d 3 .i64 .i64 _ _ Tryz.underlying3
    simp only [Op.eqFields, m0, m1, m2, ne_eq, not_false_eq_true, if_true, t0, t1, t2, o0, o1, o2, Sem.run_bind, p0, q, Result.andThen_ok]
    by_cases h1 : a.t = b.t
    · by_cases h2 : a.c = b.c
      · by_cases h3 : a.r = b.r
        · have e : a = b := by cases a; cases b; simp_all
          simp [e, p1, p2, q]
        · have e : a ≠ b := fun e => h3 (by rw [e])
          simp [h1, h2, h3, e, p1, p2, q]
      · have e : a ≠ b := fun e => h2 (by rw [e])
        simp [h1, h2, e, p1, q]
    · have e : a ≠ b := fun e => h1 (by rw [e])
      simp [h1, e]
theorem eqS (a b : St) (W : World) : (Op.equalIn 10000 46 (.agg #[.int .i64 a.t, .int .i64 a.c, .int .i64 a.r]) (.agg #[.int .i64 b.t, .int .i64 b.c, .int .i64 b.r])).run Tryz.prog W = .ok (decide (a = b)) W := eqS_in 9998 a b W
/-- a block of a stamp -/
def SRow (w : World) (b : Nat) (d : St) : Prop := w.heap[b]? = some (.cells #[.int .i64 d.t, .int .i64 d.c, .int .i64 d.r] 46 (0, 0))
theorem SRow.lt {w : World} {b : Nat} {d : St} (h : SRow w b d) : b < w.heap.size := (Array.getElem?_eq_some_iff.1 h).1
theorem SRow.alloc {w : World} {b : Nat} {d : St} (h : SRow w b d) (o : Obj) : SRow (w.alloc o) b d := by
  have hl := h.lt
  unfold SRow at *
  rw [Go.heap_alloc_old w o hl]; exact h
theorem SRow.new (w : World) (d : St) : SRow (boxS w d) w.heap.size d := heap_alloc_new w _
theorem SRow.keep {w w' : World} {b : Nat} {d : St} (h : SRow w b d) (hb : Below w.heap.size w w') : SRow w' b d := by
  unfold SRow; rw [hb.block b h.lt]; exact h
theorem SRow.cell {w : World} {b : Nat} {d : St} (h : SRow w b d) (j : Nat) (u : Value) (hu : (scs d)[j]? = some u) : w.cell? ⟨b, j, none⟩ = some u := by
  rw [Joins.cell_of_block h]; simpa [scs] using hu
theorem SRow.free {w : World} {b : Nat} {d : St} (h : SRow w b d) (j : Nat) : w.frozen? ⟨b, j, none⟩ = false := Joins.unfrozen_of_block h j

theorem stampInfo : (Tryz.prog.info? 46).map (·.size) = some 3 := by kernel_rfl
theorem SRow.drew {w : World} {b : Nat} {d : St} (h : SRow w b d) : SRow w.drew b d := h
end Go.Proofs.YtchnklekeinhiaaGreat

namespace Go.Proofs.YtchnklekeinhiaaGreat
set_option maxRecDepth 100000
open Go.RowKit Go.Sort

def fcs (f : Ft) : List Value := [.int .i64 f.d.1, .int .i64 f.d.2, .int .i64 f.s.t, .int .i64 f.s.c, .int .i64 f.s.r, .int .i64 f.k, .string f.n, .string f.v]
theorem fcs_len (f : Ft) : (fcs f).length = 8 := rfl
theorem fcs_cell (f : Ft) : ∀ u ∈ fcs f, u.oneCell' = true := by
  intro u hu
  simp only [fcs, List.mem_cons, List.not_mem_nil, or_false] at hu
  rcases hu with rfl | rfl | rfl | rfl | rfl | rfl | rfl | rfl <;> rfl
abbrev zeroF : Value := .agg #[.int .i64 0, .int .i64 0, .int .i64 0, .int .i64 0, .int .i64 0, .int .i64 0, .string ByteArray.empty, .string ByteArray.empty]
theorem factInfo : (Tryz.prog.info? 48).map (fun i => (i.zero, i.size, i.bytes)) = some (some zeroF, 8, 80) := by kernel_rfl
theorem factSize : (Tryz.prog.info? 48).map (·.size) = some 8 := by kernel_rfl

def rowF (l : List Ft) : List Value := l.flatMap fcs
theorem rowF_len (l : List Ft) : (rowF l).length = l.length * 8 := by
  induction l with
  | nil => rfl
  | cons d r ih => simp only [rowF, List.flatMap_cons, List.length_append, List.length_cons, fcs_len] at ih ⊢; rw [ih]; omega
theorem rowF_append (a b : List Ft) : rowF (a ++ b) = rowF a ++ rowF b := by simp [rowF]
theorem rowF_at : ∀ (l : List Ft) (j : Nat) (f : Ft), l[j]? = some f → ∀ i u, (fcs f)[i]? = some u → (rowF l)[j * 8 + i]? = some u := by
  intro l
  induction l with
  | nil => intro j f h; simp at h
  | cons x r ih =>
    intro j f h i u hu
    have hi : i < 8 := by have := (List.getElem?_eq_some_iff.1 hu).1; rwa [fcs_len] at this
    have e : rowF (x :: r) = fcs x ++ rowF r := rfl
    cases j with
    | zero => simp at h; subst h; rw [e, Nat.zero_mul, Nat.zero_add, List.getElem?_append_left (by rw [fcs_len]; exact hi)]; exact hu
    | succ j =>
      rw [e, List.getElem?_append_right (by rw [fcs_len]; omega), fcs_len, show (j + 1) * 8 + i - 8 = j * 8 + i by omega]
      exact ih j f (by simpa using h) i u hu
theorem rowF_get (l : List Ft) (j : Nat) (u : Value) (h : (rowF l)[j]? = some u) : ∃ i f k, l[i]? = some f ∧ j = i * 8 + k ∧ (fcs f)[k]? = some u := by
  have hl : j < l.length * 8 := by rw [← rowF_len]; exact (List.getElem?_eq_some_iff.1 h).1
  have hil : j / 8 < l.length := by omega
  have hk : j % 8 < (fcs l[j / 8]).length := by rw [fcs_len]; omega
  have h1 := rowF_at l (j / 8) l[j / 8] (List.getElem?_eq_getElem hil) (j % 8) _ (List.getElem?_eq_getElem hk)
  rw [show j / 8 * 8 + j % 8 = j by omega, h] at h1
  exact ⟨j / 8, l[j / 8], j % 8, List.getElem?_eq_getElem hil, by omega, by rw [List.getElem?_eq_getElem hk, ← h1]⟩
theorem rowF_cell (l : List Ft) : ∀ u ∈ rowF l, u.oneCell' = true := by
  intro u hu
  simp only [rowF, List.mem_flatMap] at hu
  obtain ⟨d, _, hd⟩ := hu
  exact fcs_cell d u hd

theorem range_below {w w' : World} {b o : Nat} {cs : List Value} (h : w.rangeAt b o cs) (hb : Below w.heap.size w w') (hlt : b < w.heap.size) : w'.rangeAt b o cs := fun j v hv => by
  rw [hb.cell (p := ⟨b, o + j, none⟩) hlt]; exact h j v hv
/-- The slice v is the call's own, and holds the facts l. -/
def OwnF (B : Nat) (v : Value) (l : List Ft) (w : World) : Prop := w.ownsRow B 48 8 v l.length (rowF l)
/-- At a stand the facts l, to be read. -/
def FIn (w : World) (a : Option Addr) (l : List Ft) : Prop :=
  l = [] ∨ ∃ b off, a = some ⟨b, off, none⟩ ∧ b < w.heap.size ∧ ∀ j f, l[j]? = some f → w.rangeAt b (off + j * 8) (fcs f)

theorem FIn.below {w w' : World} {a : Option Addr} {l : List Ft} (h : FIn w a l) (hb : Below w.heap.size w w') : FIn w' a l := by
  rcases h with h | ⟨b, off, rfl, hlt, hc⟩
  · exact .inl h
  · exact .inr ⟨b, off, rfl, Nat.lt_of_lt_of_le hlt hb.size, fun j f hj => range_below (hc j f hj) hb hlt⟩
theorem FIn.alloc {w : World} {a : Option Addr} {l : List Ft} (h : FIn w a l) (o : Obj) : FIn (w.alloc o) a l := h.below ((Below.refl _ _).alloc (Nat.le_refl _) o)
/-- one of them, at its place -/
theorem FIn.at {w : World} {a : Option Addr} {l : List Ft} (h : FIn w a l) {j : Nat} {f : Ft} (hj : l[j]? = some f) :
    ∃ b off, a = some ⟨b, off, none⟩ ∧ b < w.heap.size ∧ w.rangeAt b (off + j * 8) (fcs f) := by
  rcases h with rfl | ⟨b, off, rfl, hlt, hc⟩
  · simp at hj
  · exact ⟨b, off, rfl, hlt, hc j f hj⟩
/-- its load -/
theorem loadF {w : World} {b o : Nat} {f : Ft} (h : w.rangeAt b o (fcs f)) : (Instr.loadAt 48 (.pointer (some ⟨b, o, none⟩))).run Tryz.prog w = .ok (.agg (fcs f).toArray) w :=
  run_loadAt_mid w b o 48 (fcs f) _ h Tryz.underlying48 rfl factSize

/-- .. in a walk -/
theorem fl_load {ops : Array Oper} {rest : List Oper} {o : Oper} {a : Act} {w : World} {Q : Exit → Act → World → Prop} (hgd : o.guard = none) (x : Operand) (ho : o.op = .load 48 x) (g off : Nat) (f : Ft)
    (hx : a.eval x = .pointer (some ⟨g, off, none⟩)) (hg : w.rangeAt g off (fcs f)) (h : wpList Tryz.prog ops Q rest (a.put o.dst (.agg (fcs f).toArray)) w) : wpList Tryz.prog ops Q (o :: rest) a w :=
  wpList_load_mid hgd 48 x ho g off hx (fcs f) _ hg Tryz.underlying48 rfl factSize h
/-- .. in a region that draws and only reads -/
theorem fq_load {ops : Array Oper} {C : World → Prop} {Q : Act → Prop} {rest : List Oper} {o : Oper} {a : Act} (hw : Region.wanted o (yielded ops a.tmps) = true) (x : Operand) (ho : o.op = .load 48 x) (g off : Nat) (f : Ft)
    (hx : a.eval x = .pointer (some ⟨g, off, none⟩)) (hg : ∀ w, C w → w.rangeAt g off (fcs f))
    (h : wpQuiet Tryz.prog ops C Q rest (a.put o.dst (.agg (fcs f).toArray))) : wpQuiet Tryz.prog ops C Q (o :: rest) a := by
  refine wpQuiet_step fun K hK => ?_
  rw [if_pos hw]
  refine ⟨_, fun w hC => ?_, hK _ h⟩
  unfold Oper.quietAt execOp
  simp only [ho, hx, Sem.run_bind, Sem.run_pure, Result.andThen_ok, loadF (hg w hC)]
  exact ⟨rfl, rfl⟩
theorem range_regrown {W : World} {b o : Nat} {cs : List Value} (h : W.rangeAt b o cs) (hlt : b < W.heap.size) : ∀ w, (∃ p : Regrown, w = grow (redrawn W p.d) p.os) → w.rangeAt b o cs := by
  rintro w ⟨p, rfl⟩
  exact range_below h (below_regrown W p.d p.os) hlt
/-- a block of one fact -/
def FRow (w : World) (b : Nat) (f : Ft) : Prop := w.heap[b]? = some (.cells (fcs f).toArray 48 (0, 0))
theorem FRow.lt {w : World} {b : Nat} {f : Ft} (h : FRow w b f) : b < w.heap.size := lt_of_block h
theorem FRow.range {w : World} {b : Nat} {f : Ft} (h : FRow w b f) : w.rangeAt b 0 (fcs f) := fun j v hv => by
  rw [Nat.zero_add, Joins.cell_of_block h]; simpa using hv
theorem FRow.keep {w w' : World} {b : Nat} {f : Ft} (h : FRow w b f) (hb : Below w.heap.size w w') : FRow w' b f := by unfold FRow; rw [hb.block b h.lt]; exact h
theorem FRow.new (w : World) (f : Ft) : FRow (w.alloc (.cells (fcs f).toArray 48)) w.heap.size f := heap_alloc_new w _
theorem fl_store {ops : Array Oper} {rest : List Oper} {o : Oper} {a : Act} {w : World} {Q : Exit → Act → World → Prop} (hgd : o.guard = none) (x y : Operand) (ho : o.op = .store 48 x y) (g : Nat) (f : Ft)
    (hx : a.eval x = .pointer (some ⟨g, 0, none⟩)) (hy : a.eval y = .agg (fcs f).toArray) (hg : ∃ old : Array Value, w.heap[g]? = some (.cells old 48 (0, 0)) ∧ old.size = 8)
    (h : wpList Tryz.prog ops Q rest (a.put o.dst undef) (w.setRow g (fcs f).toArray)) : wpList Tryz.prog ops Q (o :: rest) a w := by
  obtain ⟨old, hg, ho2⟩ := hg
  exact wpList_store_row hgd 48 x y ho g (fcs f).toArray hx hy 48 old hg factSize (by rw [ho2]; rfl) (by simp [fcs, Value.oneCell']) h

/-- a fresh block, a fact stored there -/
abbrev zcs : Array Value := #[.int .i64 0, .int .i64 0, .int .i64 0, .int .i64 0, .int .i64 0, .int .i64 0, .string ByteArray.empty, .string ByteArray.empty]
def boxZ (w : World) (f : Ft) : World := (w.alloc (.cells zcs 48)).setRow w.heap.size (fcs f).toArray
theorem boxZ_old (w : World) : ∃ old : Array Value, (w.alloc (.cells zcs 48)).heap[w.heap.size]? = some (.cells old 48 (0, 0)) ∧ old.size = 8 := ⟨_, heap_alloc_new w _, rfl⟩
theorem boxZ_row (w : World) (f : Ft) : FRow (boxZ w f) w.heap.size f := setRow_heap _ _ _ _ _ _ (heap_alloc_new w _)
theorem boxZ_below (w : World) (f : Ft) : Below w.heap.size w (boxZ w f) :=
  ⟨rfl, rfl, rfl, by simp [boxZ], fun k hk => by
    have hn : k ≠ w.heap.size := by omega
    unfold boxZ
    rw [setRow_other _ _ _ _ hn, Below.heap_alloc _ _ _ hk]⟩

theorem ownF_nil (B : Nat) (w : World) : OwnF B (.slice none 0 0) [] w := World.ownsRow_nil _ _ _ _
theorem OwnF.fin {B : Nat} {v : Value} {l : List Ft} {w : World} (h : OwnF B v l w) : ∃ a cap, v = .slice a l.length cap ∧ FIn w a l ∧ l.length ≤ maxLen := by
  obtain ⟨hl, hv⟩ := h
  rcases hv with ⟨rfl, h0⟩ | ⟨g, cap, cur, rfl, hB, hg, hn, hm, hs, htk⟩
  · exact ⟨none, 0, by rw [h0], .inl (List.length_eq_zero_iff.1 h0), by rw [h0]; simp [maxLen]⟩
  · refine ⟨_, cap, rfl, .inr ⟨g, 0, rfl, lt_of_block hg, fun j f hj i u hu => ?_⟩, by omega⟩
    have h1 := rowF_at l j f hj i u hu
    have c1 := Lib.cells_of_row hg (l.length * 8) (j * 8 + i) _ (by rw [htk]; exact h1)
    have e1 : ∀ k, (⟨g, 0, none⟩ : Addr).add k = ⟨g, 0 + k, none⟩ := fun k => by cases k <;> simp [Addr.add]
    rw [e1] at c1
    rw [Nat.add_assoc]
    exact c1
theorem OwnF.below {B C : Nat} {v : Value} {l : List Ft} {w w' : World} (h : OwnF B v l w) (hb : Below C w w') (hC : w.heap.size ≤ C) : OwnF B v l w' := by
  unfold OwnF at *
  refine ⟨h.1, ?_⟩
  rcases h.2 with hn | ⟨g, cap, cur, hv, hB, hg, rest⟩
  · exact .inl hn
  · exact .inr ⟨g, cap, cur, hv, hB, by rw [hb.block g (Nat.lt_of_lt_of_le (lt_of_block hg) hC)]; exact hg, rest⟩
theorem OwnF.mono {B C : Nat} {v : Value} {l : List Ft} {w : World} (h : OwnF B v l w) (hC : C ≤ B) : OwnF C v l w := by
  unfold OwnF at *
  refine ⟨h.1, ?_⟩
  rcases h.2 with hn | ⟨g, cap, cur, hv, hB, rest⟩
  · exact .inl hn
  · exact .inr ⟨g, cap, cur, hv, by omega, rest⟩
theorem OwnF.alloc {B : Nat} {v : Value} {l : List Ft} {w : World} (h : OwnF B v l w) (o : Obj) : OwnF B v l (w.alloc o) := World.ownsRow.alloc h o
theorem OwnF.keep {B b : Nat} {v : Value} {l : List Ft} {w w' : World} (h : OwnF B v l w) (hg : w.grownBy w' (some b)) (hb : b < B) : OwnF B v l w' := by
  unfold OwnF at *
  refine ⟨h.1, ?_⟩
  rcases h.2 with hn | ⟨g, cap, cur, rfl, hB, hg0, rest⟩
  · exact .inl hn
  · exact .inr ⟨g, cap, cur, rfl, hB, by rw [hg.block g (lt_of_block hg0) (by simp; omega)]; exact hg0, rest⟩
theorem OwnF.set {B b i : Nat} {v : Value} {l : List Ft} {w : World} (h : OwnF B v l w) (hb : b < B) (u : Value) : OwnF B v l (w.setCell ⟨b, i, none⟩ u) := h.keep (grownBy_setCell w b i u) hb

/-! facts compared -/
theorem eqF_in (d : Nat) (a b : Ft) (W : World) : (Op.equalIn (d + 4) 48 (.agg (fcs a).toArray) (.agg (fcs b).toArray)).run Tryz.prog W = .ok (decide (a = b)) W := by
  rw [run_equalIn_agg (P := Tryz.prog) W (d + 3) _ _ _ (by kernel_rfl) (by kernel_rfl)]
  have hf : (Tryz.prog.fieldsOf 48).toList.map (fun f => (f.name != "_", f.type, f.offset)) = [(true, 44, 0), (true, 46, 2), (true, 3, 5), (true, 9, 6), (true, 9, 7)] := by kernel_rfl
  generalize (Tryz.prog.fieldsOf 48).toList = fs at hf
  have hfl : fs.length = 5 := by have := congrArg List.length hf; simpa using this
  match fs, hfl with
  | [f0, f1, f2, f3, f4], _ =>
    simp only [List.map_cons, List.map_nil, List.cons.injEq, Prod.mk.injEq, and_true] at hf
    obtain ⟨⟨n0, t0, o0⟩, ⟨n1, t1, o1⟩, ⟨n2, t2, o2⟩, ⟨n3, t3, o3⟩, n4, t4, o4⟩ := hf
    have m0 : f0.name ≠ "_" := by simpa using n0
    have m1 : f1.name ≠ "_" := by simpa using n1
    have m2 : f2.name ≠ "_" := by simpa using n2
    have m3 : f3.name ≠ "_" := by simpa using n3
    have m4 : f4.name ≠ "_" := by simpa using n4
    have p0 : ∀ (x : Ft) (W : World), (part 44 (fcs x).toArray 0).run Tryz.prog W = .ok (.agg #[.int .i64 x.d.1, .int .i64 x.d.2]) W := fun x W => by rfl
    have p1 : ∀ (x : Ft) (W : World), (part 46 (fcs x).toArray 2).run Tryz.prog W = .ok (.agg #[.int .i64 x.s.t, .int .i64 x.s.c, .int .i64 x.s.r]) W := fun x W => by rfl
    have p2 : ∀ (x : Ft) (W : World), (part 3 (fcs x).toArray 5).run Tryz.prog W = .ok (.int .i64 x.k) W := fun x W => by rfl
    have p3 : ∀ (x : Ft) (W : World), (part 9 (fcs x).toArray 6).run Tryz.prog W = .ok (.string x.n) W := fun x W => by rfl
    have p4 : ∀ (x : Ft) (W : World), (part 9 (fcs x).toArray 7).run Tryz.prog W = .ok (.string x.v) W := fun x W => by rfl
    have q : ∀ (x y : Int) (W : World), (Op.equalIn (d + 3) 3 (.int .i64 x) (.int .i64 y)).run Tryz.prog W = .ok (x == y) W := fun x y W => run_equalIn_int (P := Tryz.prog) W (d + 2) 3 .i64 .i64 _ _ Tryz.underlying3
    have qs : ∀ (x y : ByteArray) (W : World), (Op.equalIn (d + 3) 9 (.string x) (.string y)).run Tryz.prog W = .ok (x.toList == y.toList) W := fun x y W => run_equalIn_string (P := Tryz.prog) W (d + 2) 9 _ _ Tryz.underlying9
    have qd := fun (x y : Dt) W => eqD_in (d + 1) x y W
    have qt := fun (x y : St) W => eqS_in (d + 1) x y W
    have hxy : ∀ x y : ByteArray, (x.toList == y.toList) = decide (x = y) := fun x y => by
      by_cases h : x = y
      · simp [h]
      · have : x.toList ≠ y.toList := fun e => h (by
          rw [ByteArray.toList_eq, ByteArray.toList_eq] at e
          obtain ⟨⟨a⟩⟩ := x
          obtain ⟨⟨b⟩⟩ := y
          simp only at e
          rw [e])
        simp [h, this]
    simp only [Op.eqFields, m0, m1, m2, m3, m4, ne_eq, not_false_eq_true, if_true, t0, t1, t2, t3, t4, o0, o1, o2, o3, o4, Sem.run_bind, p0, qd, Result.andThen_ok]
    by_cases h0 : a.d = b.d
    · by_cases h1 : a.s = b.s
      · by_cases h2 : a.k = b.k
        · by_cases h3 : a.n = b.n
          · by_cases h4 : a.v = b.v
            · have e : a = b := by cases a; cases b; simp_all
              subst e
              simp [p1, p2, p3, p4, q, qs, qt]
            · have e : a ≠ b := fun e => h4 (by rw [e])
              simp [h0, h1, h2, h3, h4, e, p1, p2, p3, p4, q, qs, qt, hxy]
          · have e : a ≠ b := fun e => h3 (by rw [e])
            simp [h0, h1, h2, h3, e, p1, p2, p3, q, qs, qt, hxy]
        · have e : a ≠ b := fun e => h2 (by rw [e])
          simp [h0, h1, h2, e, p1, p2, q, qt]
      · have e : a ≠ b := fun e => h1 (by rw [e])
        simp [h0, h1, e, p1, qt]
    · have e : a ≠ b := fun e => h0 (by rw [e])
      simp [h0, e]
theorem eqF (a b : Ft) (W : World) : (Op.equalIn 10000 48 (.agg (fcs a).toArray) (.agg (fcs b).toArray)).run Tryz.prog W = .ok (decide (a = b)) W := eqF_in 9996 a b W
theorem eqlF (a b : Ft) (W : World) : (binOp .eql 48 (.agg (fcs a).toArray) (.agg (fcs b).toArray)).run Tryz.prog W = .ok (.bool (decide (a = b))) W := by
  rw [run_eql_struct, eqF]; rfl
theorem neqF (a b : Ft) (W : World) : (binOp .neq 48 (.agg (fcs a).toArray) (.agg (fcs b).toArray)).run Tryz.prog W = .ok (.bool (!decide (a = b))) W := by
  rw [run_neq_struct, eqF]; rfl
end Go.Proofs.YtchnklekeinhiaaGreat

namespace Go.Proofs.YtchnklekeinhiaaGreat
open Go.RowKit Go.Sort

def Gr (w w' : World) : Prop := ∃ q os, w' = grow (w.drewN q) os
theorem Gr.refl (w : World) : Gr w w := ⟨0, #[], by rw [grow_empty]; rfl⟩
theorem Gr.trans {a b c : World} (h : Gr a b) (k : Gr b c) : Gr a c := by
  obtain ⟨q, os, rfl⟩ := h
  obtain ⟨r, os', rfl⟩ := k
  exact ⟨q + r, os ++ os', by show grow (grow ((a.drewN q).drewN r) os) os' = _; rw [grow_grow, World.drewN_drewN]⟩
theorem Gr.one (w : World) (o : Obj) : Gr w (w.alloc o) := ⟨0, #[o], by rw [alloc_eq_grow]; rfl⟩
theorem Gr.alloc {a b : World} (h : Gr a b) (o : Obj) : Gr a (b.alloc o) := h.trans (.one b o)
theorem Gr.drew1 (w : World) : Gr w w.drew := ⟨1, #[], by rw [grow_empty]; rfl⟩
theorem Gr.below {a b : World} (h : Gr a b) : Below a.heap.size a b := by
  obtain ⟨q, os, rfl⟩ := h
  exact ⟨rfl, rfl, rfl, by rw [size_grow]; exact Nat.le_add_right _ _, fun k hk => heap_grow_old _ _ hk⟩
theorem Gr.size {a b : World} (h : Gr a b) : a.heap.size ≤ b.heap.size := h.below.size
end Go.Proofs.YtchnklekeinhiaaGreat
