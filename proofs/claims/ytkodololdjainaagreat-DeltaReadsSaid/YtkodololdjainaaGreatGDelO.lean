/-
  Blocks of any cells: made, read, stored over; whole rows and cells where nothing is drawn, where it is, where one only reads.
  An update in memory: seven cells.
-/
import Derived.Test.YtkodololdjainaaGreatFactRow
import Derived.Test.YtkodololdjainaaGreatGDelC
import Derived.Test.YtkodololdjainaaGreatGDelB
namespace Go.Proofs.YtkodololdjainaaGreat
set_option linter.unusedSimpArgs false
set_option linter.unusedVariables false
set_option maxRecDepth 100000
open Go.RowKit Go.Sort

theorem lowA (w : World) (o : Obj) : Go.RowKit.Below w.heap.size w (w.alloc o) := (Below.refl _ _).alloc (Nat.le_refl _) _
/-! a block of these cells -/
def Blk (w : World) (b : Nat) (T : TypeId) (A : Array Value) : Prop := w.heap[b]? = some (.cells A T (0, 0))
theorem Blk.lt {w : World} {b : Nat} {T : TypeId} {A : Array Value} (h : Blk w b T A) : b < w.heap.size := lt_of_block h
theorem Blk.below {w w' : World} {b B : Nat} {T : TypeId} {A : Array Value} (h : Blk w b T A) (hb : Go.RowKit.Below B w w') (hB : b < B) : Blk w' b T A := by unfold Blk; rw [hb.block b hB]; exact h
theorem Blk.keep {w w' : World} {b : Nat} {T : TypeId} {A : Array Value} (h : Blk w b T A) (hb : Go.RowKit.Below w.heap.size w w') : Blk w' b T A := h.below hb h.lt
theorem Blk.new (w : World) (T : TypeId) (A : Array Value) : Blk (w.alloc (.cells A T)) w.heap.size T A := heap_alloc_new w _
theorem Blk.alloc {w : World} {b : Nat} {T : TypeId} {A : Array Value} (h : Blk w b T A) (o : Obj) : Blk (w.alloc o) b T A := h.keep ((Below.refl _ _).alloc (Nat.le_refl _) o)
theorem Blk.cell {w : World} {b j : Nat} {T : TypeId} {A : Array Value} {u : Value} (h : Blk w b T A) (hj : A[j]? = some u) : w.cell? ⟨b, j, none⟩ = some u := by
  rw [Joins.cell_of_block h]; exact hj
theorem Blk.range {w : World} {b : Nat} {T : TypeId} {A : Array Value} (h : Blk w b T A) (o : Nat) (cs : List Value) (hs : ∀ j v, cs[j]? = some v → A[o + j]? = some v) : w.rangeAt b o cs := fun j v hv => h.cell (hs j v hv)
theorem Blk.all {w : World} {b : Nat} {T : TypeId} {A : Array Value} (h : Blk w b T A) : w.rangeAt b 0 A.toList := h.range 0 _ fun j v hv => by rw [Nat.zero_add]; simpa using hv
theorem Blk.other {w : World} {b c : Nat} {T : TypeId} {A : Array Value} (h : Blk w b T A) (hc : b ≠ c) (C : Array Value) : Blk (w.setRow c C) b T A := by unfold Blk; rw [setRow_other _ _ _ _ hc]; exact h
theorem Blk.put {w : World} {b : Nat} {T : TypeId} {old : Array Value} (h : Blk w b T old) (A : Array Value) : Blk (w.setRow b A) b T A := setRow_heap _ _ _ _ _ _ h
theorem Blk.set {w : World} {b c j : Nat} {T : TypeId} {A : Array Value} (h : Blk w b T A) (hc : b ≠ c) (u : Value) : Blk (w.setCell ⟨c, j, none⟩ u) b T A := by
  unfold Blk; rw [Below.heap_setCell _ _ _ _ (show b ≠ c from hc)]; exact h

/-- a whole row loaded, from wherever it lies -/
theorem bl_load {ops : Array Oper} {rest : List Oper} {o : Oper} {a : Act} {w : World} {Q : Exit → Act → World → Prop} (hw : Region.wanted o (yielded ops a.tmps) = true) (T : TypeId) (x : Operand) (ho : o.op = .load T x) (g off : Nat) (A : Array Value) {d : TypeDesc}
    (hx : a.eval x = .pointer (some ⟨g, off, none⟩)) (hg : w.rangeAt g off A.toList) (hu : Tryz.prog.underlying T = some d) (hd : d.isRow = true) (hi : (Tryz.prog.info? T).map (·.size) = some A.size)
    (h : wpList Tryz.prog ops Q rest (a.put o.dst (.agg A)) w) : wpList Tryz.prog ops Q (o :: rest) a w := by
  unfold wpList
  rw [if_pos hw]
  exact .inl (wp_load_mid T x ho g off hx A.toList d hg hu hd (by simpa using hi) h)
/-- .. in a region that draws -/
theorem b_yield {ops : Array Oper} {S : World → Prop} {o : Oper} {a : Act} (hw : Region.wanted o (yielded ops a.tmps) = true) (T : TypeId) (x : Operand) (ho : o.op = .load T x) (g off : Nat) (A : Array Value) {d : TypeDesc}
    (hx : a.eval x = .pointer (some ⟨g, off, none⟩)) (hg : ∀ w, S w → w.rangeAt g off A.toList) (hu : Tryz.prog.underlying T = some d) (hd : d.isRow = true) (hi : (Tryz.prog.info? T).map (·.size) = some A.size) : YieldsIf Tryz.prog ops S o (.agg A) a :=
  yieldsIf_load_mid hw T x ho g off hx A.toList d hg hu hd (by simpa using hi)
/-- .. in one that only reads -/
theorem bq_load {ops : Array Oper} {C : World → Prop} {Q : Act → Prop} {rest : List Oper} {o : Oper} {a : Act} (hw : Region.wanted o (yielded ops a.tmps) = true) (T : TypeId) (x : Operand) (ho : o.op = .load T x) (g off : Nat) (A : Array Value) {d : TypeDesc}
    (hx : a.eval x = .pointer (some ⟨g, off, none⟩)) (hg : ∀ w, C w → w.rangeAt g off A.toList) (hu : Tryz.prog.underlying T = some d) (hd : d.isRow = true) (hi : (Tryz.prog.info? T).map (·.size) = some A.size)
    (h : wpQuiet Tryz.prog ops C Q rest (a.put o.dst (.agg A))) : wpQuiet Tryz.prog ops C Q (o :: rest) a := by
  refine wpQuiet_step fun K hK => ?_
  rw [if_pos hw]
  refine ⟨_, fun w hC => ?_, hK _ h⟩
  unfold Oper.quietAt execOp
  simp only [ho, hx, Sem.run_bind, Sem.run_pure, Result.andThen_ok, run_loadAt_mid w g off T A.toList d (hg w hC) hu hd (by simpa using hi)]
  exact ⟨rfl, rfl⟩
/-- one cell, in a region that draws -/
theorem c_yield {ops : Array Oper} {S : World → Prop} {o : Oper} {a : Act} (hw : Region.wanted o (yielded ops a.tmps) = true) (T : TypeId) (x : Operand) (ho : o.op = .load T x) (p : Addr) (v : Value) (hx : a.eval x = .pointer (some p))
    (hr : ∀ w, S w → (Instr.loadAt T (.pointer (some p))).run Tryz.prog w = .ok v w) : YieldsIf Tryz.prog ops S o v a := by
  refine .inl ⟨hw, fun w hS => ?_⟩
  unfold execOp
  simp only [ho, hx, Sem.run_bind, Sem.run_pure, Result.andThen_ok, hr w hS]
/-- a whole row stored over an elder one -/
theorem bl_store {ops : Array Oper} {rest : List Oper} {o : Oper} {a : Act} {w : World} {Q : Exit → Act → World → Prop} (hgd : o.guard = none) (T : TypeId) (x y : Operand) (ho : o.op = .store T x y) (g : Nat) (A : Array Value)
    (hx : a.eval x = .pointer (some ⟨g, 0, none⟩)) (hy : a.eval y = .agg A) (hg : ∃ old, Blk w g T old ∧ old.size = A.size) (hi : (Tryz.prog.info? T).map (·.size) = some A.size) (h1 : A.all (·.oneCell') = true)
    (h : wpList Tryz.prog ops Q rest (a.put o.dst undef) (w.setRow g A)) : wpList Tryz.prog ops Q (o :: rest) a w := by
  obtain ⟨old, hg, ho2⟩ := hg
  exact wpList_store_row hgd T x y ho g A hx hy T old hg hi ho2 h1 h
theorem draw_storeB {ops : Array Oper} {o : Oper} {a : Act} {w : World} {K : Act → World → Prop} {Q : Exit → Act → World → Prop} (hgd : o.guard = none) (T : TypeId) (x y : Operand) (ho : o.op = .store T x y)
    (g : Nat) (A : Array Value) (hx : a.eval x = .pointer (some ⟨g, 0, none⟩)) (hy : a.eval y = .agg A) (hi : (Tryz.prog.info? T).map (·.size) = some A.size) (h1 : A.all (·.oneCell') = true) (hg : ∃ old, Blk w g T old ∧ old.size = A.size) (h : K (a.put o.dst undef) (w.setRow g A)) :
    if Region.wanted o (yielded ops a.tmps) = true then Oper.wp Tryz.prog o a w K Q else K (a.put o.dst undef) w := by
  obtain ⟨old, hg, ho2⟩ := hg
  have hl' := run_storeVar_row (P := Tryz.prog) w g T T old A hg hi ho2 h1
  simp only [Region.wanted, hgd, if_true]
  unfold Oper.wp execOp
  simp only [ho, hx, hy, Instr.storeAt, Instr.sureAddr, Sem.run_bind, Sem.run_pure, Result.andThen_ok, hl']
  exact h
end Go.Proofs.YtkodololdjainaaGreat

namespace Go.Proofs.YtkodololdjainaaGreat
set_option linter.unusedSimpArgs false
set_option linter.unusedVariables false
set_option maxRecDepth 100000
open Go.RowKit Go.Sort

/-- a delta's cells -/
def dlc (e : Dl) (la : Option Addr) (lk : Nat) (ga : Option Addr) (gk : Nat) : Array Value := #[.int .i64 e.d.1, .int .i64 e.d.2, .int .i64 e.s.t, .int .i64 e.s.c, .int .i64 e.s.r, .slice la e.l.length lk, .slice ga e.g.length gk]
theorem deltaSize : (Tryz.prog.info? 29).map (·.size) = some 7 := by kernel_rfl
/-- one cell that holds a slice, a name: in a region that draws -/
theorem yield_cF {ops : Array Oper} {S : World → Prop} {o : Oper} {a : Act} (hw : Region.wanted o (yielded ops a.tmps) = true) (x : Operand) (ho : o.op = .load 26 x) (g off : Nat) (p : Option Addr) (n c : Nat) (hx : a.eval x = .pointer (some ⟨g, off, none⟩))
    (hg : ∀ w, S w → w.cell? ⟨g, off, none⟩ = some (.slice p n c)) : YieldsIf Tryz.prog ops S o (.slice p n c) a := by
  refine .inl ⟨hw, fun w hS => ?_⟩
  have h0 := hg w hS
  unfold execOp
  simp only [ho, hx]
  go_simp
theorem yield_cD {ops : Array Oper} {S : World → Prop} {o : Oper} {a : Act} (hw : Region.wanted o (yielded ops a.tmps) = true) (x : Operand) (ho : o.op = .load 27 x) (g off : Nat) (p : Option Addr) (n c : Nat) (hx : a.eval x = .pointer (some ⟨g, off, none⟩))
    (hg : ∀ w, S w → w.cell? ⟨g, off, none⟩ = some (.slice p n c)) : YieldsIf Tryz.prog ops S o (.slice p n c) a := by
  refine .inl ⟨hw, fun w hS => ?_⟩
  have h0 := hg w hS
  unfold execOp
  simp only [ho, hx]
  go_simp
theorem dl_one (e : Dl) (la : Option Addr) (lk : Nat) (ga : Option Addr) (gk : Nat) : (dlc e la lk ga gk).all (·.oneCell') = true := by simp [dlc, Value.oneCell']
theorem infoD (e : Dl) (la : Option Addr) (lk : Nat) (ga : Option Addr) (gk : Nat) : (Tryz.prog.info? 29).map (·.size) = some (dlc e la lk ga gk).size := by rw [deltaSize]; rfl
/-- a delta's block -/
abbrev DBlk (w : World) (b : Nat) (e : Dl) (la : Option Addr) (lk : Nat) (ga : Option Addr) (gk : Nat) : Prop := Blk w b 29 (dlc e la lk ga gk)
/-- its lists, where they lie; the facts' values are no longer than the contracts want -/
structure DlMem (w : World) (e : Dl) (la ga : Option Addr) : Prop where
  fin : FIn w la e.l
  din : DIn w ga e.g
  flen : e.l.length ≤ 65536
  glen : e.g.length ≤ 65536
  val : ∀ f ∈ e.l, f.v.size ≤ 5000
theorem DlMem.below {w w' : World} {e : Dl} {la ga : Option Addr} (h : DlMem w e la ga) (hb : Go.RowKit.Below w.heap.size w w') : DlMem w' e la ga :=
  ⟨h.fin.below hb, h.din.below hb, h.flen, h.glen, h.val⟩
theorem DlMem.flen' {w : World} {e : Dl} {la ga : Option Addr} (h : DlMem w e la ga) : e.l.length ≤ maxLen := Nat.le_trans h.flen (by simp [maxLen])
theorem DlMem.glen' {w : World} {e : Dl} {la ga : Option Addr} (h : DlMem w e la ga) : e.g.length ≤ maxLen := Nat.le_trans h.glen (by simp [maxLen])
end Go.Proofs.YtkodololdjainaaGreat
