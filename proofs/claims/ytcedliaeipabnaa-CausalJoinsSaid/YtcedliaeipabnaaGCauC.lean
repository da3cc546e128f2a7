/-
  Vectors by value and in memory: whole rows boxed, loaded, stored, compared; one place read.
  Whole vectors loaded where an operation is guarded, and in regions that draw and only read.
  A name by value: Check, of the program and of the document.
-/
import Derived.Test.YtcedliaeipabnaaGCauB
import Derived.Test.YtcedliaeipabnaaBase
import Derived.Deep.WholeRow
import Derived.Laws.StructEq
import Derived.Lib.QuietBelow
namespace Go.Proofs.Ytcedliaeipabnaa
set_option maxRecDepth 100000
open Go.RowKit

def ics (l : Vc) : Array Value := (l.map (Value.int .i64)).toArray
theorem ics_size (l : Vc) : (ics l).size = l.length := by simp [ics]
theorem ics_get (l : Vc) (j : Nat) (h : j < l.length) : (ics l)[j]? = some (.int .i64 (l.getD j 0)) := by
  simp [ics, List.getD_eq_getElem?_getD, List.getElem?_eq_getElem h]
theorem ics_set (l : Vc) (j : Nat) (x : Int) : (ics l).setIfInBounds j (.int .i64 x) = ics (l.set j x) := by
  unfold ics
  apply Array.ext'
  simp [List.map_set]
theorem ics_inj {a b : Vc} (h : ics a = ics b) : a = b := by
  have h1 := congrArg Array.toList h
  simp only [ics] at h1
  exact (List.map_inj_right (fun x y e => by cases e; rfl)).1 h1
theorem ics_one (l : Vc) : (ics l).all (·.oneCell') = true := by
  simp [ics]; intro x _; rfl

theorem vecArr : (Try.prog.info? 23).map (·.size) = some 16 := by kernel_rfl
theorem infoV {l : Vc} (h : l.length = 16) : (Try.prog.info? 23).map (·.size) = some (ics l).size := by rw [ics_size, h]; exact vecArr

/-- a block of sixteen numbers -/
def VRow (w : World) (b : Nat) (l : Vc) : Prop := w.heap[b]? = some (.cells (ics l) 23 (0, 0))
theorem VRow.cell {w : World} {b : Nat} {l : Vc} (h : VRow w b l) (j : Nat) (hj : j < l.length) : w.cell? ⟨b, j, none⟩ = some (.int .i64 (l.getD j 0)) := by
  rw [Joins.cell_of_block h, ics_get l j hj]
theorem VRow.free {w : World} {b : Nat} {l : Vc} (h : VRow w b l) (j : Nat) : w.frozen? ⟨b, j, none⟩ = false := Joins.unfrozen_of_block h j
theorem VRow.lt {w : World} {b : Nat} {l : Vc} (h : VRow w b l) : b < w.heap.size := (Array.getElem?_eq_some_iff.1 h).1
theorem VRow.set {w : World} {b : Nat} {l : Vc} (h : VRow w b l) (j : Nat) (x : Int) : VRow (w.setCell ⟨b, j, none⟩ (.int .i64 x)) b (l.set j x) := by
  have := Joins.block_setCell (i := j) h (.int .i64 x)
  rw [ics_set] at this
  exact this
theorem VRow.other {w : World} {b c : Nat} {l : Vc} (h : VRow w b l) (hc : b ≠ c) (j : Nat) (x : Value) : VRow (w.setCell ⟨c, j, none⟩ x) b l := by
  unfold VRow; rw [Below.heap_setCell _ _ _ _ hc]; exact h
theorem VRow.drew {w : World} {b : Nat} {l : Vc} (h : VRow w b l) : VRow w.drew b l := h
theorem VRow.drewN {w : World} {b : Nat} {l : Vc} (h : VRow w b l) (n : Nat) : VRow (w.drewN n) b l := h
theorem VRow.below {w w' : World} {b B : Nat} {l : Vc} (h : VRow w b l) (hb : Below B w w') (hB : b < B) : VRow w' b l := by
  unfold VRow; rw [hb.block b hB]; exact h
theorem VRow.keep {w w' : World} {b : Nat} {l : Vc} (h : VRow w b l) (hb : Below w.heap.size w w') : VRow w' b l := h.below hb h.lt
theorem VRow.alloc {w : World} {b : Nat} {l : Vc} (h : VRow w b l) (o : Obj) : VRow (w.alloc o) b l := by
  unfold VRow; rw [Below.heap_alloc _ _ _ h.lt]; exact h
theorem VRow.of_set {w : World} {b c : Nat} {l : Vc} (h : VRow w b l) (hc : b ≠ c) (C : Array Value) : VRow (w.setRow c C) b l := by
  unfold VRow; rw [setRow_other _ _ _ _ hc]; exact h
theorem VRow.of_put {w : World} {b : Nat} {old : Array Value} (h : w.heap[b]? = some (.cells old 23 (0, 0))) (l : Vc) : VRow (w.setRow b (ics l)) b l := setRow_heap _ _ _ _ _ _ h
theorem VRow.new (w : World) (l : Vc) : VRow (w.alloc (.cells (ics l) 23)) w.heap.size l := heap_alloc_new w _
theorem VRow.drewBelow {w w' : World} {b : Nat} {l : Vc} (h : VRow w b l) (hb : Below w.drew.heap.size w.drew w') : VRow w' b l := h.keep (undrew hb)

/-- a whole row boxed, stored, loaded -/
theorem wl_box {ops : Array Oper} {rest : List Oper} {o : Oper} {a : Act} {w : World} {Q : Exit → Act → World → Prop} (hgd : o.guard = none) (ty : TypeId) (x : Operand) (ho : o.op = .box ty x) (cs : Array Value)
    (hx : a.eval x = .agg cs) (h : wpList Try.prog ops Q rest (a.put o.dst (.pointer (some ⟨w.heap.size, 0, none⟩))) (w.alloc (.cells cs ty))) : wpList Try.prog ops Q (o :: rest) a w := by
  refine wpList_plain hgd fun _ hK => ?_
  unfold Oper.wp execOp
  simp only [ho, hx, Instr.box, newVar, newRow, Sem.run_bind, Sem.run_pure, Value.cells]
  exact hK _ _ h
theorem vl_store {ops : Array Oper} {rest : List Oper} {o : Oper} {a : Act} {w : World} {Q : Exit → Act → World → Prop} (hgd : o.guard = none) (x y : Operand) (ho : o.op = .store 23 x y) (g : Nat) (l : Vc)
    (hx : a.eval x = .pointer (some ⟨g, 0, none⟩)) (hy : a.eval y = .agg (ics l)) (hg : ∃ old : Vc, VRow w g old ∧ old.length = l.length) (hl : l.length = 16)
    (h : wpList Try.prog ops Q rest (a.put o.dst undef) (w.setRow g (ics l))) : wpList Try.prog ops Q (o :: rest) a w := by
  obtain ⟨old, hg, ho2⟩ := hg
  exact wpList_store_row hgd 23 x y ho g (ics l) hx hy 23 (ics old) hg (infoV hl) (by rw [ics_size, ics_size]; exact ho2) (ics_one _) h
theorem vl_load {ops : Array Oper} {rest : List Oper} {o : Oper} {a : Act} {w : World} {Q : Exit → Act → World → Prop} (hgd : o.guard = none) (x : Operand) (ho : o.op = .load 23 x) (g : Nat) (l : Vc)
    (hx : a.eval x = .pointer (some ⟨g, 0, none⟩)) (hg : VRow w g l) (hl : l.length = 16)
    (h : wpList Try.prog ops Q rest (a.put o.dst (.agg (ics l))) w) : wpList Try.prog ops Q (o :: rest) a w :=
  wpList_load_row hgd 23 x ho g hx 23 (ics l) (0, 0) _ hg Try.underlying23 rfl (infoV hl) h

theorem partI (w : World) (l : Vc) (k : Nat) (hk : k < l.length) : (part 3 (ics l) k).run Try.prog w = .ok (.int .i64 (l.getD k 0)) w := by
  have hagg : (isAgg 3).run Try.prog w = .ok false w := by kernel_rfl
  unfold part
  simp [Sem.run_bind, hagg, ics_get l k hk]
/-- one place of a vector by value -/
theorem indexV {l : Vc} (hl : l.length = 16) (k : Nat) (hk : k < 16) (w : World) : (Instr.index 23 (.agg (ics l)) (.int .i64 (k : Int))).run Try.prog w = .ok (.int .i64 (l.getD k 0)) w := by
  have hu := run_underlying (P := Try.prog) Try.underlying23 w
  have hs : (sizeOf 3).run Try.prog w = .ok 1 w := by kernel_rfl
  unfold Instr.index
  simp [Sem.run_bind, asIntOf, hu, hs, hk, partI w l k (by omega)]

theorem eqs_step {a b : Vc} (ha : a.length = 16) (hb : b.length = 16) (W : World) : ∀ (n s : Nat), s + n ≤ 16 →
    Sem.run Try.prog (forIn (List.range' s n) ((none, ()) : Option Bool × Unit) fun i (__s : Option Bool × Unit) => do
      let x ← part 3 (ics a) i
      let y ← part 3 (ics b) i
      let q ← Op.equalIn 9999 3 x y
      if q = false then pure (ForInStep.done (some false, ())) else pure (ForInStep.yield (none, ()))) W
    = .ok (if ∀ i, i < n → a.getD (s + i) 0 = b.getD (s + i) 0 then (none, ()) else (some false, ())) W := by
  intro n
  induction n with
  | zero => intro s _; rw [if_pos (fun i h2 => by omega)]; simp
  | succ n ih =>
    intro s hs
    have hq : (Op.equalIn 9999 3 (.int .i64 (a.getD s 0)) (.int .i64 (b.getD s 0))).run Try.prog W = .ok (a.getD s 0 == b.getD s 0) W := by
      rw [show (9999 : Nat) = 9998 + 1 from rfl, run_equalIn_int (P := Try.prog) W 9998 3 .i64 .i64 _ _ Try.underlying3]
    rw [List.range'_succ, List.forIn_cons]
    have hpa := partI W a s (by omega)
    have hpb := partI W b s (by omega)
    generalize hx : a.getD s 0 = x at *
    generalize hy : b.getD s 0 = y at *
    by_cases h : x = y
    · have hxy : (x == y) = true := by simp [h]
      rw [hxy] at hq
      simp only [Sem.run_bind, hpa, hpb, hq, Result.andThen_ok, Bool.true_eq_false, if_false, Sem.run_pure]
      rw [ih (s + 1) (by omega)]
      congr 1
      by_cases hall : ∀ i, i < n → a.getD (s + 1 + i) 0 = b.getD (s + 1 + i) 0
      · rw [if_pos hall, if_pos (fun i h2 => by
          cases i with
          | zero => rw [Nat.add_zero, hx, hy, h]
          | succ i => rw [show s + (i + 1) = s + 1 + i by omega]; exact hall i (by omega))]
      · rw [if_neg hall, if_neg (fun hc => hall (fun i h2 => by have := hc (i + 1) (by omega); rwa [show s + (i + 1) = s + 1 + i by omega] at this))]
    · have hxy : (x == y) = false := by simp [h]
      rw [hxy] at hq
      simp only [Sem.run_bind, hpa, hpb, hq, Result.andThen_ok, if_true, Sem.run_pure]
      rw [if_neg (fun hc => h (by have := hc 0 (by omega); rwa [Nat.add_zero, hx, hy] at this))]
/-- two vectors compared -/
theorem eqlV {a b : Vc} (ha : a.length = 16) (hb : b.length = 16) (W : World) : (binOp .eql 23 (.agg (ics a)) (.agg (ics b))).run Try.prog W = .ok (.bool (decide (a = b))) W := by
  rw [run_eql_struct]
  have hu := run_underlying (P := Try.prog) Try.underlying23 W
  have hs : (sizeOf 3).run Try.prog W = .ok 1 W := by kernel_rfl
  have e : Op.equalIn 10000 = Op.equalIn (9998 + 1 + 1) := rfl
  rw [e]
  unfold Op.equalIn
  have h := eqs_step ha hb W 16 0 (by omega)
  simp [Sem.run_bind, hu, hs]
  rw [h]
  by_cases hab : a = b
  · subst hab
    rw [if_pos (fun i _ => rfl)]
    simp
  · rw [if_neg (fun hc => hab (vec_ext ha hb fun i hi => by have := hc i hi; rwa [Nat.zero_add] at this))]
    simp [hab]
end Go.Proofs.Ytcedliaeipabnaa

namespace Go.Proofs.Ytcedliaeipabnaa
set_option maxRecDepth 100000
open Go.RowKit Go.Sort

theorem vl_loadg {ops : Array Oper} {rest : List Oper} {o : Oper} {a : Act} {w : World} {Q : Exit → Act → World → Prop} (hw : Region.wanted o (yielded ops a.tmps) = true) (x : Operand) (ho : o.op = .load 23 x) (g : Nat) (l : Vc)
    (hx : a.eval x = .pointer (some ⟨g, 0, none⟩)) (hg : VRow w g l) (hl : l.length = 16)
    (h : wpList Try.prog ops Q rest (a.put o.dst (.agg (ics l))) w) : wpList Try.prog ops Q (o :: rest) a w := by
  unfold wpList
  rw [if_pos hw]
  exact .inl (wp_load_row 23 x ho g hx 23 (ics l) (0, 0) _ hg Try.underlying23 rfl (infoV hl) h)
theorem vl_build {ops : Array Oper} {rest : List Oper} {o : Oper} {a : Act} {w : World} {Q : Exit → Act → World → Prop} (hw : Region.wanted o (yielded ops a.tmps) = true) (t : TypeId) (parts : Array (Nat × Operand)) (ho : o.op = .build t parts) (cs : Array Value)
    (hb : Try.prog.built t (parts.map fun (i, x) => (i, a.eval x)).toList = some cs)
    (h : wpList Try.prog ops Q rest (a.put o.dst (.agg cs)) w) : wpList Try.prog ops Q (o :: rest) a w := by
  unfold wpList
  rw [if_pos hw]
  refine .inl ?_
  refine wp_build t parts ho (by rw [hb]; rfl) ?_
  rw [hb]
  exact h
theorem VRow.load {w : World} {b : Nat} {l : Vc} (h : VRow w b l) (hl : l.length = 16) : (loadVar 23 ⟨b, 0, none⟩).run Try.prog w = .ok (.agg (ics l)) w :=
  run_loadVar_row w b 23 23 (ics l) (0, 0) _ h Try.underlying23 rfl (infoV hl)
theorem VRow.store {w : World} {b : Nat} {l m : Vc} (h : VRow w b l) (hl : l.length = 16) (hm : m.length = 16) : (storeVar 23 ⟨b, 0, none⟩ (.agg (ics m))).run Try.prog w = .ok () (w.setRow b (ics m)) :=
  run_storeVar_row w b 23 23 (ics l) (ics m) h (infoV hm) (by rw [ics_size, ics_size, hl, hm]) (ics_one _)
theorem vq_load {ops : Array Oper} {C : World → Prop} {Q : Act → Prop} {rest : List Oper} {o : Oper} {a : Act} (hw : Region.wanted o (yielded ops a.tmps) = true) (x : Operand) (ho : o.op = .load 23 x) (g : Nat) (l : Vc)
    (hx : a.eval x = .pointer (some ⟨g, 0, none⟩)) (hg : ∀ w, C w → VRow w g l) (hl : l.length = 16)
    (h : wpQuiet Try.prog ops C Q rest (a.put o.dst (.agg (ics l)))) : wpQuiet Try.prog ops C Q (o :: rest) a := by
  refine wpQuiet_step fun K hK => ?_
  rw [if_pos hw]
  refine ⟨_, fun w hC => ?_, hK _ h⟩
  unfold Oper.quietAt execOp
  simp only [ho, hx, Instr.loadAt, Instr.sureAddr, Sem.run_bind, Sem.run_pure, Result.andThen_ok, (hg w hC).load hl]
  exact ⟨rfl, rfl⟩
theorem VRow.regrown {W : World} {b : Nat} {l : Vc} (h : VRow W b l) : ∀ w, (∃ p : Regrown, w = grow (redrawn W p.d) p.os) → VRow w b l := by
  rintro w ⟨p, rfl⟩
  exact h.keep (below_regrown W p.d p.os)
end Go.Proofs.Ytcedliaeipabnaa

namespace Go.Proofs.Ytcedliaeipabnaa
open Go.RowKit

def dcs (d : Dt) : List Value := [.int .i64 d.1, .int .i64 d.2]
def dv (d : Dt) : Value := .agg #[.int .i64 d.1, .int .i64 d.2]

def boxD (w : World) (d : Dt) : World := w.alloc (.cells #[.int .i64 d.1, .int .i64 d.2] 31)
theorem boxD_below (w : World) (d : Dt) : Below w.heap.size w (boxD w d) := (Below.refl _ _).alloc (Nat.le_refl _) _
theorem boxD_size (w : World) (d : Dt) : (boxD w d).heap.size = w.heap.size + 1 := by simp [boxD]
theorem boxD2_below (w : World) (a b : Dt) : Below w.heap.size w (boxD (boxD w a) b) := (boxD_below w a).trans ((boxD_below _ b).mono (by rw [boxD_size]; omega))

set_option maxHeartbeats 1000000 in
set_option maxRecDepth 100000 in
theorem checkC (d : Dt) (w : World) : Calls Try.prog 33 #[.agg #[.int .i64 d.1, .int .i64 d.2]] w fun e w' => e = .returned (.int .i64 (chkD d)) ∧ boxD w d = w' := by
  obtain ⟨r, n⟩ := d
  have hd : chkD (r, n) = if r < 0 ∨ 15 < r ∨ n < 1 ∨ 1099511627776 < n then 2 else 0 := rfl
  unfold boxD
  simp only at *
  by_cases h0 : r < 0
  · rw [if_pos (.inl h0)] at hd
    rw [hd]; clear hd
    go_enter Try.func33, Try.ntmps33
    go_wp2
    go_ret
    exact ⟨rfl, rfl⟩
  · have g0 : decide (r < 0) = false := by simp; omega
    by_cases h1 : 15 < r
    · rw [if_pos (.inr (.inl h1))] at hd
      rw [hd]; clear hd
      have g1 : decide ((16 : Int) ≤ r) = true := by simp; omega
      go_enter Try.func33, Try.ntmps33
      go_wp2
      go_ret
      exact ⟨rfl, rfl⟩
    · have g1 : decide ((16 : Int) ≤ r) = false := by simp; omega
      by_cases h2 : n < 1
      · rw [if_pos (.inr (.inr (.inl h2)))] at hd
        rw [hd]; clear hd
        have g2 : decide (n < 1) = true := by simp; omega
        go_enter Try.func33, Try.ntmps33
        go_wp2
        go_ret
        exact ⟨rfl, rfl⟩
      · have g2 : decide (n < 1) = false := by simp; omega
        by_cases h3 : 1099511627776 < n
        · rw [if_pos (.inr (.inr (.inr h3)))] at hd
          rw [hd]; clear hd
          have g3 : decide ((1099511627776 : Int) < n) = true := by simp; omega
          go_enter Try.func33, Try.ntmps33
          go_wp2
          go_ret
          exact ⟨rfl, rfl⟩
        · rw [if_neg (by omega)] at hd
          rw [hd]; clear hd
          have g3 : decide ((1099511627776 : Int) < n) = false := by simp; omega
          go_enter Try.func33, Try.ntmps33
          go_wp2
          go_ret
          exact ⟨rfl, rfl⟩

set_option maxHeartbeats 1000000 in
set_option maxRecDepth 100000 in
theorem checkR (d : Dt) (w : World) : Calls Try.prog 30 #[.agg #[.int .i64 d.1, .int .i64 d.2]] w fun e w' => e = .returned (.int .i64 (chkD d)) ∧ boxD w d = w' := by
  obtain ⟨r, n⟩ := d
  have hd : chkD (r, n) = if r < 0 ∨ 15 < r ∨ n < 1 ∨ 1099511627776 < n then 2 else 0 := rfl
  unfold boxD
  simp only at *
  by_cases h0 : r < 0
  · rw [if_pos (.inl h0)] at hd
    rw [hd]; clear hd
    go_enter Try.func30, Try.ntmps30
    go_wp2
    go_ret
    exact ⟨rfl, rfl⟩
  · have g0 : decide (r < 0) = false := by simp; omega
    by_cases h1 : 15 < r
    · rw [if_pos (.inr (.inl h1))] at hd
      rw [hd]; clear hd
      have g1 : decide ((15 : Int) < r) = true := by simp; omega
      go_enter Try.func30, Try.ntmps30
      go_wp2
      go_ret
      exact ⟨rfl, rfl⟩
    · have g1 : decide ((15 : Int) < r) = false := by simp; omega
      by_cases h2 : n < 1
      · rw [if_pos (.inr (.inr (.inl h2)))] at hd
        rw [hd]; clear hd
        have g2 : decide (n < 1) = true := by simp; omega
        go_enter Try.func30, Try.ntmps30
        go_wp2
        go_ret
        exact ⟨rfl, rfl⟩
      · have g2 : decide (n < 1) = false := by simp; omega
        by_cases h3 : 1099511627776 < n
        · rw [if_pos (.inr (.inr (.inr h3)))] at hd
          rw [hd]; clear hd
          have g3 : decide ((1099511627776 : Int) < n) = true := by simp; omega
          go_enter Try.func30, Try.ntmps30
          go_wp2
          go_ret
          exact ⟨rfl, rfl⟩
        · rw [if_neg (by omega)] at hd
          rw [hd]; clear hd
          have g3 : decide ((1099511627776 : Int) < n) = false := by simp; omega
          go_enter Try.func30, Try.ntmps30
          go_wp2
          go_ret
          exact ⟨rfl, rfl⟩
end Go.Proofs.Ytcedliaeipabnaa
