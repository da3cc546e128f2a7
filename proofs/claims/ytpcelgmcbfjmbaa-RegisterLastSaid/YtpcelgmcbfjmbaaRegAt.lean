/-
  almonrylaw17: at, the facts of awake.
-/
import Derived.Test.YtpcelgmcbfjmbaaRegUse
namespace Go.Proofs.Ytpcelgmcbfjmbaa
set_option linter.unusedSimpArgs false
set_option linter.unusedVariables false
set_option maxRecDepth 100000
open Go.RowKit Go.Sort

/-! awake -/
def atF (t k : Int) (v : ByteArray) : Ft := ⟨(0, t), ⟨t, 0, 0⟩, k, ⟨#[97]⟩, v⟩
set_option maxHeartbeats 1000000 in
theorem atC (t k : Int) (v : ByteArray) (w : World) : Calls Try.prog 19 #[.int .i64 t, .int .i64 k, .string v] w fun e w' => e = .returned (.agg (fcs (atF t k v)).toArray) ∧ Below w.heap.size w w' := by
  have HB := Lib.hid (boxZ_below w (atF t k v))
  have HR := Lib.hid (boxZ_row w (atF t k v))
  go_enter Try.func19, Try.ntmps19
  go_wp2_with ((with_reducible refine fl_store ?_ (.tmp 6) (.tmp 13) ?_ w.heap.size (atF t k v) ?_ ?_ ?_ ?_); rfl; rfl; rfl; rfl; exact boxZ_old w)
  refine bodyPost_ret (results_cell_row rfl _ _ w.heap.size 39 (fcs (atF t k v)).toArray (0, 0) _ rfl HR.out Try.underlying39 rfl factSize) rfl ?_
  exact ⟨rfl, HB.out⟩

theorem build4F (a b c d : Ft) (w : World) : (Instr.buildSlice 22 4 #[(0, .agg (fcs a).toArray), (1, .agg (fcs b).toArray), (2, .agg (fcs c).toArray), (3, .agg (fcs d).toArray)]).run Try.prog w = .ok (.slice (some ⟨w.heap.size, 0, none⟩) 4 4) (w.alloc (.cells (rowF [a, b, c, d]).toArray 39)) := by
  obtain ⟨i0, hi, hz0, hz1, hz2⟩ := info_parts factInfo
  refine run_buildSlice w 22 39 4 _ (rowF [a, b, c, d]).toArray i0 zeroF Try.underlying22 hi hz0 (by rw [hz1]; decide) (by rw [hz1]; decide) ?_
  rw [hz1]
  kernel_rfl
theorem wpList_build4F {ops : Array Oper} {rest : List Oper} {o : Oper} {a : Act} {w : World} {Q : Exit → Act → World → Prop} (hgd : o.guard = none) (x y z u : Operand) (ho : o.op = .buildSlice 22 4 #[(0, x), (1, y), (2, z), (3, u)]) (f g h i : Ft)
    (hx : a.eval x = .agg (fcs f).toArray) (hy : a.eval y = .agg (fcs g).toArray) (hz : a.eval z = .agg (fcs h).toArray) (hu : a.eval u = .agg (fcs i).toArray)
    (hk : wpList Try.prog ops Q rest (a.put o.dst (.slice (some ⟨w.heap.size, 0, none⟩) 4 4)) (w.alloc (.cells (rowF [f, g, h, i]).toArray 39))) : wpList Try.prog ops Q (o :: rest) a w := by
  refine wpList_plain hgd fun K hK => ?_
  have e : (#[(0, x), (1, y), (2, z), (3, u)] : Array (Nat × Operand)).map (fun (i, x) => (i, a.eval x)) = #[(0, .agg (fcs f).toArray), (1, .agg (fcs g).toArray), (2, .agg (fcs h).toArray), (3, .agg (fcs i).toArray)] := by simp [hx, hy, hz, hu]
  unfold Oper.wp execOp
  simp only [ho, Sem.run_bind]
  rw [e, build4F]
  exact hK _ _ hk
def wB3 : Ft := atF 3 3 ⟨#[98]⟩
def wA1 : Ft := atF 1 3 ⟨#[97]⟩
def wB2 : Ft := atF 2 3 ⟨#[98]⟩
def wZ9 : Ft := atF 9 2 ⟨#[122]⟩
abbrev wL : List Ft := [wB3, wA1, wB2, wZ9]
abbrev wM : List Ft := [wB3, wA1, wB2]
theorem w_of3 : ofR 3 ⟨#[97]⟩ wL = wM := by decide +kernel
theorem w_of0 : ofR 0 ⟨#[97]⟩ wL = wL := by decide +kernel
theorem w_ofn : ofR 0 ⟨#[98]⟩ wL = [] := by decide +kernel
theorem w_ord : OrderR wM [wA1, wB2, wB3] := by
  constructor
  · show [wA1, wB2, wB3].Perm [wB3, wA1, wB2]
    exact (List.perm_append_comm (l₁ := [wA1, wB2]) (l₂ := [wB3])).trans (.refl _)
  · show List.Pairwise _ _
    have h1 : ltR wB2 wA1 = false := by decide +kernel
    have h2 : ltR wB3 wA1 = false := by decide +kernel
    have h3 : ltR wB3 wB2 = false := by decide +kernel
    simp [h1, h2, h3]
theorem w_vals : [wA1, wB2, wB3].map (·.v) = [⟨#[97]⟩, ⟨#[98]⟩, ⟨#[98]⟩] := rfl
theorem w_last : lastR [wA1, wB2, wB3] = (⟨#[98]⟩, true) := rfl
theorem w_elem : ElemsR wM [⟨#[97]⟩, ⟨#[98]⟩] := by
  constructor
  · show List.Pairwise _ _
    have h1 : ltX ⟨#[97]⟩ ⟨#[98]⟩ = true := by decide +kernel
    simp [h1]
  · intro x
    have e1 : wB3.v = ⟨#[98]⟩ := rfl
    have e2 : wA1.v = ⟨#[97]⟩ := rfl
    have e3 : wB2.v = ⟨#[98]⟩ := rfl
    simp only [List.mem_cons, List.not_mem_nil, or_false, exists_eq_or_imp, exists_eq_left, e1, e2, e3]
    constructor
    · rintro (rfl | rfl)
      · exact .inr (.inl rfl)
      · exact .inl rfl
    · rintro (rfl | rfl | rfl)
      · exact .inr rfl
      · exact .inl rfl
      · exact .inr rfl
end Go.Proofs.Ytpcelgmcbfjmbaa
