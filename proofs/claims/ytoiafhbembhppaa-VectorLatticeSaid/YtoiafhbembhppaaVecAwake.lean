/-
  almonrylaw12: awake.
-/
import Derived.Test.YtoiafhbembhppaaVecCmp
import Derived.Test.YtoiafhbembhppaaVecHas
import Derived.Test.YtoiafhbembhppaaVecPut
import Derived.Test.YtoiafhbembhppaaVecRdR
namespace Go.Proofs.Ytoiafhbembhppaa
open Go.RowKit Go.Sort

def awA : Vc := [1, 0, 0, 0, 0, 0, 0, 0, 0, 0, 0, 0, 0, 0, 0, 0]
def awB : Vc := [0, 1, 0, 0, 0, 0, 0, 0, 0, 0, 0, 0, 0, 0, 0, 0]
def awJ : Vc := [1, 1, 0, 0, 0, 0, 0, 0, 0, 0, 0, 0, 0, 0, 0, 0]
def awN : Vc := [-1, 0, 0, 0, 0, 0, 0, 0, 0, 0, 0, 0, 0, 0, 0, 0]
def awS : ByteArray := ⟨#[1, 0, 0, 0, 0, 0, 0, 0, 0, 0, 0, 0, 0, 0, 0, 0]⟩
def awX : ByteArray := ⟨#[1, 0, 0, 0, 0, 0, 0, 0, 0, 0, 0, 0, 0, 0, 0, 0, 120]⟩
theorem aw_put : putV awA = (awS, 0) := by decide +kernel
theorem aw_neg : putV awN = (⟨#[]⟩, 2) := by decide +kernel
theorem aw_read : readV awS = (awA, 0) := read_putV rfl aw_put
theorem aw_long : readV awX = (zV, 5) := by decide +kernel
theorem aw_cmp : cmpV awA awB = 2 := by decide +kernel
theorem aw_join : joinV awA awB = awJ := by decide +kernel
theorem aw_meet : meetV awA awB = zV := by decide +kernel
theorem aw_has : hasV awA (0, 1) = true := by decide +kernel
theorem aw_not : hasV awA (0, 2) = false := by decide +kernel
theorem aw_add (W : World) : (Op.stringOp .add awS ⟨#[120]⟩).run Try.prog W = .ok (.string awX) W := by
  have h := run_string_add_sum (P := Try.prog) (w := W) awS ⟨#[120]⟩ (by decide)
  have e : awS ++ ⟨#[120]⟩ = awX := by decide +kernel
  rw [e] at h
  exact h

theorem aw_two (w : World) : ∃ X, (((w.alloc (.cells (ics zV) 39)).alloc (.cells (ics zV) 39)).setRow w.heap.size (ics awA)).setRow (w.heap.size + 1) (ics awB) = X ∧ VRow X w.heap.size awA ∧ VRow X (w.heap.size + 1) awB ∧ Below w.heap.size w X := by
  have v0 := (VRow.new w zV).alloc (.cells (ics zV) 39)
  have v1 := VRow.new (w.alloc (.cells (ics zV) 39)) zV
  rw [World.size_alloc] at v1
  exact ⟨_, rfl, (VRow.of_put v0 awA).of_set (by omega) _, VRow.of_put (v1.of_set (by omega) _) awB, belowRow (belowRow (((Below.refl _ _).alloc (Nat.le_refl _) _).alloc (by simp) _) (Nat.le_refl _) _) (by omega) _⟩
/-- one vector more, as it was answered -/
theorem vec_new (w : World) (l : Vc) : (w.alloc (.cells (ics zV) 39)).setRow w.heap.size (ics l) = boxV w l := World.setRow_alloc_new _ _ _ _
attribute [irreducible] awA awB awJ awN awS awX

set_option maxHeartbeats 4000000 in
set_option maxRecDepth 100000 in
theorem vecAwake (w : World) : Calls Try.prog 27 #[] w fun e w' => e = .returned (.bool true) ∧ Below w.heap.size w w' := by
  obtain ⟨lA, lB, lJ, lN⟩ : awA.length = 16 ∧ awB.length = 16 ∧ awJ.length = 16 ∧ awN.length = 16 := ⟨by decide +kernel, by decide +kernel, by decide +kernel, by decide +kernel⟩
  have HL := Lib.hid (And.intro lA (And.intro lB (And.intro lJ lN)))
  have hadd := aw_add
  have he1 := fun W => eqlV (a := awJ) (b := awJ) lJ lJ W
  have he2 := fun W => eqlV (a := zV) (b := zV) rfl rfl W
  have he3 := fun W => eqlV (a := awA) (b := awA) lA lA W
  simp only [decide_true] at he1 he2 he3
  obtain ⟨X, hX, x0, x1, xB⟩ := aw_two w
  have HX := Lib.hid (And.intro hX (And.intro x0 (And.intro x1 xB)))
  have HE := Lib.hid (And.intro he1 (And.intro he2 he3))
  clear lA lB lJ lN hX x0 x1 xB he1 he2 he3
  go_enter Try.func27, Try.ntmps27
  go_wp2_with (first
    | ((with_reducible refine vl_build ?_ 39 #[(0, .const (.int .i64 1))] ?_ (ics awA) ?_ ?_); rfl; rfl; kernel_rfl)
    | ((with_reducible refine vl_build ?_ 39 #[(0, .const (.int .i64 0)), (1, .const (.int .i64 1))] ?_ (ics awB) ?_ ?_); rfl; rfl; kernel_rfl)
    | ((with_reducible refine vl_store ?_ (.tmp 1) (.tmp 11) ?_ w.heap.size awA ?_ ?_ ?_ ?_ ?_); rfl; rfl; rfl; rfl; exact ⟨zV, (VRow.new w zV).alloc (.cells (ics zV) 39), HL.out.1.symm⟩; exact HL.out.1)
    | (
      (with_reducible refine vl_store ?_ (.tmp 2) (.tmp 12) ?_ (w.heap.size + 1) awB ?_ ?_ ?_ ?_ ?_)
      rfl
      rfl
      rfl
      rfl
      have v1 := VRow.new (w.alloc (.cells (ics zV) 39)) zV
      rw [World.size_alloc] at v1
      exact ⟨zV, v1.of_set (by omega) _, HL.out.2.1.symm⟩
      exact HL.out.2.1
      show wpList _ _ _ _ _ ((((w.alloc (.cells (ics zV) 39)).alloc (.cells (ics zV) 39)).setRow w.heap.size (ics awA)).setRow (w.heap.size + 1) (ics awB))
      rw [HX.out.1])
    | ((with_reducible refine vl_load ?_ (.tmp 1) ?_ w.heap.size awA ?_ ?_ ?_ ?_); rfl; rfl; rfl; exact HX.out.2.1; exact HL.out.1))
  have hsz : awS.size = 16 := by decide +kernel
  have HSZ := Lib.hid hsz
  clear hsz
  have hc1 := vputC awA HL.out.1 X
  rw [aw_put] at hc1
  refine Calls.mono hc1 ?_
  clear hc1
  rintro e w1 ⟨rfl, hb1⟩
  have H1 := Lib.hid (And.intro (HX.out.2.1.keep hb1) (And.intro (HX.out.2.2.1.keep hb1) (HX.out.2.2.2.trans (hb1.mono HX.out.2.2.2.size))))
  clear hb1 HX
  go_wp2_with fail
  have hc2 := vreadC awS (by rw [HSZ.out]; decide) w1
  rw [aw_read] at hc2
  refine Calls.mono hc2 ?_
  clear hc2
  rintro e w2 ⟨rfl, hb2⟩
  obtain ⟨w3, hw3⟩ : ∃ x, boxV w2 awA = x := ⟨_, rfl⟩
  have hb2' : Below w1.heap.size w1 w3 := by rw [← hw3]; exact hb2.trans ((boxV_below w2 awA).mono hb2.size)
  have hn3 : VRow w3 w2.heap.size awA := by rw [← hw3]; exact VRow.new w2 awA
  have HW3 := Lib.hid hw3
  have H2 := Lib.hid (And.intro (H1.out.1.keep hb2') (And.intro (H1.out.2.1.keep hb2') (And.intro hn3 (H1.out.2.2.trans (hb2'.mono H1.out.2.2.size)))))
  clear hb2 hb2' H1 hw3 hn3
  go_wp2_with (
      (with_reducible refine vl_store ?_ (.tmp 5) (.tmp 21) ?_ w2.heap.size awA ?_ ?_ ?_ ?_ ?_)
      rfl
      rfl
      rfl
      rfl
      exact ⟨zV, VRow.new w2 zV, HL.out.1.symm⟩
      exact HL.out.1
      show wpList _ _ _ _ _ ((w2.alloc (.cells (ics zV) 39)).setRow w2.heap.size (ics awA))
      rw [vec_new, HW3.out])
  have hc3 := vreadC awX (by have : awX.size = 17 := by decide +kernel
                             omega) w3
  rw [aw_long] at hc3
  refine Calls.mono hc3 ?_
  clear hc3 HW3
  rintro e w4 ⟨rfl, hb4⟩
  obtain ⟨w5, hw5⟩ : ∃ x, boxV w4 zV = x := ⟨_, rfl⟩
  have hb4' : Below w3.heap.size w3 w5 := by rw [← hw5]; exact hb4.trans ((boxV_below w4 zV).mono hb4.size)
  have HW5 := Lib.hid hw5
  have H4 := Lib.hid (And.intro (H2.out.1.keep hb4') (And.intro (H2.out.2.1.keep hb4') (And.intro (H2.out.2.2.1.keep hb4') (H2.out.2.2.2.trans (hb4'.mono H2.out.2.2.2.size)))))
  clear hb4 hb4' H2 hw5
  go_wp2_with (first
    | (
      (with_reducible refine vl_store ?_ (.tmp 7) (.tmp 27) ?_ w4.heap.size zV ?_ ?_ ?_ ?_ ?_)
      rfl
      rfl
      rfl
      rfl
      exact ⟨zV, VRow.new w4 zV, (rfl : zV.length = 16).symm⟩
      exact (rfl : zV.length = 16)
      show wpList _ _ _ _ _ ((w4.alloc (.cells (ics zV) 39)).setRow w4.heap.size (ics zV))
      rw [vec_new, HW5.out])
    | ((with_reducible refine vl_build ?_ 39 #[(0, .const (.int .i64 (-1)))] ?_ (ics awN) ?_ ?_); rfl; rfl; kernel_rfl))
  have hc5 := vputC awN HL.out.2.2.2 w5
  rw [aw_neg] at hc5
  refine Calls.mono hc5 ?_
  clear hc5 HW5
  rintro e w6 ⟨rfl, hb6⟩
  have H6 := Lib.hid (And.intro (H4.out.1.keep hb6) (And.intro (H4.out.2.1.keep hb6) (And.intro (H4.out.2.2.1.keep hb6) (H4.out.2.2.2.trans (hb6.mono H4.out.2.2.2.size)))))
  clear hb6 H4
  go_wp2_with (first
    | ((with_reducible refine vl_load ?_ (.tmp 1) ?_ w.heap.size awA ?_ ?_ ?_ ?_); rfl; rfl; rfl; exact H6.out.1; exact HL.out.1)
    | ((with_reducible refine vl_load ?_ (.tmp 2) ?_ (w.heap.size + 1) awB ?_ ?_ ?_ ?_); rfl; rfl; rfl; exact H6.out.2.1; exact HL.out.2.1))
  have hc7 := vcmpC awA awB HL.out.1 HL.out.2.1 w6
  rw [aw_cmp] at hc7
  refine Calls.mono hc7 ?_
  clear hc7
  rintro e w7 ⟨rfl, hb7⟩
  have H7 := Lib.hid (And.intro (H6.out.1.keep hb7) (And.intro (H6.out.2.1.keep hb7) (And.intro (H6.out.2.2.1.keep hb7) (H6.out.2.2.2.trans (hb7.mono H6.out.2.2.2.size)))))
  clear hb7 H6
  go_wp2_with (first
    | ((with_reducible refine vl_loadg ?_ (.tmp 1) ?_ w.heap.size awA ?_ ?_ ?_ ?_); rfl; rfl; rfl; exact H7.out.1; exact HL.out.1)
    | ((with_reducible refine vl_loadg ?_ (.tmp 2) ?_ (w.heap.size + 1) awB ?_ ?_ ?_ ?_); rfl; rfl; rfl; exact H7.out.2.1; exact HL.out.2.1))
  have hc8 := vjoinC awA awB HL.out.1 HL.out.2.1 w7
  rw [aw_join] at hc8
  refine Calls.mono hc8 ?_
  clear hc8
  rintro e w8 ⟨rfl, hb8⟩
  have H8 := Lib.hid (And.intro (H7.out.1.keep hb8) (And.intro (H7.out.2.1.keep hb8) (And.intro (H7.out.2.2.1.keep hb8) (H7.out.2.2.2.trans (hb8.mono H7.out.2.2.2.size)))))
  clear hb8 H7
  have he1 := HE.out.1
  go_wp2_with (first
    | ((with_reducible refine vl_build ?_ 39 #[(0, .const (.int .i64 1)), (1, .const (.int .i64 1))] ?_ (ics awJ) ?_ ?_); rfl; rfl; kernel_rfl)
    | ((with_reducible refine vl_loadg ?_ (.tmp 1) ?_ w.heap.size awA ?_ ?_ ?_ ?_); rfl; rfl; rfl; exact H8.out.1; exact HL.out.1)
    | ((with_reducible refine vl_loadg ?_ (.tmp 2) ?_ (w.heap.size + 1) awB ?_ ?_ ?_ ?_); rfl; rfl; rfl; exact H8.out.2.1; exact HL.out.2.1))
  have hc9 := vmeetC awA awB HL.out.1 HL.out.2.1 w8
  rw [aw_meet] at hc9
  refine Calls.mono hc9 ?_
  clear hc9 he1
  rintro e w9 ⟨rfl, hb9⟩
  have H9 := Lib.hid (And.intro (H8.out.1.keep hb9) (And.intro (H8.out.2.1.keep hb9) (And.intro (H8.out.2.2.1.keep hb9) (H8.out.2.2.2.trans (hb9.mono H8.out.2.2.2.size)))))
  clear hb9 H8
  have he2 := HE.out.2.1
  have he3 := HE.out.2.2
  have hsz := HSZ.out
  go_wp2_with (first
    | ((with_reducible refine vl_build ?_ 39 #[] ?_ (ics zV) ?_ ?_); rfl; rfl; kernel_rfl)
    | ((with_reducible refine vl_loadg ?_ (.tmp 1) ?_ w.heap.size awA ?_ ?_ ?_ ?_); rfl; rfl; rfl; exact H9.out.1; exact HL.out.1)
    | ((with_reducible refine vl_loadg ?_ (.tmp 2) ?_ (w.heap.size + 1) awB ?_ ?_ ?_ ?_); rfl; rfl; rfl; exact H9.out.2.1; exact HL.out.2.1)
    | ((with_reducible refine vl_loadg ?_ (.tmp 5) ?_ w2.heap.size awA ?_ ?_ ?_ ?_); rfl; rfl; rfl; exact H9.out.2.2.1; exact HL.out.1))
  have hca := vhasC awA (0, 1) HL.out.1 w9
  rw [aw_has] at hca
  refine Calls.mono hca ?_
  clear hca he2 he3 hsz
  rintro e wa ⟨rfl, hba⟩
  have HA := Lib.hid (And.intro (H9.out.1.keep hba) (H9.out.2.2.2.trans (hba.mono H9.out.2.2.2.size)))
  clear hba H9
  go_wp2_with ((with_reducible refine vl_loadg ?_ (.tmp 1) ?_ w.heap.size awA ?_ ?_ ?_ ?_); rfl; rfl; rfl; exact HA.out.1; exact HL.out.1)
  have hcb := vhasC awA (0, 2) HL.out.1 wa
  rw [aw_not] at hcb
  refine Calls.mono hcb ?_
  clear hcb
  rintro e wb ⟨rfl, hbb⟩
  have HB := Lib.hid (HA.out.2.trans (hbb.mono HA.out.2.size))
  clear hbb HA
  go_wp2_with fail
  go_ret
  exact ⟨rfl, HB.out⟩
end Go.Proofs.Ytoiafhbembhppaa
