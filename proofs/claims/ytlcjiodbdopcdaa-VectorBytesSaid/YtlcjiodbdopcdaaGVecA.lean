/-
  Compare: the program's, and the document's.
  almonrylaw12: awake.
  almonrylaw12: the walk of VectorBytes.
-/
import Derived.Test.YtlcjiodbdopcdaaVecJoin
import Derived.Test.YtlcjiodbdopcdaaGCauI
import Derived.Test.YtlcjiodbdopcdaaVecPut
import Derived.Test.YtlcjiodbdopcdaaGCauO
namespace Go.Proofs.Ytlcjiodbdopcdaa
open Go.RowKit

theorem two_rows (w : World) (a b : Vc) : VRow ((w.alloc (.cells (ics a) 35)).alloc (.cells (ics b) 35)) w.heap.size a ∧
    VRow ((w.alloc (.cells (ics a) 35)).alloc (.cells (ics b) 35)) (w.heap.size + 1) b ∧
    Below w.heap.size w ((w.alloc (.cells (ics a) 35)).alloc (.cells (ics b) 35)) := by
  have e1 : (w.alloc (.cells (ics a) 35)).heap.size = w.heap.size + 1 := by simp
  have h0 := VRow.new w a
  have h1 := VRow.new (w.alloc (.cells (ics a) 35)) b
  rw [e1] at h1
  exact ⟨h0.alloc _, h1, ((Below.refl _ _).alloc (Nat.le_refl _) _).alloc (by simp) _⟩

set_option maxHeartbeats 4000000 in
set_option maxRecDepth 100000 in
theorem vcmpC (a b : Vc) (ha : a.length = 16) (hb : b.length = 16) (w : World) : Calls Try.prog 56 #[.agg (ics a), .agg (ics b)] w fun e w' => e = .returned (.int .i64 (cmpV a b)) ∧ Below w.heap.size w w' := by
  have HA := Lib.hid ha
  have HB := Lib.hid hb
  have HW := Lib.hid (two_rows w a b)
  have hc : cmpV a b = if a = b then 0 else if joinV a b = b then -1 else if joinV a b = a then 1 else 2 := rfl
  have HCJ := Lib.hid (fun W => vjoinC a b ha hb W)
  have HJ := Lib.hid (joinV_len ha hb)
  have e1 := fun W => eqlV ha hb W
  have e2 := fun W => eqlV (joinV_len ha hb) hb W
  have e3 := fun W => eqlV (joinV_len ha hb) ha W
  clear ha hb
  generalize cmpV a b = c at *
  generalize joinV a b = j at *
  have ht : ∃ t1 t2 t3 : Bool, decide (a = b) = t1 ∧ decide (j = b) = t2 ∧ decide (j = a) = t3 ∧ c = if t1 then 0 else if t2 then -1 else if t3 then 1 else 2 :=
    ⟨_, _, _, rfl, rfl, rfl, by rw [hc]; simp⟩
  clear hc
  obtain ⟨t1, t2, t3, h1, h2, h3, hc⟩ := ht
  simp only [h1] at e1
  simp only [h2] at e2
  simp only [h3] at e3
  clear h1 h2 h3
  go_enter Try.func56, Try.ntmps56
  go_wp2_with (first
    | ((with_reducible refine vl_load ?_ (.tmp 2) ?_ w.heap.size a ?_ ?_ ?_ ?_); rfl; rfl; rfl; exact HW.out.1; exact HA.out)
    | ((with_reducible refine vl_load ?_ (.tmp 3) ?_ (w.heap.size + 1) b ?_ ?_ ?_ ?_); rfl; rfl; rfl; exact HW.out.2.1; exact HB.out))
  refine (HCJ.out _).mono ?_
  rintro e w1 ⟨rfl, hb1⟩
  have hb1' := HW.out.2.2.trans (hb1.mono HW.out.2.2.size)
  have hsz : w.heap.size + 1 < w1.heap.size := Nat.lt_of_lt_of_le HW.out.2.1.lt hb1.size
  have R0 := Lib.hid (((HW.out.1.keep hb1).alloc (.cells (ics j) 35)))
  have R1 := Lib.hid (((HW.out.2.1.keep hb1).alloc (.cells (ics j) 35)))
  have R5 := Lib.hid (VRow.new w1 j)
  have RB := Lib.hid (hb1'.alloc hb1'.size (.cells (ics j) 35))
  clear hb1 hb1' HW HCJ
  cases t1 <;> (try cases t2) <;> (try cases t3)
  all_goals
    simp only [if_true, Bool.false_eq_true, if_false] at hc
    subst hc
    go_wp2_with (first
      | ((with_reducible refine vl_store ?_ (.tmp 5) (.tmp 8) ?_ w1.heap.size j ?_ ?_ ?_ ?_ ?_); rfl; rfl; rfl; rfl; exact ⟨zV, VRow.new w1 zV, by rw [HJ.out]; rfl⟩; exact HJ.out; (rw [World.setRow_alloc_new]; generalize w1.alloc (.cells (ics j) 35) = w2 at R0 R1 R5 RB ⊢; generalize w1.heap.size = b5 at R5 hsz ⊢))
      | ((with_reducible refine vl_load ?_ (.tmp 2) ?_ w.heap.size a ?_ ?_ ?_ ?_); rfl; rfl; rfl; exact R0.out; exact HA.out)
      | ((with_reducible refine vl_load ?_ (.tmp 3) ?_ (w.heap.size + 1) b ?_ ?_ ?_ ?_); rfl; rfl; rfl; exact R1.out; exact HB.out)
      | ((with_reducible refine vl_load ?_ (.tmp 5) ?_ b5 j ?_ ?_ ?_ ?_); rfl; rfl; rfl; exact R5.out; exact HJ.out))
    go_ret
    exact ⟨rfl, RB.out⟩

end Go.Proofs.Ytlcjiodbdopcdaa

namespace Go.Proofs.Ytlcjiodbdopcdaa
open Go.RowKit Go.Sort

def awA : Vc := [1, 0, 0, 0, 0, 0, 0, 0, 0, 0, 0, 0, 0, 0, 0, 0]
def awB : Vc := [0, 1, 0, 0, 0, 0, 0, 0, 0, 0, 0, 0, 0, 0, 0, 0]
def awJ : Vc := [1, 1, 0, 0, 0, 0, 0, 0, 0, 0, 0, 0, 0, 0, 0, 0]
def awN : Vc := [-1, 0, 0, 0, 0, 0, 0, 0, 0, 0, 0, 0, 0, 0, 0, 0]
def awS : ByteArray := ⟨#[1, 0, 0, 0, 0, 0, 0, 0, 0, 0, 0, 0, 0, 0, 0, 0]⟩
def awX : ByteArray := ⟨#[1, 0, 0, 0, 0, 0, 0, 0, 0, 0, 0, 0, 0, 0, 0, 0, 120]⟩
theorem aw_put : putV awA = (awS, 0) := by decide +kernel
theorem aw_neg : putV awN = (⟨#[]⟩, 2) := by decide +kernel
theorem aw_read : readV awS = (awA, 0) := read_putV rfl aw_put
theorem aw_long : readV awX = (zV, 5) := by decide +kernel
theorem aw_cmp : cmpV awA awB = 2 := by decide +kernel
theorem aw_join : joinV awA awB = awJ := by decide +kernel
theorem aw_meet : meetV awA awB = zV := by decide +kernel
theorem aw_has : hasV awA (0, 1) = true := by decide +kernel
theorem aw_not : hasV awA (0, 2) = false := by decide +kernel
theorem aw_add (W : World) : (Op.stringOp .add awS ⟨#[120]⟩).run Try.prog W = .ok (.string awX) W := by
  have h := run_string_add_sum (P := Try.prog) (w := W) awS ⟨#[120]⟩ (by decide)
  have e : awS ++ ⟨#[120]⟩ = awX := by decide +kernel
  rw [e] at h
  exact h

theorem aw_two (w : World) : ∃ X, (((w.alloc (.cells (ics zV) 35)).alloc (.cells (ics zV) 35)).setRow w.heap.size (ics awA)).setRow (w.heap.size + 1) (ics awB) = X ∧ VRow X w.heap.size awA ∧ VRow X (w.heap.size + 1) awB ∧ Below w.heap.size w X := by
  have v0 := (VRow.new w zV).alloc (.cells (ics zV) 35)
  have v1 := VRow.new (w.alloc (.cells (ics zV) 35)) zV
  rw [World.size_alloc] at v1
  exact ⟨_, rfl, (VRow.of_put v0 awA).of_set (by omega) _, VRow.of_put (v1.of_set (by omega) _) awB, belowRow (belowRow (((Below.refl _ _).alloc (Nat.le_refl _) _).alloc (by simp) _) (Nat.le_refl _) _) (by omega) _⟩
/-- one vector more, as it was answered -/
theorem vec_new (w : World) (l : Vc) : (w.alloc (.cells (ics zV) 35)).setRow w.heap.size (ics l) = boxV w l := World.setRow_alloc_new _ _ _ _
attribute [irreducible] awA awB awJ awN awS awX

set_option maxHeartbeats 4000000 in
set_option maxRecDepth 100000 in
theorem vecAwake (w : World) : Calls Try.prog 16 #[] w fun e w' => e = .returned (.bool true) ∧ Below w.heap.size w w' := by
  obtain ⟨lA, lB, lJ, lN⟩ : awA.length = 16 ∧ awB.length = 16 ∧ awJ.length = 16 ∧ awN.length = 16 := ⟨by decide +kernel, by decide +kernel, by decide +kernel, by decide +kernel⟩
  have HL := Lib.hid (And.intro lA (And.intro lB (And.intro lJ lN)))
  have hadd := aw_add
  have he1 := fun W => eqlV (a := awJ) (b := awJ) lJ lJ W
  have he2 := fun W => eqlV (a := zV) (b := zV) rfl rfl W
  have he3 := fun W => eqlV (a := awA) (b := awA) lA lA W
  simp only [decide_true] at he1 he2 he3
  obtain ⟨X, hX, x0, x1, xB⟩ := aw_two w
  have HX := Lib.hid (And.intro hX (And.intro x0 (And.intro x1 xB)))
  have HE := Lib.hid (And.intro he1 (And.intro he2 he3))
  clear lA lB lJ lN hX x0 x1 xB he1 he2 he3
  go_enter Try.func16, Try.ntmps16
  go_wp2_with (first
    | ((with_reducible refine vl_build ?_ 35 #[(0, .const (.int .i64 1))] ?_ (ics awA) ?_ ?_); rfl; rfl; kernel_rfl)
    | ((with_reducible refine vl_build ?_ 35 #[(0, .const (.int .i64 0)), (1, .const (.int .i64 1))] ?_ (ics awB) ?_ ?_); rfl; rfl; kernel_rfl)
    | ((with_reducible refine vl_store ?_ (.tmp 1) (.tmp 11) ?_ w.heap.size awA ?_ ?_ ?_ ?_ ?_); rfl; rfl; rfl; rfl; exact ⟨zV, (VRow.new w zV).alloc (.cells (ics zV) 35), HL.out.1.symm⟩; exact HL.out.1)
    | (
      (with_reducible refine vl_store ?_ (.tmp 2) (.tmp 12) ?_ (w.heap.size + 1) awB ?_ ?_ ?_ ?_ ?_)
      rfl
      rfl
      rfl
      rfl
      have v1 := VRow.new (w.alloc (.cells (ics zV) 35)) zV
      rw [World.size_alloc] at v1
      exact ⟨zV, v1.of_set (by omega) _, HL.out.2.1.symm⟩
      exact HL.out.2.1
      show wpList _ _ _ _ _ ((((w.alloc (.cells (ics zV) 35)).alloc (.cells (ics zV) 35)).setRow w.heap.size (ics awA)).setRow (w.heap.size + 1) (ics awB))
      rw [HX.out.1])
    | ((with_reducible refine vl_load ?_ (.tmp 1) ?_ w.heap.size awA ?_ ?_ ?_ ?_); rfl; rfl; rfl; exact HX.out.2.1; exact HL.out.1))
  have hsz : awS.size = 16 := by decide +kernel
  have HSZ := Lib.hid hsz
  clear hsz
  have hc1 := vputC awA HL.out.1 X
  rw [aw_put] at hc1
  refine Calls.mono hc1 ?_
  clear hc1
  rintro e w1 ⟨rfl, hb1⟩
  have H1 := Lib.hid (And.intro (HX.out.2.1.keep hb1) (And.intro (HX.out.2.2.1.keep hb1) (HX.out.2.2.2.trans (hb1.mono HX.out.2.2.2.size))))
  clear hb1 HX
  go_wp2_with fail
  have hc2 := vreadC awS (by rw [HSZ.out]; decide) w1
  rw [aw_read] at hc2
  refine Calls.mono hc2 ?_
  clear hc2
  rintro e w2 ⟨rfl, hb2⟩
  obtain ⟨w3, hw3⟩ : ∃ x, boxV w2 awA = x := ⟨_, rfl⟩
  have hb2' : Below w1.heap.size w1 w3 := by rw [← hw3]; exact hb2.trans ((boxV_below w2 awA).mono hb2.size)
  have hn3 : VRow w3 w2.heap.size awA := by rw [← hw3]; exact VRow.new w2 awA
  have HW3 := Lib.hid hw3
  have H2 := Lib.hid (And.intro (H1.out.1.keep hb2') (And.intro (H1.out.2.1.keep hb2') (And.intro hn3 (H1.out.2.2.trans (hb2'.mono H1.out.2.2.size)))))
  clear hb2 hb2' H1 hw3 hn3
  go_wp2_with (
      (with_reducible refine vl_store ?_ (.tmp 5) (.tmp 21) ?_ w2.heap.size awA ?_ ?_ ?_ ?_ ?_)
      rfl
      rfl
      rfl
      rfl
      exact ⟨zV, VRow.new w2 zV, HL.out.1.symm⟩
      exact HL.out.1
      show wpList _ _ _ _ _ ((w2.alloc (.cells (ics zV) 35)).setRow w2.heap.size (ics awA))
      rw [vec_new, HW3.out])
  have hc3 := vreadC awX (by have : awX.size = 17 := by decide +kernel
                             omega) w3
  rw [aw_long] at hc3
  refine Calls.mono hc3 ?_
  clear hc3 HW3
  rintro e w4 ⟨rfl, hb4⟩
  obtain ⟨w5, hw5⟩ : ∃ x, boxV w4 zV = x := ⟨_, rfl⟩
  have hb4' : Below w3.heap.size w3 w5 := by rw [← hw5]; exact hb4.trans ((boxV_below w4 zV).mono hb4.size)
  have HW5 := Lib.hid hw5
  have H4 := Lib.hid (And.intro (H2.out.1.keep hb4') (And.intro (H2.out.2.1.keep hb4') (And.intro (H2.out.2.2.1.keep hb4') (H2.out.2.2.2.trans (hb4'.mono H2.out.2.2.2.size)))))
  clear hb4 hb4' H2 hw5
  go_wp2_with (first
    | (
      (with_reducible refine vl_store ?_ (.tmp 7) (.tmp 27) ?_ w4.heap.size zV ?_ ?_ ?_ ?_ ?_)
      rfl
      rfl
      rfl
      rfl
      exact ⟨zV, VRow.new w4 zV, (rfl : zV.length = 16).symm⟩
      exact (rfl : zV.length = 16)
      show wpList _ _ _ _ _ ((w4.alloc (.cells (ics zV) 35)).setRow w4.heap.size (ics zV))
      rw [vec_new, HW5.out])
    | ((with_reducible refine vl_build ?_ 35 #[(0, .const (.int .i64 (-1)))] ?_ (ics awN) ?_ ?_); rfl; rfl; kernel_rfl))
  have hc5 := vputC awN HL.out.2.2.2 w5
  rw [aw_neg] at hc5
  refine Calls.mono hc5 ?_
  clear hc5 HW5
  rintro e w6 ⟨rfl, hb6⟩
  have H6 := Lib.hid (And.intro (H4.out.1.keep hb6) (And.intro (H4.out.2.1.keep hb6) (And.intro (H4.out.2.2.1.keep hb6) (H4.out.2.2.2.trans (hb6.mono H4.out.2.2.2.size)))))
  clear hb6 H4
  go_wp2_with (first
    | ((with_reducible refine vl_load ?_ (.tmp 1) ?_ w.heap.size awA ?_ ?_ ?_ ?_); rfl; rfl; rfl; exact H6.out.1; exact HL.out.1)
    | ((with_reducible refine vl_load ?_ (.tmp 2) ?_ (w.heap.size + 1) awB ?_ ?_ ?_ ?_); rfl; rfl; rfl; exact H6.out.2.1; exact HL.out.2.1))
  have hc7 := vcmpC awA awB HL.out.1 HL.out.2.1 w6
  rw [aw_cmp] at hc7
  refine Calls.mono hc7 ?_
  clear hc7
  rintro e w7 ⟨rfl, hb7⟩
  have H7 := Lib.hid (And.intro (H6.out.1.keep hb7) (And.intro (H6.out.2.1.keep hb7) (And.intro (H6.out.2.2.1.keep hb7) (H6.out.2.2.2.trans (hb7.mono H6.out.2.2.2.size)))))
  clear hb7 H6
  go_wp2_with (first
    | ((with_reducible refine vl_loadg ?_ (.tmp 1) ?_ w.heap.size awA ?_ ?_ ?_ ?_); rfl; rfl; rfl; exact H7.out.1; exact HL.out.1)
    | ((with_reducible refine vl_loadg ?_ (.tmp 2) ?_ (w.heap.size + 1) awB ?_ ?_ ?_ ?_); rfl; rfl; rfl; exact H7.out.2.1; exact HL.out.2.1))
  have hc8 := vjoinC awA awB HL.out.1 HL.out.2.1 w7
  rw [aw_join] at hc8
  refine Calls.mono hc8 ?_
  clear hc8
  rintro e w8 ⟨rfl, hb8⟩
  have H8 := Lib.hid (And.intro (H7.out.1.keep hb8) (And.intro (H7.out.2.1.keep hb8) (And.intro (H7.out.2.2.1.keep hb8) (H7.out.2.2.2.trans (hb8.mono H7.out.2.2.2.size)))))
  clear hb8 H7
  have he1 := HE.out.1
  go_wp2_with (first
    | ((with_reducible refine vl_build ?_ 35 #[(0, .const (.int .i64 1)), (1, .const (.int .i64 1))] ?_ (ics awJ) ?_ ?_); rfl; rfl; kernel_rfl)
    | ((with_reducible refine vl_loadg ?_ (.tmp 1) ?_ w.heap.size awA ?_ ?_ ?_ ?_); rfl; rfl; rfl; exact H8.out.1; exact HL.out.1)
    | ((with_reducible refine vl_loadg ?_ (.tmp 2) ?_ (w.heap.size + 1) awB ?_ ?_ ?_ ?_); rfl; rfl; rfl; exact H8.out.2.1; exact HL.out.2.1))
  have hc9 := vmeetC awA awB HL.out.1 HL.out.2.1 w8
  rw [aw_meet] at hc9
  refine Calls.mono hc9 ?_
  clear hc9 he1
  rintro e w9 ⟨rfl, hb9⟩
  have H9 := Lib.hid (And.intro (H8.out.1.keep hb9) (And.intro (H8.out.2.1.keep hb9) (And.intro (H8.out.2.2.1.keep hb9) (H8.out.2.2.2.trans (hb9.mono H8.out.2.2.2.size)))))
  clear hb9 H8
  have he2 := HE.out.2.1
  have he3 := HE.out.2.2
  have hsz := HSZ.out
  go_wp2_with (first
    | ((with_reducible refine vl_build ?_ 35 #[] ?_ (ics zV) ?_ ?_); rfl; rfl; kernel_rfl)
    | ((with_reducible refine vl_loadg ?_ (.tmp 1) ?_ w.heap.size awA ?_ ?_ ?_ ?_); rfl; rfl; rfl; exact H9.out.1; exact HL.out.1)
    | ((with_reducible refine vl_loadg ?_ (.tmp 2) ?_ (w.heap.size + 1) awB ?_ ?_ ?_ ?_); rfl; rfl; rfl; exact H9.out.2.1; exact HL.out.2.1)
    | ((with_reducible refine vl_loadg ?_ (.tmp 5) ?_ w2.heap.size awA ?_ ?_ ?_ ?_); rfl; rfl; rfl; exact H9.out.2.2.1; exact HL.out.1))
  have hca := vhasC awA (0, 1) HL.out.1 w9
  rw [aw_has] at hca
  refine Calls.mono hca ?_
  clear hca he2 he3 hsz
  rintro e wa ⟨rfl, hba⟩
  have HA := Lib.hid (And.intro (H9.out.1.keep hba) (H9.out.2.2.2.trans (hba.mono H9.out.2.2.2.size)))
  clear hba H9
  go_wp2_with ((with_reducible refine vl_loadg ?_ (.tmp 1) ?_ w.heap.size awA ?_ ?_ ?_ ?_); rfl; rfl; rfl; exact HA.out.1; exact HL.out.1)
  have hcb := vhasC awA (0, 2) HL.out.1 wa
  rw [aw_not] at hcb
  refine Calls.mono hcb ?_
  clear hcb
  rintro e wb ⟨rfl, hbb⟩
  have HB := Lib.hid (HA.out.2.trans (hbb.mono HA.out.2.size))
  clear hbb HA
  go_wp2_with fail
  go_ret
  exact ⟨rfl, HB.out⟩
end Go.Proofs.Ytlcjiodbdopcdaa

namespace Go.Proofs.Ytlcjiodbdopcdaa
open Go.RowKit Go.Sort

theorem putV_small {l : Vc} (hl : l.length = 16) : (putV l).1.size ≤ 160 := by
  unfold putV
  split
  · rename_i h
    have h1 := encN_len (natV l) (natV_small h)
    rw [natV_len, hl] at h1
    exact h1
  · exact Nat.zero_le _
/-- what the statement holds in memory -/
structure Fb (w0 : World) (v c z : Vc) (b9 b11 b13 : Nat) (W : World) : Prop where
  rv : VRow W w0.heap.size v
  rc : VRow W b9 c
  rd : VRow W b11 c
  rw : VRow W b13 z
  lo : Below w0.heap.size w0 W
theorem Fb.keep {w0 : World} {v c z : Vc} {b9 b11 b13 : Nat} {W W' : World} (k : Fb w0 v c z b9 b11 b13 W) (hb : Below W.heap.size W W') : Fb w0 v c z b9 b11 b13 W' :=
  ⟨k.rv.keep hb, k.rc.keep hb, k.rd.keep hb, k.rw.keep hb, k.lo.trans (hb.mono k.lo.size)⟩

set_option maxHeartbeats 8000000 in
set_option maxRecDepth 100000 in
theorem bytes_row (v : Vc) (s : ByteArray) (w : World) (hv : v.length = 16) (hs : s.size ≤ maxLen) :
    Calls Try.prog 4 #[.agg (ics v), .string s] w fun e w' => e = .returned (.bool true) ∧ Below w.heap.size w w' := by
  unfold maxLen at hs
  have H0 := Lib.hid (And.intro (VRow.new w v) (boxV_below w v))
  by_cases hbig : 500 < s.size
  · have hbi : (500 : Int) < (s.size : Int) := by omega
    go_enter Try.func4, Try.ntmps4
    go_wp2_with fail
    refine (vecAwake _).mono ?_
    rintro e w1 ⟨rfl, hb1⟩
    have H1 := Lib.hid (H0.out.2.trans (hb1.mono H0.out.2.size))
    clear hb1
    go_wp2_with fail
    go_ret
    exact ⟨rfl, H1.out⟩
  have hbi : ¬ (500 : Int) < (s.size : Int) := by omega
  have HLv := Lib.hid hv
  have HLc := Lib.hid (readV_len s)
  have HLz := Lib.hid (readV_len (putV v).1)
  have HC1 := Lib.hid (fun W => vputC v hv W)
  have HC2 := Lib.hid (fun W => vputR v hv W)
  have HC3 := Lib.hid (fun W => vreadC s (by omega) W)
  have HC4 := Lib.hid (fun W => vreadR s (by omega) W)
  have HC5 := Lib.hid (fun W => vreadC (putV v).1 (by have := putV_small hv; omega) W)
  have HC6 := Lib.hid (fun W => vputC (readV s).1 (readV_len s) W)
  have hA : ∀ p : ByteArray, putV v = (p, 0) → readV p = (v, 0) := fun p h => read_putV hv h
  have hB : ∀ c : Vc, readV s = (c, 0) → putV c = (s, 0) := fun c h => put_readV h
  generalize putV v = P at *
  obtain ⟨p, e1⟩ := P
  simp only at HLz HC1 HC2 HC5 hA
  generalize readV s = R at *
  obtain ⟨c, e2⟩ := R
  simp only at HLc HC3 HC4 HC6 hB
  have hA' : e1 = 0 → readV p = (v, 0) := fun h => hA p (by rw [h])
  have hB' : e2 = 0 → putV c = (s, 0) := fun h => hB c (by rw [h])
  generalize readV p = Z at *
  obtain ⟨z, e3⟩ := Z
  generalize putV c = T at *
  obtain ⟨y, e4⟩ := T
  simp only at HLz HC5 HC6
  clear hA hB hv
  have q1 := fun W => eqlV HLc.out HLc.out W
  have q2 := fun W => eqlV HLv.out HLv.out W
  simp only [decide_true] at q1 q2
  have HQ := Lib.hid (And.intro q1 q2)
  have HA := Lib.hid (And.intro hA' hB')
  clear q1 q2 hA' hB'
  go_enter Try.func4, Try.ntmps4
  go_wp2_with ((with_reducible refine vl_loadg ?_ (.tmp 2) ?_ w.heap.size v ?_ ?_ ?_ ?_); rfl; rfl; rfl; exact H0.out.1; exact HLv.out)
  refine (HC1.out _).mono ?_
  rintro e w1 ⟨rfl, hb⟩
  have H1 := Lib.hid (And.intro (H0.out.1.keep hb) (H0.out.2.trans (hb.mono H0.out.2.size)))
  clear hb H0 HC1
  go_wp2_with ((with_reducible refine vl_loadg ?_ (.tmp 2) ?_ w.heap.size v ?_ ?_ ?_ ?_); rfl; rfl; rfl; exact H1.out.1; exact HLv.out)
  refine (HC2.out _).mono ?_
  rintro e w2 ⟨rfl, hb⟩
  have H2 := Lib.hid (And.intro (H1.out.1.keep hb) (H1.out.2.trans (hb.mono H1.out.2.size)))
  clear hb H1 HC2
  go_wp2_with fail
  refine (HC3.out _).mono ?_
  rintro e wa ⟨rfl, hb⟩
  obtain ⟨w3, hw3⟩ : ∃ x, boxV wa c = x := ⟨_, rfl⟩
  have hbx : Below w2.heap.size w2 w3 := by rw [← hw3]; exact hb.trans ((boxV_below wa c).mono hb.size)
  have hnx : VRow w3 wa.heap.size c := by rw [← hw3]; exact VRow.new wa c
  have HW3 := Lib.hid hw3
  have H3 := Lib.hid (And.intro (H2.out.1.keep hbx) (And.intro hnx (H2.out.2.trans (hbx.mono H2.out.2.size))))
  clear hb hbx hnx hw3 H2 HC3
  go_wp2_with (
      (with_reducible refine vl_store ?_ (.tmp 9) (.tmp 34) ?_ wa.heap.size c ?_ ?_ ?_ ?_ ?_)
      rfl
      rfl
      rfl
      rfl
      exact ⟨zV, VRow.new wa zV, HLc.out.symm⟩
      exact HLc.out
      show wpList _ _ _ _ _ ((wa.alloc (.cells (ics zV) 35)).setRow wa.heap.size (ics c))
      rw [vec_new, HW3.out])
  clear HW3
  generalize wa.heap.size = b9 at *
  refine (HC4.out _).mono ?_
  rintro e wb ⟨rfl, hb⟩
  obtain ⟨w4, hw4⟩ : ∃ x, boxV wb c = x := ⟨_, rfl⟩
  have hbx : Below w3.heap.size w3 w4 := by rw [← hw4]; exact hb.trans ((boxV_below wb c).mono hb.size)
  have hnx : VRow w4 wb.heap.size c := by rw [← hw4]; exact VRow.new wb c
  have HW4 := Lib.hid hw4
  have H4 := Lib.hid (And.intro (H3.out.1.keep hbx) (And.intro (H3.out.2.1.keep hbx) (And.intro hnx (H3.out.2.2.trans (hbx.mono H3.out.2.2.size)))))
  clear hb hbx hnx hw4 H3 HC4
  go_wp2_with (
      (with_reducible refine vl_store ?_ (.tmp 11) (.tmp 39) ?_ wb.heap.size c ?_ ?_ ?_ ?_ ?_)
      rfl
      rfl
      rfl
      rfl
      exact ⟨zV, VRow.new wb zV, HLc.out.symm⟩
      exact HLc.out
      show wpList _ _ _ _ _ ((wb.alloc (.cells (ics zV) 35)).setRow wb.heap.size (ics c))
      rw [vec_new, HW4.out])
  clear HW4
  generalize wb.heap.size = b11 at *
  refine (HC5.out _).mono ?_
  rintro e wc ⟨rfl, hb⟩
  obtain ⟨w5, hw5⟩ : ∃ x, boxV wc z = x := ⟨_, rfl⟩
  have hbx : Below w4.heap.size w4 w5 := by rw [← hw5]; exact hb.trans ((boxV_below wc z).mono hb.size)
  have hnx : VRow w5 wc.heap.size z := by rw [← hw5]; exact VRow.new wc z
  have HW5 := Lib.hid hw5
  have H5 := Lib.hid (Fb.mk (H4.out.1.keep hbx) (H4.out.2.1.keep hbx) (H4.out.2.2.1.keep hbx) hnx (H4.out.2.2.2.trans (hbx.mono H4.out.2.2.2.size)))
  clear hb hbx hnx hw5 H4 HC5
  go_wp2_with (first
    | (
      (with_reducible refine vl_store ?_ (.tmp 13) (.tmp 44) ?_ wc.heap.size z ?_ ?_ ?_ ?_ ?_)
      rfl
      rfl
      rfl
      rfl
      exact ⟨zV, VRow.new wc zV, HLz.out.symm⟩
      exact HLz.out
      show wpList _ _ _ _ _ ((wc.alloc (.cells (ics zV) 35)).setRow wc.heap.size (ics z))
      rw [vec_new, HW5.out])
    | ((with_reducible refine vl_loadg ?_ (.tmp 9) ?_ b9 c ?_ ?_ ?_ ?_); rfl; rfl; rfl; exact H5.out.rc; exact HLc.out))
  clear HW5
  generalize wc.heap.size = b13 at *
  refine (HC6.out _).mono ?_
  rintro e w6 ⟨rfl, hb⟩
  have H6 := Lib.hid (H5.out.keep hb)
  clear hb H5 HC6
  obtain ⟨q1, q2⟩ := HQ.out
  obtain ⟨hA, hB⟩ := HA.out
  have x1 : (e1 == e1) = true := by simp
  have x2 : (e2 == e2) = true := by simp
  clear HQ HA
  by_cases h1 : e1 = 0
  · obtain ⟨hz, he⟩ := Prod.mk.inj (hA h1)
    replace hz := hz.symm
    subst hz he
    subst h1
    clear hA
    by_cases h2 : e2 = 0
    · obtain ⟨hy, he4⟩ := Prod.mk.inj (hB h2)
      replace hy := hy.symm
      subst hy he4
      subst h2
      clear hB
      go_wp2_with (first
        | ((with_reducible refine vl_loadg ?_ (.tmp 2) ?_ w.heap.size v ?_ ?_ ?_ ?_); rfl; rfl; rfl; exact H6.out.rv; exact HLv.out)
        | ((with_reducible refine vl_loadg ?_ (.tmp 9) ?_ b9 c ?_ ?_ ?_ ?_); rfl; rfl; rfl; exact H6.out.rc; exact HLc.out)
        | ((with_reducible refine vl_loadg ?_ (.tmp 11) ?_ b11 c ?_ ?_ ?_ ?_); rfl; rfl; rfl; exact H6.out.rd; exact HLc.out)
        | ((with_reducible refine vl_loadg ?_ (.tmp 13) ?_ b13 v ?_ ?_ ?_ ?_); rfl; rfl; rfl; exact H6.out.rw; exact HLv.out))
      refine (vecAwake _).mono ?_
      rintro e w7 ⟨rfl, hb⟩
      have H7 := Lib.hid (H6.out.keep hb).lo
      clear hb
      go_wp2_with fail
      go_ret
      exact ⟨rfl, H7.out⟩
    · have y2 : (e2 != 0) = true := by simp [h2]
      clear hB h2
      go_wp2_with (first
        | ((with_reducible refine vl_loadg ?_ (.tmp 2) ?_ w.heap.size v ?_ ?_ ?_ ?_); rfl; rfl; rfl; exact H6.out.rv; exact HLv.out)
        | ((with_reducible refine vl_loadg ?_ (.tmp 9) ?_ b9 c ?_ ?_ ?_ ?_); rfl; rfl; rfl; exact H6.out.rc; exact HLc.out)
        | ((with_reducible refine vl_loadg ?_ (.tmp 11) ?_ b11 c ?_ ?_ ?_ ?_); rfl; rfl; rfl; exact H6.out.rd; exact HLc.out)
        | ((with_reducible refine vl_loadg ?_ (.tmp 13) ?_ b13 v ?_ ?_ ?_ ?_); rfl; rfl; rfl; exact H6.out.rw; exact HLv.out))
      refine (vecAwake _).mono ?_
      rintro e w7 ⟨rfl, hb⟩
      have H7 := Lib.hid (H6.out.keep hb).lo
      clear hb
      go_wp2_with fail
      go_ret
      exact ⟨rfl, H7.out⟩
  · have y1 : (e1 != 0) = true := by simp [h1]
    clear hA h1
    by_cases h2 : e2 = 0
    · obtain ⟨hy, he4⟩ := Prod.mk.inj (hB h2)
      replace hy := hy.symm
      subst hy he4
      subst h2
      clear hB
      go_wp2_with (first
        | ((with_reducible refine vl_loadg ?_ (.tmp 2) ?_ w.heap.size v ?_ ?_ ?_ ?_); rfl; rfl; rfl; exact H6.out.rv; exact HLv.out)
        | ((with_reducible refine vl_loadg ?_ (.tmp 9) ?_ b9 c ?_ ?_ ?_ ?_); rfl; rfl; rfl; exact H6.out.rc; exact HLc.out)
        | ((with_reducible refine vl_loadg ?_ (.tmp 11) ?_ b11 c ?_ ?_ ?_ ?_); rfl; rfl; rfl; exact H6.out.rd; exact HLc.out)
        | ((with_reducible refine vl_loadg ?_ (.tmp 13) ?_ b13 z ?_ ?_ ?_ ?_); rfl; rfl; rfl; exact H6.out.rw; exact HLz.out))
      refine (vecAwake _).mono ?_
      rintro e w7 ⟨rfl, hb⟩
      have H7 := Lib.hid (H6.out.keep hb).lo
      clear hb
      go_wp2_with fail
      go_ret
      exact ⟨rfl, H7.out⟩
    · have y2 : (e2 != 0) = true := by simp [h2]
      clear hB h2
      go_wp2_with (first
        | ((with_reducible refine vl_loadg ?_ (.tmp 2) ?_ w.heap.size v ?_ ?_ ?_ ?_); rfl; rfl; rfl; exact H6.out.rv; exact HLv.out)
        | ((with_reducible refine vl_loadg ?_ (.tmp 9) ?_ b9 c ?_ ?_ ?_ ?_); rfl; rfl; rfl; exact H6.out.rc; exact HLc.out)
        | ((with_reducible refine vl_loadg ?_ (.tmp 11) ?_ b11 c ?_ ?_ ?_ ?_); rfl; rfl; rfl; exact H6.out.rd; exact HLc.out)
        | ((with_reducible refine vl_loadg ?_ (.tmp 13) ?_ b13 z ?_ ?_ ?_ ?_); rfl; rfl; rfl; exact H6.out.rw; exact HLz.out))
      refine (vecAwake _).mono ?_
      rintro e w7 ⟨rfl, hb⟩
      have H7 := Lib.hid (H6.out.keep hb).lo
      clear hb
      go_wp2_with fail
      go_ret
      exact ⟨rfl, H7.out⟩
end Go.Proofs.Ytlcjiodbdopcdaa
