/-
  Compare: the program's, and the document's.
-/
import Derived.Test.YtoiafhbembhppaaVecJoin
namespace Go.Proofs.Ytoiafhbembhppaa
open Go.RowKit

theorem two_rows (w : World) (a b : Vc) : VRow ((w.alloc (.cells (ics a) 39)).alloc (.cells (ics b) 39)) w.heap.size a ∧
    VRow ((w.alloc (.cells (ics a) 39)).alloc (.cells (ics b) 39)) (w.heap.size + 1) b ∧
    Below w.heap.size w ((w.alloc (.cells (ics a) 39)).alloc (.cells (ics b) 39)) := by
  have e1 : (w.alloc (.cells (ics a) 39)).heap.size = w.heap.size + 1 := by simp
  have h0 := VRow.new w a
  have h1 := VRow.new (w.alloc (.cells (ics a) 39)) b
  rw [e1] at h1
  exact ⟨h0.alloc _, h1, ((Below.refl _ _).alloc (Nat.le_refl _) _).alloc (by simp) _⟩

set_option maxHeartbeats 4000000 in
set_option maxRecDepth 100000 in
theorem vcmpC (a b : Vc) (ha : a.length = 16) (hb : b.length = 16) (w : World) : Calls Try.prog 23 #[.agg (ics a), .agg (ics b)] w fun e w' => e = .returned (.int .i64 (cmpV a b)) ∧ Below w.heap.size w w' := by
  have HA := Lib.hid ha
  have HB := Lib.hid hb
  have HW := Lib.hid (two_rows w a b)
  have hc : cmpV a b = if a = b then 0 else if joinV a b = b then -1 else if joinV a b = a then 1 else 2 := rfl
  have HCJ := Lib.hid (fun W => vjoinC a b ha hb W)
  have HJ := Lib.hid (joinV_len ha hb)
  have e1 := fun W => eqlV ha hb W
  have e2 := fun W => eqlV (joinV_len ha hb) hb W
  have e3 := fun W => eqlV (joinV_len ha hb) ha W
  clear ha hb
  generalize cmpV a b = c at *
  generalize joinV a b = j at *
  have ht : ∃ t1 t2 t3 : Bool, decide (a = b) = t1 ∧ decide (j = b) = t2 ∧ decide (j = a) = t3 ∧ c = if t1 then 0 else if t2 then -1 else if t3 then 1 else 2 :=
    ⟨_, _, _, rfl, rfl, rfl, by rw [hc]; simp⟩
  clear hc
  obtain ⟨t1, t2, t3, h1, h2, h3, hc⟩ := ht
  simp only [h1] at e1
  simp only [h2] at e2
  simp only [h3] at e3
  clear h1 h2 h3
  go_enter Try.func23, Try.ntmps23
  go_wp2_with (first
    | ((with_reducible refine vl_load ?_ (.tmp 2) ?_ w.heap.size a ?_ ?_ ?_ ?_); rfl; rfl; rfl; exact HW.out.1; exact HA.out)
    | ((with_reducible refine vl_load ?_ (.tmp 3) ?_ (w.heap.size + 1) b ?_ ?_ ?_ ?_); rfl; rfl; rfl; exact HW.out.2.1; exact HB.out))
  refine (HCJ.out _).mono ?_
  rintro e w1 ⟨rfl, hb1⟩
  have hb1' := HW.out.2.2.trans (hb1.mono HW.out.2.2.size)
  have hsz : w.heap.size + 1 < w1.heap.size := Nat.lt_of_lt_of_le HW.out.2.1.lt hb1.size
  have R0 := Lib.hid (((HW.out.1.keep hb1).alloc (.cells (ics j) 39)))
  have R1 := Lib.hid (((HW.out.2.1.keep hb1).alloc (.cells (ics j) 39)))
  have R5 := Lib.hid (VRow.new w1 j)
  have RB := Lib.hid (hb1'.alloc hb1'.size (.cells (ics j) 39))
  clear hb1 hb1' HW HCJ
  cases t1 <;> (try cases t2) <;> (try cases t3)
  all_goals
    simp only [if_true, Bool.false_eq_true, if_false] at hc
    subst hc
    go_wp2_with (first
      | ((with_reducible refine vl_store ?_ (.tmp 5) (.tmp 8) ?_ w1.heap.size j ?_ ?_ ?_ ?_ ?_); rfl; rfl; rfl; rfl; exact ⟨zV, VRow.new w1 zV, by rw [HJ.out]; rfl⟩; exact HJ.out; (rw [World.setRow_alloc_new]; generalize w1.alloc (.cells (ics j) 39) = w2 at R0 R1 R5 RB ⊢; generalize w1.heap.size = b5 at R5 hsz ⊢))
      | ((with_reducible refine vl_load ?_ (.tmp 2) ?_ w.heap.size a ?_ ?_ ?_ ?_); rfl; rfl; rfl; exact R0.out; exact HA.out)
      | ((with_reducible refine vl_load ?_ (.tmp 3) ?_ (w.heap.size + 1) b ?_ ?_ ?_ ?_); rfl; rfl; rfl; exact R1.out; exact HB.out)
      | ((with_reducible refine vl_load ?_ (.tmp 5) ?_ b5 j ?_ ?_ ?_ ?_); rfl; rfl; rfl; exact R5.out; exact HJ.out))
    go_ret
    exact ⟨rfl, RB.out⟩

set_option maxHeartbeats 4000000 in
set_option maxRecDepth 100000 in
theorem vcmpR (a b : Vc) (ha : a.length = 16) (hb : b.length = 16) (w : World) : Calls Try.prog 24 #[.agg (ics a), .agg (ics b)] w fun e w' => e = .returned (.int .i64 (cmpV a b)) ∧ Below w.heap.size w w' := by
  have HA := Lib.hid ha
  have HB := Lib.hid hb
  have HW := Lib.hid (two_rows w a b)
  have HC := Lib.hid (cmpV_ref ha hb)
  clear ha hb
  generalize cmpV a b = c at *
  go_enter Try.func24, Try.ntmps24
  go_wp2_with fail
  go_loopw [5, 6, 7] (fun l m i wr => ∃ k : Nat, i = .int .i64 k ∧ k ≤ 16 ∧ l = .bool (lessN a b k) ∧ m = .bool (lessN b a k) ∧ VRow wr w.heap.size a ∧ VRow wr (w.heap.size + 1) b ∧ Below w.heap.size w wr) (fun _ _ i _ => 16 - (intOf i).toNat)
  case atStart => exact ⟨0, rfl, by omega, rfl, rfl, HW.out.1, HW.out.2.1, HW.out.2.2⟩
  case round =>
    rename_i wr
    obtain ⟨k, rfl, hk, rfl, rfl, r0, r1, rB⟩ := hrel
    by_cases hlt : k < 16
    · have hca := r0.cell k (by rw [HA.out]; exact hlt)
      have hcb := r1.cell k (by rw [HB.out]; exact hlt)
      have hz0 := r0.lt
      have hz1 := r1.lt
      have hs1 : lessN a b (k + 1) = (lessN a b k || decide (a.getD k 0 < b.getD k 0)) := rfl
      have hs2 : lessN b a (k + 1) = (lessN b a k || decide (b.getD k 0 < a.getD k 0)) := rfl
      have R0 := Lib.hid r0
      have R1 := Lib.hid r1
      have RB := Lib.hid rB
      clear r0 r1 rB
      generalize a.getD k 0 = x at *
      generalize b.getD k 0 = y at *
      generalize lessN a b k = t1 at *
      generalize lessN b a k = t2 at *
      have HS := Lib.hid (And.intro hs1 hs2)
      clear hs1 hs2
      cases t1 <;> cases t2
      all_goals
        go_wp2_with fail
        go_quiet (fail)
        go_wp2_with fail
        go_quiet (fail)
        go_wp2_with fail
        go_roundw
        case rel => exact ⟨k + 1, by go_num, by omega, by rw [HS.out.1]; rfl, by rw [HS.out.2]; rfl, R0.out, R1.out, belowN RB.out _⟩
        case measure => simp [intOf]; omega
    · obtain rfl : k = 16 := by omega
      have hc := HC.out
      generalize lessN a b 16 = t1 at *
      generalize lessN b a 16 = t2 at *
      clear r0 r1 HC
      cases t1 <;> cases t2
      all_goals
        simp only [if_true, Bool.false_eq_true, if_false] at hc
        have HC := Lib.hid hc
        clear hc
        go_wp2_with fail
        go_ret
        exact ⟨by rw [HC.out]; rfl, rB⟩
end Go.Proofs.Ytoiafhbembhppaa
