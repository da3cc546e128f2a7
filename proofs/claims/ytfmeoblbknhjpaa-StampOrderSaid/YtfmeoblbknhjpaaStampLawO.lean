/-
  almonrylaw14: the walk of StampOrder.
-/
import Derived.Test.YtfmeoblbknhjpaaStampAwake
namespace Go.Proofs.Ytfmeoblbknhjpaa
open Go.RowKit Go.Sort
set_option maxRecDepth 100000

set_option maxHeartbeats 4000000 in
theorem order_row (a b c : St) (w : World) :
    Calls Try.prog 5 #[sv a, sv b, sv c] w fun e w' => e = .returned (.bool true) ∧ Below w.heap.size w w' := by
  have cX := fun W => lessC a b W
  have cY := fun W => lessC b a W
  have cZ := fun W => lessC b c W
  have cV := fun W => lessC a c W
  have hq := fun W => eqlS a b W
  have hw : ∃ t1 t2 t3 t4 t5 : Bool, ltS a b = t1 ∧ ltS b a = t2 ∧ decide (a = b) = t3 ∧ ltS b c = t4 ∧ ltS a c = t5 ∧
      ((t1 = true ∧ t2 = false ∧ t3 = false ∧ ((t4 = true ∧ t5 = true) ∨ t4 = false)) ∨ (t1 = false ∧ t2 = true ∧ t3 = false) ∨ (t1 = false ∧ t2 = false ∧ t3 = true)) := by
    refine ⟨_, _, _, _, _, rfl, rfl, rfl, rfl, rfl, ?_⟩
    rcases ltS_tri a b with h | h | h
    · refine .inl ⟨h.1, h.2.1, h.2.2, ?_⟩
      cases h4 : ltS b c with
      | true => exact .inl ⟨rfl, ltS_trans h.1 h4⟩
      | false => exact .inr rfl
    · exact .inr (.inl h)
    · exact .inr (.inr h)
  obtain ⟨t1, t2, t3, t4, t5, e1, e2, e3, e4, e5, hw⟩ := hw
  rw [e1] at cX
  rw [e2] at cY
  rw [e4] at cZ
  rw [e5] at cV
  simp only [e3] at hq
  clear e1 e2 e3 e4 e5
  have hr : SRow (boxS (boxS (boxS w a) b) c) w.heap.size a ∧ SRow (boxS (boxS (boxS w a) b) c) (w.heap.size + 1) b ∧ SRow (boxS (boxS (boxS w a) b) c) (w.heap.size + 2) c := by
    refine ⟨((SRow.new w a).alloc _).alloc _, ?_, ?_⟩
    · have h := (SRow.new (boxS w a) b).alloc (.cells #[.int .i64 c.t, .int .i64 c.c, .int .i64 c.r] 23)
      rw [boxS_size] at h
      exact h
    · have h := SRow.new (boxS (boxS w a) b) c
      rw [boxS_size, boxS_size] at h
      exact h
  have hbx : Below w.heap.size w (boxS (boxS (boxS w a) b) c) := belowMore (belowMore (below1 w _) _) _
  obtain ⟨at', ac, ar⟩ := a
  obtain ⟨bt, bc, br⟩ := b
  obtain ⟨ct, cc, cr⟩ := c
  unfold sv
  simp only at cX cY cZ cV hq ⊢
  go_enter Try.func5, Try.ntmps5
  go_upto_region 1 with fail
  change Code.wp _ _ _ _ (boxS (boxS (boxS w ⟨at', ac, ar⟩) ⟨bt, bc, br⟩) ⟨ct, cc, cr⟩)
  generalize boxS (boxS (boxS w ⟨at', ac, ar⟩) ⟨bt, bc, br⟩) ⟨ct, cc, cr⟩ = w3 at hr hbx ⊢
  obtain ⟨a0, a1, a2⟩ := hr.1.three
  obtain ⟨b0, b1, b2⟩ := hr.2.1.three
  simp only at a0 a1 a2 b0 b1 b2
  have ra0 := fun d os => cell_regrown a0 d os
  have ra1 := fun d os => cell_regrown a1 d os
  have ra2 := fun d os => cell_regrown a2 d os
  have rb0 := fun d os => cell_regrown b0 d os
  have rb1 := fun d os => cell_regrown b1 d os
  have rb2 := fun d os => cell_regrown b2 d os
  have HCX := Lib.hid (fun d os => Calls.regrown_of (cX (grow (redrawn w3 d) os)))
  have HCY := Lib.hid (fun d os => Calls.regrown_of (cY (grow (redrawn w3 d) os)))
  have HX := Lib.hid cX
  have HZ := Lib.hid cZ
  have HV := Lib.hid cV
  have HR := Lib.hid hr
  have HB := Lib.hid hbx
  clear cX cY cZ cV a0 a1 a2 b0 b1 b2 hr hbx
  rcases hw with ⟨rfl, rfl, rfl, hw⟩ | ⟨rfl, rfl, rfl⟩ | ⟨rfl, rfl, rfl⟩
  all_goals
    refine wp_region_quiet_below (by kernel_rfl) (by kernel_rfl) ?_
    repeat (first | go_big_quiet_step ((go_at_call 12; first | (with_reducible exact HCX.out _ _) | (with_reducible exact HCY.out _ _))) | quiet_step ((go_at_call 12; first | (with_reducible exact HCX.out _ _) | (with_reducible exact HCY.out _ _))))
    refine wpQuiet_nil ?_
    intro _ hw'
    obtain ⟨⟨dq, osq⟩, hw''⟩ := hw'
    subst hw''
    have hb9 := below_regrown w3 dq osq
    have HB9 := Lib.hid (HB.out.trans (hb9.mono HB.out.size))
    have HR9 := Lib.hid (And.intro (HR.out.1.keep hb9) (And.intro (HR.out.2.1.keep hb9) (HR.out.2.2.keep hb9)))
    obtain ⟨a0, a1, a2⟩ := HR9.out.1.three
    obtain ⟨b0, b1, b2⟩ := HR9.out.2.1.three
    simp only at a0 a1 a2 b0 b1 b2
    clear hb9 ra0 ra1 ra2 rb0 rb1 rb2 HCX HCY hq
    generalize grow (redrawn w3 dq) osq = W at *
    go_wp2_with fail
    refine (HX.out W).mono ?_
    rintro e W1 ⟨rfl, hb1⟩
    have HB1 := Lib.hid (HB9.out.trans (hb1.mono HB9.out.size))
    have HR1 := Lib.hid (And.intro (HR9.out.1.keep hb1) (And.intro (HR9.out.2.1.keep hb1) (HR9.out.2.2.keep hb1)))
    clear hb1 a0 a1 a2 b0 b1 b2 HB9 HR9
  · obtain ⟨b0, b1, b2⟩ := HR1.out.2.1.three
    obtain ⟨c0, c1, c2⟩ := HR1.out.2.2.three
    simp only at b0 b1 b2 c0 c1 c2
    rcases hw with ⟨rfl, rfl⟩ | rfl
    · go_wp2_with fail
      refine (HZ.out W1).mono ?_
      rintro e W2 ⟨rfl, hb2⟩
      have HB2 := Lib.hid (HB1.out.trans (hb2.mono HB1.out.size))
      have HR2 := Lib.hid (And.intro (HR1.out.1.keep hb2) (HR1.out.2.2.keep hb2))
      clear hb2 b0 b1 b2 c0 c1 c2 HR1 HB1
      obtain ⟨a0, a1, a2⟩ := HR2.out.1.three
      obtain ⟨c0, c1, c2⟩ := HR2.out.2.three
      simp only at a0 a1 a2 c0 c1 c2
      go_wp2_with fail
      refine (HV.out W2).mono ?_
      rintro e W3 ⟨rfl, hb3⟩
      have HB3 := Lib.hid (HB2.out.trans (hb3.mono HB2.out.size))
      clear hb3 HB2 a0 a1 a2 c0 c1 c2
      go_wp2_with fail
      refine (stampAwake W3).mono ?_
      rintro e W4 ⟨rfl, hb4⟩
      have HB4 := Lib.hid (HB3.out.trans (hb4.mono HB3.out.size))
      clear hb4
      go_wp2_with fail
      go_ret
      exact ⟨rfl, HB4.out⟩
    · go_wp2_with fail
      refine (HZ.out W1).mono ?_
      rintro e W2 ⟨rfl, hb2⟩
      have HB2 := Lib.hid (HB1.out.trans (hb2.mono HB1.out.size))
      clear hb2 b0 b1 b2 c0 c1 c2 HR1 HB1
      go_wp2_with fail
      refine (stampAwake W2).mono ?_
      rintro e W4 ⟨rfl, hb4⟩
      have HB4 := Lib.hid (HB2.out.trans (hb4.mono HB2.out.size))
      clear hb4
      go_wp2_with fail
      go_ret
      exact ⟨rfl, HB4.out⟩
  all_goals
    go_wp2_with fail
    refine (stampAwake W1).mono ?_
    rintro e W4 ⟨rfl, hb4⟩
    have HB4 := Lib.hid (HB1.out.trans (hb4.mono HB1.out.size))
    clear hb4
    go_wp2_with fail
    go_ret
    exact ⟨rfl, HB4.out⟩
end Go.Proofs.Ytfmeoblbknhjpaa