/-
  almonrylaw11: the walk of DotOrder.
-/
import Derived.Test.YtoiafhbembhppaaDotAwake
namespace Go.Proofs.Ytoiafhbembhppaa
open Go.RowKit Go.Sort

set_option maxHeartbeats 4000000 in
set_option maxRecDepth 100000 in
theorem order_row (a b c : Dt) (w : World) :
    Calls Try.prog 4 #[.agg #[.int .i64 a.1, .int .i64 a.2], .agg #[.int .i64 b.1, .int .i64 b.2], .agg #[.int .i64 c.1, .int .i64 c.2]] w fun e w' => e = .returned (.bool true) ∧ Go.RowKit.Below w.heap.size w w' := by
  have cX := fun W => lessCb a b W
  have cY := fun W => lessCb b a W
  have cZ := fun W => lessCb b c W
  have cV := fun W => lessCb a c W
  have hq := fun W => eqlD a b W
  have hw : ∃ t1 t2 t3 t4 t5 : Bool, ltD a b = t1 ∧ ltD b a = t2 ∧ decide (a = b) = t3 ∧ ltD b c = t4 ∧ ltD a c = t5 ∧
      ((t1 = true ∧ t2 = false ∧ t3 = false ∧ ((t4 = true ∧ t5 = true) ∨ t4 = false)) ∨ (t1 = false ∧ t2 = true ∧ t3 = false) ∨ (t1 = false ∧ t2 = false ∧ t3 = true)) := by
    refine ⟨_, _, _, _, _, rfl, rfl, rfl, rfl, rfl, ?_⟩
    rcases ltD_tri a b with h | h | h
    · refine .inl ⟨h, ltD_asym h, decide_eq_false (fun e => ?_), ?_⟩
      · rw [e, ltD_irr] at h; cases h
      · cases h4 : ltD b c with
        | true => exact .inl ⟨rfl, ltD_trans h h4⟩
        | false => exact .inr rfl
    · refine .inr (.inr ⟨?_, ?_, decide_eq_true h⟩)
      · rw [h]; exact ltD_irr b
      · rw [h]; exact ltD_irr b
    · refine .inr (.inl ⟨ltD_asym h, h, decide_eq_false (fun e => ?_)⟩)
      rw [e, ltD_irr] at h; cases h
  obtain ⟨t1, t2, t3, t4, t5, e1, e2, e3, e4, e5, hw⟩ := hw
  rw [e1] at cX
  rw [e2] at cY
  rw [e4] at cZ
  rw [e5] at cV
  simp only [e3] at hq
  clear e1 e2 e3 e4 e5
  obtain ⟨ar, aq⟩ := a
  obtain ⟨br, bq⟩ := b
  obtain ⟨cr, cq⟩ := c
  simp only at cX cY cZ cV hq ⊢
  have hbox : Go.RowKit.Below w.heap.size w (boxD (boxD (boxD w (ar, aq)) (br, bq)) (cr, cq)) := (boxD2_below w (ar, aq) (br, bq)).trans ((boxD_below _ (cr, cq)).mono (by rw [boxD_size, boxD_size]; omega))
  have ka := boxD_below (boxD (boxD w (ar, aq)) (br, bq)) (cr, cq)
  have kb := boxD_below (boxD w (ar, aq)) (br, bq)
  unfold boxD at hbox ka kb
  have HBOX := Lib.hid hbox
  have c0 : ∀ k, k < 2 → ((((w.alloc (.cells #[.int .i64 ar, .int .i64 aq] 31)).alloc (.cells #[.int .i64 br, .int .i64 bq] 31)).alloc (.cells #[.int .i64 cr, .int .i64 cq] 31)).cell? ⟨w.heap.size, k, none⟩) = #[Value.int .i64 ar, .int .i64 aq][k]? := fun k hk => by
    rw [ka.cell (p := ⟨w.heap.size, k, none⟩) (by simp; omega), kb.cell (p := ⟨w.heap.size, k, none⟩) (by simp), Joins.cell_of_block (heap_alloc_new w _)]
  have c1 : ∀ k, k < 2 → ((((w.alloc (.cells #[.int .i64 ar, .int .i64 aq] 31)).alloc (.cells #[.int .i64 br, .int .i64 bq] 31)).alloc (.cells #[.int .i64 cr, .int .i64 cq] 31)).cell? ⟨w.heap.size + 1, k, none⟩) = #[Value.int .i64 br, .int .i64 bq][k]? := fun k hk => by
    have hn := heap_alloc_new (w.alloc (.cells #[.int .i64 ar, .int .i64 aq] 31)) (.cells #[.int .i64 br, .int .i64 bq] 31)
    rw [World.size_alloc] at hn
    rw [ka.cell (p := ⟨w.heap.size + 1, k, none⟩) (by simp), Joins.cell_of_block hn]
  have c2 : ∀ k, k < 2 → ((((w.alloc (.cells #[.int .i64 ar, .int .i64 aq] 31)).alloc (.cells #[.int .i64 br, .int .i64 bq] 31)).alloc (.cells #[.int .i64 cr, .int .i64 cq] 31)).cell? ⟨w.heap.size + 2, k, none⟩) = #[Value.int .i64 cr, .int .i64 cq][k]? := fun k hk => by
    have hn := heap_alloc_new ((w.alloc (.cells #[.int .i64 ar, .int .i64 aq] 31)).alloc (.cells #[.int .i64 br, .int .i64 bq] 31)) (.cells #[.int .i64 cr, .int .i64 cq] 31)
    rw [World.size_alloc, World.size_alloc] at hn
    rw [Joins.cell_of_block hn]
  have s0 : w.heap.size + 3 ≤ (((w.alloc (.cells #[.int .i64 ar, .int .i64 aq] 31)).alloc (.cells #[.int .i64 br, .int .i64 bq] 31)).alloc (.cells #[.int .i64 cr, .int .i64 cq] 31)).heap.size := by simp
  clear ka kb hbox
  go_enter Try.func4, Try.ntmps4
  go_upto_region 1 with fail
  generalize ((w.alloc (.cells #[.int .i64 ar, .int .i64 aq] 31)).alloc (.cells #[.int .i64 br, .int .i64 bq] 31)).alloc (.cells #[.int .i64 cr, .int .i64 cq] 31) = w3 at *
  have a0 := c0 0 (by omega)
  have a1 := c0 1 (by omega)
  have b0 := c1 0 (by omega)
  have b1 := c1 1 (by omega)
  have d0 := c2 0 (by omega)
  have d1 := c2 1 (by omega)
  simp only [List.getElem?_toArray, List.getElem?_cons_zero, List.getElem?_cons_succ] at a0 a1 b0 b1 d0 d1
  have ra0 := fun d os => cell_regrown a0 d os
  have ra1 := fun d os => cell_regrown a1 d os
  have rb0 := fun d os => cell_regrown b0 d os
  have rb1 := fun d os => cell_regrown b1 d os
  have HCX := Lib.hid (fun d os => Calls.regrown_of (cX (grow (redrawn w3 d) os)))
  have HCY := Lib.hid (fun d os => Calls.regrown_of (cY (grow (redrawn w3 d) os)))
  have HX := Lib.hid cX
  have HZ := Lib.hid cZ
  have HV := Lib.hid cV
  have HA := Lib.hid (And.intro (And.intro a0 a1) (And.intro (And.intro b0 b1) (And.intro d0 d1)))
  clear c0 c1 c2 cX cY cZ cV a0 a1 b0 b1 d0 d1
  rcases hw with ⟨rfl, rfl, rfl, hw⟩ | ⟨rfl, rfl, rfl⟩ | ⟨rfl, rfl, rfl⟩
  all_goals
    refine wp_region_quiet_below (by kernel_rfl) (by kernel_rfl) ?_
    repeat (first | go_big_quiet_step ((go_at_call 12; first | (with_reducible exact HCX.out _ _) | (with_reducible exact HCY.out _ _))) | quiet_step ((go_at_call 12; first | (with_reducible exact HCX.out _ _) | (with_reducible exact HCY.out _ _))))
    refine wpQuiet_nil ?_
    intro _ hw'
    obtain ⟨⟨dq, osq⟩, hw''⟩ := hw'
    subst hw''
    have hb9 := below_regrown w3 dq osq
    have HB9 := Lib.hid (HBOX.out.trans (hb9.mono (by omega)))
    have f0 := cell_regrown HA.out.1.1 dq osq
    have f1 := cell_regrown HA.out.1.2 dq osq
    have g0 := cell_regrown HA.out.2.1.1 dq osq
    have g1 := cell_regrown HA.out.2.1.2 dq osq
    have k0 := cell_regrown HA.out.2.2.1 dq osq
    have k1 := cell_regrown HA.out.2.2.2 dq osq
    have hs9 := hb9.size
    clear hb9 ra0 ra1 rb0 rb1 HCX HCY hq
    generalize grow (redrawn w3 dq) osq = W at *
    go_wp2_with fail
    refine (HX.out W).mono ?_
    rintro e W1 ⟨rfl, hb1⟩
    have HB1 := Lib.hid (HB9.out.trans (hb1.mono HB9.out.size))
    have g0' : W1.cell? ⟨w.heap.size + 1, 0, none⟩ = some (.int .i64 br) := by rw [hb1.cell (p := ⟨w.heap.size + 1, 0, none⟩) (by show w.heap.size + 1 < W.heap.size; omega)]; exact g0
    have g1' : W1.cell? ⟨w.heap.size + 1, 1, none⟩ = some (.int .i64 bq) := by rw [hb1.cell (p := ⟨w.heap.size + 1, 1, none⟩) (by show w.heap.size + 1 < W.heap.size; omega)]; exact g1
    have k0' : W1.cell? ⟨w.heap.size + 2, 0, none⟩ = some (.int .i64 cr) := by rw [hb1.cell (p := ⟨w.heap.size + 2, 0, none⟩) (by show w.heap.size + 2 < W.heap.size; omega)]; exact k0
    have k1' : W1.cell? ⟨w.heap.size + 2, 1, none⟩ = some (.int .i64 cq) := by rw [hb1.cell (p := ⟨w.heap.size + 2, 1, none⟩) (by show w.heap.size + 2 < W.heap.size; omega)]; exact k1
    have f0' : W1.cell? ⟨w.heap.size, 0, none⟩ = some (.int .i64 ar) := by rw [hb1.cell (p := ⟨w.heap.size, 0, none⟩) (by show w.heap.size < W.heap.size; omega)]; exact f0
    have f1' : W1.cell? ⟨w.heap.size, 1, none⟩ = some (.int .i64 aq) := by rw [hb1.cell (p := ⟨w.heap.size, 1, none⟩) (by show w.heap.size < W.heap.size; omega)]; exact f1
    have hs1 := hb1.size
    clear hb1 f0 f1 g0 g1 k0 k1 HB9
  · rcases hw with ⟨rfl, rfl⟩ | rfl
    · go_wp2_with fail
      refine (HZ.out W1).mono ?_
      rintro e W2 ⟨rfl, hb2⟩
      have HB2 := Lib.hid (HB1.out.trans (hb2.mono HB1.out.size))
      have k0 : W2.cell? ⟨w.heap.size + 2, 0, none⟩ = some (.int .i64 cr) := by rw [hb2.cell (p := ⟨w.heap.size + 2, 0, none⟩) (by show w.heap.size + 2 < W1.heap.size; omega)]; exact k0'
      have k1 : W2.cell? ⟨w.heap.size + 2, 1, none⟩ = some (.int .i64 cq) := by rw [hb2.cell (p := ⟨w.heap.size + 2, 1, none⟩) (by show w.heap.size + 2 < W1.heap.size; omega)]; exact k1'
      have f0 : W2.cell? ⟨w.heap.size, 0, none⟩ = some (.int .i64 ar) := by rw [hb2.cell (p := ⟨w.heap.size, 0, none⟩) (by show w.heap.size < W1.heap.size; omega)]; exact f0'
      have f1 : W2.cell? ⟨w.heap.size, 1, none⟩ = some (.int .i64 aq) := by rw [hb2.cell (p := ⟨w.heap.size, 1, none⟩) (by show w.heap.size < W1.heap.size; omega)]; exact f1'
      clear hb2 k0' k1' f0' f1' g0' g1' HB1
      go_wp2_with fail
      refine (HV.out W2).mono ?_
      rintro e W3 ⟨rfl, hb3⟩
      have HB3 := Lib.hid (HB2.out.trans (hb3.mono HB2.out.size))
      clear hb3 HB2
      go_wp2_with fail
      refine (dotAwake W3).mono ?_
      rintro e W4 ⟨rfl, hb4⟩
      have HB4 := Lib.hid (HB3.out.trans (hb4.mono HB3.out.size))
      clear hb4
      go_wp2_with fail
      go_ret
      exact ⟨rfl, HB4.out⟩
    · go_wp2_with fail
      refine (HZ.out W1).mono ?_
      rintro e W2 ⟨rfl, hb2⟩
      have HB2 := Lib.hid (HB1.out.trans (hb2.mono HB1.out.size))
      clear hb2 k0' k1' f0' f1' g0' g1' HB1
      go_wp2_with fail
      refine (dotAwake W2).mono ?_
      rintro e W4 ⟨rfl, hb4⟩
      have HB4 := Lib.hid (HB2.out.trans (hb4.mono HB2.out.size))
      clear hb4
      go_wp2_with fail
      go_ret
      exact ⟨rfl, HB4.out⟩
  all_goals
    go_wp2_with fail
    refine (dotAwake W1).mono ?_
    rintro e W4 ⟨rfl, hb4⟩
    have HB4 := Lib.hid (HB1.out.trans (hb4.mono HB1.out.size))
    clear hb4
    go_wp2_with fail
    go_ret
    exact ⟨rfl, HB4.out⟩
end Go.Proofs.Ytoiafhbembhppaa
