/-
  almonrylaw15: the walk of FactOrder.
-/
import Derived.Test.YtlcjiodbdopcdabFactAwk
import Derived.Test.YtlcjiodbdopcdabFactFew
namespace Go.Proofs.Ytlcjiodbdopcdab
open Go.RowKit Go.Sort
set_option maxRecDepth 100000

def box3F (w : World) (a b c : Ft) : World := boxF (boxF (boxF w a) b) c
theorem box3F_rows (w : World) (a b c : Ft) : FRow (box3F w a b c) w.heap.size a ∧ FRow (box3F w a b c) (w.heap.size + 1) b ∧ FRow (box3F w a b c) (w.heap.size + 1 + 1) c := by
  have h1 := FRow.new w a
  have h2 := FRow.new (boxF w a) b
  have h3 := FRow.new (boxF (boxF w a) b) c
  rw [boxF_size] at h2
  rw [boxF_size, boxF_size] at h3
  exact ⟨(h1.keep (boxF_gr _ b).below).keep (boxF_gr _ c).below, h2.keep (boxF_gr _ c).below, h3⟩
theorem box3F_below (w : World) (a b c : Ft) : Below w.heap.size w (box3F w a b c) := ((boxF_gr w a).trans ((boxF_gr _ b).trans (boxF_gr _ c))).below

set_option maxHeartbeats 8000000 in
theorem fact_order_row (a b c : Ft) (w : World) (ha : a.n.size ≤ maxLen ∧ a.v.size ≤ maxLen) (hb : b.n.size ≤ maxLen ∧ b.v.size ≤ maxLen) (hc : c.n.size ≤ maxLen ∧ c.v.size ≤ maxLen) :
    Calls Try.prog 3 #[.agg (fcs a).toArray, .agg (fcs b).toArray, .agg (fcs c).toArray] w fun e w' => e = .returned (.bool true) ∧ Below w.heap.size w w' := by
  have cX := fun W => lessFC a b W
  have cY := fun W => lessFC b a W
  have cZ := fun W => lessFC b c W
  have cV := fun W => lessFC a c W
  have hq := fun W => eqlF a b W
  have hfw := fun W (h : FIn W (some ⟨(box3F w a b c).heap.size, 0, none⟩) [a, b, c]) => fewC [a, b, c] (some ⟨(box3F w a b c).heap.size, 0, none⟩) 3 W h (by simp [maxLen]) (by simp; exact ⟨ha, hb, hc⟩)
  have hl3 : [a, b, c].length = 3 := rfl
  rw [hl3] at hfw
  have hw : ∃ t1 t2 t3 t4 t5 : Bool, ltF a b = t1 ∧ ltF b a = t2 ∧ decide (a = b) = t3 ∧ ltF b c = t4 ∧ ltF a c = t5 ∧
      ((t1 = true ∧ t2 = false ∧ t3 = false ∧ ((t4 = true ∧ t5 = true) ∨ t4 = false)) ∨ (t1 = false ∧ t2 = true ∧ t3 = false) ∨ (t1 = false ∧ t2 = false ∧ t3 = true)) := by
    refine ⟨_, _, _, _, _, rfl, rfl, rfl, rfl, rfl, ?_⟩
    rcases ltF_three a b with h | h | h
    · refine .inl ⟨h.1, h.2.1, h.2.2, ?_⟩
      cases h4 : ltF b c with
      | true => exact .inl ⟨rfl, ltF_trans h.1 h4⟩
      | false => exact .inr rfl
    · exact .inr (.inl h)
    · exact .inr (.inr h)
  obtain ⟨t1, t2, t3, t4, t5, e1, e2, e3, e4, e5, hw⟩ := hw
  rw [e1] at cX
  rw [e2] at cY
  rw [e4] at cZ
  rw [e5] at cV
  simp only [e3] at hq
  clear e1 e2 e3 e4 e5 ha hb hc hl3
  have hr := box3F_rows w a b c
  have hbx := box3F_below w a b c
  have HR := Lib.hid hr
  have HB := Lib.hid hbx
  have HX := Lib.hid cX
  have HY := Lib.hid cY
  have HZ := Lib.hid cZ
  have HV := Lib.hid cV
  have HFW := Lib.hid hfw
  have HQ := Lib.hid hq
  have HW := Lib.hid hw
  clear cX cY cZ cV hr hbx hfw hq hw
  generalize fewP [a, b, c] = few at HFW
  go_enter Try.func3, Try.ntmps3
  go_upto_region 1 with fail
  change Code.wp _ _ _ _ (box3F w a b c)
  generalize box3F w a b c = w3 at *
  go_wp2_with (first
      | ((with_reducible refine fl_load ?_ (.tmp 3) ?_ w.heap.size 0 a ?_ ?_ ?_); rfl; rfl; rfl; exact HR.out.1.range; simp only [Act.put, List.setIfInBounds_toArray, List.set_cons_zero, List.set_cons_succ])
      | ((with_reducible refine fl_load ?_ (.tmp 4) ?_ (w.heap.size + 1) 0 b ?_ ?_ ?_); rfl; rfl; rfl; exact HR.out.2.1.range; simp only [Act.put, List.setIfInBounds_toArray, List.set_cons_zero, List.set_cons_succ])
      | ((with_reducible refine fl_load ?_ (.tmp 5) ?_ (w.heap.size + 1 + 1) 0 c ?_ ?_ ?_); rfl; rfl; rfl; exact HR.out.2.2.range; simp only [Act.put, List.setIfInBounds_toArray, List.set_cons_zero, List.set_cons_succ])
      | ((with_reducible refine wpList_build3F ?_ (.tmp 7) (.tmp 8) (.tmp 9) ?_ a b c ?_ ?_ ?_ ?_); rfl; rfl; rfl; rfl; rfl; simp only [Act.put, List.setIfInBounds_toArray, List.set_cons_zero, List.set_cons_succ]))
  refine (HFW.out _ (fin_cells w3 [a, b, c])).mono ?_
  rintro e w4 ⟨rfl, rfl⟩
  have hb4 : Below w3.heap.size w3 (w3.alloc (.cells (rowF [a, b, c]).toArray 27)) := (Below.refl _ _).alloc (Nat.le_refl _) _
  have HB4 := Lib.hid (HB.out.trans (hb4.mono HB.out.size))
  have HR4 := Lib.hid (And.intro (HR.out.1.keep hb4) (And.intro (HR.out.2.1.keep hb4) (HR.out.2.2.keep hb4)))
  clear hb4 HR HB HFW
  generalize w3.alloc (.cells (rowF [a, b, c]).toArray 27) = w4 at *
  cases few with
  | false =>
    go_wp2_with fail
    refine (factAwake w4).mono ?_
    rintro e w5 ⟨rfl, hb5⟩
    have HB5 := Lib.hid (HB4.out.trans (hb5.mono HB4.out.size))
    clear hb5
    go_wp2_with fail
    go_ret
    exact ⟨rfl, HB5.out⟩
  | true =>
    have hq := HQ.out
    have hw := HW.out
    clear HQ HW
    go_upto_region 3 with fail
    have HRA := Lib.hid (range_regrown HR4.out.1.range HR4.out.1.lt)
    have HRB := Lib.hid (range_regrown HR4.out.2.1.range HR4.out.2.1.lt)
    have HCX := Lib.hid (fun d os => Calls.regrown_of (HX.out (grow (redrawn w4 d) os)))
    have HCY := Lib.hid (fun d os => Calls.regrown_of (HY.out (grow (redrawn w4 d) os)))
    clear HY
    rcases hw with ⟨rfl, rfl, rfl, hw⟩ | ⟨rfl, rfl, rfl⟩ | ⟨rfl, rfl, rfl⟩
    all_goals
      refine wp_region_quiet_below (by kernel_rfl) (by kernel_rfl) ?_
      repeat (first
        | ((with_reducible refine fq_load ?_ (.tmp 3) ?_ w.heap.size 0 a ?_ ?_ ?_); rfl; rfl; rfl; exact HRA.out; simp only [Act.put, List.setIfInBounds_toArray, List.set_cons_zero, List.set_cons_succ])
        | ((with_reducible refine fq_load ?_ (.tmp 4) ?_ (w.heap.size + 1) 0 b ?_ ?_ ?_); rfl; rfl; rfl; exact HRB.out; simp only [Act.put, List.setIfInBounds_toArray, List.set_cons_zero, List.set_cons_succ])
        | go_big_quiet_step ((go_at_call 6; first | (with_reducible exact HCX.out _ _) | (with_reducible exact HCY.out _ _)))
        | quiet_step ((go_at_call 6; first | (with_reducible exact HCX.out _ _) | (with_reducible exact HCY.out _ _))))
      refine wpQuiet_nil ?_
      intro _ hw'
      obtain ⟨⟨dq, osq⟩, hw''⟩ := hw'
      subst hw''
      have hb9 := below_regrown w4 dq osq
      have HB9 := Lib.hid (HB4.out.trans (hb9.mono HB4.out.size))
      have HR9 := Lib.hid (And.intro (HR4.out.1.keep hb9) (And.intro (HR4.out.2.1.keep hb9) (HR4.out.2.2.keep hb9)))
      clear hb9 HRA HRB HCX HCY hq HB4 HR4
      generalize grow (redrawn w4 dq) osq = W at *
      go_wp2_with (first
      | ((with_reducible refine fl_loadg ?_ (.tmp 3) ?_ w.heap.size 0 a ?_ ?_ ?_); rfl; rfl; rfl; exact HR9.out.1.range; simp only [Act.put, List.setIfInBounds_toArray, List.set_cons_zero, List.set_cons_succ])
      | ((with_reducible refine fl_loadg ?_ (.tmp 4) ?_ (w.heap.size + 1) 0 b ?_ ?_ ?_); rfl; rfl; rfl; exact HR9.out.2.1.range; simp only [Act.put, List.setIfInBounds_toArray, List.set_cons_zero, List.set_cons_succ])
      | ((with_reducible refine fl_loadg ?_ (.tmp 5) ?_ (w.heap.size + 1 + 1) 0 c ?_ ?_ ?_); rfl; rfl; rfl; exact HR9.out.2.2.range; simp only [Act.put, List.setIfInBounds_toArray, List.set_cons_zero, List.set_cons_succ]))
      refine (HX.out W).mono ?_
      rintro e W1 ⟨rfl, hb1⟩
      have HB1 := Lib.hid (HB9.out.trans (hb1.mono HB9.out.size))
      have HR1 := Lib.hid (And.intro (HR9.out.1.keep hb1) (And.intro (HR9.out.2.1.keep hb1) (HR9.out.2.2.keep hb1)))
      clear hb1 HB9 HR9
    · rcases hw with ⟨rfl, rfl⟩ | rfl
      · go_wp2_with (first
      | ((with_reducible refine fl_loadg ?_ (.tmp 3) ?_ w.heap.size 0 a ?_ ?_ ?_); rfl; rfl; rfl; exact HR1.out.1.range; simp only [Act.put, List.setIfInBounds_toArray, List.set_cons_zero, List.set_cons_succ])
      | ((with_reducible refine fl_loadg ?_ (.tmp 4) ?_ (w.heap.size + 1) 0 b ?_ ?_ ?_); rfl; rfl; rfl; exact HR1.out.2.1.range; simp only [Act.put, List.setIfInBounds_toArray, List.set_cons_zero, List.set_cons_succ])
      | ((with_reducible refine fl_loadg ?_ (.tmp 5) ?_ (w.heap.size + 1 + 1) 0 c ?_ ?_ ?_); rfl; rfl; rfl; exact HR1.out.2.2.range; simp only [Act.put, List.setIfInBounds_toArray, List.set_cons_zero, List.set_cons_succ]))
        refine (HZ.out W1).mono ?_
        rintro e W2 ⟨rfl, hb2⟩
        have HB2 := Lib.hid (HB1.out.trans (hb2.mono HB1.out.size))
        have HR2 := Lib.hid (And.intro (HR1.out.1.keep hb2) (And.intro (HR1.out.2.1.keep hb2) (HR1.out.2.2.keep hb2)))
        clear hb2 HR1 HB1
        go_wp2_with (first
      | ((with_reducible refine fl_loadg ?_ (.tmp 3) ?_ w.heap.size 0 a ?_ ?_ ?_); rfl; rfl; rfl; exact HR2.out.1.range; simp only [Act.put, List.setIfInBounds_toArray, List.set_cons_zero, List.set_cons_succ])
      | ((with_reducible refine fl_loadg ?_ (.tmp 4) ?_ (w.heap.size + 1) 0 b ?_ ?_ ?_); rfl; rfl; rfl; exact HR2.out.2.1.range; simp only [Act.put, List.setIfInBounds_toArray, List.set_cons_zero, List.set_cons_succ])
      | ((with_reducible refine fl_loadg ?_ (.tmp 5) ?_ (w.heap.size + 1 + 1) 0 c ?_ ?_ ?_); rfl; rfl; rfl; exact HR2.out.2.2.range; simp only [Act.put, List.setIfInBounds_toArray, List.set_cons_zero, List.set_cons_succ]))
        refine (HV.out W2).mono ?_
        rintro e W3 ⟨rfl, hb3⟩
        have HB3 := Lib.hid (HB2.out.trans (hb3.mono HB2.out.size))
        clear hb3 HB2 HR2
        go_wp2_with fail
        refine (factAwake W3).mono ?_
        rintro e W4 ⟨rfl, hb4⟩
        have HB4 := Lib.hid (HB3.out.trans (hb4.mono HB3.out.size))
        clear hb4
        go_wp2_with fail
        go_ret
        exact ⟨rfl, HB4.out⟩
      · go_wp2_with (first
      | ((with_reducible refine fl_loadg ?_ (.tmp 3) ?_ w.heap.size 0 a ?_ ?_ ?_); rfl; rfl; rfl; exact HR1.out.1.range; simp only [Act.put, List.setIfInBounds_toArray, List.set_cons_zero, List.set_cons_succ])
      | ((with_reducible refine fl_loadg ?_ (.tmp 4) ?_ (w.heap.size + 1) 0 b ?_ ?_ ?_); rfl; rfl; rfl; exact HR1.out.2.1.range; simp only [Act.put, List.setIfInBounds_toArray, List.set_cons_zero, List.set_cons_succ])
      | ((with_reducible refine fl_loadg ?_ (.tmp 5) ?_ (w.heap.size + 1 + 1) 0 c ?_ ?_ ?_); rfl; rfl; rfl; exact HR1.out.2.2.range; simp only [Act.put, List.setIfInBounds_toArray, List.set_cons_zero, List.set_cons_succ]))
        refine (HZ.out W1).mono ?_
        rintro e W2 ⟨rfl, hb2⟩
        have HB2 := Lib.hid (HB1.out.trans (hb2.mono HB1.out.size))
        clear hb2 HR1 HB1
        go_wp2_with fail
        refine (factAwake W2).mono ?_
        rintro e W4 ⟨rfl, hb4⟩
        have HB4 := Lib.hid (HB2.out.trans (hb4.mono HB2.out.size))
        clear hb4
        go_wp2_with fail
        go_ret
        exact ⟨rfl, HB4.out⟩
    all_goals
      go_wp2_with fail
      refine (factAwake W1).mono ?_
      rintro e W4 ⟨rfl, hb4⟩
      have HB4 := Lib.hid (HB1.out.trans (hb4.mono HB1.out.size))
      clear hb4
      go_wp2_with fail
      go_ret
      exact ⟨rfl, HB4.out⟩
end Go.Proofs.Ytlcjiodbdopcdab
