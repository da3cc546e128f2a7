/-
  The document's Join, Dots.
-/
import Derived.Test.YtmnblpjdiplioaaGreatGOp34
import Derived.Test.YtmnblpjdiplioaaGreatGOp14
namespace Go.Proofs.YtmnblpjdiplioaaGreat
set_option linter.unusedSimpArgs false
set_option linter.unusedVariables false
set_option maxRecDepth 100000
open Go.RowKit Go.Sort

theorem filter_len {α : Type} (p : α → Bool) (l : List α) (k : Nat) : ((l.take k).filter p).length ≤ l.length := by
  have h1 := List.length_filter_le p (l.take k)
  rw [List.length_take] at h1
  omega
/-- which of a's are left, which of b's -/
def keepA (b : List Ft) (bc : Cx) (f : Ft) : Bool := decide (f ∈ b) || !hasC bc f.d
def keepB (ac : Cx) (f : Ft) : Bool := !hasC ac f.d

set_option maxHeartbeats 16000000 in
theorem joinKR (a b : List Ft) (fa fb : Option Addr) (ka kb : Nat) (ac bc : Cx) (pa pb : Option Addr) (ca cb : Nat) (w : World) (ha : FIn w fa a) (hb : FIn w fb b) (hla : a.length ≤ 20000) (hlb : b.length ≤ 20000) (hac : CIn w ac pa) (hbc : CIn w bc pb) (hl : ac.l.length + bc.l.length ≤ 32768) :
    Calls Tryz.prog 45 #[.slice fa a.length ka, .agg (ccs ac.v (.slice pa ac.l.length ca)), .slice fb b.length kb, .agg (ccs bc.v (.slice pb bc.l.length cb))] w fun e w' => JoinAns a b ac bc w.heap.size e w' ∧ Go.RowKit.Below w.heap.size w w' := by
  have HV := Lib.hid hac.v16
  have HV2 := Lib.hid hbc.v16
  have HC := Lib.hid (three_two w ac.v bc.v (.slice pa ac.l.length ca) (.slice pb bc.l.length cb))
  have H0 : Hid (Hold2 w ac.v (.slice pa ac.l.length ca) bc.v (.slice pb bc.l.length cb) (boxC (boxC (boxC w ac.v (.slice pa ac.l.length ca)) bc.v (.slice pb bc.l.length cb)) zV nilS)) := Lib.hid ⟨HC.out.1, HC.out.2.1, ⟨zV, nilS, HC.out.2.2.1, rfl⟩, HC.out.2.2.2⟩
  have HI := Lib.hid (And.intro (And.intro (ha.below H0.out.low) (hac.below H0.out.low)) (And.intro (hb.below H0.out.low) (hbc.below H0.out.low)))
  unfold boxC at H0 HI
  clear ha hb hac hbc HC
  have hlbm : b.length ≤ maxLen := by unfold maxLen; omega
  go_enter Tryz.func45, Tryz.ntmps45
  go_upto_region 1 with fail
  change Code.wp _ _ _ _ (((w.alloc (.cells (ccs ac.v (.slice pa ac.l.length ca)) 56)).alloc (.cells (ccs bc.v (.slice pb bc.l.length cb)) 56)).alloc (.cells (ccs zV nilS) 56))
  generalize ((w.alloc (.cells (ccs ac.v (.slice pa ac.l.length ca)) 56)).alloc (.cells (ccs bc.v (.slice pb bc.l.length cb)) 56)).alloc (.cells (ccs zV nilS) 56) = W at *
  go_wp2_with fail
  go_loopw [10, 11] (fun v i wr => ∃ k : Nat, k ≤ a.length ∧ i = .int .i64 k ∧ OwnF W.heap.size v ((a.take k).filter (keepA b bc)) wr ∧ Go.RowKit.Below W.heap.size W wr) (fun _ i _ => a.length - (intOf i).toNat)
  case atStart => exact ⟨0, Nat.zero_le _, rfl, by rw [List.take_zero]; exact ownF_nil _ _, Below.refl _ _⟩
  case round =>
    obtain ⟨k, hk, rfl, hown, hbw⟩ := hrel
    have HB := Lib.hid hbw
    have HOW := Lib.hid hown
    have hbs := hbw.size
    clear hbw hown
    by_cases hlt : k < a.length
    · obtain ⟨f, hf⟩ : ∃ f, a[k]? = some f := ⟨_, List.getElem?_eq_getElem hlt⟩
      obtain ⟨lb, lo, rfl, hlbk, c0⟩ := (HI.out.1.1.below HB.out).at hf
      have CL := Lib.hid c0
      have HFT := Lib.hid (filter_take (keepA b bc) a k f hf)
      have hkp : keepA b bc f = (decide (f ∈ b) || !hasC bc f.d) := rfl
      have hi1 : (k : Int) < (a.length : Int) := by omega
      have HRG := Lib.hid (range_regrown c0 hlbk)
      have q0 := range_one c0 0 (v := .int .i64 f.d.1) rfl
      have q1 := range_one c0 1 (v := .int .i64 f.d.2) rfl
      rw [Nat.add_zero] at q0
      have r0 := fun d os => cell_regrown q0 d os
      have r1 := fun d os => cell_regrown q1 d os
      have HCR := Lib.hid ((H0.out.below HB.out).row2.regrown)
      have HIN := Lib.hid (fun d os => Calls.regrown_of (inFR b f fb kb (grow (redrawn wr d) os) (HI.out.2.1.below (HB.out.trans ((below_regrown wr d os).mono hbs))) hlbm))
      have HHS := Lib.hid (fun d os => Calls.regrown_of (hasRC bc f.d pb cb (grow (redrawn wr d) os) (HI.out.2.2.below (HB.out.trans ((below_regrown wr d os).mono hbs)))))
      have hln := filter_len (keepA b bc) a k
      clear c0 hf q0 q1
      generalize (a.take k).filter (keepA b bc) = G at *
      generalize decide (f ∈ b) = u1 at *
      generalize hasC bc f.d = u2 at *
      generalize keepA b bc f = kp at *
      generalize f.d.1 = dr at *
      generalize f.d.2 = dq at *
      rcases (show u1 = true ∨ (u1 = false ∧ u2 = true) ∨ (u1 = false ∧ u2 = false) by cases u1 <;> cases u2 <;> simp) with rfl | ⟨rfl, rfl⟩ | ⟨rfl, rfl⟩
      · replace hkp : kp = true := by rw [hkp]; rfl
        go_upto_region 5 with fail
        refine wp_region_quiet_below (by kernel_rfl) (by kernel_rfl) ?_
        repeat (first
          | ((with_reducible refine fq_load ?_ (.tmp 22) ?_ lb (lo + k * 8) f ?_ ?_ ?_); rfl; rfl; rfl; exact HRG.out; simp only [Act.put, List.setIfInBounds_toArray, List.set_cons_zero, List.set_cons_succ])
          | ((with_reducible refine cq_load ?_ (.tmp 7) ?_ (w.heap.size + 1) bc.v (.slice pb bc.l.length cb) ?_ ?_ ?_ ?_); rfl; rfl; rfl; exact HCR.out; exact HV2.out; simp only [Act.put, List.setIfInBounds_toArray, List.set_cons_zero, List.set_cons_succ])
          | go_big_quiet_step (first | (go_at_call 61; with_reducible exact HIN.out _ _) | (go_at_call 68; with_reducible exact HHS.out _ _)) | quiet_step (first | (go_at_call 61; with_reducible exact HIN.out _ _) | (go_at_call 68; with_reducible exact HHS.out _ _)))
        refine wpQuiet_nil ?_
        intro _ hw'
        obtain ⟨⟨dq', osq⟩, hw''⟩ := hw'
        subst hw''
        have HB9 := Lib.hid (HB.out.trans ((below_regrown wr dq' osq).mono hbs))
        have HO9 := Lib.hid (HOW.out.below (below_regrown wr dq' osq) (Nat.le_refl _))
        have CL9 := Lib.hid (range_below CL.out (below_regrown wr dq' osq) hlbk)
        clear HRG r0 r1 HCR HIN HHS
        generalize grow (redrawn wr dq') osq = W9 at *
        have hone := fin_new W9 f
        obtain ⟨q2, d2, w8, hr8, ho8, hb8⟩ := appF (c := 1) (HO9.out.alloc (.cells (fcs f).toArray 63)) hone (by simp; have := HB9.out.size; omega) (G.length + 1) (by simp) (by omega)
        have hrel2 : OwnF W.heap.size (.slice q2 (G.length + 1) d2) ((a.take (k + 1)).filter (keepA b bc)) w8 := by
          rw [HFT.out, hkp, if_pos rfl]; exact ho8
        have HR8 := Lib.hid hr8
        have HX8 := Lib.hid (And.intro hrel2 ((HB9.out.alloc HB9.out.size _).trans hb8))
        clear hr8 ho8 hb8 hrel2 hone
        go_wp2_with (first
          | ((with_reducible refine fl_load ?_ (.tmp 38) ?_ lb (lo + k * 8) f ?_ ?_ ?_); rfl; rfl; rfl; exact CL9.out; simp only [Act.put, List.setIfInBounds_toArray, List.set_cons_zero, List.set_cons_succ])
          | ((with_reducible refine wpList_build1F ?_ (.tmp 39) ?_ f ?_ ?_); rfl; rfl; rfl; simp only [Act.put, List.setIfInBounds_toArray, List.set_cons_zero, List.set_cons_succ])
          | (at_builtin; refine wpList_append_run rfl _ _ 22 22 rfl _ (.slice (some ⟨W9.heap.size, 0, none⟩) 1 1) _ w8 rfl rfl HR8.out ?_))
        go_roundw
        case rel => exact ⟨k + 1, by omega, by go_num, HX8.out.1, HX8.out.2⟩
        case measure => simp [intOf]; omega
      · replace hkp : kp = false := by rw [hkp]; rfl
        go_upto_region 5 with fail
        refine wp_region_quiet_below (by kernel_rfl) (by kernel_rfl) ?_
        repeat (first
          | ((with_reducible refine fq_load ?_ (.tmp 22) ?_ lb (lo + k * 8) f ?_ ?_ ?_); rfl; rfl; rfl; exact HRG.out; simp only [Act.put, List.setIfInBounds_toArray, List.set_cons_zero, List.set_cons_succ])
          | ((with_reducible refine cq_load ?_ (.tmp 7) ?_ (w.heap.size + 1) bc.v (.slice pb bc.l.length cb) ?_ ?_ ?_ ?_); rfl; rfl; rfl; exact HCR.out; exact HV2.out; simp only [Act.put, List.setIfInBounds_toArray, List.set_cons_zero, List.set_cons_succ])
          | go_big_quiet_step (first | (go_at_call 61; with_reducible exact HIN.out _ _) | (go_at_call 68; with_reducible exact HHS.out _ _)) | quiet_step (first | (go_at_call 61; with_reducible exact HIN.out _ _) | (go_at_call 68; with_reducible exact HHS.out _ _)))
        refine wpQuiet_nil ?_
        intro _ hw'
        obtain ⟨⟨dq', osq⟩, hw''⟩ := hw'
        subst hw''
        have HB9 := Lib.hid (HB.out.trans ((below_regrown wr dq' osq).mono hbs))
        have HO9 := Lib.hid (HOW.out.below (below_regrown wr dq' osq) (Nat.le_refl _))
        have CL9 := Lib.hid (range_below CL.out (below_regrown wr dq' osq) hlbk)
        clear HRG r0 r1 HCR HIN HHS
        generalize grow (redrawn wr dq') osq = W9 at *
        have HX := Lib.hid (show OwnF W.heap.size u10 ((a.take (k + 1)).filter (keepA b bc)) W9 from by rw [HFT.out, hkp, if_neg (by simp), List.append_nil]; exact HO9.out)
        go_wp2_with fail
        go_roundw
        case rel => exact ⟨k + 1, by omega, by go_num, HX.out, HB9.out⟩
        case measure => simp [intOf]; omega
      · replace hkp : kp = true := by rw [hkp]; rfl
        go_upto_region 5 with fail
        refine wp_region_quiet_below (by kernel_rfl) (by kernel_rfl) ?_
        repeat (first
          | ((with_reducible refine fq_load ?_ (.tmp 22) ?_ lb (lo + k * 8) f ?_ ?_ ?_); rfl; rfl; rfl; exact HRG.out; simp only [Act.put, List.setIfInBounds_toArray, List.set_cons_zero, List.set_cons_succ])
          | ((with_reducible refine cq_load ?_ (.tmp 7) ?_ (w.heap.size + 1) bc.v (.slice pb bc.l.length cb) ?_ ?_ ?_ ?_); rfl; rfl; rfl; exact HCR.out; exact HV2.out; simp only [Act.put, List.setIfInBounds_toArray, List.set_cons_zero, List.set_cons_succ])
          | go_big_quiet_step (first | (go_at_call 61; with_reducible exact HIN.out _ _) | (go_at_call 68; with_reducible exact HHS.out _ _)) | quiet_step (first | (go_at_call 61; with_reducible exact HIN.out _ _) | (go_at_call 68; with_reducible exact HHS.out _ _)))
        refine wpQuiet_nil ?_
        intro _ hw'
        obtain ⟨⟨dq', osq⟩, hw''⟩ := hw'
        subst hw''
        have HB9 := Lib.hid (HB.out.trans ((below_regrown wr dq' osq).mono hbs))
        have HO9 := Lib.hid (HOW.out.below (below_regrown wr dq' osq) (Nat.le_refl _))
        have CL9 := Lib.hid (range_below CL.out (below_regrown wr dq' osq) hlbk)
        clear HRG r0 r1 HCR HIN HHS
        generalize grow (redrawn wr dq') osq = W9 at *
        have hone := fin_new W9 f
        obtain ⟨q2, d2, w8, hr8, ho8, hb8⟩ := appF (c := 1) (HO9.out.alloc (.cells (fcs f).toArray 63)) hone (by simp; have := HB9.out.size; omega) (G.length + 1) (by simp) (by omega)
        have hrel2 : OwnF W.heap.size (.slice q2 (G.length + 1) d2) ((a.take (k + 1)).filter (keepA b bc)) w8 := by
          rw [HFT.out, hkp, if_pos rfl]; exact ho8
        have HR8 := Lib.hid hr8
        have HX8 := Lib.hid (And.intro hrel2 ((HB9.out.alloc HB9.out.size _).trans hb8))
        clear hr8 ho8 hb8 hrel2 hone
        go_wp2_with (first
          | ((with_reducible refine fl_load ?_ (.tmp 38) ?_ lb (lo + k * 8) f ?_ ?_ ?_); rfl; rfl; rfl; exact CL9.out; simp only [Act.put, List.setIfInBounds_toArray, List.set_cons_zero, List.set_cons_succ])
          | ((with_reducible refine wpList_build1F ?_ (.tmp 39) ?_ f ?_ ?_); rfl; rfl; rfl; simp only [Act.put, List.setIfInBounds_toArray, List.set_cons_zero, List.set_cons_succ])
          | (at_builtin; refine wpList_append_run rfl _ _ 22 22 rfl _ (.slice (some ⟨W9.heap.size, 0, none⟩) 1 1) _ w8 rfl rfl HR8.out ?_))
        go_roundw
        case rel => exact ⟨k + 1, by omega, by go_num, HX8.out.1, HX8.out.2⟩
        case measure => simp [intOf]; omega
    · obtain rfl : k = a.length := by omega
      have HOW2 := Lib.hid (show OwnF W.heap.size u10 (a.filter (keepA b bc)) wr from by have h := HOW.out; rw [List.take_length] at h; exact h)
      have hpl : (a.filter (keepA b bc)).length ≤ 20000 := Nat.le_trans (List.length_filter_le _ _) hla
      have HKK := Lib.hid (show joinK a ac b bc = sortF (a.filter (keepA b bc) ++ b.filter (keepB ac)) from rfl)
      clear HOW
      generalize a.filter (keepA b bc) = P at *
      have hi2 : ¬ (a.length : Int) < (a.length : Int) := by omega
      go_wp2_with fail
      go_loopw [10, 12] (fun v i wk => ∃ k : Nat, k ≤ b.length ∧ i = .int .i64 k ∧ OwnF W.heap.size v (P ++ (b.take k).filter (keepB ac)) wk ∧ Go.RowKit.Below W.heap.size W wk) (fun _ i _ => b.length - (intOf i).toNat)
      case atStart => exact ⟨0, Nat.zero_le _, rfl, by rw [List.take_zero, List.filter_nil, List.append_nil]; exact HOW2.out, HB.out⟩
      case round =>
        clear HOW2 HB hbs
        rename World => wr
        obtain ⟨k, hk, rfl, hown, hbw⟩ := hrel
        have HB := Lib.hid hbw
        have HOW := Lib.hid hown
        have hbs := hbw.size
        clear hbw hown
        by_cases hlt : k < b.length
        · obtain ⟨f, hf⟩ : ∃ f, b[k]? = some f := ⟨_, List.getElem?_eq_getElem hlt⟩
          obtain ⟨lb, lo, rfl, hlbk, c0⟩ := (HI.out.2.1.below HB.out).at hf
          have CL := Lib.hid c0
          have HFT := Lib.hid (filter_take (keepB ac) b k f hf)
          have hkp : keepB ac f = !hasC ac f.d := rfl
          have hi1 : (k : Int) < (b.length : Int) := by omega
          have HRG := Lib.hid (range_regrown c0 hlbk)
          have q0 := range_one c0 0 (v := .int .i64 f.d.1) rfl
          have q1 := range_one c0 1 (v := .int .i64 f.d.2) rfl
          rw [Nat.add_zero] at q0
          have r0 := fun d os => cell_regrown q0 d os
          have r1 := fun d os => cell_regrown q1 d os
          have HCR := Lib.hid ((H0.out.below HB.out).row.regrown)
          have HHS := Lib.hid (fun d os => Calls.regrown_of (hasRC ac f.d pa ca (grow (redrawn wr d) os) (HI.out.1.2.below (HB.out.trans ((below_regrown wr d os).mono hbs)))))
          have hln0 := filter_len (keepB ac) b k
          have hln : (P ++ (b.take k).filter (keepB ac)).length ≤ 40000 := by rw [List.length_append]; omega
          have HFT2 := Lib.hid (show P ++ (b.take (k + 1)).filter (keepB ac) = (P ++ (b.take k).filter (keepB ac)) ++ (if keepB ac f = true then [f] else []) from by rw [HFT.out, List.append_assoc])
          clear c0 hf q0 q1 HFT hln0
          have HFT := HFT2
          clear HFT2
          generalize P ++ (b.take k).filter (keepB ac) = G at *
          generalize hasC ac f.d = u2 at *
          generalize keepB ac f = kp at *
          generalize f.d.1 = dr at *
          generalize f.d.2 = dq at *
          cases u2 with
          | true =>
            replace hkp : kp = false := by rw [hkp]; rfl
            go_upto_region 10 with fail
            refine wp_region_quiet_below (by kernel_rfl) (by kernel_rfl) ?_
            repeat (first
              | ((with_reducible refine cq_load ?_ (.tmp 5) ?_ (w.heap.size) ac.v (.slice pa ac.l.length ca) ?_ ?_ ?_ ?_); rfl; rfl; rfl; exact HCR.out; exact HV.out; simp only [Act.put, List.setIfInBounds_toArray, List.set_cons_zero, List.set_cons_succ])
              | go_big_quiet_step ((go_at_call 68; with_reducible exact HHS.out _ _)) | quiet_step ((go_at_call 68; with_reducible exact HHS.out _ _)))
            refine wpQuiet_nil ?_
            intro _ hw'
            obtain ⟨⟨dq', osq⟩, hw''⟩ := hw'
            subst hw''
            have HB9 := Lib.hid (HB.out.trans ((below_regrown wr dq' osq).mono hbs))
            have HO9 := Lib.hid (HOW.out.below (below_regrown wr dq' osq) (Nat.le_refl _))
            have CL9 := Lib.hid (range_below CL.out (below_regrown wr dq' osq) hlbk)
            clear HRG r0 r1 HCR HHS
            generalize grow (redrawn wr dq') osq = W9 at *
            have HX := Lib.hid (show OwnF W.heap.size u10 (P ++ (b.take (k + 1)).filter (keepB ac)) W9 from by rw [HFT.out, hkp, if_neg (by simp), List.append_nil]; exact HO9.out)
            go_wp2_with fail
            go_roundw
            case rel => exact ⟨k + 1, by omega, by go_num, HX.out, HB9.out⟩
            case measure => simp [intOf]; omega
          | false =>
            replace hkp : kp = true := by rw [hkp]; rfl
            go_upto_region 10 with fail
            refine wp_region_quiet_below (by kernel_rfl) (by kernel_rfl) ?_
            repeat (first
              | ((with_reducible refine cq_load ?_ (.tmp 5) ?_ (w.heap.size) ac.v (.slice pa ac.l.length ca) ?_ ?_ ?_ ?_); rfl; rfl; rfl; exact HCR.out; exact HV.out; simp only [Act.put, List.setIfInBounds_toArray, List.set_cons_zero, List.set_cons_succ])
              | go_big_quiet_step ((go_at_call 68; with_reducible exact HHS.out _ _)) | quiet_step ((go_at_call 68; with_reducible exact HHS.out _ _)))
            refine wpQuiet_nil ?_
            intro _ hw'
            obtain ⟨⟨dq', osq⟩, hw''⟩ := hw'
            subst hw''
            have HB9 := Lib.hid (HB.out.trans ((below_regrown wr dq' osq).mono hbs))
            have HO9 := Lib.hid (HOW.out.below (below_regrown wr dq' osq) (Nat.le_refl _))
            have CL9 := Lib.hid (range_below CL.out (below_regrown wr dq' osq) hlbk)
            clear HRG r0 r1 HCR HHS
            generalize grow (redrawn wr dq') osq = W9 at *
            have hone := fin_new W9 f
            obtain ⟨q2, d2, w8, hr8, ho8, hb8⟩ := appF (c := 1) (HO9.out.alloc (.cells (fcs f).toArray 63)) hone (by simp; have := HB9.out.size; omega) (G.length + 1) (by simp) (by omega)
            have hrel2 : OwnF W.heap.size (.slice q2 (G.length + 1) d2) (P ++ (b.take (k + 1)).filter (keepB ac)) w8 := by
              rw [HFT.out, hkp, if_pos rfl]; exact ho8
            have HR8 := Lib.hid hr8
            have HX8 := Lib.hid (And.intro hrel2 ((HB9.out.alloc HB9.out.size _).trans hb8))
            clear hr8 ho8 hb8 hrel2 hone
            go_wp2_with (first
              | ((with_reducible refine fl_load ?_ (.tmp 59) ?_ lb (lo + k * 8) f ?_ ?_ ?_); rfl; rfl; rfl; exact CL9.out; simp only [Act.put, List.setIfInBounds_toArray, List.set_cons_zero, List.set_cons_succ])
              | ((with_reducible refine wpList_build1F ?_ (.tmp 60) ?_ f ?_ ?_); rfl; rfl; rfl; simp only [Act.put, List.setIfInBounds_toArray, List.set_cons_zero, List.set_cons_succ])
              | (at_builtin; refine wpList_append_run rfl _ _ 22 22 rfl _ (.slice (some ⟨W9.heap.size, 0, none⟩) 1 1) _ w8 rfl rfl HR8.out ?_))
            go_roundw
            case rel => exact ⟨k + 1, by omega, by go_num, HX8.out.1, HX8.out.2⟩
            case measure => simp [intOf]; omega
        · obtain rfl : k = b.length := by omega
          have hown : OwnF W.heap.size u10 (P ++ b.filter (keepB ac)) wr := by have h := HOW.out; rw [List.take_length] at h; exact h
          obtain ⟨la, lk, rfl, hlf, hlm⟩ := hown.from
          have hln : (P ++ b.filter (keepB ac)).length ≤ 40000 := by
            rw [List.length_append]
            have := List.length_filter_le (keepB ac) b
            omega
          have HO := Lib.hid hlf.fin
          have hsz : w.heap.size + 3 ≤ W.heap.size := by obtain ⟨_, _, h1, _⟩ := H0.out.res; have := h1.lt; omega
          have HR := Lib.hid (And.intro hsz hbs)
          have HHB := Lib.hid (H0.out.below HB.out)
          clear HOW hown hlf hlm hsz
          generalize P ++ b.filter (keepB ac) = L at *
          have hi3 : ¬ (b.length : Int) < (b.length : Int) := by omega
          go_upto_region 12 with fail
          refine wp_region_held (S := fun U => Hold2 w ac.v (.slice pa ac.l.length ca) bc.v (.slice pb bc.l.length cb) U) (by kernel_rfl) ?_
          change wpAnyH _ _ _ _ _ _ _ _ wr.drew
          have K0 : (fun U => Hold2 w ac.v (.slice pa ac.l.length ca) bc.v (.slice pb bc.l.length cb) U) wr.drew := HHB.out.below (Below.refl _ _).drew
          refine wpAnyH_take (i := 0) (oi := { dst := some 63, op := _, type := _, pos := _, after := _, guard := _ }) (v := ?v1) rfl (by kernel_rfl) (by kernel_rfl) (by kernel_rfl) (fun _ _ _ h => h) (Or.inl ⟨by rfl, ?hy1⟩) K0 ?rest1
          case hy1 => (intro w hSw; (try dsimp only at hSw); first | (go_simp; done) | (go_simp; with_reducible rfl))
          try simp only [Act.put, List.setIfInBounds_toArray, List.set_cons_zero, List.set_cons_succ]
          refine wpAnyH_take (i := 2) (oi := { dst := some 65, op := _, type := _, pos := _, after := _, guard := _ }) rfl (by kernel_rfl) (by kernel_rfl) (by kernel_rfl) (fun _ _ _ h => h) (yield_C (by rfl) (.tmp 5) rfl w.heap.size ac.v (.slice pa ac.l.length ca) rfl (fun U hU => hU.row) HV.out) K0 ?_
          try simp only [Act.put, List.setIfInBounds_toArray, List.set_cons_zero, List.set_cons_succ]
          refine wpAnyH_take (i := 3) (oi := { dst := some 66, op := _, type := _, pos := _, after := _, guard := _ }) rfl (by kernel_rfl) (by kernel_rfl) (by kernel_rfl) (fun _ _ _ h => h) (yield_C (by rfl) (.tmp 7) rfl (w.heap.size + 1) bc.v (.slice pb bc.l.length cb) rfl (fun U hU => hU.row2) HV2.out) K0 ?_
          try simp only [Act.put, List.setIfInBounds_toArray, List.set_cons_zero, List.set_cons_succ]
          refine wpAnyH_ready (rs := [1]) (by kernel_rfl) (by simp) ?_
          refine AllReadyH.cons (o := { dst := some 64, op := _, type := _, pos := _, after := _, guard := _ }) rfl (fun K hK => ?_) AllReadyH.nil
          go_simp
          refine (sortFR L la lk wr.drew HO.out (by omega)).mono ?_
          rintro e u1 ⟨v1, rfl, hown, hb⟩
          have K1 := K0.below hb
          obtain ⟨ra, rk, rfl, hff, -⟩ := hown.from
          have HF1 := Lib.hid hff
          have HS1 := Lib.hid hb.size
          have HU1 := Lib.hid (show Go.RowKit.Below W.heap.size W u1 from (HB.out.trans ((Below.refl wr.heap.size wr).drew.mono hbs)).trans (hb.mono hbs))
          clear hff hb hown
          refine hK.out _ _ K1 (fun _ => ?_)
          clear hK K
          try simp only [Act.put, List.setIfInBounds_toArray, List.set_cons_zero, List.set_cons_succ]
          refine wpAnyH_ready (rs := [4]) (by kernel_rfl) (by simp) ?_
          refine AllReadyH.cons (o := { dst := some 67, op := _, type := _, pos := _, after := _, guard := _ }) rfl (fun K hK => ?_) AllReadyH.nil
          go_simp
          refine (joinRC ac bc pa pb ca cb _ (HI.out.1.2.below HU1.out) (HI.out.2.2.below HU1.out) hl).mono ?_
          rintro e u4 ⟨⟨o, oa, oc, rfl, hjo, hmd, hol⟩, hb⟩
          have K4 := K1.below hb
          have HF4 := Lib.hid (And.intro hjo (And.intro hmd hol))
          have HB4 := Lib.hid hb
          clear hjo hmd hol hb
          refine hK.out _ _ K4 (fun _ => ?_)
          clear hK K
          try simp only [Act.put, List.setIfInBounds_toArray, List.set_cons_zero, List.set_cons_succ]
          refine wpAnyH_take (i := 5) (oi := { dst := some 8, op := _, type := _, pos := _, after := _, guard := _ }) (v := ?v4) rfl (by kernel_rfl) (by kernel_rfl) (by kernel_rfl) (fun _ _ _ h => h) (Or.inl ⟨by rfl, ?hy4⟩) K4 ?rest4
          case hy4 => (intro w hSw; (try dsimp only at hSw); first | (go_simp; done) | (go_simp; with_reducible rfl))
          try simp only [Act.put, List.setIfInBounds_toArray, List.set_cons_zero, List.set_cons_succ]
          refine wpAnyH_ready (rs := [6]) (by kernel_rfl) (by simp) ?_
          refine AllReadyH.cons (o := { dst := none, op := _, type := _, pos := _, after := _, guard := _ }) rfl (fun K hK => ?_) AllReadyH.nil
          refine draw_storeC rfl (.tmp 9) (.tmp 67) rfl (w.heap.size + 2) rfl o.v oa o.l.length oc rfl HF4.out.2.1.v16 K4.res ?_
          have K6 := (K4.put (x := o.v) (t := .slice oa o.l.length oc) HF4.out.2.1.v16).1
          have HRR := Lib.hid (K4.put (x := o.v) (t := .slice oa o.l.length oc) HF4.out.2.1.v16).2
          refine hK.out _ _ K6 (fun _ => ?_)
          clear hK K
          try simp only [Act.put, List.setIfInBounds_toArray, List.set_cons_zero, List.set_cons_succ]
          refine wpAnyH_done (by kernel_rfl) ?_ _
          try simp only [Act.put, List.setIfInBounds_toArray, List.set_cons_zero, List.set_cons_succ]
          have HZ := Lib.hid K6.low
          have HF9 := Lib.hid (And.intro (HF1.out.below HB4.out) HF4.out.2.1)
          clear K0 K1 K4 K6
          go_wp2_with fail
          refine bodyPost_ret (retxC rfl _ _ (w.heap.size + 2) o.v (.slice oa o.l.length oc) _ rfl rfl HRR.out HF4.out.2.1.v16) rfl ⟨⟨o, ra, oa, rk, oc, by rw [HKK.out]; rfl, HF4.out.1, ?_, ?_, HF4.out.2.2⟩, HZ.out⟩
          · rw [HKK.out]
            exact (HF9.out.1.setRow (show w.heap.size + 2 < wr.drew.heap.size by have h := HR.out; show _ < wr.heap.size; omega) _).mono (show w.heap.size ≤ wr.drew.heap.size by have h := HR.out; show _ ≤ wr.heap.size; omega)
          · exact (HF9.out.2.setRow (show w.heap.size + 2 < u1.heap.size by have h := HR.out; have h2 : wr.heap.size ≤ u1.heap.size := HS1.out; omega) _).mono (show w.heap.size ≤ u1.heap.size by have h := HR.out; have h2 : wr.heap.size ≤ u1.heap.size := HS1.out; omega)

end Go.Proofs.YtmnblpjdiplioaaGreat
