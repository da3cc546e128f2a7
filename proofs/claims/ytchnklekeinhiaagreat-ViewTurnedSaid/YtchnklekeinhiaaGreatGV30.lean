/-
  register, the document's: later.
  register, the document's: order, All, Last, Of.
-/
import Derived.Test.YtchnklekeinhiaaGreatGV20
import Derived.Test.YtchnklekeinhiaaGreatGV21
namespace Go.Proofs.YtchnklekeinhiaaGreat
set_option linter.unusedSimpArgs false
set_option linter.unusedVariables false
set_option maxRecDepth 100000
open Go.RowKit Go.Sort

theorem gt_str (x y : ByteArray) : ltX x y = (!Op.bytesLess y.toList x.toList && !y.toList == x.toList) := by
  have e : ∀ p q : ByteArray, ltX p q = Op.bytesLess p.toList q.toList := fun _ _ => rfl
  rw [← e]
  rcases totX.tri x y with h | h | h
  · have h2 : ltX y x = false := by
      cases k : ltX y x with
      | false => rfl
      | true => have := totX.trans h k; rw [totX.irr] at this; cases this
    have h3 : (y.toList == x.toList) = false := by
      simp only [beq_eq_false_iff_ne, ne_eq]
      intro k
      rw [e, k, less_irr] at h; cases h
    rw [h, h2, h3]; rfl
  · subst h; rw [totX.irr]; simp
  · have h2 : ltX x y = false := by
      cases k : ltX x y with
      | false => rfl
      | true => have := totX.trans h k; rw [totX.irr] at this; cases this
    rw [h, h2]; rfl
set_option maxHeartbeats 4000000 in
theorem laterR (a b : Ft) (w : World) : Calls Tryz.prog 133 #[.agg (fcs a).toArray, .agg (fcs b).toArray] w fun e w' => e = .returned (.bool (ltR b a)) ∧ Below w.heap.size w w' := by
  have hin := boxF2_in w a b
  have HGR := Lib.hid (show Below w.heap.size w (boxF (boxF w a) b) from ((boxF_gr w a).trans (boxF_gr _ b)).below)
  have ca : ∀ j v, (fcs a)[j]? = some v → (boxF (boxF w a) b).cell? ⟨w.heap.size, j, none⟩ = some v := fun j v hv => by have h := hin.1 j v hv; rwa [Nat.zero_add] at h
  have cb : ∀ j v, (fcs b)[j]? = some v → (boxF (boxF w a) b).cell? ⟨w.heap.size + 1, j, none⟩ = some v := fun j v hv => by have h := hin.2 j v hv; rwa [Nat.zero_add] at h
  have a0 := ca 0 _ rfl
  have a1 := ca 1 _ rfl
  have a2 := ca 2 _ rfl
  have a3 := ca 3 _ rfl
  have a4 := ca 4 _ rfl
  have a7 := ca 7 _ rfl
  have b0 := cb 0 _ rfl
  have b1 := cb 1 _ rfl
  have b2 := cb 2 _ rfl
  have b3 := cb 3 _ rfl
  have b4 := cb 4 _ rfl
  have b7 := cb 7 _ rfl
  have HLD := Lib.hid (fun W => lessRb b.d a.d W)
  have HLS := Lib.hid (fun W => tlessR b.s a.s W)
  have hqd := fun W => neqD a.d b.d W
  have hqs := fun W => neqS a.s b.s W
  have hl := ltR_if b a
  generalize ltR b a = R at *
  have HL := Lib.hid hl
  clear hin ca cb hl
  unfold boxF at a0 a1 a2 a3 a4 a7 b0 b1 b2 b3 b4 b7 HGR
  by_cases hs : a.s = b.s
  case neg =>
    have HJ := Lib.hid (HL.out.trans (if_pos (fun k => hs k.symm)))
    rw [decide_eq_false hs] at hqs
    clear hs hqd
    go_enter Tryz.func133, Tryz.ntmps133
    go_wp2_with fail
    refine (HLS.out _).mono ?_
    rintro e w1 ⟨rfl, hb⟩
    have HB := Lib.hid (HGR.out.trans ((show Below _ _ w1 from hb ▸ boxS2_below _ b.s a.s).mono HGR.out.size))
    clear hb
    go_wp2_with fail
    go_ret
    exact ⟨by rw [HJ.out]; rfl, HB.out⟩
  have HJ1 := Lib.hid (HL.out.trans (if_neg (fun k => k hs.symm)))
  rw [decide_eq_true hs] at hqs
  by_cases hd : a.d = b.d
  case neg =>
    have HJ := Lib.hid (HJ1.out.trans (if_pos (fun k => hd k.symm)))
    rw [decide_eq_false hd] at hqd
    clear hs hd
    go_enter Tryz.func133, Tryz.ntmps133
    go_wp2_with fail
    refine (HLD.out _).mono ?_
    rintro e w1 ⟨rfl, hb⟩
    have HB := Lib.hid (HGR.out.trans (hb.mono HGR.out.size))
    clear hb
    go_wp2_with fail
    go_ret
    exact ⟨by rw [HJ.out]; rfl, HB.out⟩
  have HJ := Lib.hid (HJ1.out.trans (if_neg (fun k => k hd.symm)))
  rw [decide_eq_true hd] at hqd
  rw [gt_str b.v a.v] at HJ
  clear hs hd
  go_enter Tryz.func133, Tryz.ntmps133
  go_wp2_with fail
  go_ret
  exact ⟨by rw [HJ.out]; rfl, HGR.out⟩
end Go.Proofs.YtchnklekeinhiaaGreat

namespace Go.Proofs.YtchnklekeinhiaaGreat
set_option linter.unusedSimpArgs false
set_option linter.unusedVariables false
set_option maxRecDepth 100000
open Go.RowKit Go.Sort

set_option maxHeartbeats 8000000 in
theorem rordC (l : List Ft) (a : Option Addr) (cap : Nat) (w : World) (h : FIn w a l) (hl : l.length ≤ 65536) :
    Calls Tryz.prog 96 #[.slice a l.length cap] w fun e w' => ∃ v' m, e = .returned v' ∧ OwnF w.heap.size v' m w' ∧ OrderR l m ∧ Go.RowKit.Below w.heap.size w w' := by
  have H := Lib.hid h
  clear h
  go_enter Tryz.func96, Tryz.ntmps96
  go_wp2_with fail
  go_loopw [3, 4] (fun v i wr => ∃ (k : Nat) (m : List Ft), k ≤ l.length ∧ i = .int .i64 k ∧ OwnF w.heap.size v m wr ∧ Hid (OrderR (l.take k) m) ∧ Go.RowKit.Below w.heap.size w wr) (fun _ i _ => l.length - (intOf i).toNat)
  case atStart => exact ⟨0, [], Nat.zero_le _, rfl, ownF_nil _ _, Lib.hid (by rw [List.take_zero]; exact OrderR.nil), Below.refl _ _⟩
  case round =>
    obtain ⟨i, out, hi, rfl, hown, HORD, hb⟩ := hrel
    have HOWN := Lib.hid hown
    have HB0 := Lib.hid hb
    obtain ⟨oa, oc, rfl, hdin, hoc, hocm⟩ := hown.fin2
    have hout : out.length ≤ i := by have := HORD.out.perm.length_eq; rw [List.length_take] at this; omega
    clear hown hb
    by_cases hlt : i < l.length
    · obtain ⟨d, hd⟩ : ∃ d, l[i]? = some d := ⟨_, List.getElem?_eq_getElem hlt⟩
      obtain ⟨lb, lo, rfl, hlb, cl0⟩ := (H.out.below HB0.out).at hd
      have HNX := Lib.hid (show l.take (i + 1) = l.take i ++ [d] from by
        obtain ⟨e1, e2⟩ := List.getElem?_eq_some_iff.1 hd
        rw [List.take_succ_eq_append_getElem hlt, e2])
      have hi1 : (i : Int) < (l.length : Int) := by omega
      have CL := Lib.hid cl0
      have HDI := Lib.hid hdin
      clear hd hdin cl0
      go_wp2_with fail
      go_loopw [5] (fun j wk => ∃ k : Nat, k ≤ out.length ∧ j = .int .i64 (k : Int) ∧ Hid (∀ x ∈ out.drop k, ltR d x = true) ∧ Hid (Go.RowKit.Below wr.heap.size wr wk)) (fun j _ => (intOf j).toNat)
      case atStart => exact ⟨out.length, Nat.le_refl _, rfl, Lib.hid (by simp), Lib.hid (Below.refl _ _)⟩
      case round =>
        rename World => wk
        obtain ⟨k, hk, rfl, HK, HW⟩ := hrel
        have hks := HW.out.size
        by_cases hk0 : 0 < k
        · obtain ⟨q, hq⟩ : ∃ q, k = q + 1 := ⟨k - 1, by omega⟩
          obtain ⟨f, hf⟩ : ∃ d, out[q]? = some d := ⟨_, List.getElem?_eq_getElem (by omega)⟩
          obtain ⟨b2, o2, rfl, hlb2, p0⟩ := (HDI.out.below HW.out).at hf
          have k0 := range_below CL.out HW.out hlb
          have hlbk : lb < wk.heap.size := by omega
          have hki : decide ((0 : Int) < (k : Int)) = true := by simp; omega
          have hki2 : (0 : Int) < (k : Int) := by omega
          have hqw : IntKind.i64.wrap ((k : Int) - 1) = (q : Int) := by simp [IntKind.wrap, IntKind.bits, IntKind.signed]; omega
          have hq0 : (0 : Int) ≤ (q : Int) := by omega
          have hq1 : (q : Int) < (out.length : Int) := by omega
          have hql : q < out.length := by omega
          have hfe : out[q] = f := by rw [List.getElem?_eq_getElem hql] at hf; exact Option.some.inj hf
          have HQ := Lib.hid hq
          have HFE := Lib.hid hfe
          have HR0 := Lib.hid (range_regrown p0 hlb2)
          have HR1 := Lib.hid (range_regrown k0 hlbk)
          have HCX := Lib.hid (fun dq os => Calls.regrown_of (laterR f d (grow (redrawn wk dq) os)))
          clear hq hf hfe p0 k0
          cases ht : ltR d f with
          | true =>
            rw [ht] at HCX
            have HN := Lib.hid (show ∀ x ∈ out.drop q, ltR d x = true from fun x hx => by
              rw [List.drop_eq_getElem_cons (hql)] at hx
              rcases List.mem_cons.1 hx with rfl | hx
              · rw [HFE.out]; exact ht
              · exact HK.out x (by rw [HQ.out]; exact hx))
            clear ht
            go_upto_region 6 with fail
            refine wp_region_quiet_below (by kernel_rfl) (by kernel_rfl) ?_
            repeat (first
              | ((with_reducible refine fq_load ?_ (.tmp 21) ?_ b2 (o2 + q * 8) f ?_ ?_ ?_); rfl; rfl; rfl; exact HR0.out; simp only [Act.put, List.setIfInBounds_toArray, List.set_cons_zero, List.set_cons_succ])
              | ((with_reducible refine fq_load ?_ (.tmp 25) ?_ lb (lo + i * 8) d ?_ ?_ ?_); rfl; rfl; rfl; exact HR1.out; simp only [Act.put, List.setIfInBounds_toArray, List.set_cons_zero, List.set_cons_succ])
              | go_big_quiet_step ((go_at_call 133; with_reducible exact HCX.out _ _))
              | quiet_step ((go_at_call 133; with_reducible exact HCX.out _ _)))
            refine wpQuiet_nil ?_
            intro _ hw'
            obtain ⟨⟨dq, osq⟩, hw''⟩ := hw'
            subst hw''
            have HW9 := Lib.hid (HW.out.trans ((below_regrown wk dq osq).mono hks))
            clear HCX HR0 HR1 HW
            generalize grow (redrawn wk dq) osq = W at *
            go_wp2_with fail
            go_roundw
            case rel => exact ⟨q, by have := HQ.out; omega, by go_num, HN, HW9⟩
            case measure => have := HQ.out; simp [intOf]; omega
          | false =>
            rw [ht] at HCX
            have HPUT := Lib.hid (show OrderR (l.take (i + 1)) (out.take k ++ d :: out.drop k) from by
              rw [HNX.out]
              refine HORD.out.put d k hk ?_ (fun x hx => .inl (HK.out x hx))
              rw [HQ.out]
              exact HORD.out.weak.ahead (hql) (by rw [HFE.out]; exact ht))
            clear ht
            go_upto_region 6 with fail
            refine wp_region_quiet_below (by kernel_rfl) (by kernel_rfl) ?_
            repeat (first
              | ((with_reducible refine fq_load ?_ (.tmp 21) ?_ b2 (o2 + q * 8) f ?_ ?_ ?_); rfl; rfl; rfl; exact HR0.out; simp only [Act.put, List.setIfInBounds_toArray, List.set_cons_zero, List.set_cons_succ])
              | ((with_reducible refine fq_load ?_ (.tmp 25) ?_ lb (lo + i * 8) d ?_ ?_ ?_); rfl; rfl; rfl; exact HR1.out; simp only [Act.put, List.setIfInBounds_toArray, List.set_cons_zero, List.set_cons_succ])
              | go_big_quiet_step ((go_at_call 133; with_reducible exact HCX.out _ _))
              | quiet_step ((go_at_call 133; with_reducible exact HCX.out _ _)))
            refine wpQuiet_nil ?_
            intro _ hw'
            obtain ⟨⟨dq, osq⟩, hw''⟩ := hw'
            subst hw''
            have HW9 := Lib.hid (HW.out.trans ((below_regrown wk dq osq).mono hks))
            clear HCX HR0 HR1 HW hks hlbk hqw hq0 hq1
            generalize grow (redrawn wk dq) osq = W at *
            obtain ⟨p1, hs1, hd1⟩ := takeF (some ⟨b2, o2, none⟩) out.length oc k hk hoc hocm
            obtain ⟨p2, hs2, hd2⟩ := dropF (some ⟨b2, o2, none⟩) out.length oc k hk hoc hocm
            have hl1 : (out.take k).length = k := by rw [List.length_take]; omega
            have hl2 : (out.drop k).length = out.length - k := List.length_drop
            have hdn := HDI.out.below HW9.out
            have hWs := HW9.out.size
            obtain ⟨q1, d1, w1, hr1, ho1, hb1⟩ := appF (c := oc) (ownF_nil W.heap.size W) (hd1 W out rfl hdn) (Nat.le_refl _) k (by rw [hl1]; simp) (by omega)
            rw [hl1] at hr1
            have HO1 := Lib.hid ho1
            have HB1 := Lib.hid hb1
            have HD2 := Lib.hid (hd2 W out rfl hdn)
            have CL1 := Lib.hid (range_below (range_below CL.out HW9.out hlb) (show Below W.heap.size W w1 from hb1) (Nat.lt_of_lt_of_le hlb hWs))
            have hs1' := hb1.size
            have hlb1 : lb < w1.heap.size := by omega
            clear ho1 hb1 hd1 hd2 hdn
            go_upto_region 10 with (at_builtin; refine wpList_append_run rfl _ _ 22 22 rfl (.slice none 0 0) (.slice p1 k oc) _ w1 rfl rfl hr1 ?_)
            have hone := fin_new w1 d
            obtain ⟨q2, d2, w2, hr2, ho2, hb2⟩ := appF (c := 1) (HO1.out.alloc (.cells (fcs d).toArray 48)) hone (by simp; omega) (k + 1) (by simp; omega) (by omega)
            have hr2' : (Builtin.append_ #[22, 22] 22 #[.slice q1 k d1, .slice (some ⟨w1.heap.size, 0, none⟩) 1 1]).run Tryz.prog (w1.alloc (.cells (fcs d).toArray 48)) = .ok (.slice q2 (k + 1) d2) w2 := hr2
            have HO2 := Lib.hid ho2
            have hb2' : Go.RowKit.Below W.heap.size W w2 := (HB1.out.alloc hs1' _).trans hb2
            have HB2 := Lib.hid hb2'
            have hs2' := hb2'.size
            have HD3 := Lib.hid (HD2.out.below hb2')
            clear ho2 hb2 hb2' hone hr2
            go_upto_region 11 with (first
              | ((with_reducible refine fl_load ?_ (.tmp 39) ?_ lb (lo + i * 8) d ?_ ?_ ?_); rfl; rfl; rfl; exact CL1.out; simp only [Act.put, List.setIfInBounds_toArray, List.set_cons_zero, List.set_cons_succ])
              | ((with_reducible refine wpList_build1F ?_ (.tmp 40) ?_ d ?_ ?_); rfl; rfl; rfl; simp only [Act.put, List.setIfInBounds_toArray, List.set_cons_zero, List.set_cons_succ])
              | (at_builtin; refine wpList_append_run rfl _ _ 22 22 rfl (.slice q1 k d1) (.slice (some ⟨w1.heap.size, 0, none⟩) 1 1) _ w2 rfl rfl hr2' ?_))
            obtain ⟨q3, d3, w3, hr3, ho3, hb3⟩ := appF (c := oc - k) HO2.out HD3.out hs2' (out.length + 1) (by simp; omega) (by omega)
            rw [hl2] at hr3
            have HFIN := Lib.hid (show OwnF w.heap.size (.slice q3 (out.length + 1) d3) (out.take k ++ d :: out.drop k) w3 ∧ Go.RowKit.Below w.heap.size w w3 from by
              refine ⟨?_, HB0.out.trans ((HW9.out.trans ((HB2.out.trans hb3).mono hWs)).mono HB0.out.size)⟩
              have e : out.take k ++ d :: out.drop k = out.take k ++ [d] ++ out.drop k := by simp
              rw [e]
              exact ho3.mono (by have := HB0.out.size; omega))
            clear ho3 hb3 hr1 hr2'
            go_wp2_with (at_builtin; refine wpList_append_run rfl _ _ 22 22 rfl (.slice q2 (k + 1) d2) (.slice p2 (out.length - k) (oc - k)) _ w3 rfl rfl hr3 ?_)
            go_wp2_with fail
            go_roundw
            case rel => exact ⟨i + 1, _, by omega, by go_num, HFIN.out.1, HPUT, HFIN.out.2⟩
            case measure => simp [intOf]; omega
        · have HPUT := Lib.hid (show OrderR (l.take (i + 1)) (out.take k ++ d :: out.drop k) from by
            rw [HNX.out]
            refine HORD.out.put d k hk ?_ (fun x hx => .inl (HK.out x hx))
            rw [show k = 0 by omega]
            simp)
          have hki : decide ((0 : Int) < (k : Int)) = false := by simp; omega
          go_upto_region 6 with fail
          refine wp_region_quiet_below (by kernel_rfl) (by kernel_rfl) ?_
          repeat (first
            | go_big_quiet_step (fail) | quiet_step (fail))
          refine wpQuiet_nil ?_
          intro _ hw'
          obtain ⟨⟨dq, osq⟩, hw''⟩ := hw'
          subst hw''
          have HW9 := Lib.hid (HW.out.trans ((below_regrown wk dq osq).mono hks))
          clear HW hks
          generalize grow (redrawn wk dq) osq = W at *
          obtain ⟨p1, hs1, hd1⟩ := takeF oa out.length oc k hk hoc hocm
          obtain ⟨p2, hs2, hd2⟩ := dropF oa out.length oc k hk hoc hocm
          have hl1 : (out.take k).length = k := by rw [List.length_take]; omega
          have hl2 : (out.drop k).length = out.length - k := List.length_drop
          have hdn := HDI.out.below HW9.out
          have hWs := HW9.out.size
          obtain ⟨q1, d1, w1, hr1, ho1, hb1⟩ := appF (c := oc) (ownF_nil W.heap.size W) (hd1 W out rfl hdn) (Nat.le_refl _) k (by rw [hl1]; simp) (by omega)
          rw [hl1] at hr1
          have HO1 := Lib.hid ho1
          have HB1 := Lib.hid hb1
          have HD2 := Lib.hid (hd2 W out rfl hdn)
          have CL1 := Lib.hid (range_below (range_below CL.out HW9.out hlb) (show Below W.heap.size W w1 from hb1) (Nat.lt_of_lt_of_le hlb hWs))
          have hs1' := hb1.size
          have hlb1 : lb < w1.heap.size := by omega
          clear ho1 hb1 hd1 hd2 hdn
          go_upto_region 10 with (at_builtin; refine wpList_append_run rfl _ _ 22 22 rfl (.slice none 0 0) (.slice p1 k oc) _ w1 rfl rfl hr1 ?_)
          have hone := fin_new w1 d
          obtain ⟨q2, d2, w2, hr2, ho2, hb2⟩ := appF (c := 1) (HO1.out.alloc (.cells (fcs d).toArray 48)) hone (by simp; omega) (k + 1) (by simp; omega) (by omega)
          have hr2' : (Builtin.append_ #[22, 22] 22 #[.slice q1 k d1, .slice (some ⟨w1.heap.size, 0, none⟩) 1 1]).run Tryz.prog (w1.alloc (.cells (fcs d).toArray 48)) = .ok (.slice q2 (k + 1) d2) w2 := hr2
          have HO2 := Lib.hid ho2
          have hb2' : Go.RowKit.Below W.heap.size W w2 := (HB1.out.alloc hs1' _).trans hb2
          have HB2 := Lib.hid hb2'
          have hs2' := hb2'.size
          have HD3 := Lib.hid (HD2.out.below hb2')
          clear ho2 hb2 hb2' hone hr2
          go_upto_region 11 with (first
            | ((with_reducible refine fl_load ?_ (.tmp 39) ?_ lb (lo + i * 8) d ?_ ?_ ?_); rfl; rfl; rfl; exact CL1.out; simp only [Act.put, List.setIfInBounds_toArray, List.set_cons_zero, List.set_cons_succ])
            | ((with_reducible refine wpList_build1F ?_ (.tmp 40) ?_ d ?_ ?_); rfl; rfl; rfl; simp only [Act.put, List.setIfInBounds_toArray, List.set_cons_zero, List.set_cons_succ])
            | (at_builtin; refine wpList_append_run rfl _ _ 22 22 rfl (.slice q1 k d1) (.slice (some ⟨w1.heap.size, 0, none⟩) 1 1) _ w2 rfl rfl hr2' ?_))
          obtain ⟨q3, d3, w3, hr3, ho3, hb3⟩ := appF (c := oc - k) HO2.out HD3.out hs2' (out.length + 1) (by simp; omega) (by omega)
          rw [hl2] at hr3
          have HFIN := Lib.hid (show OwnF w.heap.size (.slice q3 (out.length + 1) d3) (out.take k ++ d :: out.drop k) w3 ∧ Go.RowKit.Below w.heap.size w w3 from by
            refine ⟨?_, HB0.out.trans ((HW9.out.trans ((HB2.out.trans hb3).mono hWs)).mono HB0.out.size)⟩
            have e : out.take k ++ d :: out.drop k = out.take k ++ [d] ++ out.drop k := by simp
            rw [e]
            exact ho3.mono (by have := HB0.out.size; omega))
          clear ho3 hb3 hr1 hr2'
          go_wp2_with (at_builtin; refine wpList_append_run rfl _ _ 22 22 rfl (.slice q2 (k + 1) d2) (.slice p2 (out.length - k) (oc - k)) _ w3 rfl rfl hr3 ?_)
          go_wp2_with fail
          go_roundw
          case rel => exact ⟨i + 1, _, by omega, by go_num, HFIN.out.1, HPUT, HFIN.out.2⟩
          case measure => simp [intOf]; omega
    · obtain rfl : i = l.length := by omega
      have HOE := Lib.hid (show OrderR l out from by have := HORD.out; rwa [List.take_length] at this)
      have hi1 : ¬ (l.length : Int) < (l.length : Int) := by omega
      go_wp2_with fail
      go_ret
      exact ⟨_, rfl, out, HOWN.out, HOE.out, HB0.out⟩

set_option maxHeartbeats 4000000 in
theorem rallC (l : List Ft) (a : Option Addr) (cap : Nat) (w : World) (h : FIn w a l) (hl : l.length ≤ 65536) :
    Calls Tryz.prog 58 #[.slice a l.length cap] w fun e w' => ∃ v' m, e = .returned v' ∧ OwnS w.heap.size v' (m.map (·.v)) w' ∧ OrderR l m ∧ Go.RowKit.Below w.heap.size w w' := by
  have HC := Lib.hid (rordC l a cap w h hl)
  clear h
  go_enter Tryz.func58, Tryz.ntmps58
  go_wp2_with fail
  refine HC.out.mono ?_
  rintro e w1 ⟨v1, m, rfl, hown, hord, hb1⟩
  obtain ⟨oa, oc, rfl, hin, -⟩ := hown.fin2
  have hml : m.length ≤ 65536 := by have := hord.perm.length_eq; omega
  have HB1 := Lib.hid hb1
  have HORD := Lib.hid hord
  have HIN := Lib.hid hin
  clear hb1 hord hin hown HC
  go_wp2_with fail
  go_loopw [3, 5] (fun v i wr => ∃ (j : Nat) (xs : List ByteArray), i = .int .i64 (j : Int) ∧ j ≤ m.length ∧ OwnS w1.heap.size v xs wr ∧ Hid (xs = (m.take j).map (·.v)) ∧ Hid (Go.RowKit.Below w1.heap.size w1 wr)) (fun _ i _ => m.length - (intOf i).toNat)
  case atStart => exact ⟨0, [], rfl, Nat.zero_le _, ownS_nil _ _, Lib.hid (by rw [List.take_zero]; rfl), Lib.hid (Below.refl _ _)⟩
  case round =>
    obtain ⟨j, xs, rfl, hj, hown, HX, HB⟩ := hrel
    have HOWN := Lib.hid hown
    obtain ⟨va, vc, rfl, -, hoc, hocm⟩ := hown.fin2
    have hxl : xs.length ≤ m.length := by rw [HX.out, List.length_map, List.length_take]; omega
    clear hown
    by_cases hlt : j < m.length
    · obtain ⟨f, hf⟩ : ∃ d, m[j]? = some d := ⟨_, List.getElem?_eq_getElem hlt⟩
      obtain ⟨b, off, rfl, hbl, c0⟩ := (HIN.out.below HB.out).at hf
      have c7 := c0 7 _ rfl
      have hi1 : (j : Int) < (m.length : Int) := by omega
      have HNX := Lib.hid (show xs ++ [f.v] = (m.take (j + 1)).map (·.v) from by
        obtain ⟨e1, e2⟩ := List.getElem?_eq_some_iff.1 hf
        rw [HX.out, List.take_succ_eq_append_getElem hlt, e2, List.map_append]; rfl)
      obtain ⟨q2, d2, w3, hr2, ho2, hb3⟩ := appX (c := 1) (OwnS.below (HOWN.out) ((Below.refl _ wr).alloc (Nat.le_refl _) (.cells #[.string f.v] 9)) (Nat.le_refl _)) (strRow_one wr f.v) (by simp; have := HB.out.size; omega) (xs.length + 1) (by simp) (by omega)
      have hr2' : (Builtin.append_ #[25, 25] 25 #[.slice va xs.length vc, .slice (some ⟨wr.heap.size, 0, none⟩) 1 1]).run Tryz.prog (wr.alloc (.cells #[.string f.v] 9)) = .ok (.slice q2 (xs.length + 1) d2) w3 := hr2
      have HO3 := Lib.hid ho2
      have HB3 := Lib.hid ((HB.out.alloc HB.out.size _).trans hb3)
      clear ho2 hb3 hr2 c0 hbl hf
      go_wp2_with (at_builtin; refine wpList_append_run rfl _ _ 25 25 rfl (.slice va xs.length vc) (.slice (some ⟨wr.heap.size, 0, none⟩) 1 1) _ w3 rfl rfl hr2' ?_)
      go_wp2_with fail
      go_roundw
      case rel => exact ⟨j + 1, xs ++ [f.v], by go_num, by omega, HO3.out, HNX, HB3⟩
      case measure => simp [intOf]; omega
    · obtain rfl : j = m.length := by omega
      have HOE := Lib.hid (show xs = m.map (·.v) from by have := HX.out; rwa [List.take_length] at this)
      have hi1 : ¬ (m.length : Int) < (m.length : Int) := by omega
      go_wp2_with fail
      go_ret
      exact ⟨_, rfl, m, by rw [← HOE.out]; exact HOWN.out.mono HB1.out.size, HORD.out, HB1.out.trans (HB.out.mono HB1.out.size)⟩

set_option maxHeartbeats 2000000 in
theorem rlastC (l : List Ft) (a : Option Addr) (cap : Nat) (w : World) (h : FIn w a l) (hl : l.length ≤ 65536) :
    Calls Tryz.prog 29 #[.slice a l.length cap] w fun e w' => ∃ m, e = .returned (.tuple #[.string (lastR m).1, .bool (lastR m).2]) ∧ OrderR l m ∧ Go.RowKit.Below w.heap.size w w' := by
  have HC := Lib.hid (rallC l a cap w h hl)
  clear h
  go_enter Tryz.func29, Tryz.ntmps29
  go_wp2_with fail
  refine HC.out.mono ?_
  rintro e w1 ⟨v1, m, rfl, hown, hord, hb1⟩
  obtain ⟨oa, oc, rfl, hrow, -⟩ := hown.fin2
  have hml : m.length ≤ 65536 := by have := hord.perm.length_eq; omega
  rw [List.length_map] at *
  have HB1 := Lib.hid hb1
  have HORD := Lib.hid hord
  have HROW := Lib.hid hrow
  clear hb1 hord hrow hown HC
  by_cases h0 : m.length = 0
  · have hm0 : m = [] := List.length_eq_zero_iff.1 h0
    subst hm0
    clear h0
    go_wp2_with fail
    go_ret2
    exact ⟨[], rfl, HORD.out, HB1.out⟩
  · obtain ⟨q, hq⟩ : ∃ q, m.length = q + 1 := ⟨m.length - 1, by omega⟩
    obtain ⟨f, hf⟩ : ∃ d, m[q]? = some d := ⟨_, List.getElem?_eq_getElem (by omega)⟩
    obtain ⟨b, off, rfl, hbl, c0⟩ := HROW.out.at (show (m.map (·.v))[q]? = some f.v by rw [List.getElem?_map, hf]; rfl)
    have HL := Lib.hid (show lastR m = (f.v, true) from by
      unfold lastR
      rw [List.getLast?_eq_getElem?, hq, Nat.add_sub_cancel, hf])
    have hi1 : ((m.length : Int) == 0) = false := by rw [beq_eq_false_iff_ne]; omega
    have hqw : IntKind.i64.wrap ((m.length : Int) - 1) = (q : Int) := by simp [IntKind.wrap, IntKind.bits, IntKind.signed]; omega
    have hq0 : (0 : Int) ≤ (q : Int) := by omega
    have hq1 : (q : Int) < (m.length : Int) := by omega
    clear hf hq h0 hbl
    go_wp2_with fail
    go_ret2
    exact ⟨m, by rw [HL.out]; rfl, HORD.out, HB1.out⟩

set_option maxHeartbeats 4000000 in
theorem rofC (l : List Ft) (k : Int) (n : ByteArray) (a : Option Addr) (cap : Nat) (w : World) (h : FIn w a l) (hl : l.length ≤ 65536) :
    Calls Tryz.prog 28 #[.slice a l.length cap, .int .i64 k, .string n] w fun e w' => ∃ v', e = .returned v' ∧ OwnF w.heap.size v' (ofR k n l) w' ∧ Below w.heap.size w w' := by
  have H := Lib.hid h
  clear h
  go_enter Tryz.func28, Tryz.ntmps28
  go_wp2_with fail
  go_loopw [7, 8] (fun v i wr => ∃ j : Nat, i = .int .i64 (j : Int) ∧ j ≤ l.length ∧ OwnF w.heap.size v (ofR k n (l.take j)) wr ∧ Hid (Below w.heap.size w wr)) (fun _ i _ => l.length - (intOf i).toNat)
  case atStart => exact ⟨0, rfl, Nat.zero_le _, by rw [List.take_zero]; exact ownF_nil _ _, Lib.hid (Below.refl _ _)⟩
  case round =>
    obtain ⟨j, rfl, hj, hown, HB⟩ := hrel
    have HOWN := Lib.hid hown
    obtain ⟨oa, oc, rfl, -, hoc, hocm⟩ := hown.fin2
    have hout : (ofR k n (l.take j)).length ≤ j := by have := ofR_len k n (l.take j); rw [List.length_take] at this; omega
    clear hown
    by_cases hlt : j < l.length
    · obtain ⟨f, hf⟩ : ∃ d, l[j]? = some d := ⟨_, List.getElem?_eq_getElem hlt⟩
      obtain ⟨b, off, rfl, hbl, c0⟩ := (H.out.below HB.out).at hf
      have hi1 : (j : Int) < (l.length : Int) := by omega
      have hnx : ofR k n (l.take (j + 1)) = ofR k n (l.take j) ++ if isR k n f then [f] else [] := by
        obtain ⟨e1, e2⟩ := List.getElem?_eq_some_iff.1 hf
        rw [List.take_succ_eq_append_getElem hlt, ofR_snoc, e2]
      have HNX := Lib.hid hnx
      generalize ofR k n (l.take j) = out at *
      have CL := Lib.hid c0
      have c5 := c0 5 _ rfl
      have c6 := c0 6 _ rfl
      have hx := str_eq f.n n
      have hnw : isR k n f = ((k == 0 || f.k == k) && (f.n.toList == n.toList)) := by
        rw [hx]; unfold isR
        rw [show (k == 0) = decide (k = 0) from rfl, show (f.k == k) = decide (f.k = k) from rfl]
      rw [hnw] at HNX
      have hone := fin_new wr f
      obtain ⟨q2, d2, w3, hr2, ho2, hb3⟩ := appF (c := 1) (HOWN.out.alloc (.cells (fcs f).toArray 48)) hone (by simp; have := HB.out.size; omega) (out.length + 1) (by simp) (by omega)
      have hr2' : (Builtin.append_ #[22, 22] 22 #[.slice oa out.length oc, .slice (some ⟨wr.heap.size, 0, none⟩) 1 1]).run Tryz.prog (wr.alloc (.cells (fcs f).toArray 48)) = .ok (.slice q2 (out.length + 1) d2) w3 := hr2
      have HO3 := Lib.hid ho2
      have HB3 := Lib.hid ((HB.out.alloc HB.out.size _).trans hb3)
      clear hf c0 hbl hnx hx hnw hone hr2 ho2 hb3
      have hyes : ((k == 0 || f.k == k) && (f.n.toList == n.toList)) = true → Hid (OwnF w.heap.size (.slice q2 (out.length + 1) d2) (ofR k n (l.take (j + 1))) w3) := fun e => Lib.hid (by rw [HNX.out, e]; exact HO3.out)
      have hno : ((k == 0 || f.k == k) && (f.n.toList == n.toList)) = false → Hid (OwnF w.heap.size (.slice oa out.length oc) (ofR k n (l.take (j + 1))) wr) := fun e => Lib.hid (by rw [HNX.out, e]; simpa using HOWN.out)
      have HY := Lib.hid hyes
      have HN := Lib.hid hno
      clear hyes hno HNX HO3
      generalize f.k = fk at *
      generalize hg2 : (f.n.toList == n.toList) = t2 at *
      cases h0 : (k == 0) with
      | true =>
        rw [h0] at HY HN
        cases t2 with
        | true =>
          have HE := HY.out rfl
          clear HY HN
          go_wp2_with (first
            | ((with_reducible refine fl_load ?_ (.tmp 38) ?_ b (off + j * 8) f ?_ ?_ ?_); rfl; rfl; rfl; exact CL.out; simp only [Act.put, List.setIfInBounds_toArray, List.set_cons_zero, List.set_cons_succ])
            | ((with_reducible refine wpList_build1F ?_ (.tmp 39) ?_ f ?_ ?_); rfl; rfl; rfl; simp only [Act.put, List.setIfInBounds_toArray, List.set_cons_zero, List.set_cons_succ])
            | (at_builtin; refine wpList_append_run rfl _ _ 22 22 rfl (.slice oa out.length oc) (.slice (some ⟨wr.heap.size, 0, none⟩) 1 1) _ w3 rfl rfl hr2' ?_))
          go_wp2_with fail
          go_roundw
          case rel => exact ⟨j + 1, by go_num, by omega, HE.out, HB3⟩
          case measure => simp [intOf]; omega
        | false =>
          have HE := HN.out rfl
          clear HY HN
          go_wp2_with fail
          go_roundw
          case rel => exact ⟨j + 1, by go_num, by omega, HE.out, HB⟩
          case measure => simp [intOf]; omega
      | false =>
        rw [h0] at HY HN
        cases h1 : (fk == k) with
        | true =>
          rw [h1] at HY HN
          cases t2 with
          | true =>
            have HE := HY.out rfl
            clear HY HN
            go_wp2_with (first
              | ((with_reducible refine fl_load ?_ (.tmp 38) ?_ b (off + j * 8) f ?_ ?_ ?_); rfl; rfl; rfl; exact CL.out; simp only [Act.put, List.setIfInBounds_toArray, List.set_cons_zero, List.set_cons_succ])
              | ((with_reducible refine wpList_build1F ?_ (.tmp 39) ?_ f ?_ ?_); rfl; rfl; rfl; simp only [Act.put, List.setIfInBounds_toArray, List.set_cons_zero, List.set_cons_succ])
              | (at_builtin; refine wpList_append_run rfl _ _ 22 22 rfl (.slice oa out.length oc) (.slice (some ⟨wr.heap.size, 0, none⟩) 1 1) _ w3 rfl rfl hr2' ?_))
            go_wp2_with fail
            go_roundw
            case rel => exact ⟨j + 1, by go_num, by omega, HE.out, HB3⟩
            case measure => simp [intOf]; omega
          | false =>
            have HE := HN.out rfl
            clear HY HN
            go_wp2_with fail
            go_roundw
            case rel => exact ⟨j + 1, by go_num, by omega, HE.out, HB⟩
            case measure => simp [intOf]; omega
        | false =>
          rw [h1] at HY HN
          have HE := HN.out (by cases t2 <;> rfl)
          clear HY HN
          go_wp2_with fail
          go_roundw
          case rel => exact ⟨j + 1, by go_num, by omega, HE.out, HB⟩
          case measure => simp [intOf]; omega
    · obtain rfl : j = l.length := by omega
      rw [List.take_length] at *
      have hi1 : ¬ (l.length : Int) < (l.length : Int) := by omega
      go_wp2_with fail
      go_ret
      exact ⟨_, rfl, HOWN.out, HB.out⟩
end Go.Proofs.YtchnklekeinhiaaGreat
