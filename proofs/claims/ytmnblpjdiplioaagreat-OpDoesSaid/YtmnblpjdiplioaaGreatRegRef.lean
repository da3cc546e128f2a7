/-
  register, the document's: order, All, Last, Of.
-/
import Derived.Test.YtmnblpjdiplioaaGreatGOp15
import Derived.Test.YtmnblpjdiplioaaGreatRegVal
namespace Go.Proofs.YtmnblpjdiplioaaGreat
set_option linter.unusedSimpArgs false
set_option linter.unusedVariables false
set_option maxRecDepth 100000
open Go.RowKit Go.Sort

set_option maxHeartbeats 8000000 in
theorem rordC (l : List Ft) (a : Option Addr) (cap : Nat) (w : World) (h : FIn w a l) (hl : l.length ≤ 65536) :
    Calls Tryz.prog 47 #[.slice a l.length cap] w fun e w' => ∃ v' m, e = .returned v' ∧ OwnF w.heap.size v' m w' ∧ OrderR l m ∧ Go.RowKit.Below w.heap.size w w' := by
  have H := Lib.hid h
  clear h
  go_enter Tryz.func47, Tryz.ntmps47
  go_wp2_with fail
  go_loopw [3, 4] (fun v i wr => ∃ (k : Nat) (m : List Ft), k ≤ l.length ∧ i = .int .i64 k ∧ OwnF w.heap.size v m wr ∧ Hid (OrderR (l.take k) m) ∧ Go.RowKit.Below w.heap.size w wr) (fun _ i _ => l.length - (intOf i).toNat)
  case atStart => exact ⟨0, [], Nat.zero_le _, rfl, ownF_nil _ _, Lib.hid (by rw [List.take_zero]; exact OrderR.nil), Below.refl _ _⟩
  case round =>
    obtain ⟨i, out, hi, rfl, hown, HORD, hb⟩ := hrel
    have HOWN := Lib.hid hown
    have HB0 := Lib.hid hb
    obtain ⟨oa, oc, rfl, hdin, hoc, hocm⟩ := hown.fin2
    have hout : out.length ≤ i := by have := HORD.out.perm.length_eq; rw [List.length_take] at this; omega
    clear hown hb
    by_cases hlt : i < l.length
    · obtain ⟨d, hd⟩ : ∃ d, l[i]? = some d := ⟨_, List.getElem?_eq_getElem hlt⟩
      obtain ⟨lb, lo, rfl, hlb, cl0⟩ := (H.out.below HB0.out).at hd
      have HNX := Lib.hid (show l.take (i + 1) = l.take i ++ [d] from by
        obtain ⟨e1, e2⟩ := List.getElem?_eq_some_iff.1 hd
        rw [List.take_succ_eq_append_getElem hlt, e2])
      have hi1 : (i : Int) < (l.length : Int) := by omega
      have CL := Lib.hid cl0
      have HDI := Lib.hid hdin
      clear hd hdin cl0
      go_wp2_with fail
      go_loopw [5] (fun j wk => ∃ k : Nat, k ≤ out.length ∧ j = .int .i64 (k : Int) ∧ Hid (∀ x ∈ out.drop k, ltR d x = true) ∧ Hid (Go.RowKit.Below wr.heap.size wr wk)) (fun j _ => (intOf j).toNat)
      case atStart => exact ⟨out.length, Nat.le_refl _, rfl, Lib.hid (by simp), Lib.hid (Below.refl _ _)⟩
      case round =>
        rename World => wk
        obtain ⟨k, hk, rfl, HK, HW⟩ := hrel
        have hks := HW.out.size
        by_cases hk0 : 0 < k
        · obtain ⟨q, hq⟩ : ∃ q, k = q + 1 := ⟨k - 1, by omega⟩
          obtain ⟨f, hf⟩ : ∃ d, out[q]? = some d := ⟨_, List.getElem?_eq_getElem (by omega)⟩
          obtain ⟨b2, o2, rfl, hlb2, p0⟩ := (HDI.out.below HW.out).at hf
          have k0 := range_below CL.out HW.out hlb
          have hlbk : lb < wk.heap.size := by omega
          have hki : decide ((0 : Int) < (k : Int)) = true := by simp; omega
          have hki2 : (0 : Int) < (k : Int) := by omega
          have hqw : IntKind.i64.wrap ((k : Int) - 1) = (q : Int) := by simp [IntKind.wrap, IntKind.bits, IntKind.signed]; omega
          have hq0 : (0 : Int) ≤ (q : Int) := by omega
          have hq1 : (q : Int) < (out.length : Int) := by omega
          have hql : q < out.length := by omega
          have hfe : out[q] = f := by rw [List.getElem?_eq_getElem hql] at hf; exact Option.some.inj hf
          have HQ := Lib.hid hq
          have HFE := Lib.hid hfe
          have HR0 := Lib.hid (range_regrown p0 hlb2)
          have HR1 := Lib.hid (range_regrown k0 hlbk)
          have HCX := Lib.hid (fun dq os => Calls.regrown_of (laterR f d (grow (redrawn wk dq) os)))
          clear hq hf hfe p0 k0
          cases ht : ltR d f with
          | true =>
            rw [ht] at HCX
            have HN := Lib.hid (show ∀ x ∈ out.drop q, ltR d x = true from fun x hx => by
              rw [List.drop_eq_getElem_cons (hql)] at hx
              rcases List.mem_cons.1 hx with rfl | hx
              · rw [HFE.out]; exact ht
              · exact HK.out x (by rw [HQ.out]; exact hx))
            clear ht
            go_upto_region 6 with fail
            refine wp_region_quiet_below (by kernel_rfl) (by kernel_rfl) ?_
            repeat (first
              | ((with_reducible refine fq_load ?_ (.tmp 21) ?_ b2 (o2 + q * 8) f ?_ ?_ ?_); rfl; rfl; rfl; exact HR0.out; simp only [Act.put, List.setIfInBounds_toArray, List.set_cons_zero, List.set_cons_succ])
              | ((with_reducible refine fq_load ?_ (.tmp 25) ?_ lb (lo + i * 8) d ?_ ?_ ?_); rfl; rfl; rfl; exact HR1.out; simp only [Act.put, List.setIfInBounds_toArray, List.set_cons_zero, List.set_cons_succ])
              | go_big_quiet_step ((go_at_call 71; with_reducible exact HCX.out _ _))
              | quiet_step ((go_at_call 71; with_reducible exact HCX.out _ _)))
            refine wpQuiet_nil ?_
            intro _ hw'
            obtain ⟨⟨dq, osq⟩, hw''⟩ := hw'
            subst hw''
            have HW9 := Lib.hid (HW.out.trans ((below_regrown wk dq osq).mono hks))
            clear HCX HR0 HR1 HW
            generalize grow (redrawn wk dq) osq = W at *
            go_wp2_with fail
            go_roundw
            case rel => exact ⟨q, by have := HQ.out; omega, by go_num, HN, HW9⟩
            case measure => have := HQ.out; simp [intOf]; omega
          | false =>
            rw [ht] at HCX
            have HPUT := Lib.hid (show OrderR (l.take (i + 1)) (out.take k ++ d :: out.drop k) from by
              rw [HNX.out]
              refine HORD.out.put d k hk ?_ (fun x hx => .inl (HK.out x hx))
              rw [HQ.out]
              exact HORD.out.weak.ahead (hql) (by rw [HFE.out]; exact ht))
            clear ht
            go_upto_region 6 with fail
            refine wp_region_quiet_below (by kernel_rfl) (by kernel_rfl) ?_
            repeat (first
              | ((with_reducible refine fq_load ?_ (.tmp 21) ?_ b2 (o2 + q * 8) f ?_ ?_ ?_); rfl; rfl; rfl; exact HR0.out; simp only [Act.put, List.setIfInBounds_toArray, List.set_cons_zero, List.set_cons_succ])
              | ((with_reducible refine fq_load ?_ (.tmp 25) ?_ lb (lo + i * 8) d ?_ ?_ ?_); rfl; rfl; rfl; exact HR1.out; simp only [Act.put, List.setIfInBounds_toArray, List.set_cons_zero, List.set_cons_succ])
              | go_big_quiet_step ((go_at_call 71; with_reducible exact HCX.out _ _))
              | quiet_step ((go_at_call 71; with_reducible exact HCX.out _ _)))
            refine wpQuiet_nil ?_
            intro _ hw'
            obtain ⟨⟨dq, osq⟩, hw''⟩ := hw'
            subst hw''
            have HW9 := Lib.hid (HW.out.trans ((below_regrown wk dq osq).mono hks))
            clear HCX HR0 HR1 HW hks hlbk hqw hq0 hq1
            generalize grow (redrawn wk dq) osq = W at *
            obtain ⟨p1, hs1, hd1⟩ := takeF (some ⟨b2, o2, none⟩) out.length oc k hk hoc hocm
            obtain ⟨p2, hs2, hd2⟩ := dropF (some ⟨b2, o2, none⟩) out.length oc k hk hoc hocm
            have hl1 : (out.take k).length = k := by rw [List.length_take]; omega
            have hl2 : (out.drop k).length = out.length - k := List.length_drop
            have hdn := HDI.out.below HW9.out
            have hWs := HW9.out.size
            obtain ⟨q1, d1, w1, hr1, ho1, hb1⟩ := appF (c := oc) (ownF_nil W.heap.size W) (hd1 W out rfl hdn) (Nat.le_refl _) k (by rw [hl1]; simp) (by omega)
            rw [hl1] at hr1
            have HO1 := Lib.hid ho1
            have HB1 := Lib.hid hb1
            have HD2 := Lib.hid (hd2 W out rfl hdn)
            have CL1 := Lib.hid (range_below (range_below CL.out HW9.out hlb) (show Below W.heap.size W w1 from hb1) (Nat.lt_of_lt_of_le hlb hWs))
            have hs1' := hb1.size
            have hlb1 : lb < w1.heap.size := by omega
            clear ho1 hb1 hd1 hd2 hdn
            go_upto_region 10 with (at_builtin; refine wpList_append_run rfl _ _ 22 22 rfl (.slice none 0 0) (.slice p1 k oc) _ w1 rfl rfl hr1 ?_)
            have hone := fin_new w1 d
            obtain ⟨q2, d2, w2, hr2, ho2, hb2⟩ := appF (c := 1) (HO1.out.alloc (.cells (fcs d).toArray 63)) hone (by simp; omega) (k + 1) (by simp; omega) (by omega)
            have hr2' : (Builtin.append_ #[22, 22] 22 #[.slice q1 k d1, .slice (some ⟨w1.heap.size, 0, none⟩) 1 1]).run Tryz.prog (w1.alloc (.cells (fcs d).toArray 63)) = .ok (.slice q2 (k + 1) d2) w2 := hr2
            have HO2 := Lib.hid ho2
            have hb2' : Go.RowKit.Below W.heap.size W w2 := (HB1.out.alloc hs1' _).trans hb2
            have HB2 := Lib.hid hb2'
            have hs2' := hb2'.size
            have HD3 := Lib.hid (HD2.out.below hb2')
            clear ho2 hb2 hb2' hone hr2
            go_upto_region 11 with (first
              | ((with_reducible refine fl_load ?_ (.tmp 39) ?_ lb (lo + i * 8) d ?_ ?_ ?_); rfl; rfl; rfl; exact CL1.out; simp only [Act.put, List.setIfInBounds_toArray, List.set_cons_zero, List.set_cons_succ])
              | ((with_reducible refine wpList_build1F ?_ (.tmp 40) ?_ d ?_ ?_); rfl; rfl; rfl; simp only [Act.put, List.setIfInBounds_toArray, List.set_cons_zero, List.set_cons_succ])
              | (at_builtin; refine wpList_append_run rfl _ _ 22 22 rfl (.slice q1 k d1) (.slice (some ⟨w1.heap.size, 0, none⟩) 1 1) _ w2 rfl rfl hr2' ?_))
            obtain ⟨q3, d3, w3, hr3, ho3, hb3⟩ := appF (c := oc - k) HO2.out HD3.out hs2' (out.length + 1) (by simp; omega) (by omega)
            rw [hl2] at hr3
            have HFIN := Lib.hid (show OwnF w.heap.size (.slice q3 (out.length + 1) d3) (out.take k ++ d :: out.drop k) w3 ∧ Go.RowKit.Below w.heap.size w w3 from by
              refine ⟨?_, HB0.out.trans ((HW9.out.trans ((HB2.out.trans hb3).mono hWs)).mono HB0.out.size)⟩
              have e : out.take k ++ d :: out.drop k = out.take k ++ [d] ++ out.drop k := by simp
              rw [e]
              exact ho3.mono (by have := HB0.out.size; omega))
            clear ho3 hb3 hr1 hr2'
            go_wp2_with (at_builtin; refine wpList_append_run rfl _ _ 22 22 rfl (.slice q2 (k + 1) d2) (.slice p2 (out.length - k) (oc - k)) _ w3 rfl rfl hr3 ?_)
            go_wp2_with fail
            go_roundw
            case rel => exact ⟨i + 1, _, by omega, by go_num, HFIN.out.1, HPUT, HFIN.out.2⟩
            case measure => simp [intOf]; omega
        · have HPUT := Lib.hid (show OrderR (l.take (i + 1)) (out.take k ++ d :: out.drop k) from by
            rw [HNX.out]
            refine HORD.out.put d k hk ?_ (fun x hx => .inl (HK.out x hx))
            rw [show k = 0 by omega]
            simp)
          have hki : decide ((0 : Int) < (k : Int)) = false := by simp; omega
          go_upto_region 6 with fail
          refine wp_region_quiet_below (by kernel_rfl) (by kernel_rfl) ?_
          repeat (first
            | go_big_quiet_step (fail) | quiet_step (fail))
          refine wpQuiet_nil ?_
          intro _ hw'
          obtain ⟨⟨dq, osq⟩, hw''⟩ := hw'
          subst hw''
          have HW9 := Lib.hid (HW.out.trans ((below_regrown wk dq osq).mono hks))
          clear HW hks
          generalize grow (redrawn wk dq) osq = W at *
          obtain ⟨p1, hs1, hd1⟩ := takeF oa out.length oc k hk hoc hocm
          obtain ⟨p2, hs2, hd2⟩ := dropF oa out.length oc k hk hoc hocm
          have hl1 : (out.take k).length = k := by rw [List.length_take]; omega
          have hl2 : (out.drop k).length = out.length - k := List.length_drop
          have hdn := HDI.out.below HW9.out
          have hWs := HW9.out.size
          obtain ⟨q1, d1, w1, hr1, ho1, hb1⟩ := appF (c := oc) (ownF_nil W.heap.size W) (hd1 W out rfl hdn) (Nat.le_refl _) k (by rw [hl1]; simp) (by omega)
          rw [hl1] at hr1
          have HO1 := Lib.hid ho1
          have HB1 := Lib.hid hb1
          have HD2 := Lib.hid (hd2 W out rfl hdn)
          have CL1 := Lib.hid (range_below (range_below CL.out HW9.out hlb) (show Below W.heap.size W w1 from hb1) (Nat.lt_of_lt_of_le hlb hWs))
          have hs1' := hb1.size
          have hlb1 : lb < w1.heap.size := by omega
          clear ho1 hb1 hd1 hd2 hdn
          go_upto_region 10 with (at_builtin; refine wpList_append_run rfl _ _ 22 22 rfl (.slice none 0 0) (.slice p1 k oc) _ w1 rfl rfl hr1 ?_)
          have hone := fin_new w1 d
          obtain ⟨q2, d2, w2, hr2, ho2, hb2⟩ := appF (c := 1) (HO1.out.alloc (.cells (fcs d).toArray 63)) hone (by simp; omega) (k + 1) (by simp; omega) (by omega)
          have hr2' : (Builtin.append_ #[22, 22] 22 #[.slice q1 k d1, .slice (some ⟨w1.heap.size, 0, none⟩) 1 1]).run Tryz.prog (w1.alloc (.cells (fcs d).toArray 63)) = .ok (.slice q2 (k + 1) d2) w2 := hr2
          have HO2 := Lib.hid ho2
          have hb2' : Go.RowKit.Below W.heap.size W w2 := (HB1.out.alloc hs1' _).trans hb2
          have HB2 := Lib.hid hb2'
          have hs2' := hb2'.size
          have HD3 := Lib.hid (HD2.out.below hb2')
          clear ho2 hb2 hb2' hone hr2
          go_upto_region 11 with (first
            | ((with_reducible refine fl_load ?_ (.tmp 39) ?_ lb (lo + i * 8) d ?_ ?_ ?_); rfl; rfl; rfl; exact CL1.out; simp only [Act.put, List.setIfInBounds_toArray, List.set_cons_zero, List.set_cons_succ])
            | ((with_reducible refine wpList_build1F ?_ (.tmp 40) ?_ d ?_ ?_); rfl; rfl; rfl; simp only [Act.put, List.setIfInBounds_toArray, List.set_cons_zero, List.set_cons_succ])
            | (at_builtin; refine wpList_append_run rfl _ _ 22 22 rfl (.slice q1 k d1) (.slice (some ⟨w1.heap.size, 0, none⟩) 1 1) _ w2 rfl rfl hr2' ?_))
          obtain ⟨q3, d3, w3, hr3, ho3, hb3⟩ := appF (c := oc - k) HO2.out HD3.out hs2' (out.length + 1) (by simp; omega) (by omega)
          rw [hl2] at hr3
          have HFIN := Lib.hid (show OwnF w.heap.size (.slice q3 (out.length + 1) d3) (out.take k ++ d :: out.drop k) w3 ∧ Go.RowKit.Below w.heap.size w w3 from by
            refine ⟨?_, HB0.out.trans ((HW9.out.trans ((HB2.out.trans hb3).mono hWs)).mono HB0.out.size)⟩
            have e : out.take k ++ d :: out.drop k = out.take k ++ [d] ++ out.drop k := by simp
            rw [e]
            exact ho3.mono (by have := HB0.out.size; omega))
          clear ho3 hb3 hr1 hr2'
          go_wp2_with (at_builtin; refine wpList_append_run rfl _ _ 22 22 rfl (.slice q2 (k + 1) d2) (.slice p2 (out.length - k) (oc - k)) _ w3 rfl rfl hr3 ?_)
          go_wp2_with fail
          go_roundw
          case rel => exact ⟨i + 1, _, by omega, by go_num, HFIN.out.1, HPUT, HFIN.out.2⟩
          case measure => simp [intOf]; omega
    · obtain rfl : i = l.length := by omega
      have HOE := Lib.hid (show OrderR l out from by have := HORD.out; rwa [List.take_length] at this)
      have hi1 : ¬ (l.length : Int) < (l.length : Int) := by omega
      go_wp2_with fail
      go_ret
      exact ⟨_, rfl, out, HOWN.out, HOE.out, HB0.out⟩

set_option maxHeartbeats 4000000 in
theorem rallC (l : List Ft) (a : Option Addr) (cap : Nat) (w : World) (h : FIn w a l) (hl : l.length ≤ 65536) :
    Calls Tryz.prog 23 #[.slice a l.length cap] w fun e w' => ∃ v' m, e = .returned v' ∧ OwnS w.heap.size v' (m.map (·.v)) w' ∧ OrderR l m ∧ Go.RowKit.Below w.heap.size w w' := by
  have HC := Lib.hid (rordC l a cap w h hl)
  clear h
  go_enter Tryz.func23, Tryz.ntmps23
  go_wp2_with fail
  refine HC.out.mono ?_
  rintro e w1 ⟨v1, m, rfl, hown, hord, hb1⟩
  obtain ⟨oa, oc, rfl, hin, -⟩ := hown.fin2
  have hml : m.length ≤ 65536 := by have := hord.perm.length_eq; omega
  have HB1 := Lib.hid hb1
  have HORD := Lib.hid hord
  have HIN := Lib.hid hin
  clear hb1 hord hin hown HC
  go_wp2_with fail
  go_loopw [3, 5] (fun v i wr => ∃ (j : Nat) (xs : List ByteArray), i = .int .i64 (j : Int) ∧ j ≤ m.length ∧ OwnS w1.heap.size v xs wr ∧ Hid (xs = (m.take j).map (·.v)) ∧ Hid (Go.RowKit.Below w1.heap.size w1 wr)) (fun _ i _ => m.length - (intOf i).toNat)
  case atStart => exact ⟨0, [], rfl, Nat.zero_le _, ownS_nil _ _, Lib.hid (by rw [List.take_zero]; rfl), Lib.hid (Below.refl _ _)⟩
  case round =>
    obtain ⟨j, xs, rfl, hj, hown, HX, HB⟩ := hrel
    have HOWN := Lib.hid hown
    obtain ⟨va, vc, rfl, -, hoc, hocm⟩ := hown.fin2
    have hxl : xs.length ≤ m.length := by rw [HX.out, List.length_map, List.length_take]; omega
    clear hown
    by_cases hlt : j < m.length
    · obtain ⟨f, hf⟩ : ∃ d, m[j]? = some d := ⟨_, List.getElem?_eq_getElem hlt⟩
      obtain ⟨b, off, rfl, hbl, c0⟩ := (HIN.out.below HB.out).at hf
      have c7 := c0 7 _ rfl
      have hi1 : (j : Int) < (m.length : Int) := by omega
      have HNX := Lib.hid (show xs ++ [f.v] = (m.take (j + 1)).map (·.v) from by
        obtain ⟨e1, e2⟩ := List.getElem?_eq_some_iff.1 hf
        rw [HX.out, List.take_succ_eq_append_getElem hlt, e2, List.map_append]; rfl)
      obtain ⟨q2, d2, w3, hr2, ho2, hb3⟩ := appX (c := 1) (OwnS.below (HOWN.out) ((Below.refl _ wr).alloc (Nat.le_refl _) (.cells #[.string f.v] 9)) (Nat.le_refl _)) (strRow_one wr f.v) (by simp; have := HB.out.size; omega) (xs.length + 1) (by simp) (by omega)
      have hr2' : (Builtin.append_ #[60, 60] 60 #[.slice va xs.length vc, .slice (some ⟨wr.heap.size, 0, none⟩) 1 1]).run Tryz.prog (wr.alloc (.cells #[.string f.v] 9)) = .ok (.slice q2 (xs.length + 1) d2) w3 := hr2
      have HO3 := Lib.hid ho2
      have HB3 := Lib.hid ((HB.out.alloc HB.out.size _).trans hb3)
      clear ho2 hb3 hr2 c0 hbl hf
      go_wp2_with (at_builtin; refine wpList_append_run rfl _ _ 60 60 rfl (.slice va xs.length vc) (.slice (some ⟨wr.heap.size, 0, none⟩) 1 1) _ w3 rfl rfl hr2' ?_)
      go_wp2_with fail
      go_roundw
      case rel => exact ⟨j + 1, xs ++ [f.v], by go_num, by omega, HO3.out, HNX, HB3⟩
      case measure => simp [intOf]; omega
    · obtain rfl : j = m.length := by omega
      have HOE := Lib.hid (show xs = m.map (·.v) from by have := HX.out; rwa [List.take_length] at this)
      have hi1 : ¬ (m.length : Int) < (m.length : Int) := by omega
      go_wp2_with fail
      go_ret
      exact ⟨_, rfl, m, by rw [← HOE.out]; exact HOWN.out.mono HB1.out.size, HORD.out, HB1.out.trans (HB.out.mono HB1.out.size)⟩

set_option maxHeartbeats 4000000 in
theorem rofC (l : List Ft) (k : Int) (n : ByteArray) (a : Option Addr) (cap : Nat) (w : World) (h : FIn w a l) (hl : l.length ≤ 65536) :
    Calls Tryz.prog 21 #[.slice a l.length cap, .int .i64 k, .string n] w fun e w' => ∃ v', e = .returned v' ∧ OwnF w.heap.size v' (ofR k n l) w' ∧ Below w.heap.size w w' := by
  have H := Lib.hid h
  clear h
  go_enter Tryz.func21, Tryz.ntmps21
  go_wp2_with fail
  go_loopw [7, 8] (fun v i wr => ∃ j : Nat, i = .int .i64 (j : Int) ∧ j ≤ l.length ∧ OwnF w.heap.size v (ofR k n (l.take j)) wr ∧ Hid (Below w.heap.size w wr)) (fun _ i _ => l.length - (intOf i).toNat)
  case atStart => exact ⟨0, rfl, Nat.zero_le _, by rw [List.take_zero]; exact ownF_nil _ _, Lib.hid (Below.refl _ _)⟩
  case round =>
    obtain ⟨j, rfl, hj, hown, HB⟩ := hrel
    have HOWN := Lib.hid hown
    obtain ⟨oa, oc, rfl, -, hoc, hocm⟩ := hown.fin2
    have hout : (ofR k n (l.take j)).length ≤ j := by have := ofR_len k n (l.take j); rw [List.length_take] at this; omega
    clear hown
    by_cases hlt : j < l.length
    · obtain ⟨f, hf⟩ : ∃ d, l[j]? = some d := ⟨_, List.getElem?_eq_getElem hlt⟩
      obtain ⟨b, off, rfl, hbl, c0⟩ := (H.out.below HB.out).at hf
      have hi1 : (j : Int) < (l.length : Int) := by omega
      have hnx : ofR k n (l.take (j + 1)) = ofR k n (l.take j) ++ if isR k n f then [f] else [] := by
        obtain ⟨e1, e2⟩ := List.getElem?_eq_some_iff.1 hf
        rw [List.take_succ_eq_append_getElem hlt, ofR_snoc, e2]
      have HNX := Lib.hid hnx
      generalize ofR k n (l.take j) = out at *
      have CL := Lib.hid c0
      have c5 := c0 5 _ rfl
      have c6 := c0 6 _ rfl
      have hx := str_eq f.n n
      have hnw : isR k n f = ((k == 0 || f.k == k) && (f.n.toList == n.toList)) := by
        rw [hx]; unfold isR
        rw [show (k == 0) = decide (k = 0) from rfl, show (f.k == k) = decide (f.k = k) from rfl]
      rw [hnw] at HNX
      have hone := fin_new wr f
      obtain ⟨q2, d2, w3, hr2, ho2, hb3⟩ := appF (c := 1) (HOWN.out.alloc (.cells (fcs f).toArray 63)) hone (by simp; have := HB.out.size; omega) (out.length + 1) (by simp) (by omega)
      have hr2' : (Builtin.append_ #[22, 22] 22 #[.slice oa out.length oc, .slice (some ⟨wr.heap.size, 0, none⟩) 1 1]).run Tryz.prog (wr.alloc (.cells (fcs f).toArray 63)) = .ok (.slice q2 (out.length + 1) d2) w3 := hr2
      have HO3 := Lib.hid ho2
      have HB3 := Lib.hid ((HB.out.alloc HB.out.size _).trans hb3)
      clear hf c0 hbl hnx hx hnw hone hr2 ho2 hb3
      have hyes : ((k == 0 || f.k == k) && (f.n.toList == n.toList)) = true → Hid (OwnF w.heap.size (.slice q2 (out.length + 1) d2) (ofR k n (l.take (j + 1))) w3) := fun e => Lib.hid (by rw [HNX.out, e]; exact HO3.out)
      have hno : ((k == 0 || f.k == k) && (f.n.toList == n.toList)) = false → Hid (OwnF w.heap.size (.slice oa out.length oc) (ofR k n (l.take (j + 1))) wr) := fun e => Lib.hid (by rw [HNX.out, e]; simpa using HOWN.out)
      have HY := Lib.hid hyes
      have HN := Lib.hid hno
      clear hyes hno HNX HO3
      generalize f.k = fk at *
      generalize hg2 : (f.n.toList == n.toList) = t2 at *
      cases h0 : (k == 0) with
      | true =>
        rw [h0] at HY HN
        cases t2 with
        | true =>
          have HE := HY.out rfl
          clear HY HN
          go_wp2_with (first
            | ((with_reducible refine fl_load ?_ (.tmp 38) ?_ b (off + j * 8) f ?_ ?_ ?_); rfl; rfl; rfl; exact CL.out; simp only [Act.put, List.setIfInBounds_toArray, List.set_cons_zero, List.set_cons_succ])
            | ((with_reducible refine wpList_build1F ?_ (.tmp 39) ?_ f ?_ ?_); rfl; rfl; rfl; simp only [Act.put, List.setIfInBounds_toArray, List.set_cons_zero, List.set_cons_succ])
            | (at_builtin; refine wpList_append_run rfl _ _ 22 22 rfl (.slice oa out.length oc) (.slice (some ⟨wr.heap.size, 0, none⟩) 1 1) _ w3 rfl rfl hr2' ?_))
          go_wp2_with fail
          go_roundw
          case rel => exact ⟨j + 1, by go_num, by omega, HE.out, HB3⟩
          case measure => simp [intOf]; omega
        | false =>
          have HE := HN.out rfl
          clear HY HN
          go_wp2_with fail
          go_roundw
          case rel => exact ⟨j + 1, by go_num, by omega, HE.out, HB⟩
          case measure => simp [intOf]; omega
      | false =>
        rw [h0] at HY HN
        cases h1 : (fk == k) with
        | true =>
          rw [h1] at HY HN
          cases t2 with
          | true =>
            have HE := HY.out rfl
            clear HY HN
            go_wp2_with (first
              | ((with_reducible refine fl_load ?_ (.tmp 38) ?_ b (off + j * 8) f ?_ ?_ ?_); rfl; rfl; rfl; exact CL.out; simp only [Act.put, List.setIfInBounds_toArray, List.set_cons_zero, List.set_cons_succ])
              | ((with_reducible refine wpList_build1F ?_ (.tmp 39) ?_ f ?_ ?_); rfl; rfl; rfl; simp only [Act.put, List.setIfInBounds_toArray, List.set_cons_zero, List.set_cons_succ])
              | (at_builtin; refine wpList_append_run rfl _ _ 22 22 rfl (.slice oa out.length oc) (.slice (some ⟨wr.heap.size, 0, none⟩) 1 1) _ w3 rfl rfl hr2' ?_))
            go_wp2_with fail
            go_roundw
            case rel => exact ⟨j + 1, by go_num, by omega, HE.out, HB3⟩
            case measure => simp [intOf]; omega
          | false =>
            have HE := HN.out rfl
            clear HY HN
            go_wp2_with fail
            go_roundw
            case rel => exact ⟨j + 1, by go_num, by omega, HE.out, HB⟩
            case measure => simp [intOf]; omega
        | false =>
          rw [h1] at HY HN
          have HE := HN.out (by cases t2 <;> rfl)
          clear HY HN
          go_wp2_with fail
          go_roundw
          case rel => exact ⟨j + 1, by go_num, by omega, HE.out, HB⟩
          case measure => simp [intOf]; omega
    · obtain rfl : j = l.length := by omega
      rw [List.take_length] at *
      have hi1 : ¬ (l.length : Int) < (l.length : Int) := by omega
      go_wp2_with fail
      go_ret
      exact ⟨_, rfl, HOWN.out, HB.out⟩
end Go.Proofs.YtmnblpjdiplioaaGreat
