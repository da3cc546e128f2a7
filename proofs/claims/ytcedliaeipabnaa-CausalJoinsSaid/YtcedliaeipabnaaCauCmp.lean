/-
  Compare: the program's, and the document's.
-/
import Derived.Test.YtcedliaeipabnaaCauMiss
import Derived.Test.YtcedliaeipabnaaCauRMiss
namespace Go.Proofs.Ytcedliaeipabnaa
set_option maxRecDepth 100000
open Go.RowKit Go.Sort

set_option maxHeartbeats 4000000 in
theorem cmpCC (a b : Cx) (pa pb : Option Addr) (ca cb : Nat) (w : World) (h : CIn w a pa) (hm : CIn w b pb) :
    Calls Try.prog 23 #[.agg (ccs a.v (.slice pa a.l.length ca)), .agg (ccs b.v (.slice pb b.l.length cb))] w fun e w' => e = .returned (.int .i64 (cmpC a b)) ∧ Go.RowKit.Below w.heap.size w w' := by
  have HV := Lib.hid h.v16
  have HV2 := Lib.hid hm.v16
  have HC := Lib.hid (two_ctx w a.v b.v (.slice pa a.l.length ca) (.slice pb b.l.length cb))
  have HI := Lib.hid (And.intro h hm)
  unfold boxC at HC
  clear h hm
  go_enter Try.func23, Try.ntmps23
  go_upto_region 1 with fail
  generalize (w.alloc (.cells (ccs a.v (.slice pa a.l.length ca)) 26)).alloc (.cells (ccs b.v (.slice pb b.l.length cb)) 26) = W at *
  refine wp_region_held (S := fun U => Go.RowKit.Below W.heap.size W U) (by kernel_rfl) ?_
  change wpAnyH _ _ _ _ _ _ _ _ W.drew
  have K0 : (fun U => Go.RowKit.Below W.heap.size W U) W.drew := (Below.refl _ _).drew
  refine wpAnyH_take (i := 0) (oi := { dst := some 7, op := _, type := _, pos := _, after := _, guard := _ }) rfl (by kernel_rfl) (by kernel_rfl) (by kernel_rfl) (fun _ _ _ h => h) (yield_C (by rfl) (.tmp 3) rfl (w.heap.size + 1) b.v (.slice pb b.l.length cb) rfl (fun U hU => HC.out.2.1.keep hU) HV2.out) K0 ?_
  try simp only [Act.put, List.setIfInBounds_toArray, List.set_cons_zero, List.set_cons_succ]
  refine wpAnyH_take (i := 1) (oi := { dst := some 8, op := _, type := _, pos := _, after := _, guard := _ }) rfl (by kernel_rfl) (by kernel_rfl) (by kernel_rfl) (fun _ _ _ h => h) (yield_C (by rfl) (.tmp 2) rfl w.heap.size a.v (.slice pa a.l.length ca) rfl (fun U hU => HC.out.1.keep hU) HV.out) K0 ?_
  try simp only [Act.put, List.setIfInBounds_toArray, List.set_cons_zero, List.set_cons_succ]
  refine wpAnyH_take (i := 5) (oi := { dst := some 12, op := _, type := _, pos := _, after := _, guard := _ }) rfl (by kernel_rfl) (by kernel_rfl) (by kernel_rfl) (fun _ _ _ h => h) (yield_C (by rfl) (.tmp 2) rfl w.heap.size a.v (.slice pa a.l.length ca) rfl (fun U hU => HC.out.1.keep hU) HV.out) K0 ?_
  try simp only [Act.put, List.setIfInBounds_toArray, List.set_cons_zero, List.set_cons_succ]
  refine wpAnyH_take (i := 6) (oi := { dst := some 13, op := _, type := _, pos := _, after := _, guard := _ }) rfl (by kernel_rfl) (by kernel_rfl) (by kernel_rfl) (fun _ _ _ h => h) (yield_C (by rfl) (.tmp 3) rfl (w.heap.size + 1) b.v (.slice pb b.l.length cb) rfl (fun U hU => HC.out.2.1.keep hU) HV2.out) K0 ?_
  try simp only [Act.put, List.setIfInBounds_toArray, List.set_cons_zero, List.set_cons_succ]
  refine wpAnyH_ready (rs := [2]) (by kernel_rfl) (by simp) ?_
  refine AllReadyH.cons (o := { dst := some 9, op := _, type := _, pos := _, after := _, guard := _ }) rfl (fun K hK => ?_) AllReadyH.nil
  go_simp
  refine (missCC b a pb pa cb ca _ (HI.out.2.below (HC.out.2.2.trans (K0.mono HC.out.2.2.size))) (HI.out.1.below (HC.out.2.2.trans (K0.mono HC.out.2.2.size)))).mono ?_
  rintro e w2 ⟨⟨m, mp, mk, rfl, hmi, hmd⟩, hb2⟩
  have K2 := K0.trans (hb2.mono K0.size)
  have HM := Lib.hid hmi
  clear hmi hmd hb2
  refine hK.out _ _ K2 (fun _ => ?_)
  clear hK K
  try simp only [Act.put, List.setIfInBounds_toArray, List.set_cons_zero, List.set_cons_succ]
  refine wpAnyH_take (i := 3) (oi := { dst := some 10, op := _, type := _, pos := _, after := _, guard := _ }) (v := ?v5) rfl (by kernel_rfl) (by kernel_rfl) (by kernel_rfl) (fun _ _ _ h => h) (Or.inl ⟨by rfl, ?hy5⟩) K2 ?rest5
  case hy5 => (intro w hSw; (try dsimp only at hSw); first | (go_simp; done) | (go_simp; with_reducible rfl))
  try simp only [Act.put, List.setIfInBounds_toArray, List.set_cons_zero, List.set_cons_succ]
  refine wpAnyH_take (i := 4) (oi := { dst := some 11, op := _, type := _, pos := _, after := _, guard := _ }) (v := ?v6) rfl (by kernel_rfl) (by kernel_rfl) (by kernel_rfl) (fun _ _ _ h => h) (Or.inl ⟨by rfl, ?hy6⟩) K2 ?rest6
  case hy6 => (intro w hSw; (try dsimp only at hSw); first | (go_simp; done) | (go_simp; with_reducible rfl))
  try simp only [Act.put, List.setIfInBounds_toArray, List.set_cons_zero, List.set_cons_succ]
  refine wpAnyH_ready (rs := [7]) (by kernel_rfl) (by simp) ?_
  refine AllReadyH.cons (o := { dst := some 14, op := _, type := _, pos := _, after := _, guard := _ }) rfl (fun K hK => ?_) AllReadyH.nil
  go_simp
  refine (missCC a b pa pb ca cb w2 (HI.out.1.below (HC.out.2.2.trans (K2.mono HC.out.2.2.size))) (HI.out.2.below (HC.out.2.2.trans (K2.mono HC.out.2.2.size)))).mono ?_
  rintro e w7 ⟨⟨k, kp, kk, rfl, hki, hkd⟩, hb7⟩
  have K7 := K2.trans (hb7.mono K2.size)
  have HK := Lib.hid hki
  clear hki hkd hb7
  refine hK.out _ _ K7 (fun _ => ?_)
  clear hK K
  try simp only [Act.put, List.setIfInBounds_toArray, List.set_cons_zero, List.set_cons_succ]
  refine wpAnyH_take (i := 8) (oi := { dst := some 15, op := _, type := _, pos := _, after := _, guard := _ }) (v := ?v7) rfl (by kernel_rfl) (by kernel_rfl) (by kernel_rfl) (fun _ _ _ h => h) (Or.inl ⟨by rfl, ?hy7⟩) K7 ?rest7
  case hy7 => (intro w hSw; (try dsimp only at hSw); first | (go_simp; done) | (go_simp; with_reducible rfl))
  try simp only [Act.put, List.setIfInBounds_toArray, List.set_cons_zero, List.set_cons_succ]
  refine wpAnyH_take (i := 9) (oi := { dst := some 16, op := _, type := _, pos := _, after := _, guard := _ }) (v := ?v8) rfl (by kernel_rfl) (by kernel_rfl) (by kernel_rfl) (fun _ _ _ h => h) (Or.inl ⟨by rfl, ?hy8⟩) K7 ?rest8
  case hy8 => (intro w hSw; (try dsimp only at hSw); first | (go_simp; done) | (go_simp; with_reducible rfl))
  try simp only [Act.put, List.setIfInBounds_toArray, List.set_cons_zero, List.set_cons_succ]
  refine wpAnyH_take (i := 10) (oi := { dst := some 5, op := _, type := _, pos := _, after := _, guard := _ }) (v := ?v9) rfl (by kernel_rfl) (by kernel_rfl) (by kernel_rfl) (fun _ _ _ h => h) (Or.inl ⟨by rfl, ?hy9⟩) K7 ?rest9
  case hy9 => (intro w hSw; (try dsimp only at hSw); first | (go_simp; done) | (go_simp; with_reducible rfl))
  try simp only [Act.put, List.setIfInBounds_toArray, List.set_cons_zero, List.set_cons_succ]
  refine wpAnyH_take (i := 11) (oi := { dst := some 6, op := _, type := _, pos := _, after := _, guard := _ }) (v := ?v10) rfl (by kernel_rfl) (by kernel_rfl) (by kernel_rfl) (fun _ _ _ h => h) (Or.inl ⟨by rfl, ?hy10⟩) K7 ?rest10
  case hy10 => (intro w hSw; (try dsimp only at hSw); first | (go_simp; done) | (go_simp; with_reducible rfl))
  try simp only [Act.put, List.setIfInBounds_toArray, List.set_cons_zero, List.set_cons_succ]
  refine wpAnyH_done (by kernel_rfl) ?_ _
  try simp only [Act.put, List.setIfInBounds_toArray, List.set_cons_zero, List.set_cons_succ]
  have HF := Lib.hid (HC.out.2.2.trans (K7.mono HC.out.2.2.size))
  have hcm := cmpC_miss HK.out HM.out
  clear K0 K2 K7
  generalize k.length = k' at *
  generalize m.length = m' at *
  by_cases h1 : 0 < k'
  · by_cases h2 : 0 < m'
    · rw [if_pos h1, if_pos h2] at hcm
      have e1 : ((k' : Int) == 0) = false := by simp; omega
      have e2 : ((m' : Int) == 0) = false := by simp; omega
      have e3 : decide (0 < k') = true := by simp; omega
      have e4 : decide (0 < m') = true := by simp; omega
      have HCM := Lib.hid hcm
      clear hcm h1 h2
      go_wp2_with fail
      go_ret
      exact ⟨by rw [HCM.out]; rfl, HF.out⟩
    · rw [if_pos h1, if_neg h2] at hcm
      have e1 : ((k' : Int) == 0) = false := by simp; omega
      have e2 : ((m' : Int) == 0) = true := by simp; omega
      have e3 : decide (0 < k') = true := by simp; omega
      have e4 : decide (0 < m') = false := by simp; omega
      have HCM := Lib.hid hcm
      clear hcm h1 h2
      go_wp2_with fail
      go_ret
      exact ⟨by rw [HCM.out]; rfl, HF.out⟩
  · by_cases h2 : 0 < m'
    · rw [if_neg h1, if_pos h2] at hcm
      have e1 : ((k' : Int) == 0) = true := by simp; omega
      have e2 : ((m' : Int) == 0) = false := by simp; omega
      have e3 : decide (0 < k') = false := by simp; omega
      have e4 : decide (0 < m') = true := by simp; omega
      have HCM := Lib.hid hcm
      clear hcm h1 h2
      go_wp2_with fail
      go_ret
      exact ⟨by rw [HCM.out]; rfl, HF.out⟩
    · rw [if_neg h1, if_neg h2] at hcm
      have e1 : ((k' : Int) == 0) = true := by simp; omega
      have e2 : ((m' : Int) == 0) = true := by simp; omega
      have e3 : decide (0 < k') = false := by simp; omega
      have e4 : decide (0 < m') = false := by simp; omega
      have HCM := Lib.hid hcm
      clear hcm h1 h2
      go_wp2_with fail
      go_ret
      exact ⟨by rw [HCM.out]; rfl, HF.out⟩

set_option maxHeartbeats 4000000 in
theorem cmpRC (a b : Cx) (pa pb : Option Addr) (ca cb : Nat) (w : World) (h : CIn w a pa) (hm : CIn w b pb) :
    Calls Try.prog 24 #[.agg (ccs a.v (.slice pa a.l.length ca)), .agg (ccs b.v (.slice pb b.l.length cb))] w fun e w' => e = .returned (.int .i64 (cmpC a b)) ∧ Go.RowKit.Below w.heap.size w w' := by
  have HV := Lib.hid h.v16
  have HV2 := Lib.hid hm.v16
  have HC := Lib.hid (two_ctx w a.v b.v (.slice pa a.l.length ca) (.slice pb b.l.length cb))
  have HI := Lib.hid (And.intro h hm)
  unfold boxC at HC
  clear h hm
  go_enter Try.func24, Try.ntmps24
  go_upto_region 1 with fail
  generalize (w.alloc (.cells (ccs a.v (.slice pa a.l.length ca)) 26)).alloc (.cells (ccs b.v (.slice pb b.l.length cb)) 26) = W at *
  refine wp_region_held (S := fun U => Go.RowKit.Below W.heap.size W U) (by kernel_rfl) ?_
  change wpAnyH _ _ _ _ _ _ _ _ W.drew
  have K0 : (fun U => Go.RowKit.Below W.heap.size W U) W.drew := (Below.refl _ _).drew
  refine wpAnyH_take (i := 0) (oi := { dst := some 7, op := _, type := _, pos := _, after := _, guard := _ }) rfl (by kernel_rfl) (by kernel_rfl) (by kernel_rfl) (fun _ _ _ h => h) (yield_C (by rfl) (.tmp 3) rfl (w.heap.size + 1) b.v (.slice pb b.l.length cb) rfl (fun U hU => HC.out.2.1.keep hU) HV2.out) K0 ?_
  try simp only [Act.put, List.setIfInBounds_toArray, List.set_cons_zero, List.set_cons_succ]
  refine wpAnyH_take (i := 1) (oi := { dst := some 8, op := _, type := _, pos := _, after := _, guard := _ }) rfl (by kernel_rfl) (by kernel_rfl) (by kernel_rfl) (fun _ _ _ h => h) (yield_C (by rfl) (.tmp 2) rfl w.heap.size a.v (.slice pa a.l.length ca) rfl (fun U hU => HC.out.1.keep hU) HV.out) K0 ?_
  try simp only [Act.put, List.setIfInBounds_toArray, List.set_cons_zero, List.set_cons_succ]
  refine wpAnyH_take (i := 5) (oi := { dst := some 12, op := _, type := _, pos := _, after := _, guard := _ }) rfl (by kernel_rfl) (by kernel_rfl) (by kernel_rfl) (fun _ _ _ h => h) (yield_C (by rfl) (.tmp 2) rfl w.heap.size a.v (.slice pa a.l.length ca) rfl (fun U hU => HC.out.1.keep hU) HV.out) K0 ?_
  try simp only [Act.put, List.setIfInBounds_toArray, List.set_cons_zero, List.set_cons_succ]
  refine wpAnyH_take (i := 6) (oi := { dst := some 13, op := _, type := _, pos := _, after := _, guard := _ }) rfl (by kernel_rfl) (by kernel_rfl) (by kernel_rfl) (fun _ _ _ h => h) (yield_C (by rfl) (.tmp 3) rfl (w.heap.size + 1) b.v (.slice pb b.l.length cb) rfl (fun U hU => HC.out.2.1.keep hU) HV2.out) K0 ?_
  try simp only [Act.put, List.setIfInBounds_toArray, List.set_cons_zero, List.set_cons_succ]
  refine wpAnyH_ready (rs := [2]) (by kernel_rfl) (by simp) ?_
  refine AllReadyH.cons (o := { dst := some 9, op := _, type := _, pos := _, after := _, guard := _ }) rfl (fun K hK => ?_) AllReadyH.nil
  go_simp
  refine (missRC b a pb pa cb ca _ (HI.out.2.below (HC.out.2.2.trans (K0.mono HC.out.2.2.size))) (HI.out.1.below (HC.out.2.2.trans (K0.mono HC.out.2.2.size)))).mono ?_
  rintro e w2 ⟨⟨m, mp, mk, rfl, hmi, hmd⟩, hb2⟩
  have K2 := K0.trans (hb2.mono K0.size)
  have HM := Lib.hid hmi
  clear hmi hmd hb2
  refine hK.out _ _ K2 (fun _ => ?_)
  clear hK K
  try simp only [Act.put, List.setIfInBounds_toArray, List.set_cons_zero, List.set_cons_succ]
  refine wpAnyH_take (i := 3) (oi := { dst := some 10, op := _, type := _, pos := _, after := _, guard := _ }) (v := ?v15) rfl (by kernel_rfl) (by kernel_rfl) (by kernel_rfl) (fun _ _ _ h => h) (Or.inl ⟨by rfl, ?hy15⟩) K2 ?rest15
  case hy15 => (intro w hSw; (try dsimp only at hSw); first | (go_simp; done) | (go_simp; with_reducible rfl))
  try simp only [Act.put, List.setIfInBounds_toArray, List.set_cons_zero, List.set_cons_succ]
  refine wpAnyH_take (i := 4) (oi := { dst := some 11, op := _, type := _, pos := _, after := _, guard := _ }) (v := ?v16) rfl (by kernel_rfl) (by kernel_rfl) (by kernel_rfl) (fun _ _ _ h => h) (Or.inl ⟨by rfl, ?hy16⟩) K2 ?rest16
  case hy16 => (intro w hSw; (try dsimp only at hSw); first | (go_simp; done) | (go_simp; with_reducible rfl))
  try simp only [Act.put, List.setIfInBounds_toArray, List.set_cons_zero, List.set_cons_succ]
  refine wpAnyH_ready (rs := [7]) (by kernel_rfl) (by simp) ?_
  refine AllReadyH.cons (o := { dst := some 14, op := _, type := _, pos := _, after := _, guard := _ }) rfl (fun K hK => ?_) AllReadyH.nil
  go_simp
  refine (missRC a b pa pb ca cb w2 (HI.out.1.below (HC.out.2.2.trans (K2.mono HC.out.2.2.size))) (HI.out.2.below (HC.out.2.2.trans (K2.mono HC.out.2.2.size)))).mono ?_
  rintro e w7 ⟨⟨k, kp, kk, rfl, hki, hkd⟩, hb7⟩
  have K7 := K2.trans (hb7.mono K2.size)
  have HK := Lib.hid hki
  clear hki hkd hb7
  refine hK.out _ _ K7 (fun _ => ?_)
  clear hK K
  try simp only [Act.put, List.setIfInBounds_toArray, List.set_cons_zero, List.set_cons_succ]
  refine wpAnyH_take (i := 8) (oi := { dst := some 15, op := _, type := _, pos := _, after := _, guard := _ }) (v := ?v17) rfl (by kernel_rfl) (by kernel_rfl) (by kernel_rfl) (fun _ _ _ h => h) (Or.inl ⟨by rfl, ?hy17⟩) K7 ?rest17
  case hy17 => (intro w hSw; (try dsimp only at hSw); first | (go_simp; done) | (go_simp; with_reducible rfl))
  try simp only [Act.put, List.setIfInBounds_toArray, List.set_cons_zero, List.set_cons_succ]
  refine wpAnyH_take (i := 9) (oi := { dst := some 16, op := _, type := _, pos := _, after := _, guard := _ }) (v := ?v18) rfl (by kernel_rfl) (by kernel_rfl) (by kernel_rfl) (fun _ _ _ h => h) (Or.inl ⟨by rfl, ?hy18⟩) K7 ?rest18
  case hy18 => (intro w hSw; (try dsimp only at hSw); first | (go_simp; done) | (go_simp; with_reducible rfl))
  try simp only [Act.put, List.setIfInBounds_toArray, List.set_cons_zero, List.set_cons_succ]
  refine wpAnyH_take (i := 10) (oi := { dst := some 5, op := _, type := _, pos := _, after := _, guard := _ }) (v := ?v19) rfl (by kernel_rfl) (by kernel_rfl) (by kernel_rfl) (fun _ _ _ h => h) (Or.inl ⟨by rfl, ?hy19⟩) K7 ?rest19
  case hy19 => (intro w hSw; (try dsimp only at hSw); first | (go_simp; done) | (go_simp; with_reducible rfl))
  try simp only [Act.put, List.setIfInBounds_toArray, List.set_cons_zero, List.set_cons_succ]
  refine wpAnyH_take (i := 11) (oi := { dst := some 6, op := _, type := _, pos := _, after := _, guard := _ }) (v := ?v20) rfl (by kernel_rfl) (by kernel_rfl) (by kernel_rfl) (fun _ _ _ h => h) (Or.inl ⟨by rfl, ?hy20⟩) K7 ?rest20
  case hy20 => (intro w hSw; (try dsimp only at hSw); first | (go_simp; done) | (go_simp; with_reducible rfl))
  try simp only [Act.put, List.setIfInBounds_toArray, List.set_cons_zero, List.set_cons_succ]
  refine wpAnyH_done (by kernel_rfl) ?_ _
  try simp only [Act.put, List.setIfInBounds_toArray, List.set_cons_zero, List.set_cons_succ]
  have HF := Lib.hid (HC.out.2.2.trans (K7.mono HC.out.2.2.size))
  have hcm := cmpC_miss HK.out HM.out
  clear K0 K2 K7
  generalize k.length = k' at *
  generalize m.length = m' at *
  by_cases h1 : 0 < k'
  · by_cases h2 : 0 < m'
    · rw [if_pos h1, if_pos h2] at hcm
      have e1 : decide ((0 : Int) < (k' : Int)) = true := by simp; omega
      have e2 : decide ((0 : Int) < (m' : Int)) = true := by simp; omega
      have e3 : decide (0 < k') = true := by simp; omega
      have e4 : decide (0 < m') = true := by simp; omega
      have HCM := Lib.hid hcm
      clear hcm h1 h2
      go_wp2_with fail
      go_ret
      exact ⟨by rw [HCM.out]; rfl, HF.out⟩
    · rw [if_pos h1, if_neg h2] at hcm
      have e1 : decide ((0 : Int) < (k' : Int)) = true := by simp; omega
      have e2 : decide ((0 : Int) < (m' : Int)) = false := by simp; omega
      have e3 : decide (0 < k') = true := by simp; omega
      have e4 : decide (0 < m') = false := by simp; omega
      have HCM := Lib.hid hcm
      clear hcm h1 h2
      go_wp2_with fail
      go_ret
      exact ⟨by rw [HCM.out]; rfl, HF.out⟩
  · by_cases h2 : 0 < m'
    · rw [if_neg h1, if_pos h2] at hcm
      have e1 : decide ((0 : Int) < (k' : Int)) = false := by simp; omega
      have e2 : decide ((0 : Int) < (m' : Int)) = true := by simp; omega
      have e3 : decide (0 < k') = false := by simp; omega
      have e4 : decide (0 < m') = true := by simp; omega
      have HCM := Lib.hid hcm
      clear hcm h1 h2
      go_wp2_with fail
      go_ret
      exact ⟨by rw [HCM.out]; rfl, HF.out⟩
    · rw [if_neg h1, if_neg h2] at hcm
      have e1 : decide ((0 : Int) < (k' : Int)) = false := by simp; omega
      have e2 : decide ((0 : Int) < (m' : Int)) = false := by simp; omega
      have e3 : decide (0 < k') = false := by simp; omega
      have e4 : decide (0 < m') = false := by simp; omega
      have HCM := Lib.hid hcm
      clear hcm h1 h2
      go_wp2_with fail
      go_ret
      exact ⟨by rw [HCM.out]; rfl, HF.out⟩

end Go.Proofs.Ytcedliaeipabnaa
