/-
  almonrylaw20: the walk of ViewTells.
-/
import Derived.Test.YtchnklekeinhiaaGreatGV39
import Derived.Test.YtchnklekeinhiaaGreatGV34
import Derived.Test.YtchnklekeinhiaaGreatGV33
namespace Go.Proofs.YtchnklekeinhiaaGreat
set_option linter.unusedSimpArgs false
set_option linter.unusedVariables false
set_option maxRecDepth 100000
open Go.RowKit Go.Sort

theorem entA_len {l : List Ft} {n : ByteArray} {e : Ent} (hl : l.length ≤ 40) (h : EntA l n e) : EnLen e := by
  rcases h with ⟨-, rfl⟩ | ⟨-, h⟩
  · exact ⟨by simp, by simp, by simp, by simp⟩
  · have h1 := fun k => (show (ofR k n l).length ≤ 40 from Nat.le_trans (List.length_filter_le _ _) hl)
    obtain ⟨v, -, hm⟩ := h.m
    obtain ⟨el, he, hs⟩ := h.kp
    refine ⟨?_, ?_, ?_, ?_⟩
    · have h2 := ids_len v
      rw [hm]; unfold maxLen; omega
    · have h2 := elems_len h.tg
      have h3 := h1 3
      unfold maxLen; omega
    · have h2 := hs.1.length_eq
      have h3 := numsV_len el
      have h4 := elems_len he
      have h5 := h1 4
      rw [List.length_map] at h2
      omega
    · have h2 := sortD_len ((ofR 1 n l).map (·.d))
      have h3 := h1 1
      rw [List.length_map] at h2
      rw [h.ds]; unfold maxLen; omega
theorem allR_at {l : List Ft} {rs : List ER} (hl : l.length ≤ 40) (h : AllR l (rs.map (fun r : ER => r.e))) {j : Nat} {r : ER} (hj : rs[j]? = some r) : EnLen r.e := by
  obtain ⟨nms, hs, hlen, he⟩ := h
  rw [List.length_map] at hlen
  have h1 : j < rs.length := (List.getElem?_eq_some_iff.1 hj).1
  have h2 : j < nms.length := by omega
  exact entA_len hl (he j nms[j] r.e (List.getElem?_eq_getElem h2) (by rw [List.getElem?_map, hj]; rfl))
theorem textsV (xs ys : List ByteArray) (he : xs = ys) (a b : Option Addr) (ca cb : Nat) (w : World) (ha : StrRow w a xs) (hb : StrRow w b ys) (hl : xs.length ≤ maxLen) :
    Calls Tryz.prog 12 #[.slice a xs.length ca, .slice b ys.length cb] w fun e w' => e = .returned (.bool true) ∧ Go.RowKit.Below w.heap.size w w' := by
  subst he
  refine (texts_any a b ca cb xs xs w ha hb hl hl).mono ?_
  rintro e w' ⟨he, n, rfl⟩
  rw [decide_eq_true rfl] at he
  exact ⟨he, belowN (Below.refl _ _) n⟩


set_option maxHeartbeats 32000000 in
theorem view_tells_row (a : Option Addr) (len cap : Nat) (l : List Ft) (nm : ByteArray) (w : World) (h : FactArg w a len l) (hnm : nm.size ≤ maxLen) :
    Calls Tryz.prog 3 #[.slice a len cap, .string nm] w fun e w' => e = .returned (.bool true) ∧ Go.RowKit.Below w.heap.size w w' := by
  obtain ⟨hn, hl, hin, hsz⟩ := h
  subst hn
  have HFW := Lib.hid (fun W hh => ffewC l a cap W hh hl hsz)
  unfold maxLen at hl hnm
  have H := Lib.hid hin
  clear hin hsz
  cases hfw : fewP l with
  | false =>
    rw [hfw] at HFW
    clear hfw
    go_enter Tryz.func3, Tryz.ntmps3
    go_wp2_with fail
    refine (HFW.out w H.out).mono ?_
    rintro e w1 ⟨rfl, rfl⟩
    go_wp2_with fail
    refine (viewAwake w).mono ?_
    rintro e wz ⟨rfl, hb⟩
    have HB := Lib.hid (hb)
    clear hb
    go_wp2_with fail
    go_ret
    exact ⟨rfl, HB.out⟩
  | true =>
  rw [hfw] at HFW
  have HV := Lib.hid (fewP_v hfw)
  have hsm : l.length ≤ 30 := (fewP_ok hfw).1
  clear hfw
  by_cases hbig : 100 < nm.size
  · have g1 : decide ((100 : Int) < (nm.size : Int)) = true := by simp; omega
    go_enter Tryz.func3, Tryz.ntmps3
    go_wp2_with fail
    refine (HFW.out w H.out).mono ?_
    rintro e w1 ⟨rfl, rfl⟩
    go_wp2_with fail
    refine (viewAwake w).mono ?_
    rintro e wz ⟨rfl, hb⟩
    have HB := Lib.hid (hb)
    clear hb
    go_wp2_with fail
    go_ret
    exact ⟨rfl, HB.out⟩
  have g1 : decide ((100 : Int) < (nm.size : Int)) = false := by simp; omega
  go_enter Tryz.func3, Tryz.ntmps3
  go_wp2_with fail
  refine (HFW.out w H.out).mono ?_
  rintro e w1 ⟨rfl, rfl⟩
  clear HFW hbig

  have HI := Lib.hid (fun W (hb : Go.RowKit.Below w.heap.size w W) => H.out.below hb)
  have HE1 := Lib.hid (viewEntryC l a cap nm w H.out (by omega) HV.out)
  have HE2 := Lib.hid (fun W hb => entryR l a cap nm W (HI.out W hb) (by omega) HV.out)
  have HA1 := Lib.hid (fun W hb => viewAllC l a cap W (HI.out W hb) (by omega) HV.out)
  have HA2 := Lib.hid (fun W hb => allEnR l a cap W (HI.out W hb) (by omega) HV.out)
  have HN1 := Lib.hid (fun W hb => viewNamesC l a cap W (HI.out W hb) (by omega))
  have HN2 := Lib.hid (fun W hb => namesR l a cap W (HI.out W hb) (by omega))
  have HD1 := Lib.hid (fun W hb => viewIDsC l a cap W (HI.out W hb) (by omega) HV.out)
  have HD2 := Lib.hid (fun W hb => idsR l a cap W (HI.out W hb) (by omega) HV.out)
  have HLE := Lib.hid (fun (e1 e2 : Ent) (h1 : EntA l nm e1) (h2 : EntA l nm e2) => EntA.same (List.Perm.refl l) h1 h2)
  have HLN := Lib.hid (fun (e : Ent) (h : EntA l nm e) => entA_len (show l.length ≤ 40 by omega) h)
  clear H HI HV
  generalize entE l nm = EE at *
  have hEE : (EE != EE) = false := by simp
  go_wp2_with fail
  refine HE1.out.mono ?_
  rintro v w1 ⟨⟨r, rfl, hm, hent⟩, hb1⟩
  have hz := lowA w1 (.cells (ecs zER).toArray 31)
  have hz2 := belowRow' hz (Nat.le_refl _) (ecs r).toArray
  have HZ := Lib.hid (Blk.new w1 31 (ecs zER).toArray)
  have R1 := Lib.hid (HZ.out.put (ecs r).toArray)
  have B1 := Lib.hid (hb1.trans (hz2.mono hb1.size))
  have M1 := Lib.hid (hm.below hz2)
  have A1 := Lib.hid hent
  clear hz hz2 hm hent hb1 HE1
  go_upto_region 4 with ((with_reducible refine bl_store ?_ 31 (.tmp 5) (.tmp 25) ?_ w1.heap.size (ecs r).toArray ?_ ?_ ?_ ?_ ?_ ?_); rfl; rfl; rfl; rfl; exact ⟨_, HZ.out, rfl⟩; exact infoEn _; exact en_one _; simp only [Act.put, List.setIfInBounds_toArray, List.set_cons_zero, List.set_cons_succ])
  change Code.wp _ _ _ _ ((w1.alloc (.cells (ecs zER).toArray 31)).setRow w1.heap.size (ecs r).toArray)
  clear HZ
  generalize (w1.alloc (.cells (ecs zER).toArray 31)).setRow w1.heap.size (ecs r).toArray = W1 at *
  generalize w1.heap.size = g1 at *
  go_wp2_with fail
  refine (HE2.out W1 B1.out).mono ?_
  rintro v w2 ⟨⟨q, rfl, hm, hent⟩, hb2⟩
  have hz := lowA w2 (.cells (ecs zER).toArray 31)
  have hz2 := belowRow' hz (Nat.le_refl _) (ecs q).toArray
  have hbb := hb2.trans (hz2.mono hb2.size)
  have HZ := Lib.hid (Blk.new w2 31 (ecs zER).toArray)
  have Q2 := Lib.hid (HZ.out.put (ecs q).toArray)
  have R2 := Lib.hid (R1.out.keep hbb)
  have B2 := Lib.hid (B1.out.trans (hbb.mono B1.out.size))
  have M2 := Lib.hid (M1.out.below hbb)
  have N2 := Lib.hid ((hm.below hz2).mono (Nat.zero_le _))
  have HEQ := Lib.hid (HLE.out _ _ A1.out hent)
  have HEL := Lib.hid (HLN.out _ A1.out)
  clear hz hz2 hm hent hb2 hbb HE2 R1 B1 M1 A1 HLE HLN
  go_upto_region 5 with ((with_reducible refine bl_store ?_ 31 (.tmp 7) (.tmp 31) ?_ w2.heap.size (ecs q).toArray ?_ ?_ ?_ ?_ ?_ ?_); rfl; rfl; rfl; rfl; exact ⟨_, HZ.out, rfl⟩; exact infoEn _; exact en_one _; simp only [Act.put, List.setIfInBounds_toArray, List.set_cons_zero, List.set_cons_succ])
  change Code.wp _ _ _ _ ((w2.alloc (.cells (ecs zER).toArray 31)).setRow w2.heap.size (ecs q).toArray)
  clear HZ
  generalize (w2.alloc (.cells (ecs zER).toArray 31)).setRow w2.heap.size (ecs q).toArray = W2 at *
  generalize w2.heap.size = g2 at *
  go_wp2_with fail
  refine (HA1.out W2 B2.out).mono ?_
  rintro v w3 ⟨⟨pa, pc, rs, rfl, hes, hall⟩, hb3⟩
  have B3 := Lib.hid (B2.out.trans (hb3.mono B2.out.size))
  have R3 := Lib.hid (R2.out.keep hb3)
  have Q3 := Lib.hid (Q2.out.keep hb3)
  have M3 := Lib.hid (M2.out.below hb3)
  have N3 := Lib.hid (N2.out.below hb3)
  have ES := Lib.hid hes
  have AL := Lib.hid hall
  clear hes hall hb3 HA1 R2 Q2 M2 N2 B2
  go_wp2_with fail
  refine (HA2.out w3 B3.out).mono ?_
  rintro v w4 ⟨⟨v4, qs, rfl, hown, hall⟩, hb4⟩
  obtain ⟨qa, qc, rfl, hes, -, -⟩ := hown.esin
  have B4 := Lib.hid (B3.out.trans (hb4.mono B3.out.size))
  have R4 := Lib.hid (R3.out.keep hb4)
  have Q4 := Lib.hid (Q3.out.keep hb4)
  have M4 := Lib.hid (M3.out.below hb4)
  have N4 := Lib.hid (N3.out.below hb4)
  have ES1 := Lib.hid (ES.out.below hb4)
  have ES2 := Lib.hid hes
  have HSM := Lib.hid (AllR.same (List.Perm.refl l) AL.out hall)
  have hlen : rs.length = qs.length := by have h := congrArg List.length HSM.out; rwa [List.length_map, List.length_map] at h
  have hrl : rs.length ≤ 40 := by have h := AL.out.len; rw [List.length_map] at h; omega
  have HLA := Lib.hid (fun j r (h : rs[j]? = some r) => allR_at (show l.length ≤ 40 by omega) AL.out h)
  clear hown hall hes hb4 HA2 R3 Q3 M3 N3 B3 ES AL
  obtain ⟨e, ia, ic, ta, tc, ka, kc, da, dc⟩ := r
  obtain ⟨e', ja, jc, ua, uc, la, lc, fa, fc⟩ := q
  obtain rfl : e = e' := HEQ.out
  clear HEQ
  have HS := Lib.hid (sameEnR e ia ja ta ua ka la da fa ic jc tc uc kc lc dc fc HEL.out w4 M4.out N4.out)
  have hll : ((rs.length : Int) != (qs.length : Int)) = false := by simp [hlen]
  have HLEN := Lib.hid hlen
  clear hlen HEL
  go_wp2_with (first
    | ((with_reducible refine bl_load ?_ 31 (.tmp 5) ?_ g1 0 (ecs ⟨e, ia, ic, ta, tc, ka, kc, da, dc⟩).toArray ?_ ?_ Tryz.underlying31 ?_ ?_ ?_); rfl; rfl; rfl; exact R4.out.all; rfl; exact infoEn _; simp only [Act.put, List.setIfInBounds_toArray, List.set_cons_zero, List.set_cons_succ])
    | ((with_reducible refine bl_load ?_ 31 (.tmp 7) ?_ g2 0 (ecs ⟨e, ja, jc, ua, uc, la, lc, fa, fc⟩).toArray ?_ ?_ Tryz.underlying31 ?_ ?_ ?_); rfl; rfl; rfl; exact Q4.out.all; rfl; exact infoEn _; simp only [Act.put, List.setIfInBounds_toArray, List.set_cons_zero, List.set_cons_succ]))
  refine HS.out.mono ?_
  rintro v w5 ⟨rfl, hb5⟩
  have B5 := Lib.hid (B4.out.trans (hb5.mono B4.out.size))
  have ES3 := Lib.hid (ES1.out.below hb5)
  have ES4 := Lib.hid (ES2.out.below hb5)
  clear hb5 HS R4 Q4 M4 N4 B4 ES1 ES2
  go_wp2_with fail
  go_loopw [11] (fun i wr => ∃ k : Nat, k ≤ rs.length ∧ i = .int .i64 k ∧ Hid (Go.RowKit.Below w5.heap.size w5 wr)) (fun i _ => rs.length - (intOf i).toNat)
  case atStart => exact ⟨0, Nat.zero_le _, rfl, Lib.hid (Below.refl _ _)⟩
  case round =>
    obtain ⟨k, hk, rfl, HBr⟩ := hrel
    by_cases hlt : k < rs.length
    · have hlq : k < qs.length := by have := HLEN.out; omega
      obtain ⟨r, hr⟩ : ∃ r, rs[k]? = some r := ⟨_, List.getElem?_eq_getElem hlt⟩
      obtain ⟨q, hq⟩ : ∃ q, qs[k]? = some q := ⟨_, List.getElem?_eq_getElem hlq⟩
      have heq : r.e = q.e := by
        have h := congrArg (fun t : List Ent => t[k]?) HSM.out
        simp only [List.getElem?_map, hr, hq, Option.map_some, Option.some.injEq] at h
        exact h
      have HLr := Lib.hid (HLA.out k r hr)
      obtain ⟨rb, ro, rfl, hrb, hrr⟩ := (ES3.out.below HBr.out).row.at hr
      obtain ⟨qb, qo, rfl, hqb, hqr⟩ := (ES4.out.below HBr.out).row.at hq
      have HRR := Lib.hid (fun U (hU : Go.RowKit.Below wr.heap.size wr U) => range_belowG hrr hU hrb)
      have HQR := Lib.hid (fun U (hU : Go.RowKit.Below wr.heap.size wr U) => range_belowG hqr hU hqb)
      have HMR := Lib.hid ((ES3.out.below HBr.out).mem r (List.mem_of_getElem? hr))
      have HMQ := Lib.hid ((ES4.out.below HBr.out).mem q (List.mem_of_getElem? hq))
      have hi1 : (k : Int) < (rs.length : Int) := by omega
      have hi2 : (k : Int) < (qs.length : Int) := by omega
      clear hrr hqr hr hq
      obtain ⟨e1, ia1, ic1, ta1, tc1, ka1, kc1, da1, dc1⟩ := r
      obtain ⟨e2, ja1, jc1, ua1, uc1, la1, lc1, fa1, fc1⟩ := q
      simp only at heq
      subst heq
      go_upto_region 11 with fail
      refine wp_region_held (S := fun U => Go.RowKit.Below wr.heap.size wr U) (by kernel_rfl) ?_
      change wpAnyH _ _ _ _ _ _ _ _ wr.drew
      have K0 : (fun U => Go.RowKit.Below wr.heap.size wr U) wr.drew := (Below.refl wr.heap.size wr).drew
      refine wpAnyH_take (i := 0) (oi := { dst := some 59, op := _, type := _, pos := _, after := _, guard := _ }) (v := ?v1) rfl (by kernel_rfl) (by kernel_rfl) (by kernel_rfl) (fun _ _ _ h => h) (Or.inl ⟨by rfl, ?hy1⟩) K0 ?rest1
      case hy1 => (intro w hSw; (try dsimp only at hSw); first | (go_simp; done) | (go_simp; with_reducible rfl))
      try simp only [Act.put, List.setIfInBounds_toArray, List.set_cons_zero, List.set_cons_succ]
      refine wpAnyH_take (i := 1) (oi := { dst := some 60, op := _, type := _, pos := _, after := _, guard := _ }) (v := ?v2) rfl (by kernel_rfl) (by kernel_rfl) (by kernel_rfl) (fun _ _ _ h => h) (Or.inl ⟨by rfl, ?hy2⟩) K0 ?rest2
      case hy2 => (intro w hSw; (try dsimp only at hSw); first | (go_simp; done) | (go_simp; with_reducible rfl))
      try simp only [Act.put, List.setIfInBounds_toArray, List.set_cons_zero, List.set_cons_succ]
      refine wpAnyH_take (i := 2) (oi := { dst := some 61, op := _, type := _, pos := _, after := _, guard := _ }) (v := ?v3) rfl (by kernel_rfl) (by kernel_rfl) (by kernel_rfl) (fun _ _ _ h => h) (Or.inl ⟨by rfl, ?hy3⟩) K0 ?rest3
      case hy3 => (intro w hSw; (try dsimp only at hSw); first | (go_simp; done) | (go_simp; with_reducible rfl))
      try simp only [Act.put, List.setIfInBounds_toArray, List.set_cons_zero, List.set_cons_succ]
      refine wpAnyH_take (i := 3) (oi := { dst := some 62, op := _, type := _, pos := _, after := _, guard := _ }) rfl (by kernel_rfl) (by kernel_rfl) (by kernel_rfl) (fun _ _ _ h => h) (b_yield (by rfl) 31 (.tmp 61) rfl rb (ro + k * 8) (ecs ⟨e1, ia1, ic1, ta1, tc1, ka1, kc1, da1, dc1⟩).toArray rfl (fun U hU => HRR.out U hU) Tryz.underlying31 rfl (infoEn _)) K0 ?_
      try simp only [Act.put, List.setIfInBounds_toArray, List.set_cons_zero, List.set_cons_succ]
      refine wpAnyH_take (i := 4) (oi := { dst := some 63, op := _, type := _, pos := _, after := _, guard := _ }) (v := ?v5) rfl (by kernel_rfl) (by kernel_rfl) (by kernel_rfl) (fun _ _ _ h => h) (Or.inl ⟨by rfl, ?hy5⟩) K0 ?rest5
      case hy5 => (intro w hSw; (try dsimp only at hSw); first | (go_simp; done) | (go_simp; with_reducible rfl))
      try simp only [Act.put, List.setIfInBounds_toArray, List.set_cons_zero, List.set_cons_succ]
      refine wpAnyH_take (i := 5) (oi := { dst := some 64, op := _, type := _, pos := _, after := _, guard := _ }) (v := ?v6) rfl (by kernel_rfl) (by kernel_rfl) (by kernel_rfl) (fun _ _ _ h => h) (Or.inl ⟨by rfl, ?hy6⟩) K0 ?rest6
      case hy6 => (intro w hSw; (try dsimp only at hSw); first | (go_simp; done) | (go_simp; with_reducible rfl))
      try simp only [Act.put, List.setIfInBounds_toArray, List.set_cons_zero, List.set_cons_succ]
      refine wpAnyH_take (i := 6) (oi := { dst := some 65, op := _, type := _, pos := _, after := _, guard := _ }) (v := ?v7) rfl (by kernel_rfl) (by kernel_rfl) (by kernel_rfl) (fun _ _ _ h => h) (Or.inl ⟨by rfl, ?hy7⟩) K0 ?rest7
      case hy7 => (intro w hSw; (try dsimp only at hSw); first | (go_simp; done) | (go_simp; with_reducible rfl))
      try simp only [Act.put, List.setIfInBounds_toArray, List.set_cons_zero, List.set_cons_succ]
      refine wpAnyH_take (i := 7) (oi := { dst := some 66, op := _, type := _, pos := _, after := _, guard := _ }) rfl (by kernel_rfl) (by kernel_rfl) (by kernel_rfl) (fun _ _ _ h => h) (b_yield (by rfl) 31 (.tmp 65) rfl qb (qo + k * 8) (ecs ⟨e1, ja1, jc1, ua1, uc1, la1, lc1, fa1, fc1⟩).toArray rfl (fun U hU => HQR.out U hU) Tryz.underlying31 rfl (infoEn _)) K0 ?_
      try simp only [Act.put, List.setIfInBounds_toArray, List.set_cons_zero, List.set_cons_succ]
      refine wpAnyH_ready (rs := [8]) (by kernel_rfl) (by simp) ?_
      refine AllReadyH.cons (o := { dst := some 67, op := _, type := _, pos := _, after := _, guard := _ }) rfl (fun K hK => ?_) AllReadyH.nil
      go_simp
      refine (sameEnR e1 ia1 ja1 ta1 ua1 ka1 la1 da1 fa1 ic1 jc1 tc1 uc1 kc1 lc1 dc1 fc1 HLr.out _ (HMR.out.below K0) (HMQ.out.below K0)).mono ?_
      rintro v u8 ⟨rfl, hb⟩
      have K8 : Go.RowKit.Below wr.heap.size wr u8 := Below.trans K0 (hb.mono (Below.size K0))
      clear hb
      refine hK.out _ _ K8 (fun _ => ?_)
      clear hK K
      try simp only [Act.put, List.setIfInBounds_toArray, List.set_cons_zero, List.set_cons_succ]
      refine wpAnyH_take (i := 9) (oi := { dst := some 68, op := _, type := _, pos := _, after := _, guard := _ }) (v := ?v9) rfl (by kernel_rfl) (by kernel_rfl) (by kernel_rfl) (fun _ _ _ h => h) (Or.inl ⟨by rfl, ?hy9⟩) K8 ?rest9
      case hy9 => (intro w hSw; (try dsimp only at hSw); first | (go_simp; done) | (go_simp; with_reducible rfl))
      try simp only [Act.put, List.setIfInBounds_toArray, List.set_cons_zero, List.set_cons_succ]
      refine wpAnyH_done (by kernel_rfl) ?_ _
      try simp only [Act.put, List.setIfInBounds_toArray, List.set_cons_zero, List.set_cons_succ]
      have HBn := Lib.hid (HBr.out.trans (Below.mono K8 HBr.out.size))
      go_wp2_with fail
      go_roundw
      case rel => exact ⟨k + 1, by omega, by go_num, HBn⟩
      case measure => simp [intOf]; omega
    · obtain rfl : k = rs.length := by omega
      have hi1 : ¬ (rs.length : Int) < (rs.length : Int) := by omega
      have B6 := Lib.hid (B5.out.trans (HBr.out.mono B5.out.size))
      clear HBr B5 ES3 ES4 HLA HSM hlt hk
      go_wp2_with fail
      refine (HN1.out wr B6.out).mono ?_
      rintro v w7 ⟨⟨xa, xc, xs, rfl, hrow, hset⟩, hb7⟩
      have B7 := Lib.hid (B6.out.trans (hb7.mono B6.out.size))
      have X7 := Lib.hid hrow
      have S7 := Lib.hid hset
      clear hrow hset hb7 HN1 B6
      go_wp2_with fail
      refine (HN2.out w7 B7.out).mono ?_
      rintro v w8 ⟨⟨v8, ys, rfl, hown, hset⟩, hb8⟩
      obtain ⟨ya, yc, rfl, hrow, -, -⟩ := hown.fin2
      have B8 := Lib.hid (B7.out.trans (hb8.mono B7.out.size))
      have HT := Lib.hid (textsV xs ys (SetX.same (fun _ => Iff.rfl) S7.out hset) xa ya xc yc w8 (X7.out.below hb8) hrow (by have h1 := S7.out.len; have h2 := namesS_len l; unfold maxLen; omega))
      clear hown hset hrow hb8 HN2 B7 X7 S7
      go_wp2_with fail
      refine HT.out.mono ?_
      rintro v w9 ⟨rfl, hb9⟩
      have B9 := Lib.hid (B8.out.trans (hb9.mono B8.out.size))
      clear hb9 HT B8
      go_wp2_with fail
      refine (HD1.out w9 B9.out).mono ?_
      rintro v w10 ⟨⟨xa, xc, xs, rfl, hrow, hset⟩, hb10⟩
      have B10 := Lib.hid (B9.out.trans (hb10.mono B9.out.size))
      have X10 := Lib.hid hrow
      have S10 := Lib.hid hset
      clear hrow hset hb10 HD1 B9
      go_wp2_with fail
      refine (HD2.out w10 B10.out).mono ?_
      rintro v w11 ⟨⟨v11, ys, rfl, hown, hset⟩, hb11⟩
      obtain ⟨ya, yc, rfl, hrow, -, -⟩ := hown.fin2
      have B11 := Lib.hid (B10.out.trans (hb11.mono B10.out.size))
      have HT := Lib.hid (textsV xs ys (SetX.same (fun _ => Iff.rfl) S10.out hset) xa ya xc yc w11 (X10.out.below hb11) hrow (by have h1 := S10.out.len; have h2 := idsS_len l; unfold maxLen; omega))
      clear hown hset hrow hb11 HD2 B10 X10 S10
      go_wp2_with fail
      refine HT.out.mono ?_
      rintro v w12 ⟨rfl, hb12⟩
      have B12 := Lib.hid (B11.out.trans (hb12.mono B11.out.size))
      clear hb12 HT B11
      go_wp2_with fail
      refine (viewAwake w12).mono ?_
      rintro e wz ⟨rfl, hb⟩
      have HB := Lib.hid (B12.out.trans (hb.mono B12.out.size))
      clear hb
      go_wp2_with fail
      go_ret
      exact ⟨rfl, HB.out⟩
end Go.Proofs.YtchnklekeinhiaaGreat
