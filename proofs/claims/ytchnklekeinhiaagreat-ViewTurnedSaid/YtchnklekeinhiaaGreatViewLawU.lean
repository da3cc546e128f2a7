/-
  almonrylaw20: the walk of ViewTurned.
-/
import Derived.Test.YtchnklekeinhiaaGreatViewLawT
namespace Go.Proofs.YtchnklekeinhiaaGreat
set_option linter.unusedSimpArgs false
set_option linter.unusedVariables false
set_option maxRecDepth 100000
open Go.RowKit Go.Sort

theorem turn_stepV {m : List Ft} {q : Nat} {f : Ft} (hf : m[q]? = some f) : (m.drop q).reverse = (m.drop (q + 1)).reverse ++ [f] := by
  obtain ⟨h1, h2⟩ := List.getElem?_eq_some_iff.1 hf
  rw [List.drop_eq_getElem_cons h1, List.reverse_cons, h2]


set_option maxHeartbeats 32000000 in
theorem view_turned_row (a : Option Addr) (len cap : Nat) (l : List Ft) (nm : ByteArray) (w : World) (h : FactArg w a len l) (hnm : nm.size ≤ maxLen) :
    Calls Tryz.prog 4 #[.slice a len cap, .string nm] w fun e w' => e = .returned (.bool true) ∧ Go.RowKit.Below w.heap.size w w' := by
  obtain ⟨hn, hl, hin, hsz⟩ := h
  subst hn
  have HFW := Lib.hid (fun W hh => ffewC l a cap W hh hl hsz)
  unfold maxLen at hl hnm
  have H := Lib.hid hin
  clear hin hsz
  cases hfw : fewP l with
  | false =>
    rw [hfw] at HFW
    clear hfw
    go_enter Tryz.func4, Tryz.ntmps4
    go_wp2_with fail
    refine (HFW.out w H.out).mono ?_
    rintro e w1 ⟨rfl, rfl⟩
    go_wp2_with fail
    refine (viewAwake w).mono ?_
    rintro e wz ⟨rfl, hb⟩
    have HB := Lib.hid (hb)
    clear hb
    go_wp2_with fail
    go_ret
    exact ⟨rfl, HB.out⟩
  | true =>
  rw [hfw] at HFW
  have HV := Lib.hid (fewP_v hfw)
  have hsm : l.length ≤ 30 := (fewP_ok hfw).1
  clear hfw
  by_cases hbig : 100 < nm.size
  · have g1 : decide ((100 : Int) < (nm.size : Int)) = true := by simp; omega
    go_enter Tryz.func4, Tryz.ntmps4
    go_wp2_with fail
    refine (HFW.out w H.out).mono ?_
    rintro e w1 ⟨rfl, rfl⟩
    go_wp2_with fail
    refine (viewAwake w).mono ?_
    rintro e wz ⟨rfl, hb⟩
    have HB := Lib.hid (hb)
    clear hb
    go_wp2_with fail
    go_ret
    exact ⟨rfl, HB.out⟩
  have g1 : decide ((100 : Int) < (nm.size : Int)) = false := by simp; omega
  go_enter Tryz.func4, Tryz.ntmps4
  go_wp2_with fail
  refine (HFW.out w H.out).mono ?_
  rintro e w1 ⟨rfl, rfl⟩
  clear HFW hbig

  have hwz : IntKind.i64.wrap ((l.length : Int) - 1) = (l.length : Int) - 1 := by simp [IntKind.wrap, IntKind.bits, IntKind.signed]; omega
  go_wp2_with fail
  go_loopw [5, 6] (fun v i wr => ∃ (k : Nat) (z : Int), i = .int .i64 z ∧ Hid (z = (k : Int) - 1) ∧ k ≤ l.length ∧ OwnF w.heap.size v ((l.drop k).reverse) wr ∧ Hid (Go.RowKit.Below w.heap.size w wr)) (fun _ i _ => (intOf i + 1).toNat)
  case atStart => exact ⟨l.length, _, rfl, Lib.hid rfl, Nat.le_refl _, by rw [List.drop_length]; exact ownF_nil _ _, Lib.hid (Below.refl _ _)⟩
  case round =>
    clear hwz
    obtain ⟨k, z, rfl, HZ, hk, hown, HB⟩ := hrel
    have HOWN := Lib.hid hown
    obtain ⟨oa, oc, rfl, hino, hoc, hocm⟩ := hown.fin2
    have hol : ((l.drop k).reverse).length = l.length - k := by rw [List.length_reverse, List.length_drop]
    clear hown
    by_cases hk0 : 0 < k
    · obtain ⟨q, hq⟩ : ∃ q, k = q + 1 := ⟨k - 1, by omega⟩
      obtain rfl : z = (q : Int) := by have := HZ.out; omega
      obtain ⟨f, hf⟩ : ∃ d, l[q]? = some d := ⟨_, List.getElem?_eq_getElem (by omega)⟩
      obtain ⟨b, off, rfl, hbl, c0⟩ := (H.out.below HB.out).at hf
      have HNX := Lib.hid (show (l.drop q).reverse = (l.drop k).reverse ++ [f] from by rw [hq]; exact turn_stepV hf)
      generalize (l.drop k).reverse = out at *
      have CL := Lib.hid c0
      have hi1 : (q : Int) < (l.length : Int) := by omega
      have hi0 : (0 : Int) ≤ (q : Int) := by omega
      have hwq : IntKind.i64.wrap ((q : Int) - 1) = (q : Int) - 1 := by simp [IntKind.wrap, IntKind.bits, IntKind.signed]; omega
      have hone := fin_new wr f
      obtain ⟨q2, d2, w3, hr2, ho2, hb3⟩ := appF (c := 1) (HOWN.out.alloc (.cells (fcs f).toArray 48)) hone (by simp; have := HB.out.size; omega) (out.length + 1) (by simp) (by omega)
      have hr2' : (Builtin.append_ #[22, 22] 22 #[.slice oa out.length oc, .slice (some ⟨wr.heap.size, 0, none⟩) 1 1]).run Tryz.prog (wr.alloc (.cells (fcs f).toArray 48)) = .ok (.slice q2 (out.length + 1) d2) w3 := hr2
      have HO3 := Lib.hid (show OwnF w.heap.size (.slice q2 (out.length + 1) d2) ((l.drop q).reverse) w3 from by rw [HNX.out]; exact ho2)
      have HB3 := Lib.hid ((HB.out.alloc HB.out.size _).trans hb3)
      clear ho2 hb3 hone hr2 hf c0 hbl hq HZ hol hino
      go_wp2_with (first
        | ((with_reducible refine fl_load ?_ (.tmp 30) ?_ b (off + q * 8) f ?_ ?_ ?_); rfl; rfl; rfl; exact CL.out; simp only [Act.put, List.setIfInBounds_toArray, List.set_cons_zero, List.set_cons_succ])
        | ((with_reducible refine wpList_build1F ?_ (.tmp 31) ?_ f ?_ ?_); rfl; rfl; rfl; simp only [Act.put, List.setIfInBounds_toArray, List.set_cons_zero, List.set_cons_succ])
        | (at_builtin; refine wpList_append_run rfl _ _ 22 22 rfl (.slice oa out.length oc) (.slice (some ⟨wr.heap.size, 0, none⟩) 1 1) _ w3 rfl rfl hr2' ?_))
      go_wp2_with fail
      go_roundw
      case rel => exact ⟨q, _, rfl, Lib.hid rfl, by omega, HO3.out, HB3⟩
      case measure => simp [intOf]
    · obtain rfl : k = 0 := by omega
      have hz : z = -1 := by have := HZ.out; omega
      subst hz
      have hrl : l.reverse.length = l.length := List.length_reverse
      have hlz : ((l.drop 0).reverse).length = l.length := by simp
      have HVR : Hid (∀ f ∈ l.reverse, f.v.size ≤ 5000) := Lib.hid (fun f hf => HV.out f (List.mem_reverse.1 hf))
      have HI := Lib.hid (fun W (hb : Go.RowKit.Below wr.heap.size wr W) => (H.out.below HB.out).below hb)
      have HX := Lib.hid (fun W (hb : Go.RowKit.Below wr.heap.size wr W) => (show FIn wr oa l.reverse from hino).below hb)
      have HE1 := Lib.hid (viewEntryC l a cap nm wr (HI.out wr (Below.refl _ _)) (by omega) HV.out)
      have he2 := fun W hb => viewEntryC l.reverse oa oc nm W (HX.out W hb) (by omega) HVR.out
      have HN1 := Lib.hid (fun W hb => viewNamesC l a cap W (HI.out W hb) (by omega))
      have hn2 := fun W hb => viewNamesC l.reverse oa oc W (HX.out W hb) (by omega)
      have HD1 := Lib.hid (fun W hb => viewIDsC l a cap W (HI.out W hb) (by omega) HV.out)
      have hd2 := fun W hb => viewIDsC l.reverse oa oc W (HX.out W hb) (by omega) HVR.out
      have HPE := Lib.hid (List.reverse_perm l).symm
      rw [← entE_perm HPE.out nm] at he2
      rw [hrl] at he2 hn2 hd2
      have HE2 := Lib.hid he2
      have HN2 := Lib.hid hn2
      have HD2 := Lib.hid hd2
      have HLE := Lib.hid (fun (e1 e2 : Ent) (h1 : EntA l nm e1) (h2 : EntA l.reverse nm e2) => EntA.same HPE.out h1 h2)
      have HLN := Lib.hid (fun (e : Ent) (h : EntA l nm e) => entA_len (show l.length ≤ 40 by omega) h)
      have HLW := Lib.hid HB.out
      rw [hlz] at *
      clear H HI HX HV HVR HB HOWN HZ hrl hlz hol hino he2 hn2 hd2
      generalize entE l nm = EE at *
      have hEE : (EE == EE) = true := by simp
      go_wp2_with fail
      refine HE1.out.mono ?_
      rintro v w1 ⟨⟨r, rfl, hm, hent⟩, hb1⟩
      have hz := lowA w1 (.cells (ecs zER).toArray 31)
      have hz2 := belowRow' hz (Nat.le_refl _) (ecs r).toArray
      have HZ := Lib.hid (Blk.new w1 31 (ecs zER).toArray)
      have R1 := Lib.hid (HZ.out.put (ecs r).toArray)
      have B1 := Lib.hid (hb1.trans (hz2.mono hb1.size))
      have M1 := Lib.hid (hm.below hz2)
      have A1 := Lib.hid hent
      clear hz hz2 hm hent hb1 HE1
      go_upto_region 9 with ((with_reducible refine bl_store ?_ 31 (.tmp 7) (.tmp 38) ?_ w1.heap.size (ecs r).toArray ?_ ?_ ?_ ?_ ?_ ?_); rfl; rfl; rfl; rfl; exact ⟨_, HZ.out, rfl⟩; exact infoEn _; exact en_one _; simp only [Act.put, List.setIfInBounds_toArray, List.set_cons_zero, List.set_cons_succ])
      change Code.wp _ _ _ _ ((w1.alloc (.cells (ecs zER).toArray 31)).setRow w1.heap.size (ecs r).toArray)
      clear HZ
      generalize (w1.alloc (.cells (ecs zER).toArray 31)).setRow w1.heap.size (ecs r).toArray = W1 at *
      generalize w1.heap.size = g1 at *
      go_wp2_with fail
      refine (HE2.out W1 B1.out).mono ?_
      rintro v w2 ⟨⟨q, rfl, hm, hent⟩, hb2⟩
      have hz := lowA w2 (.cells (ecs zER).toArray 31)
      have hz2 := belowRow' hz (Nat.le_refl _) (ecs q).toArray
      have hbb := hb2.trans (hz2.mono hb2.size)
      have HZ := Lib.hid (Blk.new w2 31 (ecs zER).toArray)
      have Q2 := Lib.hid (HZ.out.put (ecs q).toArray)
      have R2 := Lib.hid (R1.out.keep hbb)
      have B2 := Lib.hid (B1.out.trans (hbb.mono B1.out.size))
      have M2 := Lib.hid (M1.out.below hbb)
      have N2 := Lib.hid (hm.below hz2)
      have HEQ := Lib.hid (HLE.out _ _ A1.out hent)
      have HEL := Lib.hid (HLN.out _ A1.out)
      clear hz hz2 hm hent hb2 hbb HE2 R1 B1 M1 A1 HLE HLN
      go_upto_region 10 with ((with_reducible refine bl_store ?_ 31 (.tmp 9) (.tmp 44) ?_ w2.heap.size (ecs q).toArray ?_ ?_ ?_ ?_ ?_ ?_); rfl; rfl; rfl; rfl; exact ⟨_, HZ.out, rfl⟩; exact infoEn _; exact en_one _; simp only [Act.put, List.setIfInBounds_toArray, List.set_cons_zero, List.set_cons_succ])
      change Code.wp _ _ _ _ ((w2.alloc (.cells (ecs zER).toArray 31)).setRow w2.heap.size (ecs q).toArray)
      clear HZ
      generalize (w2.alloc (.cells (ecs zER).toArray 31)).setRow w2.heap.size (ecs q).toArray = W2 at *
      generalize w2.heap.size = g2 at *
      obtain ⟨e, ia, ic, ta, tc, ka, kc, da, dc⟩ := r
      obtain ⟨e', ja, jc, ua, uc, la, lc, fa, fc⟩ := q
      obtain rfl : e = e' := HEQ.out
      clear HEQ
      have HS := Lib.hid (sameEnR e ia ja ta ua ka la da fa ic jc tc uc kc lc dc fc HEL.out W2 M2.out N2.out)
      clear HEL
      go_wp2_with (first
        | ((with_reducible refine bl_load ?_ 31 (.tmp 7) ?_ g1 0 (ecs ⟨e, ia, ic, ta, tc, ka, kc, da, dc⟩).toArray ?_ ?_ Tryz.underlying31 ?_ ?_ ?_); rfl; rfl; rfl; exact R2.out.all; rfl; exact infoEn _; simp only [Act.put, List.setIfInBounds_toArray, List.set_cons_zero, List.set_cons_succ])
        | ((with_reducible refine bl_load ?_ 31 (.tmp 9) ?_ g2 0 (ecs ⟨e, ja, jc, ua, uc, la, lc, fa, fc⟩).toArray ?_ ?_ Tryz.underlying31 ?_ ?_ ?_); rfl; rfl; rfl; exact Q2.out.all; rfl; exact infoEn _; simp only [Act.put, List.setIfInBounds_toArray, List.set_cons_zero, List.set_cons_succ]))
      refine HS.out.mono ?_
      rintro v w5 ⟨rfl, hb5⟩
      have B5 := Lib.hid (B2.out.trans (hb5.mono B2.out.size))
      clear hb5 HS R2 Q2 M2 N2 B2
      go_wp2_with fail
      refine (HN1.out w5 B5.out).mono ?_
      rintro v w7 ⟨⟨xa, xc, xs, rfl, hrow, hset⟩, hb7⟩
      have B7 := Lib.hid (B5.out.trans (hb7.mono B5.out.size))
      have X7 := Lib.hid hrow
      have S7 := Lib.hid hset
      clear hrow hset hb7 HN1 B5
      go_wp2_with fail
      refine (HN2.out w7 B7.out).mono ?_
      rintro v w8 ⟨⟨ya, yc, ys, rfl, hrow, hset⟩, hb8⟩
      have B8 := Lib.hid (B7.out.trans (hb8.mono B7.out.size))
      have HT := Lib.hid (textsV xs ys (SetX.same (namesS_perm HPE.out) S7.out hset) xa ya xc yc w8 (X7.out.below hb8) hrow (by have h1 := S7.out.len; have h2 := namesS_len l; unfold maxLen; omega))
      clear hset hrow hb8 HN2 B7 X7 S7
      go_wp2_with fail
      refine HT.out.mono ?_
      rintro v w9 ⟨rfl, hb9⟩
      have B9 := Lib.hid (B8.out.trans (hb9.mono B8.out.size))
      clear hb9 HT B8
      go_wp2_with fail
      refine (HD1.out w9 B9.out).mono ?_
      rintro v w10 ⟨⟨xa, xc, xs, rfl, hrow, hset⟩, hb10⟩
      have B10 := Lib.hid (B9.out.trans (hb10.mono B9.out.size))
      have X10 := Lib.hid hrow
      have S10 := Lib.hid hset
      clear hrow hset hb10 HD1 B9
      go_wp2_with fail
      refine (HD2.out w10 B10.out).mono ?_
      rintro v w11 ⟨⟨ya, yc, ys, rfl, hrow, hset⟩, hb11⟩
      have B11 := Lib.hid (B10.out.trans (hb11.mono B10.out.size))
      have HT := Lib.hid (textsV xs ys (SetX.same (idsS_perm HPE.out) S10.out hset) xa ya xc yc w11 (X10.out.below hb11) hrow (by have h1 := S10.out.len; have h2 := idsS_len l; unfold maxLen; omega))
      clear hset hrow hb11 HD2 B10 X10 S10
      go_wp2_with fail
      refine HT.out.mono ?_
      rintro v w12 ⟨rfl, hb12⟩
      have B12 := Lib.hid (HLW.out.trans ((B11.out.trans (hb12.mono B11.out.size)).mono HLW.out.size))
      clear hb12 HT B11
      go_wp2_with fail
      refine (viewAwake w12).mono ?_
      rintro e wz ⟨rfl, hb⟩
      have HB := Lib.hid (B12.out.trans (hb.mono B12.out.size))
      clear hb
      go_wp2_with fail
      go_ret
      exact ⟨rfl, HB.out⟩
end Go.Proofs.YtchnklekeinhiaaGreat
