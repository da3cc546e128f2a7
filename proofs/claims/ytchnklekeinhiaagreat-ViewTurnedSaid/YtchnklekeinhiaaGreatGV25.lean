/-
  register, the document's: Elements.
  view, the document's: put.
-/
import Derived.Test.YtchnklekeinhiaaGreatGV21
import Derived.Test.YtchnklekeinhiaaGreatGV03
import Derived.Test.YtchnklekeinhiaaGreatGV16
import Derived.Deep.QuietTactic
import Derived.Test.YtchnklekeinhiaaGreatGV13
namespace Go.Proofs.YtchnklekeinhiaaGreat
set_option linter.unusedSimpArgs false
set_option linter.unusedVariables false
set_option maxRecDepth 100000
open Go.RowKit Go.Sort

theorem drop_up {xs : List ByteArray} {k : Nat} {y v : ByteArray} (hr : RiseX xs) (hy : xs[k]? = some y) (h : ltX v y = true) : ∀ x ∈ xs.drop k, ltX v x = true := by
  intro x hx
  obtain ⟨hk, rfl⟩ := List.getElem?_eq_some_iff.1 hy
  obtain ⟨j, hj, rfl⟩ := List.mem_iff_getElem.1 hx
  rw [List.length_drop] at hj
  rw [List.getElem_drop]
  by_cases h0 : j = 0
  · subst h0; exact h
  · exact totX.trans h (List.pairwise_iff_getElem.1 hr k (k + j) hk (by omega) (by omega))
set_option maxHeartbeats 8000000 in
theorem relemC (l : List Ft) (a : Option Addr) (cap : Nat) (w : World) (h : FIn w a l) (hl : l.length ≤ 65536) :
    Calls Tryz.prog 31 #[.slice a l.length cap] w fun e w' => ∃ v' out, e = .returned v' ∧ OwnS w.heap.size v' out w' ∧ ElemsR l out ∧ Go.RowKit.Below w.heap.size w w' := by
  have H := Lib.hid h
  clear h
  go_enter Tryz.func31, Tryz.ntmps31
  go_wp2_with fail
  go_loopw [3, 4] (fun v i wr => ∃ (k : Nat) (m : List ByteArray), k ≤ l.length ∧ i = .int .i64 k ∧ m.length ≤ k ∧ OwnS w.heap.size v m wr ∧ Hid (ElemsR (l.take k) m) ∧ Hid (Go.RowKit.Below w.heap.size w wr)) (fun _ i _ => l.length - (intOf i).toNat)
  case atStart => exact ⟨0, [], Nat.zero_le _, rfl, Nat.le_refl _, ownS_nil _ _, Lib.hid (by rw [List.take_zero]; exact ElemsR.nil), Lib.hid (Below.refl _ _)⟩
  case round =>
    obtain ⟨i, out, hi, rfl, hout, hown, HE, HB0⟩ := hrel
    have HOWN := Lib.hid hown
    obtain ⟨oa, oc, rfl, hdin, hoc, hocm⟩ := hown.fin2
    clear hown
    by_cases hlt : i < l.length
    · obtain ⟨d, hd⟩ : ∃ d, l[i]? = some d := ⟨_, List.getElem?_eq_getElem hlt⟩
      obtain ⟨lb, lo, rfl, hlb, cl0⟩ := (H.out.below HB0.out).at hd
      have HNX := Lib.hid (show l.take (i + 1) = l.take i ++ [d] from by
        obtain ⟨e1, e2⟩ := List.getElem?_eq_some_iff.1 hd
        rw [List.take_succ_eq_append_getElem hlt, e2])
      have hi1 : (i : Int) < (l.length : Int) := by omega
      have CL := Lib.hid (cl0 7 _ rfl)
      have HDI := Lib.hid hdin
      clear hd hdin cl0
      obtain ⟨v, hv⟩ : ∃ v, d.v = v := ⟨_, rfl⟩
      rw [hv] at CL
      have HV := Lib.hid hv
      clear hv
      go_wp2_with fail
      go_loopw [5] (fun j wk => ∃ k : Nat, k ≤ out.length ∧ j = .int .i64 (k : Int) ∧ Hid (∀ x ∈ out.take k, ltX x v = true) ∧ Hid (Go.RowKit.Below wr.heap.size wr wk)) (fun j _ => out.length - (intOf j).toNat)
      case atStart => exact ⟨0, Nat.zero_le _, rfl, Lib.hid (by simp), Lib.hid (Below.refl _ _)⟩
      case round =>
        rename World => wk
        obtain ⟨k, hk, rfl, HK, HW⟩ := hrel
        have hks := HW.out.size
        by_cases hk0 : k < out.length
        · obtain ⟨y, hy⟩ : ∃ d, out[k]? = some d := ⟨_, List.getElem?_eq_getElem hk0⟩
          obtain ⟨b2, o2, rfl, hlb2, cy⟩ := (HDI.out.below HW.out).at hy
          have cv : wk.cell? ⟨lb, lo + i * 8 + 7, none⟩ = some (.string v) := by rw [HW.out.cell (p := ⟨lb, lo + i * 8 + 7, none⟩) hlb]; exact CL.out
          have hki2 : (k : Int) < (out.length : Int) := by omega
          have hye : out[k] = y := by rw [List.getElem?_eq_getElem hk0] at hy; exact Option.some.inj hy
          have HYE := Lib.hid hye
          have HY := Lib.hid hy
          clear hy hye
          cases ht : Op.bytesLess y.toList v.toList with
          | true =>
            have HN := Lib.hid (show ∀ x ∈ out.take (k + 1), ltX x v = true from fun x hx => by
              rw [List.take_succ_eq_append_getElem hk0] at hx
              rcases List.mem_append.1 hx with hx | hx
              · exact HK.out x hx
              · obtain rfl := List.mem_singleton.1 hx
                rw [HYE.out]; exact ht)
            go_wp2
            go_quiet (fail)
            go_wp2
            go_roundw
            case rel => exact ⟨k + 1, by omega, by go_num, HN, Lib.hid (belowN HW.out _)⟩
            case measure => simp [intOf]; omega
          | false =>
            go_wp2
            go_quiet (fail)
            generalize hW6 : wk.drewN _ = W6
            have cy6 : W6.cell? ⟨b2, o2 + k, none⟩ = some (.string y) := by rw [← hW6]; exact cy
            have cv6 : W6.cell? ⟨lb, lo + i * 8 + 7, none⟩ = some (.string v) := by rw [← hW6]; exact cv
            have HW6 := Lib.hid (show Below wr.heap.size wr W6 from by rw [← hW6]; exact belowN HW.out _)
            clear hW6 cy cv HW
            cases hq : (y.toList == v.toList) with
            | true =>
              have HP := Lib.hid (show ElemsR (l.take (i + 1)) out from by
                rw [HNX.out]
                refine HE.out.skip ?_
                have e : y = v := bytes_inj (eq_of_beq hq)
                rw [HV.out, ← e]
                exact List.mem_of_getElem? HY.out)
              go_wp2
              go_quiet (fail)
              generalize hW9 : W6.drewN _ = W
              have HW9 := Lib.hid (show Below wr.heap.size wr W from by rw [← hW9]; exact belowN HW6.out _)
              clear hW9 cy6 cv6 HW6
              go_wp2
              go_roundw
              case rel => exact ⟨i + 1, out, by omega, by go_num, by omega, OwnS.below HOWN.out HW9.out (Nat.le_refl _), HP, Lib.hid (HB0.out.trans (HW9.out.mono HB0.out.size))⟩
              case measure => simp [intOf]; omega
            | false =>
              have HP := Lib.hid (show ElemsR (l.take (i + 1)) (out.take k ++ v :: out.drop k) from by
                rw [HNX.out, ← HV.out]
                refine HE.out.put d k (by rw [HV.out]; exact HK.out) (drop_up HE.out.rise HY.out ?_)
                rw [HV.out]
                rcases totX.tri v y with e | e | e
                · exact e
                · subst e; simp at hq
                · have e2 : Op.bytesLess y.toList v.toList = true := e
                  rw [ht] at e2; cases e2)
              go_wp2
              go_quiet (fail)
              generalize hW9 : W6.drewN _ = W
              have HW9 := Lib.hid (show Below wr.heap.size wr W from by rw [← hW9]; exact belowN HW6.out _)
              clear hW9 cy6 cv6 HW6 ht hq
              obtain ⟨p1, hs1, hd1⟩ := takeX (some ⟨b2, o2, none⟩) out.length oc k hk hoc hocm
              obtain ⟨p2, hs2, hd2⟩ := dropX (some ⟨b2, o2, none⟩) out.length oc k hk hoc hocm
              have hl1 : (out.take k).length = k := by rw [List.length_take]; omega
              have hl2 : (out.drop k).length = out.length - k := List.length_drop
              have hdn := HDI.out.below HW9.out
              have hWs := HW9.out.size
              obtain ⟨q1, d1, w1, hr1, ho1, hb1⟩ := appX (c := oc) (ownS_nil W.heap.size W) (hd1 W out rfl hdn) (Nat.le_refl _) k (by rw [hl1]; simp) (by omega)
              rw [hl1] at hr1
              have HO1 := Lib.hid ho1
              have HB1 := Lib.hid hb1
              have HD2 := Lib.hid (hd2 W out rfl hdn)
              have hs1' := hb1.size
              have cv1 : w1.cell? ⟨lb, lo + i * 8 + 7, none⟩ = some (.string v) := by
                rw [hb1.cell (p := ⟨lb, lo + i * 8 + 7, none⟩) (Nat.lt_of_lt_of_le hlb hWs), HW9.out.cell (p := ⟨lb, lo + i * 8 + 7, none⟩) hlb]; exact CL.out
              clear ho1 hb1 hd1 hd2 hdn
              go_upto_region 11 with (at_builtin; refine wpList_append_run rfl _ _ 25 25 rfl (.slice none 0 0) (.slice p1 k oc) _ w1 rfl rfl hr1 ?_)
              obtain ⟨q2, d2, w2, hr2, ho2, hb2⟩ := appX (c := 1) (OwnS.below HO1.out ((Below.refl _ w1).alloc (Nat.le_refl _) (.cells #[.string v] 9)) (Nat.le_refl _)) (strRow_one w1 v) (by simp; omega) (k + 1) (by simp; omega) (by omega)
              have hr2' : (Builtin.append_ #[25, 25] 25 #[.slice q1 k d1, .slice (some ⟨w1.heap.size, 0, none⟩) 1 1]).run Tryz.prog (w1.alloc (.cells #[.string v] 9)) = .ok (.slice q2 (k + 1) d2) w2 := hr2
              have HO2 := Lib.hid ho2
              have hb2' : Go.RowKit.Below W.heap.size W w2 := (HB1.out.alloc hs1' _).trans hb2
              have HB2 := Lib.hid hb2'
              have hs2' := hb2'.size
              have HD3 := Lib.hid (HD2.out.below hb2')
              clear ho2 hb2 hb2' hr2
              go_upto_region 12 with (at_builtin; refine wpList_append_run rfl _ _ 25 25 rfl (.slice q1 k d1) (.slice (some ⟨w1.heap.size, 0, none⟩) 1 1) _ w2 rfl rfl hr2' ?_)
              obtain ⟨q3, d3, w3, hr3, ho3, hb3⟩ := appX (c := oc - k) HO2.out HD3.out hs2' (out.length + 1) (by simp; omega) (by omega)
              rw [hl2] at hr3
              have HFIN := Lib.hid (show OwnS w.heap.size (.slice q3 (out.length + 1) d3) (out.take k ++ v :: out.drop k) w3 ∧ Go.RowKit.Below w.heap.size w w3 from by
                refine ⟨?_, HB0.out.trans ((HW9.out.trans ((HB2.out.trans hb3).mono hWs)).mono HB0.out.size)⟩
                have e : out.take k ++ v :: out.drop k = out.take k ++ [v] ++ out.drop k := by simp
                rw [e]
                exact ho3.mono (by have := HB0.out.size; omega))
              have hle : (out.take k ++ v :: out.drop k).length ≤ i + 1 := by simp; omega
              clear ho3 hb3 hr1 hr2' cv1
              go_wp2_with (at_builtin; refine wpList_append_run rfl _ _ 25 25 rfl (.slice q2 (k + 1) d2) (.slice p2 (out.length - k) (oc - k)) _ w3 rfl rfl hr3 ?_)
              go_wp2_with fail
              go_roundw
              case rel => exact ⟨i + 1, _, by omega, by go_num, hle, HFIN.out.1, HP, Lib.hid HFIN.out.2⟩
              case measure => simp [intOf]; omega
        · have hki2 : ¬ (k : Int) < (out.length : Int) := by omega
          have HP := Lib.hid (show ElemsR (l.take (i + 1)) (out.take k ++ v :: out.drop k) from by
            rw [HNX.out, ← HV.out]
            refine HE.out.put d k (by rw [HV.out]; exact HK.out) ?_
            rw [List.drop_eq_nil_of_le (by omega)]
            simp)
          go_wp2
          go_quiet (fail)
          generalize hW6 : wk.drewN _ = W6
          have HW6 := Lib.hid (show Below wr.heap.size wr W6 from by rw [← hW6]; exact belowN HW.out _)
          clear hW6 HW
          go_wp2
          go_quiet (fail)
          generalize hW9 : W6.drewN _ = W
          have HW9 := Lib.hid (show Below wr.heap.size wr W from by rw [← hW9]; exact belowN HW6.out _)
          clear hW9 HW6
          obtain ⟨p1, hs1, hd1⟩ := takeX oa out.length oc k hk hoc hocm
          obtain ⟨p2, hs2, hd2⟩ := dropX oa out.length oc k hk hoc hocm
          have hl1 : (out.take k).length = k := by rw [List.length_take]; omega
          have hl2 : (out.drop k).length = out.length - k := List.length_drop
          have hdn := HDI.out.below HW9.out
          have hWs := HW9.out.size
          obtain ⟨q1, d1, w1, hr1, ho1, hb1⟩ := appX (c := oc) (ownS_nil W.heap.size W) (hd1 W out rfl hdn) (Nat.le_refl _) k (by rw [hl1]; simp) (by omega)
          rw [hl1] at hr1
          have HO1 := Lib.hid ho1
          have HB1 := Lib.hid hb1
          have HD2 := Lib.hid (hd2 W out rfl hdn)
          have hs1' := hb1.size
          have cv1 : w1.cell? ⟨lb, lo + i * 8 + 7, none⟩ = some (.string v) := by
            rw [hb1.cell (p := ⟨lb, lo + i * 8 + 7, none⟩) (Nat.lt_of_lt_of_le hlb hWs), HW9.out.cell (p := ⟨lb, lo + i * 8 + 7, none⟩) hlb]; exact CL.out
          clear ho1 hb1 hd1 hd2 hdn
          go_upto_region 11 with (at_builtin; refine wpList_append_run rfl _ _ 25 25 rfl (.slice none 0 0) (.slice p1 k oc) _ w1 rfl rfl hr1 ?_)
          obtain ⟨q2, d2, w2, hr2, ho2, hb2⟩ := appX (c := 1) (OwnS.below HO1.out ((Below.refl _ w1).alloc (Nat.le_refl _) (.cells #[.string v] 9)) (Nat.le_refl _)) (strRow_one w1 v) (by simp; omega) (k + 1) (by simp; omega) (by omega)
          have hr2' : (Builtin.append_ #[25, 25] 25 #[.slice q1 k d1, .slice (some ⟨w1.heap.size, 0, none⟩) 1 1]).run Tryz.prog (w1.alloc (.cells #[.string v] 9)) = .ok (.slice q2 (k + 1) d2) w2 := hr2
          have HO2 := Lib.hid ho2
          have hb2' : Go.RowKit.Below W.heap.size W w2 := (HB1.out.alloc hs1' _).trans hb2
          have HB2 := Lib.hid hb2'
          have hs2' := hb2'.size
          have HD3 := Lib.hid (HD2.out.below hb2')
          clear ho2 hb2 hb2' hr2
          go_upto_region 12 with (at_builtin; refine wpList_append_run rfl _ _ 25 25 rfl (.slice q1 k d1) (.slice (some ⟨w1.heap.size, 0, none⟩) 1 1) _ w2 rfl rfl hr2' ?_)
          obtain ⟨q3, d3, w3, hr3, ho3, hb3⟩ := appX (c := oc - k) HO2.out HD3.out hs2' (out.length + 1) (by simp; omega) (by omega)
          rw [hl2] at hr3
          have HFIN := Lib.hid (show OwnS w.heap.size (.slice q3 (out.length + 1) d3) (out.take k ++ v :: out.drop k) w3 ∧ Go.RowKit.Below w.heap.size w w3 from by
            refine ⟨?_, HB0.out.trans ((HW9.out.trans ((HB2.out.trans hb3).mono hWs)).mono HB0.out.size)⟩
            have e : out.take k ++ v :: out.drop k = out.take k ++ [v] ++ out.drop k := by simp
            rw [e]
            exact ho3.mono (by have := HB0.out.size; omega))
          have hle : (out.take k ++ v :: out.drop k).length ≤ i + 1 := by simp; omega
          clear ho3 hb3 hr1 hr2' cv1
          go_wp2_with (at_builtin; refine wpList_append_run rfl _ _ 25 25 rfl (.slice q2 (k + 1) d2) (.slice p2 (out.length - k) (oc - k)) _ w3 rfl rfl hr3 ?_)
          go_wp2_with fail
          go_roundw
          case rel => exact ⟨i + 1, _, by omega, by go_num, hle, HFIN.out.1, HP, Lib.hid HFIN.out.2⟩
          case measure => simp [intOf]; omega
    · obtain rfl : i = l.length := by omega
      have HOE := Lib.hid (show ElemsR l out from by have := HE.out; rwa [List.take_length] at this)
      have hi1 : ¬ (l.length : Int) < (l.length : Int) := by omega
      go_wp2
      go_ret
      exact ⟨_, rfl, out, HOWN.out, HOE.out, HB0.out⟩
end Go.Proofs.YtchnklekeinhiaaGreat

namespace Go.Proofs.YtchnklekeinhiaaGreat
set_option linter.unusedSimpArgs false
set_option linter.unusedVariables false
set_option maxRecDepth 100000
open Go.RowKit Go.Sort

set_option maxHeartbeats 8000000 in
theorem putXR (m : List ByteArray) (s : ByteArray) (B : Nat) (v : Value) (w : World) (hown : OwnS B v m w) (hB : B ≤ w.heap.size) (hr : RiseX m) (hl : m.length ≤ 190000) :
    Calls Tryz.prog 41 #[v, .string s] w fun e w' => (∃ v' out, e = .returned v' ∧ OwnS B v' out w' ∧ SetX (m ++ [s]) out) ∧ Go.RowKit.Below w.heap.size w w' := by
  have HOWN := Lib.hid hown
  obtain ⟨oa, oc, rfl, hdin, hoc, hocm⟩ := hown.fin2
  have HDI := Lib.hid hdin
  have HSX := Lib.hid (show SetX m m from ⟨hr, fun x => Iff.rfl⟩)
  have HBB := Lib.hid hB
  clear hown hdin hr hB
  go_enter Tryz.func41, Tryz.ntmps41
  go_wp2_with fail
  go_loopw [5] (fun j wk => ∃ k : Nat, k ≤ m.length ∧ j = .int .i64 (k : Int) ∧ Hid (∀ x ∈ m.take k, ltX x s = true) ∧ w = wk) (fun j _ => m.length - (intOf j).toNat)
  case atStart => exact ⟨0, Nat.zero_le _, rfl, Lib.hid (by simp), rfl⟩
  case round =>
    obtain ⟨k, hk, rfl, HK, rfl⟩ := hrel
    by_cases hk0 : k < m.length
    · obtain ⟨y, hy⟩ : ∃ d, m[k]? = some d := ⟨_, List.getElem?_eq_getElem hk0⟩
      obtain ⟨b2, o2, rfl, hlb2, cy⟩ := HDI.out.at hy
      have hki2 : (k : Int) < (m.length : Int) := by omega
      have hye : m[k] = y := by rw [List.getElem?_eq_getElem hk0] at hy; exact Option.some.inj hy
      have HYE := Lib.hid hye
      have HY := Lib.hid hy
      clear hy hye
      cases ht : Op.bytesLess y.toList s.toList with
      | true =>
        have HN := Lib.hid (show ∀ x ∈ m.take (k + 1), ltX x s = true from fun x hx => by
          rw [List.take_succ_eq_append_getElem hk0] at hx
          rcases List.mem_append.1 hx with hx | hx
          · exact HK.out x hx
          · obtain rfl := List.mem_singleton.1 hx
            rw [HYE.out]; exact ht)
        go_wp2_with fail
        exact ⟨⟨k + 1, by omega, by go_num, HN, trivial⟩, by simp [intOf]; omega⟩
      | false =>
        cases hq : (y.toList == s.toList) with
        | true =>
          have HP := Lib.hid (show SetX (m ++ [s]) m from by
            refine HSX.out.skip ?_
            have e : y = s := bytes_inj (eq_of_beq hq)
            rw [← e]
            exact List.mem_of_getElem? HY.out)
          go_wp2_with fail
          go_ret
          exact ⟨⟨_, m, rfl, HOWN.out, HP.out⟩, Below.refl _ _⟩
        | false =>
          have HP := Lib.hid (show SetX (m ++ [s]) (m.take k ++ s :: m.drop k) from by
            refine HSX.out.put s k HK.out (drop_up HSX.out.rise HY.out ?_)
            rcases totX.tri s y with e | e | e
            · exact e
            · subst e; simp at hq
            · have e2 : Op.bytesLess y.toList s.toList = true := e
              rw [ht] at e2; cases e2)
          obtain ⟨p1, hs1, hd1⟩ := takeX (some ⟨b2, o2, none⟩) m.length oc k hk hoc hocm
          obtain ⟨p2, hs2, hd2⟩ := dropX (some ⟨b2, o2, none⟩) m.length oc k hk hoc hocm
          have hl1 : (m.take k).length = k := by rw [List.length_take]; omega
          have hl2 : (m.drop k).length = m.length - k := List.length_drop
          obtain ⟨q1, d1, w1, hr1, ho1, hb1⟩ := appX (c := oc) (ownS_nil w.heap.size w) (hd1 w m rfl HDI.out) (Nat.le_refl _) k (by rw [hl1]; simp) (by omega)
          rw [hl1] at hr1
          have HO1 := Lib.hid ho1
          have HB1 := Lib.hid hb1
          have HD2 := Lib.hid (hd2 w m rfl HDI.out)
          have hs1' := hb1.size
          clear ho1 hb1 hd1 hd2
          go_upto_region 8 with (at_builtin; refine wpList_append_run rfl _ _ 25 25 rfl (.slice none 0 0) (.slice p1 k oc) _ w1 rfl rfl hr1 ?_)
          obtain ⟨q2, d2, w2, hr2, ho2, hb2⟩ := appX (c := 1) (OwnS.below HO1.out ((Below.refl _ w1).alloc (Nat.le_refl _) (.cells #[.string s] 9)) (Nat.le_refl _)) (strRow_one w1 s) (by simp; omega) (k + 1) (by simp; omega) (by omega)
          have hr2' : (Builtin.append_ #[25, 25] 25 #[.slice q1 k d1, .slice (some ⟨w1.heap.size, 0, none⟩) 1 1]).run Tryz.prog (w1.alloc (.cells #[.string s] 9)) = .ok (.slice q2 (k + 1) d2) w2 := hr2
          have HO2 := Lib.hid ho2
          have hb2' : Go.RowKit.Below w.heap.size w w2 := (HB1.out.alloc hs1' _).trans hb2
          have HB2 := Lib.hid hb2'
          have hs2' := hb2'.size
          have HD3 := Lib.hid (HD2.out.below hb2')
          clear ho2 hb2 hb2' hr2
          go_upto_region 9 with (at_builtin; refine wpList_append_run rfl _ _ 25 25 rfl (.slice q1 k d1) (.slice (some ⟨w1.heap.size, 0, none⟩) 1 1) _ w2 rfl rfl hr2' ?_)
          obtain ⟨q3, d3, w3, hr3, ho3, hb3⟩ := appX (c := oc - k) HO2.out HD3.out hs2' (m.length + 1) (by simp; omega) (by omega)
          rw [hl2] at hr3
          have HFIN := Lib.hid (show OwnS B (.slice q3 (m.length + 1) d3) (m.take k ++ s :: m.drop k) w3 ∧ Go.RowKit.Below w.heap.size w w3 from by
            refine ⟨?_, HB2.out.trans hb3⟩
            have e : m.take k ++ s :: m.drop k = m.take k ++ [s] ++ m.drop k := by simp
            rw [e]
            exact ho3.mono HBB.out)
          clear ho3 hb3 hr1 hr2'
          go_wp2_with (at_builtin; refine wpList_append_run rfl _ _ 25 25 rfl (.slice q2 (k + 1) d2) (.slice p2 (m.length - k) (oc - k)) _ w3 rfl rfl hr3 ?_)
          go_ret
          first
            | exact ⟨⟨_, _, rfl, HFIN.out.1, HP.out⟩, HFIN.out.2⟩
            | exact ⟨⟨_, rfl, _, HFIN.out.1, HP.out⟩, HFIN.out.2⟩
    · have hki2 : ¬ (k : Int) < (m.length : Int) := by omega
      have HP := Lib.hid (show SetX (m ++ [s]) (m.take k ++ s :: m.drop k) from by
        refine HSX.out.put s k HK.out ?_
        rw [List.drop_eq_nil_of_le (by omega)]
        simp)
      obtain ⟨p1, hs1, hd1⟩ := takeX (oa) m.length oc k hk hoc hocm
      obtain ⟨p2, hs2, hd2⟩ := dropX (oa) m.length oc k hk hoc hocm
      have hl1 : (m.take k).length = k := by rw [List.length_take]; omega
      have hl2 : (m.drop k).length = m.length - k := List.length_drop
      obtain ⟨q1, d1, w1, hr1, ho1, hb1⟩ := appX (c := oc) (ownS_nil w.heap.size w) (hd1 w m rfl HDI.out) (Nat.le_refl _) k (by rw [hl1]; simp) (by omega)
      rw [hl1] at hr1
      have HO1 := Lib.hid ho1
      have HB1 := Lib.hid hb1
      have HD2 := Lib.hid (hd2 w m rfl HDI.out)
      have hs1' := hb1.size
      clear ho1 hb1 hd1 hd2
      go_upto_region 8 with (at_builtin; refine wpList_append_run rfl _ _ 25 25 rfl (.slice none 0 0) (.slice p1 k oc) _ w1 rfl rfl hr1 ?_)
      obtain ⟨q2, d2, w2, hr2, ho2, hb2⟩ := appX (c := 1) (OwnS.below HO1.out ((Below.refl _ w1).alloc (Nat.le_refl _) (.cells #[.string s] 9)) (Nat.le_refl _)) (strRow_one w1 s) (by simp; omega) (k + 1) (by simp; omega) (by omega)
      have hr2' : (Builtin.append_ #[25, 25] 25 #[.slice q1 k d1, .slice (some ⟨w1.heap.size, 0, none⟩) 1 1]).run Tryz.prog (w1.alloc (.cells #[.string s] 9)) = .ok (.slice q2 (k + 1) d2) w2 := hr2
      have HO2 := Lib.hid ho2
      have hb2' : Go.RowKit.Below w.heap.size w w2 := (HB1.out.alloc hs1' _).trans hb2
      have HB2 := Lib.hid hb2'
      have hs2' := hb2'.size
      have HD3 := Lib.hid (HD2.out.below hb2')
      clear ho2 hb2 hb2' hr2
      go_upto_region 9 with (at_builtin; refine wpList_append_run rfl _ _ 25 25 rfl (.slice q1 k d1) (.slice (some ⟨w1.heap.size, 0, none⟩) 1 1) _ w2 rfl rfl hr2' ?_)
      obtain ⟨q3, d3, w3, hr3, ho3, hb3⟩ := appX (c := oc - k) HO2.out HD3.out hs2' (m.length + 1) (by simp; omega) (by omega)
      rw [hl2] at hr3
      have HFIN := Lib.hid (show OwnS B (.slice q3 (m.length + 1) d3) (m.take k ++ s :: m.drop k) w3 ∧ Go.RowKit.Below w.heap.size w w3 from by
        refine ⟨?_, HB2.out.trans hb3⟩
        have e : m.take k ++ s :: m.drop k = m.take k ++ [s] ++ m.drop k := by simp
        rw [e]
        exact ho3.mono HBB.out)
      clear ho3 hb3 hr1 hr2'
      go_wp2_with (at_builtin; refine wpList_append_run rfl _ _ 25 25 rfl (.slice q2 (k + 1) d2) (.slice p2 (m.length - k) (oc - k)) _ w3 rfl rfl hr3 ?_)
      go_ret
      first
        | exact ⟨⟨_, _, rfl, HFIN.out.1, HP.out⟩, HFIN.out.2⟩
        | exact ⟨⟨_, rfl, _, HFIN.out.1, HP.out⟩, HFIN.out.2⟩
end Go.Proofs.YtchnklekeinhiaaGreat
