/-
  almonrylaw17: the walk of RegisterTurned.
-/
import Derived.Test.YtpcelgmcbfjmbaaRegAwk
namespace Go.Proofs.Ytpcelgmcbfjmbaa
set_option linter.unusedSimpArgs false
set_option linter.unusedVariables false
set_option maxRecDepth 100000
open Go.RowKit Go.Sort

theorem tselfU (s : ByteArray) : (s.toList == s.toList) = true := by simp
theorem turn_step {m : List Ft} {q : Nat} {f : Ft} (hf : m[q]? = some f) : (m.drop q).reverse = (m.drop (q + 1)).reverse ++ [f] := by
  obtain ⟨h, rfl⟩ := List.getElem?_eq_some_iff.1 hf
  rw [List.drop_eq_getElem_cons h, List.reverse_cons]
set_option maxHeartbeats 8000000 in
theorem reg_turned_row (a : Option Addr) (len cap : Nat) (l : List Ft) (w : World) (h : FactArg w a len l) :
    Calls Try.prog 4 #[.slice a len cap] w fun e w' => e = .returned (.bool true) ∧ Go.RowKit.Below w.heap.size w w' := by
  obtain ⟨hn, hl, hin, hsz⟩ := h
  have HFW := Lib.hid (fun W hh => ffewC l a cap W hh (by rw [hn]; exact hl) hsz)
  rw [hn] at HFW
  unfold maxLen at hl
  have H := Lib.hid hin
  have HN := Lib.hid hn
  clear hin hsz hn
  cases hfw : fewP l with
  | false =>
    rw [hfw] at HFW
    clear hfw
    go_enter Try.func4, Try.ntmps4
    go_wp2_with fail
    refine (HFW.out w H.out).mono ?_
    rintro e w1 ⟨rfl, rfl⟩
    go_wp2_with fail
    refine (regAwake w).mono ?_
    rintro e w1 ⟨rfl, hb⟩
    have HB := Lib.hid hb; clear hb
    go_wp2_with fail
    go_ret
    exact ⟨rfl, HB.out⟩
  | true =>
    rw [hfw] at HFW
    have hsm : len ≤ 30 := by rw [← HN.out]; exact (fewP_ok hfw).1
    have hS := sortFR l a cap w H.out (by rw [HN.out]; omega)
    rw [HN.out] at hS
    have HS := Lib.hid hS
    clear hfw hS
    go_enter Try.func4, Try.ntmps4
    go_wp2_with fail
    refine (HFW.out w H.out).mono ?_
    rintro e w1 ⟨rfl, rfl⟩
    clear HFW
    go_wp2_with fail
    refine HS.out.mono ?_
    rintro e w1 ⟨v1, rfl, hown, hb⟩
    have hml : (sortF l).length ≤ 30 := Nat.le_trans (sortF_len l) (by have := HN.out; omega)
    generalize sortF l = m at *
    obtain ⟨ma, mc, rfl, hin, -⟩ := hown.fin2
    have HB1 := Lib.hid hb
    have HIN := Lib.hid hin
    have hwz : IntKind.i64.wrap ((m.length : Int) - 1) = (m.length : Int) - 1 := by simp [IntKind.wrap, IntKind.bits, IntKind.signed]; omega
    clear hown hin hb HS
    go_wp2_with fail
    go_loopw [4, 5] (fun v i wr => ∃ (k : Nat) (z : Int), i = .int .i64 z ∧ Hid (z = (k : Int) - 1) ∧ k ≤ m.length ∧ OwnF w1.heap.size v ((m.drop k).reverse) wr ∧ Hid (Go.RowKit.Below w1.heap.size w1 wr)) (fun _ i _ => (intOf i + 1).toNat)
    case atStart => exact ⟨m.length, _, rfl, Lib.hid rfl, Nat.le_refl _, by rw [List.drop_length]; exact ownF_nil _ _, Lib.hid (Below.refl _ _)⟩
    case round =>
      clear hwz
      obtain ⟨k, z, rfl, HZ, hk, hown, HB⟩ := hrel
      have HOWN := Lib.hid hown
      obtain ⟨oa, oc, rfl, hino, hoc, hocm⟩ := hown.fin2
      have hol : ((m.drop k).reverse).length = m.length - k := by rw [List.length_reverse, List.length_drop]
      clear hown
      by_cases hk0 : 0 < k
      · obtain ⟨q, hq⟩ : ∃ q, k = q + 1 := ⟨k - 1, by omega⟩
        obtain rfl : z = (q : Int) := by have := HZ.out; omega
        obtain ⟨f, hf⟩ : ∃ d, m[q]? = some d := ⟨_, List.getElem?_eq_getElem (by omega)⟩
        obtain ⟨b, off, rfl, hbl, c0⟩ := (HIN.out.below HB.out).at hf
        have HNX := Lib.hid (show (m.drop q).reverse = (m.drop k).reverse ++ [f] from by rw [hq]; exact turn_step hf)
        generalize (m.drop k).reverse = out at *
        have CL := Lib.hid c0
        have hi1 : (q : Int) < (m.length : Int) := by omega
        have hi0 : (0 : Int) ≤ (q : Int) := by omega
        have hwq : IntKind.i64.wrap ((q : Int) - 1) = (q : Int) - 1 := by simp [IntKind.wrap, IntKind.bits, IntKind.signed]; omega
        have hone := fin_new wr f
        obtain ⟨q2, d2, w3, hr2, ho2, hb3⟩ := appF (c := 1) (HOWN.out.alloc (.cells (fcs f).toArray 39)) hone (by simp; have := HB.out.size; omega) (out.length + 1) (by simp) (by omega)
        have hr2' : (Builtin.append_ #[22, 22] 22 #[.slice oa out.length oc, .slice (some ⟨wr.heap.size, 0, none⟩) 1 1]).run Try.prog (wr.alloc (.cells (fcs f).toArray 39)) = .ok (.slice q2 (out.length + 1) d2) w3 := hr2
        have HO3 := Lib.hid (show OwnF w1.heap.size (.slice q2 (out.length + 1) d2) ((m.drop q).reverse) w3 from by rw [HNX.out]; exact ho2)
        have HB3 := Lib.hid ((HB.out.alloc HB.out.size _).trans hb3)
        clear ho2 hb3 hone hr2 hf c0 hbl hq HZ hol hino
        go_wp2_with (first
          | ((with_reducible refine fl_load ?_ (.tmp 26) ?_ b (off + q * 8) f ?_ ?_ ?_); rfl; rfl; rfl; exact CL.out; simp only [Act.put, List.setIfInBounds_toArray, List.set_cons_zero, List.set_cons_succ])
          | ((with_reducible refine wpList_build1F ?_ (.tmp 27) ?_ f ?_ ?_); rfl; rfl; rfl; simp only [Act.put, List.setIfInBounds_toArray, List.set_cons_zero, List.set_cons_succ])
          | (at_builtin; refine wpList_append_run rfl _ _ 22 22 rfl (.slice oa out.length oc) (.slice (some ⟨wr.heap.size, 0, none⟩) 1 1) _ w3 rfl rfl hr2' ?_))
        go_wp2_with fail
        go_roundw
        case rel => exact ⟨q, _, rfl, Lib.hid rfl, by omega, HO3.out, HB3⟩
        case measure => simp [intOf]
      · obtain rfl : k = 0 := by omega
        have HX := Lib.hid (show FIn wr oa m.reverse from hino)
        have hlz : ((m.drop 0).reverse).length = m.length := by simp
        rw [hlz] at *
        have hz : z = -1 := by have := HZ.out; omega
        subst hz
        have HM := Lib.hid (HIN.out.below HB.out)
        have HB2 := Lib.hid (HB1.out.trans (HB.out.mono HB1.out.size))
        have hrl : m.reverse.length = m.length := List.length_reverse
        have HRL := Lib.hid hrl
        have HP := Lib.hid (show m.Perm m.reverse from (List.reverse_perm m).symm)
        clear HIN HB1 HB HOWN HZ hrl hlz hol hino
        go_wp2_with fail
        refine (lastX m m.length rfl ma mc wr HM.out (by omega)).mono ?_
        rintro e w2 ⟨rs, rb, rfl, hla, hb⟩
        have HLA := Lib.hid hla
        have B2 := Lib.hid (HB2.out.trans (hb.mono HB2.out.size))
        have H2 := Lib.hid (And.intro (HM.out.below hb) (HX.out.below hb))
        clear hla hb HM HX HB2
        go_wp2_with fail
        refine (lastX m.reverse m.length HRL.out oa oc w2 H2.out.2 (by omega)).mono ?_
        rintro e w3 ⟨rs2, rb2, rfl, hla2, hb⟩
        have he2 := HLA.out.perm hla2 HP.out
        injection he2 with e1 e2
        subst e1 e2
        have t1 := tselfU rs
        have t2 : (rb == rb) = true := by simp
        have B3 := Lib.hid (B2.out.trans (hb.mono B2.out.size))
        have H3 := Lib.hid (And.intro (H2.out.1.below hb) (H2.out.2.below hb))
        clear hla2 hb B2 H2 HLA
        go_wp2_with fail
        refine (allX m m.length rfl ma mc w3 H3.out.1 (by omega)).mono ?_
        rintro e w4 ⟨g4, xs, rfl, hxl, htb, ⟨s, ho, hx⟩, hb⟩
        have B4 := Lib.hid (B3.out.trans (hb.mono B3.out.size))
        have H4 := Lib.hid (And.intro (H3.out.1.below hb) (And.intro (H3.out.2.below hb) htb.row))
        have X4 := Lib.hid (And.intro hxl (And.intro ho hx))
        clear hxl htb ho hx hb B3 H3
        go_wp2_with fail
        refine (allX m.reverse m.length HRL.out oa oc w4 H4.out.2.1 (by omega)).mono ?_
        rintro e w5 ⟨g5, ys, rfl, hyl, htb, ⟨s2, ho2, hy⟩, hb⟩
        have B5 := Lib.hid (B4.out.trans (hb.mono B4.out.size))
        have H5 := Lib.hid (And.intro (H4.out.1.below hb) (And.intro (H4.out.2.1.below hb) (And.intro (H4.out.2.2.below hb) htb.row)))
        have E5 := Lib.hid (show xs = ys from by rw [← X4.out.2.2, ← hy]; exact X4.out.2.1.vals HP.out ho2)
        have Y5 := Lib.hid hyl
        clear hyl htb ho2 hy hb B4 H4
        go_wp2_with fail
        refine (textsY xs ys E5.out m.length m.length X4.out.1 Y5.out _ _ _ _ w5 H5.out.2.2.1 H5.out.2.2.2 (by unfold maxLen; omega)).mono ?_
        rintro e w6 ⟨rfl, hb⟩
        have B6 := Lib.hid (B5.out.trans (hb.mono B5.out.size))
        have H6 := Lib.hid (And.intro (H5.out.1.below hb) (H5.out.2.1.below hb))
        clear hb B5 H5 X4 E5 Y5
        go_wp2_with fail
        refine (elemX m m.length rfl ma mc w6 H6.out.1 (by omega)).mono ?_
        rintro e w7 ⟨g7, c7, out, rfl, hrow, he, hol, hb⟩
        have B7 := Lib.hid (B6.out.trans (hb.mono B6.out.size))
        have H7 := Lib.hid (And.intro (H6.out.2.below hb) hrow)
        have X7 := Lib.hid he
        clear hrow he hb B6 H6
        go_wp2_with fail
        refine (elemX m.reverse m.length HRL.out oa oc w7 H7.out.1 (by omega)).mono ?_
        rintro e w8 ⟨g8, c8, out2, rfl, hrow, he, -, hb⟩
        obtain rfl : out = out2 := X7.out.same (fun f => by simp) he
        have B8 := Lib.hid (B7.out.trans (hb.mono B7.out.size))
        have H8 := Lib.hid (And.intro (H7.out.2.below hb) hrow)
        clear hrow he hb B7 H7
        go_wp2_with fail
        refine (textsY out out rfl out.length out.length rfl rfl _ _ _ _ w8 H8.out.1 H8.out.2 (by unfold maxLen; omega)).mono ?_
        rintro e w9 ⟨rfl, hb⟩
        have B9 := Lib.hid (B8.out.trans (hb.mono B8.out.size))
        clear hb B8 H8
        go_wp2_with fail
        refine (regAwake w9).mono ?_
        rintro e w10 ⟨rfl, hb⟩
        have B10 := Lib.hid (B9.out.trans (hb.mono B9.out.size))
        clear hb
        go_wp2_with fail
        go_ret
        exact ⟨rfl, B10.out⟩
end Go.Proofs.Ytpcelgmcbfjmbaa
