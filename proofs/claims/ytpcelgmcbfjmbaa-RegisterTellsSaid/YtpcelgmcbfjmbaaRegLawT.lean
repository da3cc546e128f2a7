/-
  almonrylaw17: the walk of RegisterTells.
-/
import Derived.Test.YtpcelgmcbfjmbaaRegAwk
namespace Go.Proofs.Ytpcelgmcbfjmbaa
set_option linter.unusedSimpArgs false
set_option linter.unusedVariables false
set_option maxRecDepth 100000
open Go.RowKit Go.Sort

theorem tself (s : ByteArray) : (s.toList == s.toList) = true := by simp
set_option maxHeartbeats 8000000 in
theorem reg_tells_row (a : Option Addr) (len cap : Nat) (l : List Ft) (k : Int) (nm : ByteArray) (w : World) (h : FactArg w a len l) (_hk : (Lit.int .i64 k).wf = true) (hnm : nm.size ≤ maxLen) :
    Calls Try.prog 3 #[.slice a len cap, .int .i64 k, .string nm] w fun e w' => e = .returned (.bool true) ∧ Go.RowKit.Below w.heap.size w w' := by
  obtain ⟨hn, hl, hin, hsz⟩ := h
  have HFW := Lib.hid (fun W hh => ffewC l a cap W hh (by rw [hn]; exact hl) hsz)
  rw [hn] at HFW
  unfold maxLen at hl hnm
  have H := Lib.hid hin
  have HN := Lib.hid hn
  clear hin hsz hn
  cases hfw : fewP l with
  | false =>
    rw [hfw] at HFW
    clear hfw
    go_enter Try.func3, Try.ntmps3
    go_wp2_with fail
    refine (HFW.out w H.out).mono ?_
    rintro e w1 ⟨rfl, rfl⟩
    go_wp2_with fail
    refine (regAwake w).mono ?_
    rintro e w1 ⟨rfl, hb⟩
    have HB := Lib.hid hb; clear hb
    go_wp2_with fail
    go_ret
    exact ⟨rfl, HB.out⟩
  | true =>
    rw [hfw] at HFW
    have hsm : len ≤ 30 := by rw [← HN.out]; exact (fewP_ok hfw).1
    clear hfw
    by_cases hbig : 100 < nm.size
    · have g1 : decide ((100 : Int) < (nm.size : Int)) = true := by simp; omega
      go_enter Try.func3, Try.ntmps3
      go_wp2_with fail
      refine (HFW.out w H.out).mono ?_
      rintro e w1 ⟨rfl, rfl⟩
      go_wp2_with fail
      refine (regAwake w).mono ?_
      rintro e w1 ⟨rfl, hb⟩
      have HB := Lib.hid hb; clear hb
      go_wp2_with fail
      go_ret
      exact ⟨rfl, HB.out⟩
    · have g1 : decide ((100 : Int) < (nm.size : Int)) = false := by simp; omega
      go_enter Try.func3, Try.ntmps3
      go_wp2_with fail
      refine (HFW.out w H.out).mono ?_
      rintro e w1 ⟨rfl, rfl⟩
      clear HFW
      go_wp2_with fail
      refine (lastX l len HN.out a cap w H.out (by omega)).mono ?_
      rintro e w1 ⟨rs, rb, rfl, hla, hb⟩
      have HLA := Lib.hid hla
      have B1 := Lib.hid hb
      have H1 := Lib.hid (H.out.below hb)
      clear hla hb
      go_wp2_with fail
      refine (rlastY l rs rb HLA.out len HN.out a cap w1 H1.out (by omega)).mono ?_
      rintro e w2 ⟨rfl, hb⟩
      have B2 := Lib.hid (B1.out.trans (hb.mono B1.out.size))
      have H2 := Lib.hid (H1.out.below hb)
      clear hb B1 H1
      have t1 := tself rs
      have t2 : (rb == rb) = true := by simp
      have hol : (ofR k nm l).length ≤ 30 := Nat.le_trans (ofR_len k nm l) (by have := HN.out; omega)
      obtain ⟨o, ho⟩ : ∃ o, ofR k nm l = o := ⟨_, rfl⟩
      rw [ho] at hol
      have HO := Lib.hid ho
      clear ho
      go_wp2_with fail
      refine (ofX l o k nm HO.out len o.length HN.out rfl a cap w2 H2.out (by omega)).mono ?_
      rintro e w3 ⟨b3, c3, rfl, hin3, hb⟩
      have B3 := Lib.hid (B2.out.trans (hb.mono B2.out.size))
      have H3 := Lib.hid (And.intro (H2.out.below hb) hin3)
      clear hin3 hb B2 H2
      go_wp2_with fail
      refine (rofX l o k nm HO.out len o.length HN.out rfl a cap w3 H3.out.1 (by omega)).mono ?_
      rintro e w4 ⟨b4, c4, rfl, hin4, hb⟩
      have B4 := Lib.hid (B3.out.trans (hb.mono B3.out.size))
      have H4 := Lib.hid (And.intro (H3.out.1.below hb) (And.intro (H3.out.2.below hb) hin4))
      clear hin4 hb B3 H3
      go_wp2_with fail
      refine (same_anyF o o o.length o.length rfl rfl b3 b4 c3 c4 w4 H4.out.2.1 H4.out.2.2 (by unfold maxLen; omega) true (by simp)).mono ?_
      rintro e w5 ⟨rfl, hb⟩
      have B5 := Lib.hid (B4.out.trans (hb.mono B4.out.size))
      have H5 := Lib.hid (H4.out.1.below hb)
      clear hb B4 H4 HO hol
      go_wp2_with fail
      refine (allX l len HN.out a cap w5 H5.out (by omega)).mono ?_
      rintro e w6 ⟨g6, xs, rfl, hxl, htb, ⟨s, ho, hx⟩, hb⟩
      have B6 := Lib.hid (B5.out.trans (hb.mono B5.out.size))
      have H6 := Lib.hid (And.intro (H5.out.below hb) htb.row)
      have X6 := Lib.hid (And.intro hxl (And.intro ho hx))
      clear hxl htb ho hx hb B5 H5
      go_wp2_with fail
      refine (rallX l len HN.out a cap w6 H6.out.1 (by omega)).mono ?_
      rintro e w7 ⟨b7, c7, ys, rfl, hyl, hrow, ⟨s2, ho2, hy⟩, hb⟩
      have B7 := Lib.hid (B6.out.trans (hb.mono B6.out.size))
      have H7 := Lib.hid (And.intro (H6.out.1.below hb) (And.intro (H6.out.2.below hb) hrow))
      have E7 := Lib.hid (show xs = ys from by rw [← X6.out.2.2, ← hy]; exact X6.out.2.1.vals (.refl l) ho2)
      have Y7 := Lib.hid hyl
      clear hyl hrow ho2 hy hb B6 H6
      go_wp2_with fail
      refine (textsY xs ys E7.out len len X6.out.1 Y7.out _ _ _ _ w7 H7.out.2.1 H7.out.2.2 (by unfold maxLen; omega)).mono ?_
      rintro e w8 ⟨rfl, hb⟩
      have B8 := Lib.hid (B7.out.trans (hb.mono B7.out.size))
      have H8 := Lib.hid (H7.out.1.below hb)
      clear hb B7 H7 X6 E7 Y7
      go_wp2_with fail
      refine (elemX l len HN.out a cap w8 H8.out (by omega)).mono ?_
      rintro e w9 ⟨g9, c9, out, rfl, hrow, he, hol, hb⟩
      have B9 := Lib.hid (B8.out.trans (hb.mono B8.out.size))
      have H9 := Lib.hid (And.intro (H8.out.below hb) hrow)
      have X9 := Lib.hid he
      clear hrow he hb B8 H8
      go_wp2_with fail
      refine (relemX l out X9.out len HN.out a cap w9 H9.out.1 (by omega)).mono ?_
      rintro e w10 ⟨b10, c10, rfl, hrow, hb⟩
      have B10 := Lib.hid (B9.out.trans (hb.mono B9.out.size))
      have H10 := Lib.hid (And.intro (H9.out.2.below hb) hrow)
      clear hrow hb B9 H9
      go_wp2_with fail
      refine (textsY out out rfl out.length out.length rfl rfl _ _ _ _ w10 H10.out.1 H10.out.2 (by unfold maxLen; omega)).mono ?_
      rintro e w11 ⟨rfl, hb⟩
      have B11 := Lib.hid (B10.out.trans (hb.mono B10.out.size))
      clear hb B10 H10
      go_wp2_with fail
      refine (regAwake w11).mono ?_
      rintro e w12 ⟨rfl, hb⟩
      have B12 := Lib.hid (B11.out.trans (hb.mono B11.out.size))
      clear hb
      go_wp2_with fail
      go_ret
      exact ⟨rfl, B12.out⟩
end Go.Proofs.Ytpcelgmcbfjmbaa
