/-
  almonrylaw02.awake: what the call answers.
-/
import Derived.Test.YtmhjicfmbpjhhaaDoorShaSumR
namespace Go.Proofs.YtmhjicfmbpjhhaaDoor
open Go.RowKit

theorem abc_len : (sSum [97, 98, 99]).length = 32 := by unfold sSum; rw [outB_len, blks_len H0_len]
theorem nil_len : (sSum []).length = 32 := by unfold sSum; rw [outB_len, blks_len H0_len]
theorem abc_four : (sSum [97, 98, 99]).take 4 = [186, 120, 22, 191] := by decide +kernel
theorem nil_four : (sSum []).take 4 = [227, 176, 196, 66] := by decide +kernel
theorem four_of {l : List UInt8} {x : List UInt8} (h : l.take 4 = x) : ((⟨l.toArray⟩ : ByteArray).extract 0 4).toList = x := by
  rw [ByteArray.toList_eq, Lib.extract_data]; simpa using h

set_option maxHeartbeats 4000000 in
set_option maxRecDepth 100000 in
theorem awake_any (w : World) (hT : Tab w) :
    Calls Tryd.prog 5 #[] w fun e w' => e = .returned (.bool true) ∧ Below w.heap.size w w' := by
  have c1 := fun W hW => sumC ⟨#[97, 98, 99]⟩ W (by decide) hW
  have c2 := fun W => sumR ⟨#[97, 98, 99]⟩ W (by decide)
  have c3 := fun W hW => sumC ⟨#[]⟩ W (by decide) hW
  obtain ⟨S, hS⟩ : ∃ S : ByteArray, S = ⟨(sSum [97, 98, 99]).toArray⟩ := ⟨_, rfl⟩
  obtain ⟨T, hT'⟩ : ∃ T : ByteArray, T = ⟨(sSum []).toArray⟩ := ⟨_, rfl⟩
  have s1 : S.size = 32 := by rw [hS, ← abc_len]; show (sSum [97, 98, 99]).toArray.size = _; simp
  have t1 : T.size = 32 := by rw [hT', ← nil_len]; show (sSum []).toArray.size = _; simp
  have s4 : (S.extract 0 4).toList = [186, 120, 22, 191] := by rw [hS]; exact four_of abc_four
  have t4 : (T.extract 0 4).toList = [227, 176, 196, 66] := by rw [hT']; exact four_of nil_four
  have k1 : ∀ W, Tab W → Calls Tryd.prog 6 #[.string ⟨#[97, 98, 99]⟩] W fun e w' => e = .returned (.string S) ∧ Below W.heap.size W w' := by rw [hS]; exact c1
  have k2 : ∀ W, Calls Tryd.prog 7 #[.string ⟨#[97, 98, 99]⟩] W fun e w' => e = .returned (.string S) ∧ Below W.heap.size W w' := by rw [hS]; exact c2
  have k3 : ∀ W, Tab W → Calls Tryd.prog 6 #[.string ⟨#[]⟩] W fun e w' => e = .returned (.string T) ∧ Below W.heap.size W w' := by rw [hT']; exact c3
  have K1 := Lib.hid k1
  have K2 := Lib.hid k2
  have K3 := Lib.hid k3
  have HT := Lib.hid hT
  have p0 : (padS 0).size = 64 := padS_size 0
  have p56 : (padS 56).size = 72 := padS_size 56
  clear c1 c2 c3 hS hT' k1 k2 k3 hT
  go_enter Tryd.func5, Tryd.ntmps5
  go_wp2_with fail
  refine (K1.out _ HT.out).mono ?_
  rintro e w1 ⟨rfl, hb1⟩
  have HT1 := Lib.hid (HT.out.below hb1)
  go_wp2_with fail
  refine (K3.out _ HT1.out).mono ?_
  rintro e w2 ⟨rfl, hb2⟩
  have HB2 := Lib.hid (hb1.trans (hb2.mono hb1.size))
  clear hb1 hb2
  go_wp2_with fail
  refine (K2.out _).mono ?_
  rintro e w3 ⟨rfl, hb3⟩
  have HB3 := Lib.hid (HB2.out.trans (hb3.mono HB2.out.size))
  clear hb3
  go_wp2_with fail
  refine (padC_str 0 (by decide) (by decide) _).mono ?_
  rintro e w4 ⟨rfl, hb4⟩
  have HB4 := Lib.hid (HB3.out.trans (hb4.mono HB3.out.size))
  clear hb4
  rw [show Int.toNat 0 = 0 from rfl]
  go_wp2_with fail
  refine (padC_str 56 (by decide) (by decide) _).mono ?_
  rintro e w5 ⟨rfl, hb5⟩
  have HB5 := Lib.hid (HB4.out.trans (hb5.mono HB4.out.size))
  clear hb5
  rw [show Int.toNat 56 = 56 from rfl]
  go_wp2_with fail
  refine (padC_neg (-1) (by decide) _).mono ?_
  rintro e w6 ⟨rfl, rfl⟩
  go_wp2
  go_ret
  exact ⟨rfl, HB5.out⟩
end Go.Proofs.YtmhjicfmbpjhhaaDoor
