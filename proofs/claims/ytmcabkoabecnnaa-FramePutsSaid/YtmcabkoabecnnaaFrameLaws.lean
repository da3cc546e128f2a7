/-
  almonrylaw07: awake, and the walk of FramePuts.
-/
import Derived.Test.YtmcabkoabecnnaaFrameAll
import Derived.Test.YtmcabkoabecnnaaTextRow
namespace Go.Proofs.Ytmcabkoabecnnaa
open Go.RowKit

theorem uvS1 : Lib.uvarint 1 = [1] := by rw [Lib.uvarint_small (by omega)]; rfl
theorem awA : recB ⟨#[97]⟩ = ⟨#[1, 97, 196, 255, 110, 113]⟩ := by
  have h : encT ⟨#[97]⟩ = [1, 97] := by unfold encT; rw [show (ByteArray.mk #[97]).size = 1 from rfl, uvS1]; rfl
  unfold recB recF; rw [h]; decide +kernel
theorem awB : recB ⟨#[98]⟩ = ⟨#[1, 98, 48, 12, 62, 98]⟩ := by
  have h : encT ⟨#[98]⟩ = [1, 98] := by unfold encT; rw [show (ByteArray.mk #[98]).size = 1 from rfl, uvS1]; rfl
  unfold recB recF; rw [h]; decide +kernel
theorem awX : frd (recB ⟨#[97]⟩ ++ ⟨#[120]⟩) = (⟨#[97]⟩, 6, 0) := by rw [awA]; decide +kernel
theorem awZ : frd ⟨#[1, 97, 0, 0, 0, 0]⟩ = (ByteArray.empty, 0, 6) := by decide +kernel
theorem awL : fallS (recB ⟨#[97]⟩ ++ (recB ⟨#[98]⟩).extract 0 5) = ([⟨#[97]⟩], 6) := by rw [awA, awB]; decide +kernel
theorem awAs : (recB ⟨#[97]⟩).size = 6 := by rw [awA]; rfl
theorem awBs : (recB ⟨#[98]⟩).size = 6 := by rw [awB]; rfl

set_option maxHeartbeats 4000000 in
set_option maxRecDepth 100000 in
theorem frameAwake (w : World) : Calls Try.prog 5 #[] w fun e w' => e = .returned (.bool true) ∧ Below w.heap.size w w' := by
  have p1 := fun W => fputC ⟨#[97]⟩ (by decide) W
  have p2 := fun W => fputC ⟨#[98]⟩ (by decide) W
  have hsA := awAs
  have hsB := awBs
  have hX := awX
  have hZ := awZ
  have hL := awL
  generalize recB ⟨#[97]⟩ = A at *
  generalize recB ⟨#[98]⟩ = B at *
  have he5 : (B.extract 0 5).size = 5 := by rw [ByteArray.size_extract]; omega
  have a1 := fun W => run_string_add_sum (P := Try.prog) (w := W) A ⟨#[120]⟩ (by rw [hsA]; decide)
  have a2 := fun W => run_string_add_sum (P := Try.prog) (w := W) A (B.extract 0 5) (by rw [hsA, he5]; decide)
  have s1 : (A ++ ⟨#[120]⟩).size = 7 := by rw [ByteArray.size_append, hsA]; rfl
  have s2 : (A ++ B.extract 0 5).size = 11 := by rw [ByteArray.size_append, hsA, he5]
  have r1 := fun W => freadC (A ++ ⟨#[120]⟩) W (by omega)
  have r2 := fun W => freadC ⟨#[1, 97, 0, 0, 0, 0]⟩ W (by decide)
  have r3 := fun W => fallC (A ++ B.extract 0 5) W (by omega)
  rw [hX] at r1
  rw [hZ] at r2
  rw [hL] at r3
  generalize A ++ ⟨#[120]⟩ = AX at *
  have hB5 : (5 : Int) ≤ (B.size : Int) := by omega
  generalize hE : B.extract 0 5 = E at *
  generalize A ++ E = AB at *
  have hiA : (A.size : Int) = 6 := by omega
  have hiB : (B.size : Int) = 6 := by omega
  have R1 := Lib.hid r1
  have R2 := Lib.hid r2
  have R3 := Lib.hid r3
  clear hX hZ hL s1 s2 he5 r1 r2 r3 hsA hsB
  go_enter Try.func5, Try.ntmps5
  go_wp2_with fail
  refine (p1 _).mono ?_
  rintro e w1 ⟨rfl, hb1⟩
  go_wp2_with fail
  refine (p2 _).mono ?_
  rintro e w2 ⟨rfl, hb2⟩
  have hb2' := hb1.trans (hb2.mono hb1.size)
  clear hb1 hb2 p1 p2
  go_wp2_with fail
  refine (R1.out _).mono ?_
  rintro e w3 ⟨rfl, hb3⟩
  have hb3' := hb2'.trans (hb3.mono hb2'.size)
  clear hb3 hb2'
  go_wp2_with fail
  refine (R2.out _).mono ?_
  rintro e w4 ⟨rfl, hb4⟩
  have hb4' := hb3'.trans (hb4.mono hb3'.size)
  clear hb4 hb3'
  go_wp2_with fail
  refine (R3.out _).mono ?_
  rintro e w5 ⟨v, rfl, hown, hb5⟩
  have hb5' := hb4'.trans (hb5.mono hb4'.size)
  obtain ⟨a, cap, rfl, hrow, hmax⟩ := ownS_row hown
  clear hb4' hb5 hown
  have HB5 := Lib.hid hb5'
  have hz5 := hb5'.size
  go_wp2_with fail
  refine (texts_same a (some ⟨w5.heap.size, 0, none⟩) cap 1 [⟨#[97]⟩] _ (strRow_alloc hrow _) (strRow_one w5 ⟨#[97]⟩) hmax).mono ?_
  rintro e w6 ⟨rfl, n, rfl⟩
  have HB6 := Lib.hid (belowN (HB5.out.alloc hz5 (.cells #[.string ⟨#[97]⟩] 9)) n)
  go_wp2_with fail
  go_ret
  exact ⟨rfl, HB6.out⟩

set_option maxHeartbeats 4000000 in
set_option maxRecDepth 100000 in
theorem fputs_walk (s t : ByteArray) (w : World) :
    Calls Try.prog 3 #[.string s, .string t] w fun e w' => e = .returned (.bool true) ∧ Below w.heap.size w w' := by
  by_cases hst : s.size ≤ 3000 ∧ t.size ≤ 3000
  · obtain ⟨hs, ht⟩ := hst
    have p1 := fun W => fputC s (by omega) W
    have p2 := fun W => fputR s (by omega) W
    have r1 := fun W => freadC t W (by omega)
    have r2 := fun W => freadR t W (by omega)
    have q1 := fun W => fallC t W (by omega)
    have q2 := fun W => fallR t W (by omega)
    generalize recB s = A at *
    obtain ⟨c, n, g, hf⟩ : ∃ c, ∃ n : Nat, ∃ g : Int, frd t = (c, n, g) := ⟨_, _, _, rfl⟩
    obtain ⟨x, i, hx⟩ : ∃ x, ∃ i : Nat, fallS t = (x, i) := ⟨_, _, rfl⟩
    rw [hf] at r1 r2
    rw [hx] at q1 q2
    simp only at r1 r2 q1 q2
    have h1 : decide ((3000 : Int) < (s.size : Int)) = false := by simp; omega
    have h2 : decide ((3000 : Int) < (t.size : Int)) = false := by simp; omega
    have e1 : (A.toList == A.toList) = true := by simp
    have e2 : (c.toList == c.toList) = true := by simp
    have e3 : ((n : Int) == (n : Int)) = true := by simp
    have e4 : (g == g) = true := by simp
    have e5 : ((i : Int) == (i : Int)) = true := by simp
    have P1 := Lib.hid p1
    have P2 := Lib.hid p2
    have R1 := Lib.hid r1
    have R2 := Lib.hid r2
    have Q1 := Lib.hid q1
    have Q2 := Lib.hid q2
    clear p1 p2 r1 r2 q1 q2 hf hx hs ht
    go_enter Try.func3, Try.ntmps3
    go_wp2_with fail
    refine (P1.out _).mono ?_
    rintro e w1 ⟨rfl, hb1⟩
    go_wp2_with fail
    refine (P2.out _).mono ?_
    rintro e w2 ⟨rfl, hb2⟩
    have hb2' := hb1.trans (hb2.mono hb1.size)
    clear hb1 hb2
    go_wp2_with fail
    refine (R1.out _).mono ?_
    rintro e w3 ⟨rfl, hb3⟩
    have hb3' := hb2'.trans (hb3.mono hb2'.size)
    clear hb3 hb2'
    go_wp2_with fail
    refine (R2.out _).mono ?_
    rintro e w4 ⟨rfl, hb4⟩
    have hb4' := hb3'.trans (hb4.mono hb3'.size)
    clear hb4 hb3'
    go_wp2_with fail
    refine (Q1.out _).mono ?_
    rintro e w5 ⟨v, rfl, hown, hb5⟩
    have hb5' := hb4'.trans (hb5.mono hb4'.size)
    obtain ⟨a, cap, rfl, hrow, hmax⟩ := ownS_row hown
    clear hb4' hb5 hown
    have HB5 := Lib.hid hb5'
    have hz5 := hb5'.size
    clear hb5'
    go_wp2_with fail
    refine (Q2.out _).mono ?_
    rintro e w6 ⟨v, rfl, hown, hb6⟩
    have hrow6 := hrow.below hb6
    have HB6 := Lib.hid (HB5.out.trans (hb6.mono hz5))
    obtain ⟨b, cab, rfl, hrowb, _⟩ := ownS_row hown
    have hz6 := HB6.out.size
    clear hown hb6 hrow
    go_wp2_with fail
    refine (texts_same a b cap cab x _ hrow6 hrowb hmax).mono ?_
    rintro e w7 ⟨rfl, m, rfl⟩
    have HB7 := Lib.hid (belowN HB6.out m)
    go_wp2_with fail
    refine (frameAwake _).mono ?_
    rintro e w8 ⟨rfl, hb8⟩
    have HB8 := Lib.hid (HB7.out.trans (hb8.mono HB7.out.size))
    go_wp2_with fail
    go_ret
    exact ⟨rfl, HB8.out⟩
  · go_enter Try.func3, Try.ntmps3
    by_cases h1 : s.size ≤ 3000
    · have h2 : decide ((3000 : Int) < (s.size : Int)) = false := by simp; omega
      have h3 : decide ((3000 : Int) < (t.size : Int)) = true := by simp; omega
      go_wp2_with fail
      refine (frameAwake _).mono ?_
      rintro e w8 ⟨rfl, hb8⟩
      go_wp2_with fail
      go_ret
      exact ⟨rfl, hb8⟩
    · have h2 : decide ((3000 : Int) < (s.size : Int)) = true := by simp; omega
      go_wp2_with fail
      refine (frameAwake _).mono ?_
      rintro e w8 ⟨rfl, hb8⟩
      go_wp2_with fail
      go_ret
      exact ⟨rfl, hb8⟩

theorem fputs_law (a0 a1 : ByteArray) (w : World) (_ : a0.size ≤ maxLen) (_ : a1.size ≤ maxLen) :
    Calls Try.prog 3 #[.string a0, .string a1] w fun e w' => e = .returned (.bool true) ∧ Below w.heap.size w w' := fputs_walk a0 a1 w
end Go.Proofs.Ytmcabkoabecnnaa
