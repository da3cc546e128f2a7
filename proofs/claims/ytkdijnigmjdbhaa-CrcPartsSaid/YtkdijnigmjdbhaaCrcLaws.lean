/-
  almonrylaw04: awake, and the walks of CrcSums and CrcParts.
-/
import Derived.Test.YtkdijnigmjdbhaaCrcAdd
import Derived.Deep.RegionHeld3
namespace Go.Proofs.Ytkdijnigmjdbhaa
open Go.RowKit

theorem aw1 : wv (crcS 0 [49, 50, 51, 52, 53, 54, 55, 56, 57]) = 3808858755 := by decide +kernel
theorem aw2 : wv (crcS 0 []) = 0 := by decide +kernel
theorem aw3 : wv (crcS (crcS 0 [49, 50, 51, 52]) [53, 54, 55, 56, 57]) = 3808858755 := by
  rw [crcS_append]; exact aw1

set_option maxHeartbeats 2000000 in
set_option maxRecDepth 100000 in
theorem crcAwake (w : World) :
    Calls Try.prog 5 #[] w fun e w' => e = .returned (.bool true) ∧ w = w' := by
  have a1 := fun W => sumC ⟨#[49, 50, 51, 52, 53, 54, 55, 56, 57]⟩ W (by decide)
  have a2 := fun W => sumC ⟨#[]⟩ W (by decide)
  have a3 := fun W => sumC ⟨#[49, 50, 51, 52]⟩ W (by decide)
  have a4 := fun W => addC (crcS 0 [49, 50, 51, 52]) ⟨#[53, 54, 55, 56, 57]⟩ W (by decide)
  rw [show (ByteArray.mk #[49, 50, 51, 52, 53, 54, 55, 56, 57]).data.toList = [49, 50, 51, 52, 53, 54, 55, 56, 57] from rfl, aw1] at a1
  rw [show (ByteArray.mk #[]).data.toList = [] from rfl, aw2] at a2
  rw [show (ByteArray.mk #[49, 50, 51, 52]).data.toList = [49, 50, 51, 52] from rfl] at a3
  rw [show (ByteArray.mk #[53, 54, 55, 56, 57]).data.toList = [53, 54, 55, 56, 57] from rfl, aw3] at a4
  generalize crcS 0 [49, 50, 51, 52] = z at a3 a4
  have A1 := Lib.hid a1
  have A2 := Lib.hid a2
  have A3 := Lib.hid a3
  have A4 := Lib.hid a4
  clear a1 a2 a3 a4
  go_enter Try.func5, Try.ntmps5
  go_wp2_with fail
  refine (A1.out _).mono ?_
  rintro e w1 ⟨rfl, rfl⟩
  go_wp2_with fail
  refine (A2.out _).mono ?_
  rintro e w1 ⟨rfl, rfl⟩
  go_wp2_with fail
  refine (A3.out _).mono ?_
  rintro e w1 ⟨rfl, rfl⟩
  go_wp2_with fail
  refine (A4.out _).mono ?_
  rintro e w1 ⟨rfl, rfl⟩
  go_wp2
  go_ret
  exact ⟨rfl, rfl⟩

set_option maxHeartbeats 2000000 in
set_option maxRecDepth 100000 in
theorem sums_walk (x : Wd) (s : ByteArray) (w : World) (ws : s.size ≤ maxLen) :
    Calls Try.prog 3 #[.int .u32 (wv x), .string s] w fun e w' => e = .returned (.bool true) ∧ w = w' := by
  have a1 := fun W => addC x s W ws
  have a2 := fun W => addR x s W ws
  have a3 := fun W => sumC s W ws
  have a4 := fun W => sumR s W ws
  generalize crcS x s.data.toList = y at a1 a2
  generalize crcS 0 s.data.toList = z at a3 a4
  generalize hn : wv x = n at a1 a2 ⊢
  clear hn
  generalize wv y = m at a1 a2
  generalize wv z = k at a3 a4
  have A1 := Lib.hid a1
  have A2 := Lib.hid a2
  have A3 := Lib.hid a3
  have A4 := Lib.hid a4
  clear a1 a2 a3 a4
  by_cases hs : s.size ≤ 3000
  · have h1 : decide ((3000 : Int) < (s.size : Int)) = false := by simp; omega
    have e1 : (m == m) = true := by simp
    have e2 : (k == k) = true := by simp
    go_enter Try.func3, Try.ntmps3
    go_wp2_with fail
    refine (A1.out _).mono ?_
    rintro e w1 ⟨rfl, rfl⟩
    go_wp2_with fail
    refine (A2.out _).mono ?_
    rintro e w1 ⟨rfl, rfl⟩
    go_wp2_with fail
    refine (A3.out _).mono ?_
    rintro e w1 ⟨rfl, rfl⟩
    go_wp2_with fail
    refine (A4.out _).mono ?_
    rintro e w1 ⟨rfl, rfl⟩
    go_wp2_with fail
    refine (crcAwake _).mono ?_
    rintro e w1 ⟨rfl, rfl⟩
    go_wp2
    go_ret
    exact ⟨rfl, rfl⟩
  · have h1 : decide ((3000 : Int) < (s.size : Int)) = true := by simp; omega
    go_enter Try.func3, Try.ntmps3
    go_wp2_with fail
    refine (crcAwake _).mono ?_
    rintro e w1 ⟨rfl, rfl⟩
    go_wp2
    go_ret
    exact ⟨rfl, rfl⟩

theorem sums_law (a0 : Int) (a1 : ByteArray) (w : World) (w0 : (Lit.int .u32 a0).wf = true) (w1 : a1.size ≤ maxLen) :
    Calls Try.prog 3 #[.int .u32 a0, .string a1] w fun e w' => e = .returned (.bool true) ∧ Below w.heap.size w w' := by
  have h0 := bounds_u32 w0
  obtain ⟨a, rfl⟩ := Int.eq_ofNat_of_zero_le h0.1
  have e : ((a : Nat) : Int) = wv (BitVec.ofNat 32 a) := by
    rw [← wrap_wv, IntKind.wrap_u32]; omega
  rw [e]
  exact (sums_walk _ a1 w w1).mono fun _ _ ⟨he, hw⟩ => ⟨he, by subst hw; exact Below.refl _ _⟩
end Go.Proofs.Ytkdijnigmjdbhaa
