/-
  hexa.value; almonryref03's digit and half: what each call answers.
-/
import Derived.Test.YtjoaijkjocpepaaDoorHexaPlain
namespace Go.Proofs.YtjoaijkjocpepaaDoor
open Go.RowKit

set_option maxRecDepth 100000 in
theorem value_yes (n : Nat) (h : hv n < 16) (w : World) :
    Calls Tryd.prog 15 #[.int .i32 n] w fun e w' => e = .returned (.tuple #[.int .u8 (hv n : Nat), .bool true]) ∧ w = w' := by
  rcases hv_cases n with ⟨h1, h2, h3⟩ | ⟨h1, h2, h3⟩ | ⟨h1, _⟩
  · rw [h3]
    have e : ((n - 48 : Nat) : Int) = (n : Int) - 48 := by omega
    rw [e]
    clear h h3 e
    go_enter Tryd.func15, Tryd.ntmps15
    go_wp2
    go_ret2
    exact ⟨rfl, rfl⟩
  · rw [h3]
    have e : ((n - 87 : Nat) : Int) = (n : Int) - 97 + 10 := by omega
    rw [e]
    have h4 : ¬ n ≤ 57 := by omega
    clear h h3 e
    go_enter Tryd.func15, Tryd.ntmps15
    go_wp2
    go_ret2
    exact ⟨rfl, rfl⟩
  · omega

set_option maxRecDepth 100000 in
theorem value_no (n : Nat) (h : ¬ hv n < 16) (w : World) :
    Calls Tryd.prog 15 #[.int .i32 n] w fun e w' => e = .returned (.tuple #[.int .u8 0, .bool false]) ∧ w = w' := by
  rcases hv_cases n with ⟨h1, h2, h3⟩ | ⟨h1, h2, h3⟩ | ⟨_, h1, h2⟩
  · omega
  · omega
  · clear h
    by_cases c1 : n < 48
    · have d1 : ¬ 97 ≤ n := by omega
      have d2 : ¬ 48 ≤ n := by omega
      clear h1 h2
      go_enter Tryd.func15, Tryd.ntmps15
      go_wp2
      go_ret2
      exact ⟨rfl, rfl⟩
    · by_cases c2 : n < 97
      · have d1 : 48 ≤ n := by omega
        have d2 : ¬ n ≤ 57 := by omega
        have d3 : ¬ 97 ≤ n := by omega
        clear h1 h2
        go_enter Tryd.func15, Tryd.ntmps15
        go_wp2
        go_ret2
        exact ⟨rfl, rfl⟩
      · have d1 : 48 ≤ n := by omega
        have d2 : ¬ n ≤ 57 := by omega
        have d3 : 97 ≤ n := by omega
        have d4 : ¬ n ≤ 102 := by omega
        clear h1 h2
        go_enter Tryd.func15, Tryd.ntmps15
        go_wp2
        go_ret2
        exact ⟨rfl, rfl⟩

set_option maxRecDepth 100000 in
theorem digit_any (n : Nat) (h : n < 16) (w : World) :
    Calls Tryd.prog 17 #[.int .u8 n] w fun e w' => e = .returned (.int .u8 (dg n : Nat)) ∧ w = w' := by
  rcases dg_cases n with ⟨h1, h2⟩ | ⟨h1, h2⟩
  · rw [h2]
    have e : ((48 + n : Nat) : Int) = 48 + (n : Int) := by omega
    rw [e]
    clear h2 e
    go_enter Tryd.func17, Tryd.ntmps17
    go_wp2
    go_ret
    exact ⟨rfl, rfl⟩
  · rw [h2]
    have e : ((87 + n : Nat) : Int) = 87 + (n : Int) := by omega
    rw [e]
    have h3 : ¬ n < 10 := by omega
    clear h2 e
    go_enter Tryd.func17, Tryd.ntmps17
    go_wp2
    go_ret
    exact ⟨rfl, rfl⟩

theorem hv_first (c n : Nat) (h : n ≤ hv c) (hn : n < 16) : dg n = c ↔ n = hv c := by
  constructor
  · intro e; rw [← e, hv_dg n hn]
  · rintro rfl; exact dg_hv c hn

set_option maxHeartbeats 1000000 in
set_option maxRecDepth 100000 in
theorem half_any (c : Nat) (hc : c < 256) (w : World) :
    Calls Tryd.prog 16 #[.int .u8 c] w fun e w' => e = .returned (.int .u8 (hv c : Nat)) ∧ w = w' := by
  have hle := hv_le c
  go_enter Tryd.func16, Tryd.ntmps16
  go_wp2
  go_loop [3] (fun n => ∃ j : Nat, j ≤ hv c ∧ n = .int .u8 j) (fun n => 16 - (intOf n).toNat)
  case atStart => exact ⟨0, by omega, rfl⟩
  case round =>
    obtain ⟨j, hj, rfl⟩ := hrel
    by_cases hlt : j < 16
    · have hf := hv_first c j hj hlt
      have hlg := dg_lt j hlt
      by_cases hd : dg j = c
      · have he : ((dg j : Int) == (c : Int)) = true := by rw [hd]; simp
        have hjh : (j : Int) = (hv c : Int) := by rw [← hf.1 hd]
        have HJ := Lib.hid hjh
        clear hf hd hjh
        go_wp2_with fail
        refine (digit_any j hlt _).mono ?_
        rintro e w1 ⟨rfl, rfl⟩
        go_wp2
        go_ret
        exact ⟨by rw [HJ.out]; rfl, rfl⟩
      · have he : ((dg j : Int) == (c : Int)) = false := by simp; omega
        have hjh : j + 1 ≤ hv c := by have : j ≠ hv c := fun e => hd (hf.2 e); omega
        clear hf hd
        go_wp2_with fail
        refine (digit_any j hlt _).mono ?_
        rintro e w1 ⟨rfl, rfl⟩
        go_wp2
        go_round
        case rel => exact ⟨j + 1, hjh, by go_num⟩
        case measure => simp [intOf]; omega
    · have hj16 : hv c = 16 := by omega
      have HH := Lib.hid hj16
      clear hj16
      go_wp2
      go_ret
      exact ⟨by rw [HH.out]; rfl, rfl⟩
end Go.Proofs.YtjoaijkjocpepaaDoor
