/-
  The document's Bits, Key, Of, Clean, Less and Same: what each call answers.
-/
import Derived.Test.YtgdgapklkodnjaaFloatC
namespace Go.Proofs.Ytgdgapklkodnjaa
open Go.RowKit

attribute [local go_sem] fbits ffrom ffromN fneq feql

set_option maxHeartbeats 1000000 in
theorem bitsR (b : Nat) (w : World) : Calls Try.prog 25 #[.float .f64 b] w fun e w' => e = .returned (.int .u64 (cln b : Nat)) ∧ w = w' := by
  cases h : isNb b
  · rw [cln_no h]
    go_enter Try.func25, Try.ntmps25
    go_wp2
    go_ret
    exact ⟨rfl, rfl⟩
  · rw [cln_of h]
    go_enter Try.func25, Try.ntmps25
    go_wp2
    go_ret
    exact ⟨rfl, rfl⟩

set_option maxHeartbeats 1000000 in
theorem cleanR (b : Nat) (w : World) : Calls Try.prog 18 #[.float .f64 b] w fun e w' => e = .returned (.float .f64 (cln b)) ∧ w = w' := by
  have hb := fun W => bitsR b W
  generalize cln b = c at hb ⊢
  go_enter Try.func18, Try.ntmps18
  go_wp2_with fail
  refine (hb _).mono ?_
  rintro e w1 ⟨rfl, rfl⟩
  go_wp2
  go_ret
  exact ⟨rfl, rfl⟩

set_option maxHeartbeats 1000000 in
theorem keyR (b : Nat) (hb : b < 18446744073709551616) (w : World) : Calls Try.prog 11 #[.float .f64 b] w fun e w' => e = .returned (.int .u64 (keyB b : Nat)) ∧ w = w' := by
  have hlt := cln_lt hb
  have hk : keyB b = turnK (cln b) := by unfold keyB; rfl
  rw [hk]
  have hbt := fun W => bitsR b W
  clear hk
  generalize cln b = c at hlt hbt ⊢
  by_cases h : c < 9223372036854775808
  · have e1 : turnK c = c + 9223372036854775808 := if_pos h
    have e2 : decide ((c : Int) < 9223372036854775808) = true := by simp; omega
    have e3 : IntKind.u64.wrap ((c : Int) + 9223372036854775808) = ((c + 9223372036854775808 : Nat) : Int) := by simp [IntKind.wrap, IntKind.bits, IntKind.signed]; omega
    rw [e1]
    clear e1 h hlt hb
    generalize c + 9223372036854775808 = z at e3 ⊢
    go_enter Try.func11, Try.ntmps11
    go_wp2_with fail
    refine (hbt _).mono ?_
    rintro e w1 ⟨rfl, rfl⟩
    go_wp2
    go_ret
    exact ⟨rfl, rfl⟩
  · have e1 : turnK c = 18446744073709551615 - c := if_neg h
    have e2 : ((c : Int) < 9223372036854775808) = False := by simp; omega
    have e3 := not_u64 c hlt
    rw [e1]
    clear e1 h hlt hb
    generalize 18446744073709551615 - c = z at e3 ⊢
    go_enter Try.func11, Try.ntmps11
    go_wp2_with fail
    refine (hbt _).mono ?_
    rintro e w1 ⟨rfl, rfl⟩
    go_wp2
    go_ret
    exact ⟨rfl, rfl⟩

set_option maxHeartbeats 1000000 in
theorem ofR (k : Nat) (hk : k < 18446744073709551616) (w : World) : Calls Try.prog 14 #[.int .u64 (k : Int)] w fun e w' => e = .returned (.float .f64 (ofB k)) ∧ w = w' := by
  by_cases h : k < 9223372036854775808
  · have e1 : ofB k = cln (18446744073709551615 - k) := by unfold ofB; rw [if_pos h]
    have e2 : decide (9223372036854775808 ≤ (k : Int)) = false := by simp; omega
    have e3 := not_u64 k hk
    rw [e1]
    clear e1 h hk
    generalize 18446744073709551615 - k = z at e3 ⊢
    go_enter Try.func14, Try.ntmps14
    go_wp2_with fail
    refine (cleanR z _).mono ?_
    rintro e w1 ⟨rfl, rfl⟩
    go_wp2
    go_ret
    exact ⟨rfl, rfl⟩
  · have e1 : ofB k = cln (k - 9223372036854775808) := by unfold ofB; rw [if_neg h]
    have e3 : IntKind.u64.wrap ((k : Int) - 9223372036854775808) = ((k - 9223372036854775808 : Nat) : Int) := by simp [IntKind.wrap, IntKind.bits, IntKind.signed]; omega
    have e2 : decide (9223372036854775808 ≤ (k : Int)) = true := by simp; omega
    rw [e1]
    clear e1 h hk
    generalize k - 9223372036854775808 = z at e3 ⊢
    go_enter Try.func14, Try.ntmps14
    go_wp2_with fail
    refine (cleanR z _).mono ?_
    rintro e w1 ⟨rfl, rfl⟩
    go_wp2
    go_ret
    exact ⟨rfl, rfl⟩

set_option maxHeartbeats 1000000 in
theorem lessR (a b : Nat) (ha : a < 18446744073709551616) (hb : b < 18446744073709551616) (w : World) : Calls Try.prog 30 #[.float .f64 a, .float .f64 b] w fun e w' => e = .returned (.bool (decide (keyB a < keyB b))) ∧ w = w' := by
  have ka := fun W => keyR a ha W
  have kb := fun W => keyR b hb W
  generalize keyB a = x at ka ⊢
  generalize keyB b = y at kb ⊢
  go_enter Try.func30, Try.ntmps30
  go_wp2_with fail
  refine (ka _).mono ?_
  rintro e w1 ⟨rfl, rfl⟩
  go_wp2_with fail
  refine (kb _).mono ?_
  rintro e w1 ⟨rfl, rfl⟩
  go_wp2
  go_ret
  exact ⟨by simp, rfl⟩

set_option maxHeartbeats 1000000 in
theorem sameR (a b : Nat) (w : World) : Calls Try.prog 12 #[.float .f64 a, .float .f64 b] w fun e w' => e = .returned (.bool (decide (a = b))) ∧ w = w' := by
  have h : ((a : Int) == (b : Int)) = decide (a = b) := by
    by_cases h : a = b
    · subst h; simp
    · simp [h]; omega
  generalize decide (a = b) = r at h ⊢
  go_enter Try.func12, Try.ntmps12
  go_wp2
  go_ret
  exact ⟨by rw [← h]; rfl, rfl⟩
end Go.Proofs.Ytgdgapklkodnjaa
