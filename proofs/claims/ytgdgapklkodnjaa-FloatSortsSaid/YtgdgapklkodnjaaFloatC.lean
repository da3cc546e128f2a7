/-
  float.Clean, Key, Of, Less, the closure that Sort hands on, and the document's Bits, Key, Of, Clean, Less, Same: what each call answers.
-/
import Derived.Test.YtgdgapklkodnjaaFloatPlain
import Derived.Test.YtgdgapklkodnjaaBase
import Derived.Laws.BitsAllLaws
import Derived.Laws.DeepNot64
import Derived.Laws.StandIn
namespace Go.Proofs.Ytgdgapklkodnjaa
open Go.RowKit

theorem fbits (b : Nat) (w : World) : (callFunc 26 #[.float .f64 b]).run Try.prog w = .ok (.value (.int .u64 b)) w :=
  run_callFunc_extern (P := Try.prog) (e := Extern.MathFloatBits.float64bits) Try.func26 (by kernel_rfl) (by kernel_rfl) (by kernel_rfl) (by kernel_rfl) #[.float .f64 b] w
theorem ffrom (n : Nat) (w : World) : (callFunc 19 #[.int .u64 n]).run Try.prog w = .ok (.value (.float .f64 n)) w :=
  run_callFunc_extern (P := Try.prog) (e := Extern.MathFloatBits.float64frombits) Try.func19 (by kernel_rfl) (by kernel_rfl) (by kernel_rfl) (by kernel_rfl) #[.int .u64 n] w
theorem ffromN : ∀ w : World, (callFunc 19 #[.int .u64 9221120237041090561]).run Try.prog w = .ok (.value (.float .f64 9221120237041090561)) w := ffrom 9221120237041090561
theorem fneq (b : Nat) : (FloatKind.f64.format.order b b != some Ordering.eq) = isNb b := by
  have h : (FloatKind.f64.format.order b b == some Ordering.eq) = !isNb b := ord_self b
  rw [bne, h]; simp
theorem feql (b : Nat) : (FloatKind.f64.format.order b b == some Ordering.eq) = !isNb b := ord_self b

attribute [local go_sem] fbits ffrom ffromN fneq feql

theorem and_low (c : Nat) (h : c < 9223372036854775808) : bits .and .u64 (c : Int) 9223372036854775808 = 0 := by
  have h1 := u64_and_nat c 9223372036854775808 (by omega) (by omega)
  have h2 : c &&& 9223372036854775808 = 0 := by
    have e : c.testBit 63 = false := Nat.testBit_lt_two_pow (by omega)
    apply Nat.eq_of_testBit_eq
    intro i
    rw [Nat.testBit_and, show 9223372036854775808 = 2 ^ 63 by decide, Nat.testBit_two_pow, Nat.zero_testBit]
    by_cases hi : 63 = i
    · subst hi; rw [e]; rfl
    · simp [hi]
  rw [h2] at h1
  exact h1
theorem and_high (c : Nat) (h : 9223372036854775808 ≤ c) (h2 : c < 18446744073709551616) : bits .and .u64 (c : Int) 9223372036854775808 = 9223372036854775808 := by
  have h1 := u64_and_nat c 9223372036854775808 (by omega) (by omega)
  have h2 : c &&& 9223372036854775808 = 9223372036854775808 := by
    have e : c.testBit 63 = true := by
      rw [Nat.testBit_eq_decide_div_mod_eq]; simp; omega
    apply Nat.eq_of_testBit_eq
    intro i
    rw [Nat.testBit_and, show 9223372036854775808 = 2 ^ 63 by decide, Nat.testBit_two_pow]
    by_cases hi : 63 = i
    · subst hi; rw [e]; rfl
    · simp [hi]
  rw [h2] at h1
  exact h1
theorem or_low (c : Nat) (h : c < 9223372036854775808) : bits .or .u64 (c : Int) 9223372036854775808 = ((c + 9223372036854775808 : Nat) : Int) := by
  have h1 := u64_or_nat c 9223372036854775808 (by omega) (by omega)
  have h2 : c ||| 9223372036854775808 = c + 9223372036854775808 := by
    have e := Nat.two_pow_add_eq_or_of_lt (i := 63) (b := c) (by omega) 1
    rw [Nat.mul_one, show 2 ^ 63 = 9223372036854775808 by decide, Nat.or_comm] at e
    omega
  rw [h2] at h1
  exact h1
theorem andNot_high (c : Nat) (h : 9223372036854775808 ≤ c) (h2 : c < 18446744073709551616) : bits .andNot .u64 (c : Int) 9223372036854775808 = ((c - 9223372036854775808 : Nat) : Int) := by
  have h1 := u64_andNot_nat c 9223372036854775808 (by omega) (by omega)
  have h2 : c &&& (18446744073709551615 - 9223372036854775808) = c - 9223372036854775808 := by
    have e := Nat.and_two_pow_sub_one_eq_mod c 63
    rw [show 18446744073709551615 - 9223372036854775808 = 2 ^ 63 - 1 by decide, e, show 2 ^ 63 = 9223372036854775808 by decide]
    omega
  rw [h2] at h1
  exact h1
theorem not_u64 (c : Nat) (h : c < 18446744073709551616) : bits .xor .u64 IntKind.u64.max (c : Int) = ((18446744073709551615 - c : Nat) : Int) := by
  show IntKind.u64.wrap ((BitVec.ofInt 64 IntKind.u64.max ^^^ BitVec.ofInt 64 (c : Int)).toNat : Int) = _
  have h1 : BitVec.ofInt 64 IntKind.u64.max = BitVec.allOnes 64 := by decide
  rw [h1, BitVec.allOnes_xor, BitVec.toNat_not, ofInt_u64 c h]
  simp [IntKind.wrap, IntKind.bits, IntKind.signed]
  omega

set_option maxHeartbeats 1000000 in
theorem cleanC (b : Nat) (w : World) : Calls Try.prog 17 #[.float .f64 b] w fun e w' => e = .returned (.float .f64 (cln b)) ∧ w = w' := by
  cases h : isNb b
  · rw [cln_no h]
    go_enter Try.func17, Try.ntmps17
    go_wp2
    go_ret
    exact ⟨rfl, rfl⟩
  · rw [cln_of h]
    go_enter Try.func17, Try.ntmps17
    go_wp2
    go_ret
    exact ⟨rfl, rfl⟩

set_option maxHeartbeats 1000000 in
theorem keyC (b : Nat) (hb : b < 18446744073709551616) (w : World) : Calls Try.prog 10 #[.float .f64 b] w fun e w' => e = .returned (.int .u64 (keyB b : Nat)) ∧ w = w' := by
  have hlt := cln_lt hb
  have hk : keyB b = turnK (cln b) := by unfold keyB; rfl
  rw [hk]
  generalize hc : cln b = c at hlt
  have HC := Lib.hid hc
  clear hc hk
  by_cases h : c < 9223372036854775808
  · have e1 : turnK c = c + 9223372036854775808 := if_pos h
    have e2 := and_low c h
    have e3 := or_low c h
    rw [e1]
    clear e1
    generalize c + 9223372036854775808 = z at e3 ⊢
    go_enter Try.func10, Try.ntmps10
    go_wp2_with fail
    refine (cleanC b _).mono ?_
    rintro e w1 ⟨rfl, rfl⟩
    rw [HC.out]
    go_wp2
    go_ret
    exact ⟨rfl, rfl⟩
  · have e1 : turnK c = 18446744073709551615 - c := if_neg h
    have e2 := and_high c (by omega) hlt
    have e3 := not_u64 c hlt
    rw [e1]
    clear e1
    generalize 18446744073709551615 - c = z at e3 ⊢
    go_enter Try.func10, Try.ntmps10
    go_wp2_with fail
    refine (cleanC b _).mono ?_
    rintro e w1 ⟨rfl, rfl⟩
    rw [HC.out]
    go_wp2
    go_ret
    exact ⟨rfl, rfl⟩

set_option maxHeartbeats 1000000 in
theorem ofC (k : Nat) (hk : k < 18446744073709551616) (w : World) : Calls Try.prog 13 #[.int .u64 (k : Int)] w fun e w' => e = .returned (.float .f64 (ofB k)) ∧ w = w' := by
  by_cases h : k < 9223372036854775808
  · have e1 : ofB k = cln (18446744073709551615 - k) := by unfold ofB; rw [if_pos h]
    have e2 := and_low k h
    have e3 := not_u64 k hk
    rw [e1]
    clear e1
    generalize 18446744073709551615 - k = z at e3 ⊢
    go_enter Try.func13, Try.ntmps13
    go_wp2_with fail
    refine (cleanC z _).mono ?_
    rintro e w1 ⟨rfl, rfl⟩
    go_wp2
    go_ret
    exact ⟨rfl, rfl⟩
  · have e1 : ofB k = cln (k - 9223372036854775808) := by unfold ofB; rw [if_neg h]
    have e2 := and_high k (by omega) hk
    have e3 := andNot_high k (by omega) hk
    rw [e1]
    clear e1
    generalize k - 9223372036854775808 = z at e3 ⊢
    go_enter Try.func13, Try.ntmps13
    go_wp2_with fail
    refine (cleanC z _).mono ?_
    rintro e w1 ⟨rfl, rfl⟩
    go_wp2
    go_ret
    exact ⟨rfl, rfl⟩

set_option maxHeartbeats 1000000 in
theorem lessC (a b : Nat) (ha : a < 18446744073709551616) (hb : b < 18446744073709551616) (w : World) : Calls Try.prog 20 #[.float .f64 a, .float .f64 b] w fun e w' => e = .returned (.bool (decide (keyB a < keyB b))) ∧ w = w' := by
  have ka := fun W => keyC a ha W
  have kb := fun W => keyC b hb W
  generalize keyB a = x at ka ⊢
  generalize keyB b = y at kb ⊢
  go_enter Try.func20, Try.ntmps20
  go_wp2_with fail
  refine (ka _).mono ?_
  rintro e w1 ⟨rfl, rfl⟩
  go_wp2_with fail
  refine (kb _).mono ?_
  rintro e w1 ⟨rfl, rfl⟩
  go_wp2
  go_ret
  exact ⟨by simp, rfl⟩

def cmpI (x y : Int) : Int := if x < y then -1 else if y < x then 1 else 0
def cmpK (a b : Nat) : Int := cmpI (keyB a : Nat) (keyB b : Nat)

theorem cmpC (x y : Nat) (w : World) : Calls Try.prog 29 #[.int .u64 (x : Int), .int .u64 (y : Int)] w fun e w' => e = .returned (.int .i64 (cmpI (x : Int) (y : Int))) ∧ w = w' := by
  have hn : ∀ (z : Nat) (W : World), Calls Try.prog 33 #[.int .u64 (z : Int)] W fun e w' => e = .returned (.bool false) ∧ W = w' := by
    intro z W
    go_enter Try.func33, Try.ntmps33
    go_wp2
    go_ret
    exact ⟨by simp, rfl⟩
  unfold cmpI
  by_cases h1 : (x : Int) < y
  · rw [if_pos h1]
    go_enter Try.func29, Try.ntmps29
    go_wp2_with (refine (hn _ _).mono ?_; rintro e w1 ⟨rfl, rfl⟩)
    go_ret
    exact ⟨rfl, rfl⟩
  · rw [if_neg h1]
    by_cases h2 : (y : Int) < x
    · rw [if_pos h2]
      go_enter Try.func29, Try.ntmps29
      go_wp2_with (refine (hn _ _).mono ?_; rintro e w1 ⟨rfl, rfl⟩)
      go_ret
      exact ⟨rfl, rfl⟩
    · rw [if_neg h2]
      go_enter Try.func29, Try.ntmps29
      go_wp2_with (refine (hn _ _).mono ?_; rintro e w1 ⟨rfl, rfl⟩)
      go_ret
      exact ⟨rfl, rfl⟩

set_option maxHeartbeats 1000000 in
theorem cmpSort (a b : Nat) (ha : a < 18446744073709551616) (hb : b < 18446744073709551616) (w : World) : Calls Try.prog 28 #[.float .f64 a, .float .f64 b] w fun e w' => e = .returned (.int .i64 (cmpK a b)) ∧ w = w' := by
  have ka := fun W => keyC a ha W
  have kb := fun W => keyC b hb W
  unfold cmpK
  generalize keyB a = x at ka ⊢
  generalize keyB b = y at kb ⊢
  have kc := fun W => cmpC x y W
  generalize cmpI (x : Int) (y : Int) = r at kc ⊢
  go_enter Try.func28, Try.ntmps28
  go_wp2_with fail
  refine (ka _).mono ?_
  rintro e w1 ⟨rfl, rfl⟩
  go_wp2_with fail
  refine (kb _).mono ?_
  rintro e w1 ⟨rfl, rfl⟩
  go_wp2_with fail
  refine (kc _).mono ?_
  rintro e w1 ⟨rfl, rfl⟩
  go_wp2
  go_ret
  exact ⟨rfl, rfl⟩
end Go.Proofs.Ytgdgapklkodnjaa
