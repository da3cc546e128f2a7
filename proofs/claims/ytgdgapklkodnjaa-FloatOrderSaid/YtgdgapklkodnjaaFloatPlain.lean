/-
  Floats' bits as plain numbers: the one NaN, keys, and that the keys rise as the numbers do.
-/
import Derived.Test.YtgdgapklkodnjaaRows
import Derived.KernelRfl
namespace Go.Proofs.Ytgdgapklkodnjaa

def isNb (b : Nat) : Bool := decide (9218868437227405312 < b % 9223372036854775808)
def cln (b : Nat) : Nat := if isNb b then 9221120237041090561 else b
def turnK (c : Nat) : Nat := if c < 9223372036854775808 then c + 9223372036854775808 else 18446744073709551615 - c
def keyB (b : Nat) : Nat := turnK (cln b)
def ofB (k : Nat) : Nat := cln (if k < 9223372036854775808 then 18446744073709551615 - k else k - 9223372036854775808)

theorem cln_of {b : Nat} (h : isNb b = true) : cln b = 9221120237041090561 := by simp [cln, h]
theorem cln_no {b : Nat} (h : isNb b = false) : cln b = b := by simp [cln, h]
theorem isNb_nan : isNb 9221120237041090561 = true := by decide
theorem cln_cln (b : Nat) : cln (cln b) = cln b := by
  cases h : isNb b
  · rw [cln_no h, cln_no h]
  · rw [cln_of h]; rfl
theorem cln_lt {b : Nat} (h : b < 18446744073709551616) : cln b < 18446744073709551616 := by
  cases hn : isNb b
  · rw [cln_no hn]; exact h
  · rw [cln_of hn]; omega
theorem keyB_cln (b : Nat) : keyB (cln b) = keyB b := by unfold keyB; rw [cln_cln]
theorem turnK_lt (c : Nat) (h : c < 18446744073709551616) : turnK c < 18446744073709551616 := by unfold turnK; split <;> omega
theorem keyB_lt {b : Nat} (h : b < 18446744073709551616) : keyB b < 18446744073709551616 := turnK_lt _ (cln_lt h)
theorem turnK_inj {a b : Nat} (ha : a < 18446744073709551616) (hb : b < 18446744073709551616) (h : turnK a = turnK b) : a = b := by
  unfold turnK at h
  split at h <;> split at h <;> omega
theorem keyB_inj {a b : Nat} (ha : a < 18446744073709551616) (hb : b < 18446744073709551616) (h : keyB a = keyB b) : cln a = cln b := turnK_inj (cln_lt ha) (cln_lt hb) h
theorem ofB_keyB {b : Nat} (h : b < 18446744073709551616) : ofB (keyB b) = cln b := by
  have h1 := cln_lt h
  unfold ofB keyB turnK
  by_cases h2 : cln b < 9223372036854775808
  · rw [if_pos h2, if_neg (by omega), Nat.add_sub_cancel, cln_cln]
  · rw [if_neg h2, if_pos (by omega), show 18446744073709551615 - (18446744073709551615 - cln b) = cln b by omega, cln_cln]
theorem ofB_lt {k : Nat} (h : k < 18446744073709551616) : ofB k < 18446744073709551616 := by
  unfold ofB; apply cln_lt; split <;> omega
theorem cln_ofB (k : Nat) : cln (ofB k) = ofB k := by unfold ofB; rw [cln_cln]
/-- Beside the one NaN a number that is clean lies at infinity or below, whatever its sign. -/
theorem cln_low (b : Nat) : cln b = 9221120237041090561 ∨ cln b % 9223372036854775808 ≤ 9218868437227405312 := by
  cases h : isNb b
  · right; rw [cln_no h]; simpa [isNb] using h
  · left; exact cln_of h
theorem key_nan {a b : Nat} (hb : b < 18446744073709551616) (h : isNb a = true) : ¬ keyB a < keyB b := by
  have h1 := cln_lt hb
  have h2 := cln_low b
  unfold keyB turnK
  rw [cln_of h]
  split <;> split <;> omega

/-! how two numbers stand -/
/-- what a rung stands for, in the least units -/
def rungV (r : Nat) : Nat := if r < 4503599627370496 then r else (4503599627370496 + r % 4503599627370496) * 2 ^ (r / 4503599627370496 - 1)

theorem rungV_le {a b : Nat} (h : a ≤ b) : rungV a ≤ rungV b := by
  unfold rungV
  by_cases ha : a < 4503599627370496
  · rw [if_pos ha]
    by_cases hb : b < 4503599627370496
    · rw [if_pos hb]; exact h
    · rw [if_neg hb]
      have h1 : 1 ≤ 2 ^ (b / 4503599627370496 - 1) := Nat.one_le_two_pow
      have h2 : (4503599627370496 + b % 4503599627370496) * 1 ≤ (4503599627370496 + b % 4503599627370496) * 2 ^ (b / 4503599627370496 - 1) := Nat.mul_le_mul_left _ h1
      omega
  · rw [if_neg ha, if_neg (by omega)]
    obtain ⟨ea, hea⟩ : ∃ e, a / 4503599627370496 = e + 1 := ⟨a / 4503599627370496 - 1, by omega⟩
    obtain ⟨eb, heb⟩ : ∃ e, b / 4503599627370496 = e + 1 := ⟨b / 4503599627370496 - 1, by omega⟩
    rw [hea, heb, Nat.add_sub_cancel, Nat.add_sub_cancel]
    by_cases he : ea = eb
    · subst he
      exact Nat.mul_le_mul_right _ (by omega)
    · have hlt : ea + 1 ≤ eb := by omega
      have h1 : (4503599627370496 + a % 4503599627370496) * 2 ^ ea ≤ (4503599627370496 * 2) * 2 ^ ea := Nat.mul_le_mul_right _ (by omega)
      have h2 : (4503599627370496 * 2) * 2 ^ ea = 4503599627370496 * 2 ^ (ea + 1) := by rw [Nat.pow_succ, Nat.mul_assoc, Nat.mul_comm 2]
      have h3 : 4503599627370496 * 2 ^ (ea + 1) ≤ 4503599627370496 * 2 ^ eb := Nat.mul_le_mul_left _ (Nat.pow_le_pow_right (by omega) hlt)
      have h4 : 4503599627370496 * 2 ^ eb ≤ (4503599627370496 + b % 4503599627370496) * 2 ^ eb := Nat.mul_le_mul_right _ (by omega)
      omega

def sgn (b : Nat) : Bool := b / 9223372036854775808 % 2 == 1

theorem read_cases (b : Nat) :
    (b % 9223372036854775808 < 9218868437227405312 ∧ ∃ (m e : Nat), Ieee.double.read b = .number (sgn b) m (-1074 + (e : Int)) ∧ m * 2 ^ e = rungV (b % 9223372036854775808)) ∨
    (b % 9223372036854775808 = 9218868437227405312 ∧ Ieee.double.read b = .infinity (sgn b)) ∨
    (isNb b = true ∧ ∃ s f, Ieee.double.read b = .nan s f) := by
  have h1 : Ieee.double.signWeight = 9223372036854775808 := by decide
  have h2 : Ieee.double.binade = 4503599627370496 := by decide
  have h3 : Ieee.double.infRung = 9218868437227405312 := by decide
  have h4 : Ieee.double.leastPlace = -1074 := by decide
  unfold Ieee.Format.read
  simp only [h1, h2, h3, h4]
  change (b % 9223372036854775808 < 9218868437227405312 ∧ _) ∨ _
  by_cases c1 : b % 9223372036854775808 < 4503599627370496
  · left
    refine ⟨by omega, b % 9223372036854775808, 0, ?_, ?_⟩
    · rw [if_pos c1]; rfl
    · unfold rungV; rw [if_pos c1]; simp
  · by_cases c2 : b % 9223372036854775808 < 9218868437227405312
    · left
      refine ⟨c2, 4503599627370496 + b % 9223372036854775808 % 4503599627370496, b % 9223372036854775808 / 4503599627370496 - 1, ?_, ?_⟩
      · rw [if_neg c1, if_pos c2]; rfl
      · unfold rungV; rw [if_neg c1]
    · by_cases c3 : b % 9223372036854775808 = 9218868437227405312
      · right; left
        refine ⟨c3, ?_⟩
        rw [if_neg c1, if_neg c2, if_pos c3]; rfl
      · right; right
        refine ⟨by unfold isNb; simp; omega, sgn b, b % 9223372036854775808 - 9218868437227405312, ?_⟩
        rw [if_neg c1, if_neg c2, if_neg c3]; rfl

theorem compare_self (x : Int) : compare x x = Ordering.eq := by simp [compare, compareOfLessAndEq]
theorem compareN_self (x : Nat) : compare x x = Ordering.eq := by simp [compare, compareOfLessAndEq]

theorem ord_self (b : Nat) : ((Ieee.double.order b b) == some Ordering.eq) = !isNb b := by
  unfold Ieee.Format.order
  rcases read_cases b with ⟨hb, m, e, hr, _⟩ | ⟨hb, hr⟩ | ⟨hb, s, f, hr⟩
  · rw [hr]
    have : isNb b = false := by unfold isNb; simp; omega
    rw [this]
    simp only [Ieee.Datum.order, compare_self]; rfl
  · rw [hr]
    have : isNb b = false := by unfold isNb; simp; omega
    rw [this]
    simp only [Ieee.Datum.order, compareN_self]; rfl
  · rw [hr, hb]; rfl

theorem signed_scale (s : Bool) (m e k : Nat) (h : k ≤ e) : Ieee.signed s m (-1074 + (e : Int) - (-1074 + (k : Int))).toNat * ((2 ^ k : Nat) : Int) = if s then -((m * 2 ^ e : Nat) : Int) else ((m * 2 ^ e : Nat) : Int) := by
  have h1 : (-1074 + (e : Int) - (-1074 + (k : Int))).toNat = e - k := by omega
  have h2 : (m <<< (e - k)) * 2 ^ k = m * 2 ^ e := by
    rw [Nat.shiftLeft_eq, Nat.mul_assoc, ← Nat.pow_add, Nat.sub_add_cancel h]
  rw [h1]
  unfold Ieee.signed
  cases s
  · simp only [Bool.false_eq_true, if_false]
    rw [← Int.natCast_mul, h2]
  · simp only [if_true]
    rw [Int.neg_mul, ← Int.natCast_mul, h2]

theorem lt_of_compare {x y : Int} (h : compare x y = Ordering.lt) : x < y := by
  by_cases c : x < y
  · exact c
  · exfalso
    simp only [compare, compareOfLessAndEq, if_neg c] at h
    split at h <;> cases h
theorem ltN_of_compare {x y : Nat} (h : compare x y = Ordering.lt) : x < y := by
  by_cases c : x < y
  · exact c
  · exfalso
    simp only [compare, compareOfLessAndEq, if_neg c] at h
    split at h <;> cases h

theorem sgn_of {b : Nat} (h : b < 18446744073709551616) : (sgn b = false ∧ b < 9223372036854775808) ∨ (sgn b = true ∧ 9223372036854775808 ≤ b) := by
  unfold sgn
  by_cases c : b < 9223372036854775808
  · left; exact ⟨by simp; omega, c⟩
  · right; exact ⟨by simp; omega, by omega⟩

/-- numbers that are told apart stand as their keys do -/
theorem ord_lt {a b : Nat} (ha : a < 18446744073709551616) (hb : b < 18446744073709551616) (h : ((Ieee.double.order a b) == some Ordering.lt) = true) : keyB a < keyB b := by
  unfold Ieee.Format.order at h
  rcases read_cases a with ⟨na, m, i, ra, va⟩ | ⟨na, ra⟩ | ⟨na, s, f, ra⟩
  · have ca : cln a = a := cln_no (by unfold isNb; simp; omega)
    rcases read_cases b with ⟨nb, n, j, rb, vb⟩ | ⟨nb, rb⟩ | ⟨nb, t, g, rb⟩
    · have cb : cln b = b := cln_no (by unfold isNb; simp; omega)
      rw [ra, rb] at h
      simp only [Ieee.Datum.order, beq_iff_eq, Option.some.injEq] at h
      have h := lt_of_compare h
      obtain ⟨k, hk, hki, hkj⟩ : ∃ k : Nat, min (-1074 + (i : Int)) (-1074 + (j : Int)) = -1074 + (k : Int) ∧ k ≤ i ∧ k ≤ j := ⟨min i j, by omega, by omega, by omega⟩
      rw [hk] at h
      have hp : (0 : Int) < ((2 ^ k : Nat) : Int) := by have := Nat.two_pow_pos k; omega
      have h2 := Int.mul_lt_mul_of_pos_right h hp
      rw [signed_scale _ _ _ _ hki, signed_scale _ _ _ _ hkj, va, vb] at h2
      have mono1 := @rungV_le (a % 9223372036854775808) (b % 9223372036854775808)
      have mono2 := @rungV_le (b % 9223372036854775808) (a % 9223372036854775808)
      unfold keyB turnK
      rw [ca, cb]
      rcases sgn_of ha with ⟨sa, la⟩ | ⟨sa, la⟩ <;> rcases sgn_of hb with ⟨sb, lb⟩ | ⟨sb, lb⟩ <;> rw [sa, sb] at h2 <;> simp only [Bool.false_eq_true, if_false, if_true] at h2
      · rw [if_pos la, if_pos lb]
        have : ¬ b % 9223372036854775808 ≤ a % 9223372036854775808 := fun hh => by have := mono2 hh; omega
        omega
      · exfalso; omega
      · rw [if_neg (by omega), if_pos lb]; omega
      · rw [if_neg (by omega), if_neg (by omega)]
        have : ¬ a % 9223372036854775808 ≤ b % 9223372036854775808 := fun hh => by have := mono1 hh; omega
        omega
    · have cb : cln b = b := cln_no (by unfold isNb; simp; omega)
      rw [ra, rb] at h
      unfold keyB turnK
      rw [ca, cb]
      rcases sgn_of hb with ⟨sb, lb⟩ | ⟨sb, lb⟩ <;> rw [sb] at h <;> simp [Ieee.Datum.order] at h
      rcases sgn_of ha with ⟨sa, la⟩ | ⟨sa, la⟩
      · rw [if_pos la, if_pos lb]; omega
      · rw [if_neg (by omega), if_pos lb]; omega
    · rw [ra, rb] at h; simp [Ieee.Datum.order] at h
  · have ca : cln a = a := cln_no (by unfold isNb; simp; omega)
    rcases read_cases b with ⟨nb, n, j, rb, vb⟩ | ⟨nb, rb⟩ | ⟨nb, t, g, rb⟩
    · have cb : cln b = b := cln_no (by unfold isNb; simp; omega)
      rw [ra, rb] at h
      unfold keyB turnK
      rw [ca, cb]
      rcases sgn_of ha with ⟨sa, la⟩ | ⟨sa, la⟩ <;> rw [sa] at h <;> simp [Ieee.Datum.order] at h
      rcases sgn_of hb with ⟨sb, lb⟩ | ⟨sb, lb⟩
      · rw [if_neg (by omega), if_pos lb]; omega
      · rw [if_neg (by omega), if_neg (by omega)]; omega
    · have cb : cln b = b := cln_no (by unfold isNb; simp; omega)
      rw [ra, rb] at h
      unfold keyB turnK
      rw [ca, cb]
      simp only [Ieee.Datum.order, beq_iff_eq, Option.some.injEq] at h
      have h := ltN_of_compare h
      rcases sgn_of ha with ⟨sa, la⟩ | ⟨sa, la⟩ <;> rcases sgn_of hb with ⟨sb, lb⟩ | ⟨sb, lb⟩ <;> rw [sa, sb] at h <;> simp at h
      rw [if_neg (by omega), if_pos lb]; omega
    · rw [ra, rb] at h; simp [Ieee.Datum.order] at h
  · rw [ra] at h; simp [Ieee.Datum.order] at h

attribute [irreducible] isNb cln keyB ofB
end Go.Proofs.Ytgdgapklkodnjaa
