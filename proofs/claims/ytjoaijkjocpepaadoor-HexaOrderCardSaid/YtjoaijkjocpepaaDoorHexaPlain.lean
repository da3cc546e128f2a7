/-
  Digits: bytes as two digits each, and back; all as plain functions.
-/
import Derived.Test.YtjoaijkjocpepaaDoorBase
namespace Go.Proofs.YtjoaijkjocpepaaDoor
open Go.RowKit

def dg (n : Nat) : Nat := if n < 10 then 48 + n else 87 + n
def hv (c : Nat) : Nat := if 48 ≤ c ∧ c ≤ 57 then c - 48 else if 97 ≤ c ∧ c ≤ 102 then c - 87 else 16

theorem hv_cases (c : Nat) : (48 ≤ c ∧ c ≤ 57 ∧ hv c = c - 48) ∨ (97 ≤ c ∧ c ≤ 102 ∧ hv c = c - 87) ∨ (hv c = 16 ∧ ¬ (48 ≤ c ∧ c ≤ 57) ∧ ¬ (97 ≤ c ∧ c ≤ 102)) := by
  by_cases h1 : 48 ≤ c ∧ c ≤ 57
  · left; exact ⟨h1.1, h1.2, by unfold hv; rw [if_pos h1]⟩
  · by_cases h2 : 97 ≤ c ∧ c ≤ 102
    · right; left; exact ⟨h2.1, h2.2, by unfold hv; rw [if_neg h1, if_pos h2]⟩
    · right; right; exact ⟨by unfold hv; rw [if_neg h1, if_neg h2], h1, h2⟩
theorem dg_cases (n : Nat) : (n < 10 ∧ dg n = 48 + n) ∨ (10 ≤ n ∧ dg n = 87 + n) := by
  by_cases h : n < 10
  · left; exact ⟨h, by unfold dg; rw [if_pos h]⟩
  · right; exact ⟨by omega, by unfold dg; rw [if_neg h]⟩
theorem dg_lt (n : Nat) (h : n < 16) : dg n < 128 := by have := dg_cases n; omega
theorem hv_dg (n : Nat) (h : n < 16) : hv (dg n) = n := by have h1 := dg_cases n; have h2 := hv_cases (dg n); omega
theorem hv_le (c : Nat) : hv c ≤ 16 := by have := hv_cases c; omega
theorem dg_hv (c : Nat) (h : hv c < 16) : dg (hv c) = c := by have h1 := dg_cases (hv c); have h2 := hv_cases c; omega
theorem hv_small (c : Nat) (h : hv c < 16) : c < 128 := by have := hv_cases c; omega
theorem dg_mono (a b : Nat) (h : a < b) : dg a < dg b := by have := dg_cases a; have := dg_cases b; omega

def putL : List UInt8 → List UInt8
  | [] => []
  | c :: r => UInt8.ofNat (dg (c.toNat / 16)) :: UInt8.ofNat (dg (c.toNat % 16)) :: putL r

def readL : List UInt8 → Option (List UInt8)
  | [] => some []
  | [_] => none
  | a :: b :: r => if hv a.toNat < 16 ∧ hv b.toNat < 16 then (readL r).map (UInt8.ofNat (16 * hv a.toNat + hv b.toNat) :: ·) else none

theorem putL_len (l : List UInt8) : (putL l).length = 2 * l.length := by
  induction l with
  | nil => rfl
  | cons c r ih => simp [putL, ih]; omega

theorem putL_append (a b : List UInt8) : putL (a ++ b) = putL a ++ putL b := by
  induction a with
  | nil => rfl
  | cons c r ih => simp [putL, ih]

theorem ofNat_toNat_dg (n : Nat) (h : n < 16) : (UInt8.ofNat (dg n)).toNat = dg n := by
  have := dg_lt n h
  simp; omega

theorem read_put (l : List UInt8) : readL (putL l) = some l := by
  induction l with
  | nil => rfl
  | cons c r ih =>
    have h1 : c.toNat / 16 < 16 := by have := c.toNat_lt; omega
    have h2 : c.toNat % 16 < 16 := by omega
    simp only [putL, readL]
    rw [ofNat_toNat_dg _ h1, ofNat_toNat_dg _ h2, hv_dg _ h1, hv_dg _ h2, if_pos ⟨h1, h2⟩, ih]
    have e : 16 * (c.toNat / 16) + c.toNat % 16 = c.toNat := by omega
    rw [e]; simp

theorem put_read : ∀ (l r : List UInt8), readL l = some r → putL r = l
  | [], r, h => by simp [readL] at h; subst h; rfl
  | [_], r, h => by simp [readL] at h
  | a :: b :: t, r, h => by
    simp only [readL] at h
    split at h
    · rename_i hc
      cases hr : readL t with
      | none => rw [hr] at h; simp at h
      | some q =>
        rw [hr] at h
        obtain rfl := Option.some.inj h
        have hq := put_read t q hr
        simp only [putL]
        have h256 : 16 * hv a.toNat + hv b.toNat < 256 := by omega
        have e : (UInt8.ofNat (16 * hv a.toNat + hv b.toNat)).toNat = 16 * hv a.toNat + hv b.toNat := by simp; omega
        rw [e, hq]
        have e3 : (16 * hv a.toNat + hv b.toNat) / 16 = hv a.toNat := by omega
        have e4 : (16 * hv a.toNat + hv b.toNat) % 16 = hv b.toNat := by omega
        rw [e3, e4, dg_hv _ hc.1, dg_hv _ hc.2]
        simp
    · simp at h

theorem read_len : ∀ (l r : List UInt8), readL l = some r → l.length = 2 * r.length
  | l, r, h => by rw [← put_read l r h, putL_len]

/-- the digits of the first part of a text that is read: all of them are digits, and there are as many as there are bytes -/
theorem read_odd : ∀ (l : List UInt8), l.length % 2 = 1 → readL l = none
  | [], h => by simp at h
  | [_], _ => rfl
  | a :: b :: t, h => by
    have ih := read_odd t (by simp at h; omega)
    simp only [readL, ih]; split <;> rfl

theorem read_append : ∀ (a b : List UInt8), a.length % 2 = 0 → readL (a ++ b) = (readL a).bind fun x => (readL b).map (x ++ ·)
  | [], b, _ => by simp [readL]
  | [_], b, h => by simp at h
  | x :: y :: t, b, h => by
    have ih := read_append t b (by simp at h; omega)
    simp only [List.cons_append, readL, ih]
    split
    · cases readL t <;> simp [Option.bind, Function.comp_def]
    · rfl

/-- a byte that is no digit: none is read -/
theorem read_bad : ∀ (l : List UInt8) (i : Nat) (h : i < l.length), ¬ hv (l[i]).toNat < 16 → readL l = none
  | [], i, h, _ => absurd h (by simp)
  | [_], _, _, _ => rfl
  | a :: b :: t, 0, h, hb => by simp only [readL]; rw [if_neg (fun hh => hb hh.1)]
  | a :: b :: t, 1, h, hb => by simp only [readL]; rw [if_neg (fun hh => hb hh.2)]
  | a :: b :: t, i + 2, h, hb => by
    have ih := read_bad t i (by simpa using h) (by simpa using hb)
    simp only [readL, ih]; split <;> rfl

/-- the order of two rows -/
theorem putL_lt_cons (a b : UInt8) (x y : List UInt8) (ih : putL x < putL y ↔ x < y) : putL (a :: x) < putL (b :: y) ↔ a :: x < b :: y := by
  have ha := a.toNat_lt
  have hb := b.toNat_lt
  have e1 := ofNat_toNat_dg (a.toNat / 16) (by omega)
  have e2 := ofNat_toNat_dg (a.toNat % 16) (by omega)
  have e3 := ofNat_toNat_dg (b.toNat / 16) (by omega)
  have e4 := ofNat_toNat_dg (b.toNat % 16) (by omega)
  simp only [putL, List.cons_lt_cons_iff, UInt8.lt_iff_toNat_lt, ← UInt8.toNat_inj, e1, e2, e3, e4, ih]
  rcases Nat.lt_trichotomy (a.toNat / 16) (b.toNat / 16) with h | h | h
  · have := dg_mono _ _ h
    constructor
    · intro _; left; omega
    · intro _; left; exact this
  · rw [h]
    rcases Nat.lt_trichotomy (a.toNat % 16) (b.toNat % 16) with h2 | h2 | h2
    · have := dg_mono _ _ h2
      constructor
      · intro _; left; omega
      · intro _; right; exact ⟨rfl, .inl this⟩
    · rw [h2]
      have e : a.toNat = b.toNat := by omega
      rw [e]
      simp
    · have := dg_mono _ _ h2
      constructor
      · rintro (h | ⟨_, h | ⟨h, _⟩⟩) <;> omega
      · rintro (h | ⟨h, _⟩) <;> omega
  · have := dg_mono _ _ h
    constructor
    · rintro (h | ⟨h, _⟩) <;> omega
    · rintro (h | ⟨h, _⟩) <;> omega

theorem putL_lt : ∀ (x y : List UInt8), putL x < putL y ↔ x < y
  | [], [] => by simp [putL]
  | [], b :: y => by simp [putL]
  | a :: x, [] => by simp [putL]
  | a :: x, b :: y => putL_lt_cons a b x y (putL_lt x y)

theorem putL_inj (x y : List UInt8) (h : putL x = putL y) : x = y := by
  have h1 := read_put x
  rw [h, read_put] at h1
  simpa using h1.symm
end Go.Proofs.YtjoaijkjocpepaaDoor
