/-
  A number's eight bytes, and the number of eight bytes, as plain functions.
-/
import Derived.Test.YtgdgapklkodnjaaFloatPlain
import Derived.Test.YtgdgapklkodnjaaBase
namespace Go.Proofs.Ytgdgapklkodnjaa
open Go.RowKit

/-- the last k bytes of x, the highest first -/
def beL (x : Nat) : Nat → List UInt8
  | 0 => []
  | k + 1 => UInt8.ofNat (x / 2 ^ (8 * k)) :: beL x k
theorem beL_zero (x : Nat) : beL x 0 = [] := rfl
theorem beL_succ (x k : Nat) : beL x (k + 1) = UInt8.ofNat (x / 2 ^ (8 * k)) :: beL x k := rfl
theorem beL_len (x k : Nat) : (beL x k).length = k := by
  induction k with
  | zero => rfl
  | succ k ih => simp [beL, ih]
/-- the number of bytes, the highest first -/
def nrL (l : List UInt8) : Nat := l.foldl (fun n c => n * 256 + c.toNat) 0
theorem nrL_nil : nrL [] = 0 := rfl
theorem nrL_snoc (l : List UInt8) (c : UInt8) : nrL (l ++ [c]) = nrL l * 256 + c.toNat := by simp [nrL]
theorem nrL_lt : ∀ (k : Nat) (l : List UInt8), l.length = k → nrL l < 256 ^ k
  | 0, l, h => by
    obtain rfl : l = [] := List.length_eq_zero_iff.1 h
    decide
  | k + 1, l, h => by
    have hne : l ≠ [] := by intro e; subst e; simp at h
    have e := List.dropLast_concat_getLast hne
    have ih := nrL_lt k l.dropLast (by simp [h])
    rw [← e, nrL_snoc]
    have := (l.getLast hne).toNat_lt
    rw [Nat.pow_succ]
    omega
theorem ofNat_mod256 (x : Nat) : UInt8.ofNat (x % 256) = UInt8.ofNat x := by
  apply UInt8.toNat_inj.1; simp

/-- bytes ahead of a number's own -/
def nrA (n : Nat) (l : List UInt8) : Nat := l.foldl (fun n c => n * 256 + c.toNat) n
theorem nrL_nrA (l : List UInt8) : nrL l = nrA 0 l := rfl
theorem nrA_beL (x : Nat) : ∀ (k n : Nat), nrA n (beL x k) = n * 2 ^ (8 * k) + x % 2 ^ (8 * k)
  | 0, n => by simp [nrA, beL, Nat.mod_one]
  | k + 1, n => by
    have ih := nrA_beL x k (n * 256 + (UInt8.ofNat (x / 2 ^ (8 * k))).toNat)
    have e : nrA n (beL x (k + 1)) = nrA (n * 256 + (UInt8.ofNat (x / 2 ^ (8 * k))).toNat) (beL x k) := rfl
    rw [e, ih]
    have e2 : (UInt8.ofNat (x / 2 ^ (8 * k))).toNat = x / 2 ^ (8 * k) % 256 := by simp
    have e3 : 2 ^ (8 * (k + 1)) = 2 ^ (8 * k) * 256 := by rw [Nat.mul_add, Nat.pow_add]
    rw [e2, e3, Nat.mod_mul, Nat.add_mul, ← Nat.mul_assoc n, Nat.mul_right_comm n 256]
    have : (x / 2 ^ (8 * k) % 256) * 2 ^ (8 * k) = 2 ^ (8 * k) * (x / 2 ^ (8 * k) % 256) := Nat.mul_comm _ _
    omega
theorem nrL_beL {x : Nat} (h : x < 18446744073709551616) : nrL (beL x 8) = x := by
  rw [nrL_nrA, nrA_beL]
  rw [show 2 ^ (8 * 8) = 18446744073709551616 by decide, Nat.mod_eq_of_lt h, Nat.zero_mul, Nat.zero_add]
/-- eight bytes are those of their number -/
theorem beL_snoc (x : Nat) (c : UInt8) : ∀ k, beL (x * 256 + c.toNat) (k + 1) = beL x k ++ [c]
  | 0 => by
    have : UInt8.ofNat (x * 256 + c.toNat) = c := by
      apply UInt8.toNat_inj.1; simp
    simp [beL, this]
  | k + 1 => by
    rw [beL_succ (x * 256 + c.toNat) (k + 1), beL_snoc x c k, beL_succ x k]
    have e : (x * 256 + c.toNat) / 2 ^ (8 * (k + 1)) = x / 2 ^ (8 * k) := by
      have h := c.toNat_lt
      rw [show 2 ^ (8 * (k + 1)) = 256 * 2 ^ (8 * k) by rw [Nat.mul_add, Nat.pow_add, Nat.mul_comm], ← Nat.div_div_eq_div_mul]
      congr 1
      omega
    rw [e]; rfl
theorem beL_nrL : ∀ (k : Nat) (l : List UInt8), l.length = k → beL (nrL l) k = l
  | 0, l, h => by
    obtain rfl : l = [] := List.length_eq_zero_iff.1 h
    rfl
  | k + 1, l, h => by
    have hne : l ≠ [] := by intro e; subst e; simp at h
    have e := List.dropLast_concat_getLast hne
    have ih := beL_nrL k l.dropLast (by simp [h])
    rw [← e, nrL_snoc, beL_snoc, ih]

/-- what Put puts -/
def putF (b : Nat) : List UInt8 := beL (cln b) 8
def putS (b : Nat) : ByteArray := ⟨(putF b).toArray⟩
/-- what Read answers: the number's bits, the error's number -/
def rdB (l : List UInt8) : Nat := if l.length = 8 ∧ cln (nrL l) = nrL l then nrL l else 0
def rdN (l : List UInt8) : Int := if l.length < 8 then 4 else if l.length = 8 ∧ cln (nrL l) = nrL l then 0 else 5
theorem rd_short {l : List UInt8} (h : l.length < 8) : rdB l = 0 ∧ rdN l = 4 := by
  unfold rdB rdN; rw [if_neg (by omega), if_pos h]; exact ⟨rfl, rfl⟩
theorem rd_long {l : List UInt8} (h : 8 < l.length) : rdB l = 0 ∧ rdN l = 5 := by
  unfold rdB rdN; rw [if_neg (by omega), if_neg (by omega), if_neg (by omega)]; exact ⟨rfl, rfl⟩
theorem rd_bad {l : List UInt8} (h : l.length = 8) (h2 : cln (nrL l) ≠ nrL l) : rdB l = 0 ∧ rdN l = 5 := by
  unfold rdB rdN; rw [if_neg (by simp [h2]), if_neg (by omega), if_neg (by simp [h2])]; exact ⟨rfl, rfl⟩
theorem rd_good {l : List UInt8} (h : l.length = 8) (h2 : cln (nrL l) = nrL l) : rdB l = nrL l ∧ rdN l = 0 := by
  unfold rdB rdN; rw [if_pos ⟨h, h2⟩, if_neg (by omega), if_pos ⟨h, h2⟩]; exact ⟨rfl, rfl⟩
theorem nrL8_lt {l : List UInt8} (h : l.length = 8) : nrL l < 18446744073709551616 := by
  have := nrL_lt 8 l h
  rwa [show 256 ^ 8 = 18446744073709551616 by decide] at this
theorem rdB_lt (l : List UInt8) : rdB l < 18446744073709551616 := by
  unfold rdB
  split
  · rename_i h; exact nrL8_lt h.1
  · omega
theorem putS_data (b : Nat) : (putS b).data.toList = putF b := rfl
theorem putF_len (b : Nat) : (putF b).length = 8 := beL_len _ _
theorem putS_size (b : Nat) : (putS b).size = 8 := by
  show (putF b).toArray.size = 8
  simp [putF_len]
/-- a number comes back from its bytes, clean -/
theorem rd_put {b : Nat} (h : b < 18446744073709551616) : rdB (putF b) = cln b ∧ rdN (putF b) = 0 := by
  have e : nrL (putF b) = cln b := nrL_beL (cln_lt h)
  have := rd_good (putF_len b) (by rw [e, cln_cln])
  rwa [e] at this
/-- bytes come back from their number -/
theorem put_rd {l : List UInt8} (h : rdN l = 0) : putF (rdB l) = l := by
  by_cases h1 : l.length < 8
  · rw [(rd_short h1).2] at h; cases h
  · by_cases h2 : 8 < l.length
    · rw [(rd_long h2).2] at h; cases h
    · have h3 : l.length = 8 := by omega
      by_cases h4 : cln (nrL l) = nrL l
      · rw [(rd_good h3 h4).1]
        unfold putF
        rw [h4, beL_nrL 8 l h3]
      · rw [(rd_bad h3 h4).2] at h; cases h

/-- the row, its first k bytes laid -/
def putRowF (x k : Nat) : List UInt8 := (List.range 8).map fun i => if i < k then UInt8.ofNat (x / 2 ^ (8 * (7 - i))) else 0
theorem putRowF_len (x k : Nat) : (putRowF x k).length = 8 := by simp [putRowF]
theorem putRowF_zero (x : Nat) : putRowF x 0 = List.replicate 8 0 := by
  simp [putRowF, List.range, List.range.loop]
theorem putRowF_all (x : Nat) : putRowF x 8 = beL x 8 := by
  simp [putRowF, List.range, List.range.loop, beL]
theorem putRowF_set (x k : Nat) (_h : k < 8) : (putRowF x k).set k (UInt8.ofNat (x / 2 ^ (8 * (7 - k)))) = putRowF x (k + 1) := by
  apply List.ext_getElem (by simp [putRowF])
  intro i h1 h2
  rw [List.getElem_set]
  split
  · rename_i h; subst h; simp [putRowF]
  · rename_i h
    have : i < k ↔ i < k + 1 := by omega
    simp only [putRowF, List.getElem_map, List.getElem_range]
    simp [this]
attribute [irreducible] beL nrL putF rdB rdN putRowF
end Go.Proofs.Ytgdgapklkodnjaa
