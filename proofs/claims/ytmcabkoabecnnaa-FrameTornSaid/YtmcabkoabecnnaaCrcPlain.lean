/-
  CRC-32C's register as words of 32 bits: plain facts, nothing of the program.
-/
import Derived.Test.YtmcabkoabecnnaaShaPlain
namespace Go.Proofs.Ytmcabkoabecnnaa
open Go.RowKit

def poly : Wd := BitVec.ofNat 32 2197175160
theorem poly_wv : (2197175160 : Int) = wv poly := by decide +kernel
/-- behind one bit -/
def bit1 (x : Wd) : Wd := if x.toNat % 2 = 1 then xr (sr x 1) poly else sr x 1
/-- behind k bits -/
def bitN (x : Wd) : Nat → Wd
  | 0 => x
  | k + 1 => bit1 (bitN x k)
theorem bitN_zero (x : Wd) : bitN x 0 = x := rfl
theorem bitN_succ (x : Wd) (k : Nat) : bitN x (k + 1) = bit1 (bitN x k) := rfl
/-- behind a byte -/
def byte1 (x : Wd) (c : UInt8) : Wd := bitN (xr x (bw c)) 8
def crcL (x : Wd) (l : List UInt8) : Wd := l.foldl byte1 x
def crcS (x : Wd) (l : List UInt8) : Wd := nt (crcL (nt x) l)
theorem crcL_nil (x : Wd) : crcL x [] = x := rfl
theorem crcL_append (x : Wd) (a b : List UInt8) : crcL x (a ++ b) = crcL (crcL x a) b := List.foldl_append
theorem crcL_snoc (x : Wd) (a : List UInt8) (c : UInt8) : crcL x (a ++ [c]) = byte1 (crcL x a) c := crcL_append x a [c]
theorem nt_nt (x : Wd) : nt (nt x) = x := BitVec.not_not
theorem crcS_append (x : Wd) (a b : List UInt8) : crcS (crcS x a) b = crcS x (a ++ b) := by
  unfold crcS; rw [nt_nt, crcL_append]

theorem sr_top (x : Wd) : (sr x 1).getLsbD 31 = false := by
  unfold sr; simp
theorem poly_top : poly.getLsbD 31 = true := by decide +kernel
theorem bit1_top (x : Wd) : (bit1 x).getLsbD 31 = decide (x.toNat % 2 = 1) := by
  unfold bit1
  by_cases h : x.toNat % 2 = 1
  · rw [if_pos h]; unfold xr; rw [BitVec.getLsbD_xor, sr_top, poly_top]; simp [h]
  · rw [if_neg h, sr_top]; simp [h]
theorem sr_inj {x y : Wd} (h : sr x 1 = sr y 1) (h2 : x.toNat % 2 = y.toNat % 2) : x = y := by
  apply BitVec.eq_of_toNat_eq
  have h1 := congrArg BitVec.toNat h
  unfold sr at h1
  rw [BitVec.toNat_ushiftRight, BitVec.toNat_ushiftRight, Nat.shiftRight_eq_div_pow, Nat.shiftRight_eq_div_pow] at h1
  omega
theorem xr_inj_left {x y p : Wd} (h : xr x p = xr y p) : x = y := by
  have h1 : xr (xr x p) p = xr (xr y p) p := by rw [h]
  unfold xr at h1
  rwa [BitVec.xor_assoc, BitVec.xor_assoc, BitVec.xor_self, BitVec.xor_zero, BitVec.xor_zero] at h1
theorem xr_comm (a b : Wd) : xr a b = xr b a := BitVec.xor_comm a b
theorem xr_inj_right {x y p : Wd} (h : xr p x = xr p y) : x = y := xr_inj_left (p := p) (by rw [xr_comm x, xr_comm y, h])
theorem bit1_inj {x y : Wd} (h : bit1 x = bit1 y) : x = y := by
  have ht := congrArg (·.getLsbD 31) h
  simp only [bit1_top] at ht
  have hp := decide_eq_decide.1 ht
  unfold bit1 at h
  by_cases hx : x.toNat % 2 = 1
  · have hy := hp.1 hx
    rw [if_pos hx, if_pos hy] at h
    exact sr_inj (xr_inj_left h) (by omega)
  · have hy : ¬ y.toNat % 2 = 1 := fun e => hx (hp.2 e)
    rw [if_neg hx, if_neg hy] at h
    exact sr_inj h (by omega)
theorem bitN_inj (k : Nat) {x y : Wd} (h : bitN x k = bitN y k) : x = y := by
  induction k with
  | zero => exact h
  | succ k ih => exact ih (bit1_inj h)
theorem byte1_inj {x y : Wd} {c : UInt8} (h : byte1 x c = byte1 y c) : x = y := xr_inj_left (bitN_inj 8 h)
theorem bw_inj {c d : UInt8} (h : bw c = bw d) : c = d := by
  have h1 := congrArg BitVec.toNat h
  have := c.toNat_lt
  have := d.toNat_lt
  unfold bw at h1
  rw [BitVec.toNat_ofNat, BitVec.toNat_ofNat] at h1
  exact UInt8.toNat_inj.1 (by omega)
theorem byte1_inj2 {x : Wd} {c d : UInt8} (h : byte1 x c = byte1 x d) : c = d := bw_inj (xr_inj_right (bitN_inj 8 h))
theorem crcL_inj (l : List UInt8) {x y : Wd} (h : crcL x l = crcL y l) : x = y := by
  induction l generalizing x y with
  | nil => exact h
  | cons c l ih => exact byte1_inj (ih h)
theorem nt_inj {x y : Wd} (h : nt x = nt y) : x = y := by
  have h1 := congrArg nt h
  rwa [nt_nt, nt_nt] at h1
/-- a row of which one byte is another one has another sum -/
theorem crc_other (x : Wd) (a r : List UInt8) {c d : UInt8} (h : crcS x (a ++ c :: r) = crcS x (a ++ d :: r)) : c = d := by
  have h1 := nt_inj h
  rw [crcL_append, crcL_append] at h1
  exact byte1_inj2 (crcL_inj r h1)

theorem low_bit (x : Wd) : wv (an x 1) = wv x % 2 := by
  unfold wv an
  rw [BitVec.toNat_and]
  have : (1 : Wd).toNat = 1 := rfl
  rw [this, Nat.and_one_is_mod]
  omega
theorem low_bits (x : Wd) : bits .and .u32 (wv x) 1 = wv x % 2 := by
  have h := an_bits x 1
  rw [low_bit] at h
  exact h
theorem mod_odd {x : Wd} (h : x.toNat % 2 = 1) : wv x % 2 = 1 := by unfold wv; omega
theorem mod_even {x : Wd} (h : ¬ x.toNat % 2 = 1) : wv x % 2 = 0 := by unfold wv; omega
theorem bit1_odd {x : Wd} (h : x.toNat % 2 = 1) : bit1 x = xr (sr x 1) poly := if_pos h
theorem bit1_even {x : Wd} (h : ¬ x.toNat % 2 = 1) : bit1 x = sr x 1 := if_neg h
theorem sr1 (a : Wd) : wv a / 2 = wv (sr a 1) := sr_div a 1
theorem wv_mod (x : Wd) : wv x % 4294967296 = wv x := Int.emod_eq_of_lt (wv_ge x) (wv_lt x)
theorem wv_tmod (x : Wd) : (wv x).tmod 2 = wv x % 2 := Int.tmod_eq_emod_of_nonneg (wv_ge x)
theorem wv_tdiv (x : Wd) : (wv x).tdiv 2 = wv x / 2 := Int.tdiv_eq_ediv_of_nonneg (wv_ge x)
attribute [irreducible] bitN bit1 byte1 crcL
end Go.Proofs.Ytmcabkoabecnnaa
