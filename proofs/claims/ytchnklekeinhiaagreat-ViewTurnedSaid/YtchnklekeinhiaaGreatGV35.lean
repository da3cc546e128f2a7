/-
  Words of 32 bits, and what a block's words and registers become: plain facts, nothing of the program.
  sha.turn, math/bits.RotateLeft32 and the document's turn: what each call answers.
  sha.words: what each call answers.
-/
import Derived.Test.YtchnklekeinhiaaGreatGV01
import Derived.Lib.Hide
import Derived.Laws.BitsLemmas
import Derived.Lib.SmallJoins
import Derived.Test.YtchnklekeinhiaaGreatRows
import Derived.WalkSpells
import Derived.WalkLawsBesides
import Derived.Deep.QuietTactic
import Derived.BigQuiet
import Derived.Laws.ResultCell
import Derived.RegionTactic
import Derived.BigRegion
namespace Go.Proofs.YtchnklekeinhiaaGreat
open Go.RowKit

abbrev Wd := BitVec 32
/-- the number that a word is -/
def wv (x : Wd) : Int := (x.toNat : Int)
/-- a word as a value -/
abbrev V (x : Wd) : Value := .int .u32 (wv x)
def xr (a b : Wd) : Wd := a ^^^ b
def an (a b : Wd) : Wd := a &&& b
def og (a b : Wd) : Wd := a ||| b
def nt (a : Wd) : Wd := ~~~a
def ad (a b : Wd) : Wd := a + b
def sr (a : Wd) (n : Nat) : Wd := a >>> n
def sl (a : Wd) (n : Nat) : Wd := a <<< n
def tn (x : Wd) (n : Int) : Wd := og (sr x n.toNat) (sl x (32 - n.toNat))

theorem ad_assoc (a b c : Wd) : ad (ad a b) c = ad a (ad b c) := BitVec.add_assoc a b c
theorem ad_comm (a b : Wd) : ad a b = ad b a := BitVec.add_comm a b
theorem ofInt_wv (a : Wd) : BitVec.ofInt 32 (wv a) = a := by
  apply BitVec.eq_of_toNat_eq
  unfold wv
  simp
theorem wrap_wv (n : Nat) : IntKind.u32.wrap (n : Int) = wv (BitVec.ofNat 32 n) := by
  rw [IntKind.wrap_u32]; unfold wv; simp
theorem bits_of (x : Wd) : IntKind.u32.wrap (x.toNat : Int) = wv x := by
  rw [wrap_wv]; congr 1; simp
theorem xr_bits (a b : Wd) : bits .xor .u32 (wv a) (wv b) = wv (xr a b) := by
  show IntKind.u32.wrap (((BitVec.ofInt 32 (wv a)) ^^^ (BitVec.ofInt 32 (wv b))).toNat : Int) = _
  rw [ofInt_wv, ofInt_wv, bits_of]; rfl
theorem an_bits (a b : Wd) : bits .and .u32 (wv a) (wv b) = wv (an a b) := by
  show IntKind.u32.wrap (((BitVec.ofInt 32 (wv a)) &&& (BitVec.ofInt 32 (wv b))).toNat : Int) = _
  rw [ofInt_wv, ofInt_wv, bits_of]; rfl
theorem og_bits (a b : Wd) : bits .or .u32 (wv a) (wv b) = wv (og a b) := by
  show IntKind.u32.wrap (((BitVec.ofInt 32 (wv a)) ||| (BitVec.ofInt 32 (wv b))).toNat : Int) = _
  rw [ofInt_wv, ofInt_wv, bits_of]; rfl
theorem ad_mod (a b : Wd) : (wv a + wv b) % 4294967296 = wv (ad a b) := by
  unfold wv ad; rw [BitVec.toNat_add]; omega
theorem sr_div (a : Wd) (n : Nat) : wv a / 2 ^ n = wv (sr a n) := by
  unfold wv sr; rw [BitVec.toNat_ushiftRight, Nat.shiftRight_eq_div_pow]; simp
theorem sr3 (a : Wd) : wv a / 8 = wv (sr a 3) := sr_div a 3
theorem sr10 (a : Wd) : wv a / 1024 = wv (sr a 10) := sr_div a 10
theorem sl_mod (a : Wd) (n : Nat) : wv a * 2 ^ n % 4294967296 = wv (sl a n) := by
  unfold wv sl; rw [BitVec.toNat_shiftLeft, Nat.shiftLeft_eq]; simp
theorem u32_plain : IntKind.u32.signed = false := rfl
theorem u32_top : IntKind.u32.max = wv (BitVec.ofNat 32 4294967295) := by decide
theorem nt_bits (a : Wd) : bits .xor .u32 IntKind.u32.max (wv a) = wv (nt a) := by
  rw [u32_top, xr_bits]
  have h : xr (BitVec.ofNat 32 4294967295) a = nt a := by
    unfold xr nt
    have e : BitVec.ofNat 32 4294967295 = BitVec.allOnes 32 := by decide
    rw [e, BitVec.allOnes_xor]
  rw [h]

/-- a byte as a word -/
def bw (c : UInt8) : Wd := BitVec.ofNat 32 c.toNat
theorem bw_wv (c : UInt8) : (c.toNat : Int) = wv (bw c) := by
  have := c.toNat_lt
  unfold wv bw; simp

/-! Rows of words. -/
def cs (l : List Wd) : Array Value := (l.map V).toArray
theorem cs_size (l : List Wd) : (cs l).size = l.length := by simp [cs]
theorem cs_get (l : List Wd) (j : Nat) (h : j < l.length) : (cs l)[j]? = some (V (l.getD j 0)) := by
  simp [cs, List.getD_eq_getElem?_getD, h]
theorem cs_set (l : List Wd) (j : Nat) (x : Wd) : (cs l).setIfInBounds j (V x) = cs (l.set j x) := by
  simp [cs, List.map_set]
theorem cs_one (l : List Wd) : (cs l).all (·.oneCell') = true := by
  simp [cs, Value.oneCell']
theorem cs_eight (a b c d e f g h : Wd) : cs [a, b, c, d, e, f, g, h] = #[V a, V b, V c, V d, V e, V f, V g, V h] := rfl
def Z64 : List Wd := List.replicate 64 0
theorem Z64_cs : cs Z64 = #[.int .u32 0, .int .u32 0, .int .u32 0, .int .u32 0, .int .u32 0, .int .u32 0, .int .u32 0, .int .u32 0, .int .u32 0, .int .u32 0, .int .u32 0, .int .u32 0, .int .u32 0, .int .u32 0, .int .u32 0, .int .u32 0, .int .u32 0, .int .u32 0, .int .u32 0, .int .u32 0, .int .u32 0, .int .u32 0, .int .u32 0, .int .u32 0, .int .u32 0, .int .u32 0, .int .u32 0, .int .u32 0, .int .u32 0, .int .u32 0, .int .u32 0, .int .u32 0, .int .u32 0, .int .u32 0, .int .u32 0, .int .u32 0, .int .u32 0, .int .u32 0, .int .u32 0, .int .u32 0, .int .u32 0, .int .u32 0, .int .u32 0, .int .u32 0, .int .u32 0, .int .u32 0, .int .u32 0, .int .u32 0, .int .u32 0, .int .u32 0, .int .u32 0, .int .u32 0, .int .u32 0, .int .u32 0, .int .u32 0, .int .u32 0, .int .u32 0, .int .u32 0, .int .u32 0, .int .u32 0, .int .u32 0, .int .u32 0, .int .u32 0, .int .u32 0] := by rfl
def Z8 : List Wd := List.replicate 8 0
theorem Z8_cs : cs Z8 = #[.int .u32 0, .int .u32 0, .int .u32 0, .int .u32 0, .int .u32 0, .int .u32 0, .int .u32 0, .int .u32 0] := by rfl

/-! A block's words. -/
def byteAt (s : List UInt8) (i : Nat) : Wd := sl (bw (s.getD i 0)) (24 - 8 * (i % 4))
def w1 (s : List UInt8) : Nat → List Wd
  | 0 => List.replicate 64 0
  | k + 1 => (w1 s k).set (k / 4) (og ((w1 s k).getD (k / 4) 0) (byteAt s k))
def sig0 (x : Wd) : Wd := xr (xr (tn x 7) (tn x 18)) (sr x 3)
def sig1 (y : Wd) : Wd := xr (xr (tn y 17) (tn y 19)) (sr y 10)
def nextW (w : List Wd) (t : Nat) : Wd := ad (ad (ad (w.getD (t - 16) 0) (sig0 (w.getD (t - 15) 0))) (w.getD (t - 7) 0)) (sig1 (w.getD (t - 2) 0))
/-- behind k words more -/
def w2 (w : List Wd) : Nat → List Wd
  | 0 => w
  | k + 1 => (w2 w k).set (16 + k) (nextW (w2 w k) (16 + k))
def sWords (s : List UInt8) : List Wd := w2 (w1 s (min s.length 64)) 48
theorem w1_len (s : List UInt8) (k : Nat) : (w1 s k).length = 64 := by
  induction k with
  | zero => simp [w1]
  | succ k ih => simp [w1, ih]
theorem w2_len (w : List Wd) (h : w.length = 64) (k : Nat) : (w2 w k).length = 64 := by
  induction k with
  | zero => simpa [w2] using h
  | succ k ih => simp [w2, ih]
theorem sWords_len (s : List UInt8) : (sWords s).length = 64 := w2_len _ (w1_len _ _) _

/-! A block's registers. -/
def big1 (e : Wd) : Wd := xr (xr (tn e 6) (tn e 11)) (tn e 25)
def big0 (a : Wd) : Wd := xr (xr (tn a 2) (tn a 13)) (tn a 22)
def cho (e f g : Wd) : Wd := xr (an e f) (an (nt e) g)
def maj (a b c : Wd) : Wd := xr (xr (an a b) (an a c)) (an b c)
def stp (r : List Wd) (x : Wd) : List Wd :=
  match r with
  | [a, b, c, d, e, f, g, h] => [ad (ad (ad (ad h (big1 e)) (cho e f g)) x) (ad (big0 a) (maj a b c)), a, b, c, ad d (ad (ad (ad h (big1 e)) (cho e f g)) x), e, f, g]
  | _ => r
theorem len8 {r : List Wd} (h : r.length = 8) : ∃ a b c d e f g k, r = [a, b, c, d, e, f, g, k] := by
  match r, h with
  | [a, b, c, d, e, f, g, k], _ => exact ⟨a, b, c, d, e, f, g, k, rfl⟩
theorem stp_len {r : List Wd} (h : r.length = 8) (x : Wd) : (stp r x).length = 8 := by
  obtain ⟨a, b, c, d, e, f, g, k, rfl⟩ := len8 h; rfl
/-- behind t steps, whose words stand in a row -/
def stps (kw : Nat → Wd) (h : List Wd) : Nat → List Wd
  | 0 => h
  | t + 1 => stp (stps kw h t) (kw t)
theorem stps_len (kw : Nat → Wd) {h : List Wd} (hl : h.length = 8) (t : Nat) : (stps kw h t).length = 8 := by
  induction t with
  | zero => exact hl
  | succ t ih => exact stp_len ih _
/-- two rows together: the first k of them -/
def mix (h r : List Wd) : Nat → List Wd
  | 0 => h
  | k + 1 => (mix h r k).set k (ad (h.getD k 0) (r.getD k 0))
theorem mix_len (h r : List Wd) (k : Nat) : (mix h r k).length = h.length := by
  induction k with
  | zero => rfl
  | succ k ih => simp [mix, ih]
theorem smix_at (h r : List Wd) (k j : Nat) (hj : k ≤ j) : (mix h r k).getD j 0 = h.getD j 0 := by
  induction k with
  | zero => rfl
  | succ k ih => rw [mix, List.getD_eq_getElem?_getD, List.getElem?_set_ne (by omega), ← List.getD_eq_getElem?_getD, ih (by omega)]
theorem mix_comm {h r : List Wd} (h8 : h.length = 8) (r8 : r.length = 8) : mix h r 8 = mix r h 8 := by
  obtain ⟨a, b, c, d, e, f, g, k, rfl⟩ := len8 h8
  obtain ⟨a', b', c', d', e', f', g', k', rfl⟩ := len8 r8
  simp [mix, ad_comm]

def Kn : List Nat := [1116352408, 1899447441, 3049323471, 3921009573, 961987163, 1508970993, 2453635748, 2870763221, 3624381080, 310598401, 607225278, 1426881987, 1925078388, 2162078206, 2614888103, 3248222580, 3835390401, 4022224774, 264347078, 604807628, 770255983, 1249150122, 1555081692, 1996064986, 2554220882, 2821834349, 2952996808, 3210313671, 3336571891, 3584528711, 113926993, 338241895, 666307205, 773529912, 1294757372, 1396182291, 1695183700, 1986661051, 2177026350, 2456956037, 2730485921, 2820302411, 3259730800, 3345764771, 3516065817, 3600352804, 4094571909, 275423344, 430227734, 506948616, 659060556, 883997877, 958139571, 1322822218, 1537002063, 1747873779, 1955562222, 2024104815, 2227730452, 2361852424, 2428436474, 2756734187, 3204031479, 3329325298]
def Kw : List Wd := Kn.map (BitVec.ofNat 32)
theorem Kw_cs : cs Kw = #[.int .u32 1116352408, .int .u32 1899447441, .int .u32 3049323471, .int .u32 3921009573, .int .u32 961987163, .int .u32 1508970993, .int .u32 2453635748, .int .u32 2870763221, .int .u32 3624381080, .int .u32 310598401, .int .u32 607225278, .int .u32 1426881987, .int .u32 1925078388, .int .u32 2162078206, .int .u32 2614888103, .int .u32 3248222580, .int .u32 3835390401, .int .u32 4022224774, .int .u32 264347078, .int .u32 604807628, .int .u32 770255983, .int .u32 1249150122, .int .u32 1555081692, .int .u32 1996064986, .int .u32 2554220882, .int .u32 2821834349, .int .u32 2952996808, .int .u32 3210313671, .int .u32 3336571891, .int .u32 3584528711, .int .u32 113926993, .int .u32 338241895, .int .u32 666307205, .int .u32 773529912, .int .u32 1294757372, .int .u32 1396182291, .int .u32 1695183700, .int .u32 1986661051, .int .u32 2177026350, .int .u32 2456956037, .int .u32 2730485921, .int .u32 2820302411, .int .u32 3259730800, .int .u32 3345764771, .int .u32 3516065817, .int .u32 3600352804, .int .u32 4094571909, .int .u32 275423344, .int .u32 430227734, .int .u32 506948616, .int .u32 659060556, .int .u32 883997877, .int .u32 958139571, .int .u32 1322822218, .int .u32 1537002063, .int .u32 1747873779, .int .u32 1955562222, .int .u32 2024104815, .int .u32 2227730452, .int .u32 2361852424, .int .u32 2428436474, .int .u32 2756734187, .int .u32 3204031479, .int .u32 3329325298] := by rfl
theorem Kw_len : Kw.length = 64 := by decide

attribute [irreducible] cs

def sKw (s : List UInt8) (t : Nat) : Wd := ad (Kw.getD t 0) ((sWords s).getD t 0)
def blk (h : List Wd) (s : List UInt8) : List Wd := mix h (stps (sKw s) h 64) 8
theorem blk_len {h : List Wd} (hl : h.length = 8) (s : List UInt8) : (blk h s).length = 8 := by
  rw [blk, mix_len, hl]
/-- n blocks, one behind the other -/
def blks (h : List Wd) (s : List UInt8) : Nat → List Wd
  | 0 => h
  | n + 1 => blk (blks h s n) (s.drop (64 * n))
theorem blks_len {h : List Wd} (hl : h.length = 8) (s : List UInt8) (n : Nat) : (blks h s n).length = 8 := by
  induction n with
  | zero => exact hl
  | succ n ih => exact blk_len ih _
/-! What stands behind. -/
def be8 (x : Nat) : Nat → List UInt8
  | 0 => []
  | k + 1 => UInt8.ofNat (x / 2 ^ (8 * k)) :: be8 x k
def padL (n : Nat) : List UInt8 := 128 :: List.replicate ((119 - n % 64) % 64) 0 ++ be8 (8 * n % 18446744073709551616) 8
theorem be8_len (x k : Nat) : (be8 x k).length = k := by
  induction k with
  | zero => rfl
  | succ k ih => simp [be8, ih]
theorem padL_len (n : Nat) : (padL n).length = 1 + (119 - n % 64) % 64 + 8 := by
  simp [padL, be8_len]; omega
def H0n : List Nat := [1779033703, 3144134277, 1013904242, 2773480762, 1359893119, 2600822924, 528734635, 1541459225]
def H0 : List Wd := H0n.map (BitVec.ofNat 32)
theorem H0_len : H0.length = 8 := by decide
theorem H0_cs : cs H0 = #[.int .u32 1779033703, .int .u32 3144134277, .int .u32 1013904242, .int .u32 2773480762, .int .u32 1359893119, .int .u32 2600822924, .int .u32 528734635, .int .u32 1541459225] := by unfold cs; rfl
def wordBytes (x : Wd) : List UInt8 := [UInt8.ofNat (x.toNat / 16777216), UInt8.ofNat (x.toNat / 65536), UInt8.ofNat (x.toNat / 256), UInt8.ofNat x.toNat]
def outB : List Wd → List UInt8
  | [] => []
  | x :: r => wordBytes x ++ outB r
def sSum (s : List UInt8) : List UInt8 := outB (blks H0 (s ++ padL s.length) ((s.length + (padL s.length).length) / 64))

/-! Rows in memory. -/
theorem set8 {w : World} {g : Nat} {T : TypeId} {x0 x1 x2 x3 x4 x5 x6 x7 : Value} (h : w.heap[g]? = some (.cells #[x0, x1, x2, x3, x4, x5, x6, x7] T (0, 0))) (y0 y1 y2 y3 y4 y5 y6 y7 : Value) :
    ((((((((w.setCell ⟨g, 0, none⟩ y0).setCell ⟨g, 1, none⟩ y1).setCell ⟨g, 2, none⟩ y2).setCell ⟨g, 3, none⟩ y3).setCell ⟨g, 4, none⟩ y4).setCell ⟨g, 5, none⟩ y5).setCell ⟨g, 6, none⟩ y6).setCell ⟨g, 7, none⟩ y7).heap[g]? = some (.cells #[y0, y1, y2, y3, y4, y5, y6, y7] T (0, 0)) := by
  have h0 := Joins.block_setCell (i := 0) h y0
  have h1 := Joins.block_setCell (i := 1) h0 y1
  have h2 := Joins.block_setCell (i := 2) h1 y2
  have h3 := Joins.block_setCell (i := 3) h2 y3
  have h4 := Joins.block_setCell (i := 4) h3 y4
  have h5 := Joins.block_setCell (i := 5) h4 y5
  have h6 := Joins.block_setCell (i := 6) h5 y6
  have h7 := Joins.block_setCell (i := 7) h6 y7
  simpa using h7
theorem below8 {B : Nat} {a w : World} {g : Nat} (h : Below B a w) (hg : B ≤ g) (y0 y1 y2 y3 y4 y5 y6 y7 : Value) :
    Below B a ((((((((w.setCell ⟨g, 0, none⟩ y0).setCell ⟨g, 1, none⟩ y1).setCell ⟨g, 2, none⟩ y2).setCell ⟨g, 3, none⟩ y3).setCell ⟨g, 4, none⟩ y4).setCell ⟨g, 5, none⟩ y5).setCell ⟨g, 6, none⟩ y6).setCell ⟨g, 7, none⟩ y7) :=
  (((((((h.setCell hg _).setCell hg _).setCell hg _).setCell hg _).setCell hg _).setCell hg _).setCell hg _).setCell hg _
theorem w1_zero (s : List UInt8) : w1 s 0 = Z64 := rfl
theorem w1_succ (s : List UInt8) (k : Nat) : w1 s (k + 1) = (w1 s k).set (k / 4) (og ((w1 s k).getD (k / 4) 0) (byteAt s k)) := rfl
theorem w2_zero (w : List Wd) : w2 w 0 = w := rfl
theorem w2_succ (w : List Wd) (k : Nat) : w2 w (k + 1) = (w2 w k).set (16 + k) (nextW (w2 w k) (16 + k)) := rfl
theorem stps_zero (f : Nat → Wd) (h : List Wd) : stps f h 0 = h := rfl
theorem stps_succ (f : Nat → Wd) (h : List Wd) (t : Nat) : stps f h (t + 1) = stp (stps f h t) (f t) := rfl
theorem mix_zero (h r : List Wd) : mix h r 0 = h := rfl
theorem smix_succ (h r : List Wd) (k : Nat) : mix h r (k + 1) = (mix h r k).set k (ad (h.getD k 0) (r.getD k 0)) := rfl
theorem blks_zero (h : List Wd) (s : List UInt8) : blks h s 0 = h := rfl
theorem blks_succ (h : List Wd) (s : List UInt8) (n : Nat) : blks h s (n + 1) = blk (blks h s n) (s.drop (64 * n)) := rfl
theorem sWords_is (s : List UInt8) : sWords s = w2 (w1 s (min s.length 64)) 48 := rfl
theorem blk_is (h : List Wd) (s : List UInt8) : blk h s = mix h (stps (sKw s) h 64) 8 := rfl
theorem be8_zero (x : Nat) : be8 x 0 = [] := rfl
theorem be8_succ (x k : Nat) : be8 x (k + 1) = UInt8.ofNat (x / 2 ^ (8 * k)) :: be8 x k := rfl
/-- eight times a number, in 64 bits -/
def m8 (n : Nat) : Nat := 8 * n % 18446744073709551616
theorem m8_wrap (n : Nat) : IntKind.u64.wrap (8 * (n : Int)) = (m8 n : Int) := by
  simp [IntKind.wrap, IntKind.bits, IntKind.signed, m8]
theorem m8_mod (n : Nat) : (8 * (n : Int)) % 18446744073709551616 = (m8 n : Int) := by simp [m8]
theorem m8_mod' (n : Nat) : ((n : Int) * 8) % 18446744073709551616 = (m8 n : Int) := by rw [Int.mul_comm]; exact m8_mod n
theorem m8_wrap' (n : Nat) : IntKind.u64.wrap ((n : Int) * 8) = (m8 n : Int) := by rw [Int.mul_comm]; exact m8_wrap n
theorem m8_pad (n : Nat) : padL n = (128 :: List.replicate ((119 - n % 64) % 64) 0) ++ be8 (m8 n) 8 := rfl
theorem ofNat_mod (x : Nat) : UInt8.ofNat (x % 256) = UInt8.ofNat x := by
  apply UInt8.toNat_inj.1; simp
attribute [irreducible] w1 w2 sWords stps mix blk blks m8 be8 padL
end Go.Proofs.YtchnklekeinhiaaGreat

namespace Go.Proofs.YtchnklekeinhiaaGreat
open Go.RowKit

attribute [local go_sem] xr_bits an_bits og_bits ad_mod sr_div sl_mod

set_option maxRecDepth 100000 in
theorem turnR_nat (x : Wd) (n : Nat) (h0 : 0 < n) (hn : n < 32) (w : World) :
    Calls Tryz.prog 147 #[V x, .int .i64 n] w fun e w' => e = .returned (V (tn x n)) ∧ w = w' := by
  have e1 : tn x n = og (sr x n) (sl x (32 - n)) := by unfold tn; simp
  have HE := Lib.hid e1
  clear e1
  go_enter Tryz.func147, Tryz.ntmps147
  go_wp2
  go_ret
  rw [HE.out]
  exact ⟨rfl, rfl⟩

theorem turnR (x : Wd) (n : Int) (w : World) (h0 : 0 < n) (hn : n < 32) :
    Calls Tryz.prog 147 #[.int .u32 (wv x), .int .i64 n] w fun e w' => e = .returned (.int .u32 (wv (tn x n))) ∧ w = w' := by
  obtain ⟨k, rfl⟩ := Int.eq_ofNat_of_zero_le (Int.le_of_lt h0)
  exact turnR_nat x k (by omega) (by omega) w
end Go.Proofs.YtchnklekeinhiaaGreat

namespace Go.Proofs.YtchnklekeinhiaaGreat
open Go.RowKit

attribute [local go_sem] xr_bits an_bits og_bits ad_mod nt_bits u32_plain sr3 sr10

/-- a block of words -/
def Row (w : World) (b : Nat) (t : TypeId) (l : List Wd) : Prop := w.heap[b]? = some (.cells (cs l) t (0, 0))
theorem Row.cell {w : World} {b : Nat} {t : TypeId} {l : List Wd} (h : Row w b t l) (j : Nat) (hj : j < l.length) : w.cell? ⟨b, j, none⟩ = some (.int .u32 (wv (l.getD j 0))) := by
  rw [Joins.cell_of_block h, cs_get l j hj]
theorem Row.free {w : World} {b : Nat} {t : TypeId} {l : List Wd} (h : Row w b t l) (j : Nat) : w.frozen? ⟨b, j, none⟩ = false := Joins.unfrozen_of_block h j
theorem Row.lt {w : World} {b : Nat} {t : TypeId} {l : List Wd} (h : Row w b t l) : b < w.heap.size := (Array.getElem?_eq_some_iff.1 h).1
theorem Row.set {w : World} {b : Nat} {t : TypeId} {l : List Wd} (h : Row w b t l) (j : Nat) (x : Wd) : Row (w.setCell ⟨b, j, none⟩ (.int .u32 (wv x))) b t (l.set j x) := by
  have := Joins.block_setCell (i := j) h (V x)
  rw [cs_set] at this
  exact this
theorem Row.other {w : World} {b c : Nat} {t : TypeId} {l : List Wd} (h : Row w b t l) (hc : b ≠ c) (j : Nat) (x : Value) : Row (w.setCell ⟨c, j, none⟩ x) b t l := by
  unfold Row; rw [Below.heap_setCell _ _ _ _ hc]; exact h
theorem Row.drew {w : World} {b : Nat} {t : TypeId} {l : List Wd} (h : Row w b t l) : Row w.drew b t l := h
theorem Row.drewN {w : World} {b : Nat} {t : TypeId} {l : List Wd} (h : Row w b t l) (n : Nat) : Row (w.drewN n) b t l := h
theorem Row.below {w w' : World} {b B : Nat} {t : TypeId} {l : List Wd} (h : Row w b t l) (hb : Below B w w') (hB : b < B) : Row w' b t l := by
  unfold Row; rw [hb.block b hB]; exact h
theorem Row.alloc {w : World} {b : Nat} {t : TypeId} {l : List Wd} (h : Row w b t l) (o : Obj) : Row (w.alloc o) b t l := by
  unfold Row; rw [Below.heap_alloc _ _ _ h.lt]; exact h

theorem val_byte (x : Wd) (c : UInt8) (e : Nat) : bits .or .u32 (wv x) ((c.toNat : Int) % 4294967296 * 2 ^ e % 4294967296) = wv (og x (sl (bw c) e)) := by
  have h := c.toNat_lt
  rw [show ((c.toNat : Int) % 4294967296) = wv (bw c) from by rw [← bw_wv]; omega, sl_mod, og_bits]
theorem w1_step (l : List UInt8) (k : Nat) (h : k < l.length) (x : Int) (hx : x = bits .or .u32 (wv ((w1 l k).getD (k / 4) 0)) ((l[k].toNat : Int) % 4294967296 * 2 ^ (24 - 8 * (k % 4)) % 4294967296)) :
    ∃ y : Wd, x = wv y ∧ w1 l (k + 1) = (w1 l k).set (k / 4) y := by
  refine ⟨_, hx.trans (val_byte _ _ _), ?_⟩
  rw [w1_succ, byteAt, List.getD_eq_getElem?_getD (l := l), List.getElem?_eq_getElem h]
  rfl

theorem w2_step (W : List Wd) (t : Nat) (h : 16 ≤ t) : w2 W (t + 1 - 16) = (w2 W (t - 16)).set t (nextW (w2 W (t - 16)) t) := by
  obtain ⟨k, rfl⟩ : ∃ k, t = 16 + k := ⟨t - 16, by omega⟩
  rw [show 16 + k + 1 - 16 = k + 1 from by omega, show 16 + k - 16 = k from by omega, w2_succ]

end Go.Proofs.YtchnklekeinhiaaGreat
