/-
  Words of 32 bits, and what a block's words and registers become: plain facts, nothing of the program.
  CRC-32C's register as words of 32 bits: plain facts, nothing of the program.
  crc.step, crc.Add, crc.Sum and the document's Add and Sum: what each call answers.
-/
import Derived.Test.YtjimgncefeldbaaGreatDoorBase
import Derived.Lib.Hide
import Derived.Laws.BitsLemmas
import Derived.Lib.SmallJoins
import Derived.WalkSpells
import Derived.WalkLawsBesides
import Derived.Deep.QuietTactic
import Derived.BigQuiet
import Derived.Laws.ResultCell
namespace Go.Proofs.YtjimgncefeldbaaGreatDoor
open Go.RowKit

abbrev Wd := BitVec 32
/-- the number that a word is -/
def wv (x : Wd) : Int := (x.toNat : Int)
theorem wv_ge (x : Wd) : 0 ≤ wv x := by unfold wv; omega
theorem wv_lt (x : Wd) : wv x < 4294967296 := by unfold wv; have := x.isLt; omega
theorem wv_inj {x y : Wd} (h : wv x = wv y) : x = y := BitVec.eq_of_toNat_eq (by unfold wv at h; omega)
/-- a word as a value -/
abbrev V (x : Wd) : Value := .int .u32 (wv x)
theorem V_inj {x y : Wd} (h : V x = V y) : x = y := by injection h with _ h; exact wv_inj h

def xr (a b : Wd) : Wd := a ^^^ b
def an (a b : Wd) : Wd := a &&& b
def og (a b : Wd) : Wd := a ||| b
def nt (a : Wd) : Wd := ~~~a
def ad (a b : Wd) : Wd := a + b
def sr (a : Wd) (n : Nat) : Wd := a >>> n
def sl (a : Wd) (n : Nat) : Wd := a <<< n
def tn (x : Wd) (n : Int) : Wd := og (sr x n.toNat) (sl x (32 - n.toNat))

theorem ad_assoc (a b c : Wd) : ad (ad a b) c = ad a (ad b c) := BitVec.add_assoc a b c
theorem ad_comm (a b : Wd) : ad a b = ad b a := BitVec.add_comm a b
theorem og_comm (a b : Wd) : og a b = og b a := BitVec.or_comm a b

theorem ofInt_wv (a : Wd) : BitVec.ofInt 32 (wv a) = a := by
  apply BitVec.eq_of_toNat_eq
  unfold wv
  simp
theorem wrap_wv (n : Nat) : IntKind.u32.wrap (n : Int) = wv (BitVec.ofNat 32 n) := by
  rw [IntKind.wrap_u32]; unfold wv; simp
theorem bits_of (x : Wd) : IntKind.u32.wrap (x.toNat : Int) = wv x := by
  rw [wrap_wv]; congr 1; simp
theorem xr_bits (a b : Wd) : bits .xor .u32 (wv a) (wv b) = wv (xr a b) := by
  show IntKind.u32.wrap (((BitVec.ofInt 32 (wv a)) ^^^ (BitVec.ofInt 32 (wv b))).toNat : Int) = _
  rw [ofInt_wv, ofInt_wv, bits_of]; rfl
theorem an_bits (a b : Wd) : bits .and .u32 (wv a) (wv b) = wv (an a b) := by
  show IntKind.u32.wrap (((BitVec.ofInt 32 (wv a)) &&& (BitVec.ofInt 32 (wv b))).toNat : Int) = _
  rw [ofInt_wv, ofInt_wv, bits_of]; rfl
theorem og_bits (a b : Wd) : bits .or .u32 (wv a) (wv b) = wv (og a b) := by
  show IntKind.u32.wrap (((BitVec.ofInt 32 (wv a)) ||| (BitVec.ofInt 32 (wv b))).toNat : Int) = _
  rw [ofInt_wv, ofInt_wv, bits_of]; rfl
theorem ad_mod (a b : Wd) : (wv a + wv b) % 4294967296 = wv (ad a b) := by
  unfold wv ad; rw [BitVec.toNat_add]; omega
theorem ad_wrap (a b : Wd) : IntKind.u32.wrap (wv a + wv b) = wv (ad a b) := by
  rw [IntKind.wrap_u32, ad_mod]
theorem sr_div (a : Wd) (n : Nat) : wv a / 2 ^ n = wv (sr a n) := by
  unfold wv sr; rw [BitVec.toNat_ushiftRight, Nat.shiftRight_eq_div_pow]; simp
theorem sr3 (a : Wd) : wv a / 8 = wv (sr a 3) := sr_div a 3
theorem sr10 (a : Wd) : wv a / 1024 = wv (sr a 10) := sr_div a 10
theorem sl_mod (a : Wd) (n : Nat) : wv a * 2 ^ n % 4294967296 = wv (sl a n) := by
  unfold wv sl; rw [BitVec.toNat_shiftLeft, Nat.shiftLeft_eq]; simp
theorem nt_wrap (a : Wd) : 4294967295 - wv a = wv (nt a) := by
  unfold wv nt; rw [BitVec.toNat_not]; have := a.isLt; omega

theorem u32_plain : IntKind.u32.signed = false := rfl
theorem u32_top : IntKind.u32.max = wv (BitVec.ofNat 32 4294967295) := by decide
theorem nt_bits (a : Wd) : bits .xor .u32 IntKind.u32.max (wv a) = wv (nt a) := by
  rw [u32_top, xr_bits]
  have h : xr (BitVec.ofNat 32 4294967295) a = nt a := by
    unfold xr nt
    have e : BitVec.ofNat 32 4294967295 = BitVec.allOnes 32 := by decide
    rw [e, BitVec.allOnes_xor]
  rw [h]

/-- a byte as a word -/
def bw (c : UInt8) : Wd := BitVec.ofNat 32 c.toNat
theorem bw_wv (c : UInt8) : (c.toNat : Int) = wv (bw c) := by
  have := c.toNat_lt
  unfold wv bw; simp

/-! Rows of words. -/
def cs (l : List Wd) : Array Value := (l.map V).toArray
theorem cs_size (l : List Wd) : (cs l).size = l.length := by simp [cs]
theorem cs_get (l : List Wd) (j : Nat) (h : j < l.length) : (cs l)[j]? = some (V (l.getD j 0)) := by
  simp [cs, List.getD_eq_getElem?_getD, h]
theorem cs_set (l : List Wd) (j : Nat) (x : Wd) : (cs l).setIfInBounds j (V x) = cs (l.set j x) := by
  simp [cs, List.map_set]
theorem cs_inj {a b : List Wd} (h : cs a = cs b) : a = b := by
  have h1 : a.map V = b.map V := by simpa [cs] using h
  exact List.map_inj_right (fun x y e => V_inj e) |>.1 h1
theorem cs_one (l : List Wd) : (cs l).all (·.oneCell') = true := by
  simp [cs, Value.oneCell']
theorem cs_eight (a b c d e f g h : Wd) : cs [a, b, c, d, e, f, g, h] = #[V a, V b, V c, V d, V e, V f, V g, V h] := rfl
def Z64 : List Wd := List.replicate 64 0
theorem Z64_cs : cs Z64 = #[.int .u32 0, .int .u32 0, .int .u32 0, .int .u32 0, .int .u32 0, .int .u32 0, .int .u32 0, .int .u32 0, .int .u32 0, .int .u32 0, .int .u32 0, .int .u32 0, .int .u32 0, .int .u32 0, .int .u32 0, .int .u32 0, .int .u32 0, .int .u32 0, .int .u32 0, .int .u32 0, .int .u32 0, .int .u32 0, .int .u32 0, .int .u32 0, .int .u32 0, .int .u32 0, .int .u32 0, .int .u32 0, .int .u32 0, .int .u32 0, .int .u32 0, .int .u32 0, .int .u32 0, .int .u32 0, .int .u32 0, .int .u32 0, .int .u32 0, .int .u32 0, .int .u32 0, .int .u32 0, .int .u32 0, .int .u32 0, .int .u32 0, .int .u32 0, .int .u32 0, .int .u32 0, .int .u32 0, .int .u32 0, .int .u32 0, .int .u32 0, .int .u32 0, .int .u32 0, .int .u32 0, .int .u32 0, .int .u32 0, .int .u32 0, .int .u32 0, .int .u32 0, .int .u32 0, .int .u32 0, .int .u32 0, .int .u32 0, .int .u32 0, .int .u32 0] := by rfl
def Z8 : List Wd := List.replicate 8 0
theorem Z8_cs : cs Z8 = #[.int .u32 0, .int .u32 0, .int .u32 0, .int .u32 0, .int .u32 0, .int .u32 0, .int .u32 0, .int .u32 0] := by rfl

/-! A block's words. -/
def byteAt (s : List UInt8) (i : Nat) : Wd := sl (bw (s.getD i 0)) (24 - 8 * (i % 4))
def w1 (s : List UInt8) : Nat → List Wd
  | 0 => List.replicate 64 0
  | k + 1 => (w1 s k).set (k / 4) (og ((w1 s k).getD (k / 4) 0) (byteAt s k))
def sig0 (x : Wd) : Wd := xr (xr (tn x 7) (tn x 18)) (sr x 3)
def sig1 (y : Wd) : Wd := xr (xr (tn y 17) (tn y 19)) (sr y 10)
def nextW (w : List Wd) (t : Nat) : Wd := ad (ad (ad (w.getD (t - 16) 0) (sig0 (w.getD (t - 15) 0))) (w.getD (t - 7) 0)) (sig1 (w.getD (t - 2) 0))
/-- behind k words more -/
def w2 (w : List Wd) : Nat → List Wd
  | 0 => w
  | k + 1 => (w2 w k).set (16 + k) (nextW (w2 w k) (16 + k))
def sWords (s : List UInt8) : List Wd := w2 (w1 s (min s.length 64)) 48
theorem w1_len (s : List UInt8) (k : Nat) : (w1 s k).length = 64 := by
  induction k with
  | zero => simp [w1]
  | succ k ih => simp [w1, ih]
theorem w2_len (w : List Wd) (h : w.length = 64) (k : Nat) : (w2 w k).length = 64 := by
  induction k with
  | zero => simpa [w2] using h
  | succ k ih => simp [w2, ih]
theorem sWords_len (s : List UInt8) : (sWords s).length = 64 := w2_len _ (w1_len _ _) _

theorem w1_cut (s t : List UInt8) (k : Nat) (h : k ≤ s.length) : w1 (s ++ t) k = w1 s k := by
  induction k with
  | zero => rfl
  | succ k ih =>
    have e : byteAt (s ++ t) k = byteAt s k := by
      unfold byteAt
      rw [List.getD_eq_getElem?_getD, List.getD_eq_getElem?_getD, List.getElem?_append_left (by omega)]
    simp only [w1, ih (by omega), e]
theorem sWords_cut (s t : List UInt8) (h : 64 ≤ s.length) : sWords (s ++ t) = sWords s := by
  unfold sWords
  rw [List.length_append, show min (s.length + t.length) 64 = 64 by omega, show min s.length 64 = 64 by omega, w1_cut s t 64 h]

/-! A block's registers. -/
def big1 (e : Wd) : Wd := xr (xr (tn e 6) (tn e 11)) (tn e 25)
def big0 (a : Wd) : Wd := xr (xr (tn a 2) (tn a 13)) (tn a 22)
def cho (e f g : Wd) : Wd := xr (an e f) (an (nt e) g)
def maj (a b c : Wd) : Wd := xr (xr (an a b) (an a c)) (an b c)
def stp (r : List Wd) (x : Wd) : List Wd :=
  match r with
  | [a, b, c, d, e, f, g, h] => [ad (ad (ad (ad h (big1 e)) (cho e f g)) x) (ad (big0 a) (maj a b c)), a, b, c, ad d (ad (ad (ad h (big1 e)) (cho e f g)) x), e, f, g]
  | _ => r
theorem len8 {r : List Wd} (h : r.length = 8) : ∃ a b c d e f g k, r = [a, b, c, d, e, f, g, k] := by
  match r, h with
  | [a, b, c, d, e, f, g, k], _ => exact ⟨a, b, c, d, e, f, g, k, rfl⟩
theorem stp_len {r : List Wd} (h : r.length = 8) (x : Wd) : (stp r x).length = 8 := by
  obtain ⟨a, b, c, d, e, f, g, k, rfl⟩ := len8 h; rfl
/-- behind t steps, whose words stand in a row -/
def stps (kw : Nat → Wd) (h : List Wd) : Nat → List Wd
  | 0 => h
  | t + 1 => stp (stps kw h t) (kw t)
theorem stps_len (kw : Nat → Wd) {h : List Wd} (hl : h.length = 8) (t : Nat) : (stps kw h t).length = 8 := by
  induction t with
  | zero => exact hl
  | succ t ih => exact stp_len ih _
/-- two rows together: the first k of them -/
def mix (h r : List Wd) : Nat → List Wd
  | 0 => h
  | k + 1 => (mix h r k).set k (ad (h.getD k 0) (r.getD k 0))
theorem mix_len (h r : List Wd) (k : Nat) : (mix h r k).length = h.length := by
  induction k with
  | zero => rfl
  | succ k ih => simp [mix, ih]
theorem mix_at (h r : List Wd) (k j : Nat) (hj : k ≤ j) : (mix h r k).getD j 0 = h.getD j 0 := by
  induction k with
  | zero => rfl
  | succ k ih => rw [mix, List.getD_eq_getElem?_getD, List.getElem?_set_ne (by omega), ← List.getD_eq_getElem?_getD, ih (by omega)]
theorem mix_comm {h r : List Wd} (h8 : h.length = 8) (r8 : r.length = 8) : mix h r 8 = mix r h 8 := by
  obtain ⟨a, b, c, d, e, f, g, k, rfl⟩ := len8 h8
  obtain ⟨a', b', c', d', e', f', g', k', rfl⟩ := len8 r8
  simp [mix, ad_comm]

def Kn : List Nat := [1116352408, 1899447441, 3049323471, 3921009573, 961987163, 1508970993, 2453635748, 2870763221, 3624381080, 310598401, 607225278, 1426881987, 1925078388, 2162078206, 2614888103, 3248222580, 3835390401, 4022224774, 264347078, 604807628, 770255983, 1249150122, 1555081692, 1996064986, 2554220882, 2821834349, 2952996808, 3210313671, 3336571891, 3584528711, 113926993, 338241895, 666307205, 773529912, 1294757372, 1396182291, 1695183700, 1986661051, 2177026350, 2456956037, 2730485921, 2820302411, 3259730800, 3345764771, 3516065817, 3600352804, 4094571909, 275423344, 430227734, 506948616, 659060556, 883997877, 958139571, 1322822218, 1537002063, 1747873779, 1955562222, 2024104815, 2227730452, 2361852424, 2428436474, 2756734187, 3204031479, 3329325298]
def Kw : List Wd := Kn.map (BitVec.ofNat 32)
theorem Kw_cs : cs Kw = #[.int .u32 1116352408, .int .u32 1899447441, .int .u32 3049323471, .int .u32 3921009573, .int .u32 961987163, .int .u32 1508970993, .int .u32 2453635748, .int .u32 2870763221, .int .u32 3624381080, .int .u32 310598401, .int .u32 607225278, .int .u32 1426881987, .int .u32 1925078388, .int .u32 2162078206, .int .u32 2614888103, .int .u32 3248222580, .int .u32 3835390401, .int .u32 4022224774, .int .u32 264347078, .int .u32 604807628, .int .u32 770255983, .int .u32 1249150122, .int .u32 1555081692, .int .u32 1996064986, .int .u32 2554220882, .int .u32 2821834349, .int .u32 2952996808, .int .u32 3210313671, .int .u32 3336571891, .int .u32 3584528711, .int .u32 113926993, .int .u32 338241895, .int .u32 666307205, .int .u32 773529912, .int .u32 1294757372, .int .u32 1396182291, .int .u32 1695183700, .int .u32 1986661051, .int .u32 2177026350, .int .u32 2456956037, .int .u32 2730485921, .int .u32 2820302411, .int .u32 3259730800, .int .u32 3345764771, .int .u32 3516065817, .int .u32 3600352804, .int .u32 4094571909, .int .u32 275423344, .int .u32 430227734, .int .u32 506948616, .int .u32 659060556, .int .u32 883997877, .int .u32 958139571, .int .u32 1322822218, .int .u32 1537002063, .int .u32 1747873779, .int .u32 1955562222, .int .u32 2024104815, .int .u32 2227730452, .int .u32 2361852424, .int .u32 2428436474, .int .u32 2756734187, .int .u32 3204031479, .int .u32 3329325298] := by rfl
theorem Kw_len : Kw.length = 64 := by decide

attribute [irreducible] cs

def sKw (s : List UInt8) (t : Nat) : Wd := ad (Kw.getD t 0) ((sWords s).getD t 0)
def blk (h : List Wd) (s : List UInt8) : List Wd := mix h (stps (sKw s) h 64) 8
theorem blk_len {h : List Wd} (hl : h.length = 8) (s : List UInt8) : (blk h s).length = 8 := by
  rw [blk, mix_len, hl]
theorem blk_cut (h : List Wd) (s t : List UInt8) (hs : 64 ≤ s.length) : blk h (s ++ t) = blk h s := by
  have e : sKw (s ++ t) = sKw s := by funext j; rw [sKw, sKw, sWords_cut s t hs]
  rw [blk, blk, e]
/-- n blocks, one behind the other -/
def blks (h : List Wd) (s : List UInt8) : Nat → List Wd
  | 0 => h
  | n + 1 => blk (blks h s n) (s.drop (64 * n))
theorem blks_len {h : List Wd} (hl : h.length = 8) (s : List UInt8) (n : Nat) : (blks h s n).length = 8 := by
  induction n with
  | zero => exact hl
  | succ n ih => exact blk_len ih _
theorem blks_head (h : List Wd) (s t : List UInt8) (n : Nat) (hn : 64 * n ≤ s.length) : blks h (s ++ t) n = blks h s n := by
  induction n with
  | zero => rfl
  | succ n ih =>
    rw [blks, blks, ih (by omega), List.drop_append_of_le_length (by omega), blk_cut]
    rw [List.length_drop]; omega
theorem blks_join (h : List Wd) (s t : List UInt8) (m : Nat) (hm : s.length = 64 * m) (n : Nat) : blks h (s ++ t) (m + n) = blks (blks h s m) t n := by
  induction n with
  | zero => exact blks_head h s t m (by omega)
  | succ n ih =>
    rw [← Nat.add_assoc, blks, blks, ih]
    congr 1
    rw [List.drop_append, List.drop_of_length_le (by omega), List.nil_append]
    congr 1
    omega
theorem blks_first (h : List Wd) (s : List UInt8) (n : Nat) : blks h s (n + 1) = blks (blk h s) (s.drop 64) n := by
  induction n with
  | zero => rfl
  | succ n ih =>
    rw [blks, ih, blks, List.drop_drop]
    congr 2
    omega

/-! What stands behind. -/
def be8 (x : Nat) : Nat → List UInt8
  | 0 => []
  | k + 1 => UInt8.ofNat (x / 2 ^ (8 * k)) :: be8 x k
def padL (n : Nat) : List UInt8 := 128 :: List.replicate ((119 - n % 64) % 64) 0 ++ be8 (8 * n % 18446744073709551616) 8
theorem be8_len (x k : Nat) : (be8 x k).length = k := by
  induction k with
  | zero => rfl
  | succ k ih => simp [be8, ih]
theorem padL_len (n : Nat) : (padL n).length = 1 + (119 - n % 64) % 64 + 8 := by
  simp [padL, be8_len]; omega
theorem padL_whole (n : Nat) : (n + (padL n).length) % 64 = 0 := by rw [padL_len]; omega

def H0n : List Nat := [1779033703, 3144134277, 1013904242, 2773480762, 1359893119, 2600822924, 528734635, 1541459225]
def H0 : List Wd := H0n.map (BitVec.ofNat 32)
theorem H0_len : H0.length = 8 := by decide
theorem H0_cs : cs H0 = #[.int .u32 1779033703, .int .u32 3144134277, .int .u32 1013904242, .int .u32 2773480762, .int .u32 1359893119, .int .u32 2600822924, .int .u32 528734635, .int .u32 1541459225] := by unfold cs; rfl
def wordBytes (x : Wd) : List UInt8 := [UInt8.ofNat (x.toNat / 16777216), UInt8.ofNat (x.toNat / 65536), UInt8.ofNat (x.toNat / 256), UInt8.ofNat x.toNat]
def outB : List Wd → List UInt8
  | [] => []
  | x :: r => wordBytes x ++ outB r
def sSum (s : List UInt8) : List UInt8 := outB (blks H0 (s ++ padL s.length) ((s.length + (padL s.length).length) / 64))

/-! Rows in memory. -/
theorem set8 {w : World} {g : Nat} {T : TypeId} {x0 x1 x2 x3 x4 x5 x6 x7 : Value} (h : w.heap[g]? = some (.cells #[x0, x1, x2, x3, x4, x5, x6, x7] T (0, 0))) (y0 y1 y2 y3 y4 y5 y6 y7 : Value) :
    ((((((((w.setCell ⟨g, 0, none⟩ y0).setCell ⟨g, 1, none⟩ y1).setCell ⟨g, 2, none⟩ y2).setCell ⟨g, 3, none⟩ y3).setCell ⟨g, 4, none⟩ y4).setCell ⟨g, 5, none⟩ y5).setCell ⟨g, 6, none⟩ y6).setCell ⟨g, 7, none⟩ y7).heap[g]? = some (.cells #[y0, y1, y2, y3, y4, y5, y6, y7] T (0, 0)) := by
  have h0 := Joins.block_setCell (i := 0) h y0
  have h1 := Joins.block_setCell (i := 1) h0 y1
  have h2 := Joins.block_setCell (i := 2) h1 y2
  have h3 := Joins.block_setCell (i := 3) h2 y3
  have h4 := Joins.block_setCell (i := 4) h3 y4
  have h5 := Joins.block_setCell (i := 5) h4 y5
  have h6 := Joins.block_setCell (i := 6) h5 y6
  have h7 := Joins.block_setCell (i := 7) h6 y7
  simpa using h7
theorem below8 {B : Nat} {a w : World} {g : Nat} (h : Below B a w) (hg : B ≤ g) (y0 y1 y2 y3 y4 y5 y6 y7 : Value) :
    Below B a ((((((((w.setCell ⟨g, 0, none⟩ y0).setCell ⟨g, 1, none⟩ y1).setCell ⟨g, 2, none⟩ y2).setCell ⟨g, 3, none⟩ y3).setCell ⟨g, 4, none⟩ y4).setCell ⟨g, 5, none⟩ y5).setCell ⟨g, 6, none⟩ y6).setCell ⟨g, 7, none⟩ y7) :=
  (((((((h.setCell hg _).setCell hg _).setCell hg _).setCell hg _).setCell hg _).setCell hg _).setCell hg _).setCell hg _
theorem w1_zero (s : List UInt8) : w1 s 0 = Z64 := rfl
theorem w1_succ (s : List UInt8) (k : Nat) : w1 s (k + 1) = (w1 s k).set (k / 4) (og ((w1 s k).getD (k / 4) 0) (byteAt s k)) := rfl
theorem w2_zero (w : List Wd) : w2 w 0 = w := rfl
theorem w2_succ (w : List Wd) (k : Nat) : w2 w (k + 1) = (w2 w k).set (16 + k) (nextW (w2 w k) (16 + k)) := rfl
theorem stps_zero (f : Nat → Wd) (h : List Wd) : stps f h 0 = h := rfl
theorem stps_succ (f : Nat → Wd) (h : List Wd) (t : Nat) : stps f h (t + 1) = stp (stps f h t) (f t) := rfl
theorem mix_zero (h r : List Wd) : mix h r 0 = h := rfl
theorem mix_succ (h r : List Wd) (k : Nat) : mix h r (k + 1) = (mix h r k).set k (ad (h.getD k 0) (r.getD k 0)) := rfl
theorem blks_zero (h : List Wd) (s : List UInt8) : blks h s 0 = h := rfl
theorem blks_succ (h : List Wd) (s : List UInt8) (n : Nat) : blks h s (n + 1) = blk (blks h s n) (s.drop (64 * n)) := rfl
theorem sWords_is (s : List UInt8) : sWords s = w2 (w1 s (min s.length 64)) 48 := rfl
theorem blk_is (h : List Wd) (s : List UInt8) : blk h s = mix h (stps (sKw s) h 64) 8 := rfl
theorem be8_zero (x : Nat) : be8 x 0 = [] := rfl
theorem be8_succ (x k : Nat) : be8 x (k + 1) = UInt8.ofNat (x / 2 ^ (8 * k)) :: be8 x k := rfl
/-- eight times a number, in 64 bits -/
def m8 (n : Nat) : Nat := 8 * n % 18446744073709551616
theorem m8_wrap (n : Nat) : IntKind.u64.wrap (8 * (n : Int)) = (m8 n : Int) := by
  simp [IntKind.wrap, IntKind.bits, IntKind.signed, m8]
theorem m8_mod (n : Nat) : (8 * (n : Int)) % 18446744073709551616 = (m8 n : Int) := by simp [m8]
theorem m8_mod' (n : Nat) : ((n : Int) * 8) % 18446744073709551616 = (m8 n : Int) := by rw [Int.mul_comm]; exact m8_mod n
theorem m8_wrap' (n : Nat) : IntKind.u64.wrap ((n : Int) * 8) = (m8 n : Int) := by rw [Int.mul_comm]; exact m8_wrap n
theorem m8_pad (n : Nat) : padL n = (128 :: List.replicate ((119 - n % 64) % 64) 0) ++ be8 (m8 n) 8 := rfl
theorem ofNat_mod (x : Nat) : UInt8.ofNat (x % 256) = UInt8.ofNat x := by
  apply UInt8.toNat_inj.1; simp
attribute [irreducible] w1 w2 sWords stps mix blk blks m8 be8 padL
end Go.Proofs.YtjimgncefeldbaaGreatDoor

namespace Go.Proofs.YtjimgncefeldbaaGreatDoor
open Go.RowKit

def poly : Wd := BitVec.ofNat 32 2197175160
theorem poly_wv : (2197175160 : Int) = wv poly := by decide +kernel
/-- behind one bit -/
def bit1 (x : Wd) : Wd := if x.toNat % 2 = 1 then xr (sr x 1) poly else sr x 1
/-- behind k bits -/
def bitN (x : Wd) : Nat → Wd
  | 0 => x
  | k + 1 => bit1 (bitN x k)
theorem bitN_zero (x : Wd) : bitN x 0 = x := rfl
theorem bitN_succ (x : Wd) (k : Nat) : bitN x (k + 1) = bit1 (bitN x k) := rfl
/-- behind a byte -/
def byte1 (x : Wd) (c : UInt8) : Wd := bitN (xr x (bw c)) 8
def crcL (x : Wd) (l : List UInt8) : Wd := l.foldl byte1 x
def crcS (x : Wd) (l : List UInt8) : Wd := nt (crcL (nt x) l)
theorem crcL_nil (x : Wd) : crcL x [] = x := rfl
theorem crcL_append (x : Wd) (a b : List UInt8) : crcL x (a ++ b) = crcL (crcL x a) b := List.foldl_append
theorem crcL_snoc (x : Wd) (a : List UInt8) (c : UInt8) : crcL x (a ++ [c]) = byte1 (crcL x a) c := crcL_append x a [c]
theorem nt_nt (x : Wd) : nt (nt x) = x := BitVec.not_not
theorem crcS_append (x : Wd) (a b : List UInt8) : crcS (crcS x a) b = crcS x (a ++ b) := by
  unfold crcS; rw [nt_nt, crcL_append]

theorem sr_top (x : Wd) : (sr x 1).getLsbD 31 = false := by
  unfold sr; simp
theorem poly_top : poly.getLsbD 31 = true := by decide +kernel
theorem bit1_top (x : Wd) : (bit1 x).getLsbD 31 = decide (x.toNat % 2 = 1) := by
  unfold bit1
  by_cases h : x.toNat % 2 = 1
  · rw [if_pos h]; unfold xr; rw [BitVec.getLsbD_xor, sr_top, poly_top]; simp [h]
  · rw [if_neg h, sr_top]; simp [h]
theorem sr_inj {x y : Wd} (h : sr x 1 = sr y 1) (h2 : x.toNat % 2 = y.toNat % 2) : x = y := by
  apply BitVec.eq_of_toNat_eq
  have h1 := congrArg BitVec.toNat h
  unfold sr at h1
  rw [BitVec.toNat_ushiftRight, BitVec.toNat_ushiftRight, Nat.shiftRight_eq_div_pow, Nat.shiftRight_eq_div_pow] at h1
  omega
theorem xr_inj_left {x y p : Wd} (h : xr x p = xr y p) : x = y := by
  have h1 : xr (xr x p) p = xr (xr y p) p := by rw [h]
  unfold xr at h1
  rwa [BitVec.xor_assoc, BitVec.xor_assoc, BitVec.xor_self, BitVec.xor_zero, BitVec.xor_zero] at h1
theorem xr_comm (a b : Wd) : xr a b = xr b a := BitVec.xor_comm a b
theorem xr_inj_right {x y p : Wd} (h : xr p x = xr p y) : x = y := xr_inj_left (p := p) (by rw [xr_comm x, xr_comm y, h])
theorem bit1_inj {x y : Wd} (h : bit1 x = bit1 y) : x = y := by
  have ht := congrArg (·.getLsbD 31) h
  simp only [bit1_top] at ht
  have hp := decide_eq_decide.1 ht
  unfold bit1 at h
  by_cases hx : x.toNat % 2 = 1
  · have hy := hp.1 hx
    rw [if_pos hx, if_pos hy] at h
    exact sr_inj (xr_inj_left h) (by omega)
  · have hy : ¬ y.toNat % 2 = 1 := fun e => hx (hp.2 e)
    rw [if_neg hx, if_neg hy] at h
    exact sr_inj h (by omega)
theorem bitN_inj (k : Nat) {x y : Wd} (h : bitN x k = bitN y k) : x = y := by
  induction k with
  | zero => exact h
  | succ k ih => exact ih (bit1_inj h)
theorem byte1_inj {x y : Wd} {c : UInt8} (h : byte1 x c = byte1 y c) : x = y := xr_inj_left (bitN_inj 8 h)
theorem bw_inj {c d : UInt8} (h : bw c = bw d) : c = d := by
  have h1 := congrArg BitVec.toNat h
  have := c.toNat_lt
  have := d.toNat_lt
  unfold bw at h1
  rw [BitVec.toNat_ofNat, BitVec.toNat_ofNat] at h1
  exact UInt8.toNat_inj.1 (by omega)
theorem byte1_inj2 {x : Wd} {c d : UInt8} (h : byte1 x c = byte1 x d) : c = d := bw_inj (xr_inj_right (bitN_inj 8 h))
theorem crcL_inj (l : List UInt8) {x y : Wd} (h : crcL x l = crcL y l) : x = y := by
  induction l generalizing x y with
  | nil => exact h
  | cons c l ih => exact byte1_inj (ih h)
theorem nt_inj {x y : Wd} (h : nt x = nt y) : x = y := by
  have h1 := congrArg nt h
  rwa [nt_nt, nt_nt] at h1
/-- a row of which one byte is another one has another sum -/
theorem crc_other (x : Wd) (a r : List UInt8) {c d : UInt8} (h : crcS x (a ++ c :: r) = crcS x (a ++ d :: r)) : c = d := by
  have h1 := nt_inj h
  rw [crcL_append, crcL_append] at h1
  exact byte1_inj2 (crcL_inj r h1)

theorem low_bit (x : Wd) : wv (an x 1) = wv x % 2 := by
  unfold wv an
  rw [BitVec.toNat_and]
  have : (1 : Wd).toNat = 1 := rfl
  rw [this, Nat.and_one_is_mod]
  omega
theorem low_bits (x : Wd) : bits .and .u32 (wv x) 1 = wv x % 2 := by
  have h := an_bits x 1
  rw [low_bit] at h
  exact h
theorem mod_odd {x : Wd} (h : x.toNat % 2 = 1) : wv x % 2 = 1 := by unfold wv; omega
theorem mod_even {x : Wd} (h : ¬ x.toNat % 2 = 1) : wv x % 2 = 0 := by unfold wv; omega
theorem bit1_odd {x : Wd} (h : x.toNat % 2 = 1) : bit1 x = xr (sr x 1) poly := if_pos h
theorem bit1_even {x : Wd} (h : ¬ x.toNat % 2 = 1) : bit1 x = sr x 1 := if_neg h
theorem sr1 (a : Wd) : wv a / 2 = wv (sr a 1) := sr_div a 1
theorem wv_mod (x : Wd) : wv x % 4294967296 = wv x := Int.emod_eq_of_lt (wv_ge x) (wv_lt x)
theorem wv_tmod (x : Wd) : (wv x).tmod 2 = wv x % 2 := Int.tmod_eq_emod_of_nonneg (wv_ge x)
theorem wv_tdiv (x : Wd) : (wv x).tdiv 2 = wv x / 2 := Int.tdiv_eq_ediv_of_nonneg (wv_ge x)
attribute [irreducible] bitN bit1 byte1 crcL
end Go.Proofs.YtjimgncefeldbaaGreatDoor

namespace Go.Proofs.YtjimgncefeldbaaGreatDoor
open Go.RowKit

attribute [local go_sem] xr_bits nt_bits u32_plain low_bits sr1 poly_wv wv_mod wv_tmod wv_tdiv

section
attribute [local go_sem] bw_wv
set_option maxHeartbeats 1000000 in
set_option maxRecDepth 100000 in
theorem stepCrc (x : Wd) (c : UInt8) (w : World) :
    Calls Tryz.prog 186 #[.int .u32 (wv x), .int .u8 (c.toNat : Int)] w fun e w' => e = .returned (.int .u32 (wv (byte1 x c))) ∧ w = w' := by
  have hz : byte1 x c = bitN (xr x (bw c)) 8 := by unfold byte1; rfl
  rw [hz]
  clear hz
  go_enter Tryz.func186, Tryz.ntmps186
  go_wp2
  go_loop [0, 10] (fun r i => ∃ k : Nat, k ≤ 8 ∧ i = .int .i64 k ∧ r = .int .u32 (wv (bitN (xr x (bw c)) k))) (fun _ i => 8 - (intOf i).toNat)
  case atStart => exact ⟨0, by omega, rfl, by rw [bitN_zero]⟩
  case round =>
    obtain ⟨k, hk, rfl, rfl⟩ := hrel
    by_cases hlt : k < 8
    · have hs := bitN_succ (xr x (bw c)) k
      generalize bitN (xr x (bw c)) k = r at hs ⊢
      by_cases ho : r.toNat % 2 = 1
      · rw [bit1_odd ho] at hs
        have hm := mod_odd ho
        have HS := Lib.hid hs
        clear hs ho
        go_wp2
        exact ⟨⟨k + 1, by omega, by go_num, by rw [HS.out]⟩, by simp [intOf]; omega⟩
      · rw [bit1_even ho] at hs
        have hm := mod_even ho
        have HS := Lib.hid hs
        clear hs ho
        go_wp2
        exact ⟨⟨k + 1, by omega, by go_num, by rw [HS.out]⟩, by simp [intOf]; omega⟩
    · obtain rfl : k = 8 := by omega
      go_wp2
      go_ret
      exact ⟨rfl, rfl⟩
end

theorem index_at (s : ByteArray) (j : Nat) (h : j < s.size) (W : World) : (Instr.index 9 (.string s) (.int .i64 (j : Int))).run Tryz.prog W = .ok (.int .u8 (s[j].toNat : Nat)) W := by
  have h1 := run_index_string (P := Tryz.prog) (w := W) 9 s .i64 (j : Int) Tryz.underlying9
  rw [dif_pos ⟨by omega, by omega⟩] at h1
  exact h1
theorem crc_take (x : Wd) (s : ByteArray) (k : Nat) (h : k < s.size) : crcL x (s.data.toList.take (k + 1)) = byte1 (crcL x (s.data.toList.take k)) s[k] := by
  rw [List.take_succ_eq_append_getElem (by simpa using h), crcL_snoc]; rfl

set_option maxHeartbeats 1000000 in
set_option maxRecDepth 100000 in
theorem addC (x : Wd) (s : ByteArray) (w : World) (hs : s.size ≤ maxLen) :
    Calls Tryz.prog 171 #[.int .u32 (wv x), .string s] w fun e w' => e = .returned (.int .u32 (wv (crcS x s.data.toList))) ∧ w = w' := by
  have hz : crcS x s.data.toList = nt (crcL (nt x) s.data.toList) := rfl
  rw [hz]
  clear hz
  unfold maxLen at hs
  go_enter Tryz.func171, Tryz.ntmps171
  go_wp2
  go_loop [5, 11] (fun r i => ∃ k : Nat, k ≤ s.size ∧ i = .int .i64 k ∧ r = .int .u32 (wv (crcL (nt x) (s.data.toList.take k)))) (fun _ i => s.size - (intOf i).toNat)
  case atStart => exact ⟨0, by omega, rfl, by rw [List.take_zero, crcL_nil]⟩
  case round =>
    obtain ⟨k, hk, rfl, rfl⟩ := hrel
    by_cases hlt : k < s.size
    · have hst := crc_take (nt x) s k hlt
      have hix := fun W => index_at s k hlt W
      generalize crcL (nt x) (s.data.toList.take k) = r at hst ⊢
      generalize s[k] = c at hst hix
      have HS := Lib.hid hst
      clear hst
      go_wp2_with fail
      refine (stepCrc r c _).mono ?_
      rintro e w1 ⟨rfl, rfl⟩
      go_wp2
      exact ⟨⟨k + 1, by omega, by go_num, by rw [HS.out]⟩, by simp [intOf]; omega⟩
    · obtain rfl : k = s.size := by omega
      rw [List.take_of_length_le (by simp)]
      go_wp2
      go_ret
      exact ⟨rfl, rfl⟩

theorem crcSumC (s : ByteArray) (w : World) (hs : s.size ≤ maxLen) :
    Calls Tryz.prog 146 #[.string s] w fun e w' => e = .returned (.int .u32 (wv (crcS 0 s.data.toList))) ∧ w = w' := by
  have h0 := fun W => addC 0 s W hs
  rw [show wv 0 = 0 from rfl] at h0
  generalize crcS 0 s.data.toList = r at h0 ⊢
  have H0 := Lib.hid h0
  clear h0
  go_enter Tryz.func146, Tryz.ntmps146
  go_wp2_with fail
  refine (H0.out _).mono ?_
  rintro e w1 ⟨rfl, rfl⟩
  go_wp2
  go_ret
  exact ⟨rfl, rfl⟩

section
attribute [local go_sem] bw_wv
set_option maxHeartbeats 1000000 in
set_option maxRecDepth 100000 in
theorem addR (x : Wd) (s : ByteArray) (w : World) (hs : s.size ≤ maxLen) :
    Calls Tryz.prog 109 #[.int .u32 (wv x), .string s] w fun e w' => e = .returned (.int .u32 (wv (crcS x s.data.toList))) ∧ w = w' := by
  have hz : crcS x s.data.toList = nt (crcL (nt x) s.data.toList) := rfl
  rw [hz]
  clear hz
  unfold maxLen at hs
  go_enter Tryz.func109, Tryz.ntmps109
  go_wp2
  go_loop [5, 6] (fun r i => ∃ k : Nat, k ≤ s.size ∧ i = .int .i64 k ∧ r = .int .u32 (wv (crcL (nt x) (s.data.toList.take k)))) (fun _ i => s.size - (intOf i).toNat)
  case atStart => exact ⟨0, by omega, rfl, by rw [List.take_zero, crcL_nil]⟩
  case round =>
    obtain ⟨k, hk, rfl, rfl⟩ := hrel
    by_cases hlt : k < s.size
    · have hst := crc_take (nt x) s k hlt
      have hix := fun W => index_at s k hlt W
      generalize crcL (nt x) (s.data.toList.take k) = r at hst ⊢
      generalize s[k] = c at hst hix
      have hz : byte1 r c = bitN (xr r (bw c)) 8 := by unfold byte1; rfl
      rw [hz] at hst
      have HS := Lib.hid hst
      clear hst hz
      go_wp2
      go_loop [5, 7] (fun r' i => ∃ m : Nat, m ≤ 8 ∧ i = .int .i64 m ∧ r' = .int .u32 (wv (bitN (xr r (bw c)) m))) (fun _ i => 8 - (intOf i).toNat)
      case atStart => exact ⟨0, by omega, rfl, by rw [bitN_zero]⟩
      case round =>
        obtain ⟨m, hm, rfl, rfl⟩ := hrel
        by_cases hlt2 : m < 8
        · have hs2 := bitN_succ (xr r (bw c)) m
          generalize bitN (xr r (bw c)) m = q at hs2 ⊢
          by_cases ho : q.toNat % 2 = 1
          · rw [bit1_odd ho] at hs2
            have hmm := mod_odd ho
            have HS2 := Lib.hid hs2
            clear hs2 ho
            go_wp2
            exact ⟨⟨m + 1, by omega, by go_num, by rw [HS2.out]⟩, by simp [intOf]; omega⟩
          · rw [bit1_even ho] at hs2
            have hmm := mod_even ho
            have HS2 := Lib.hid hs2
            clear hs2 ho
            go_wp2
            exact ⟨⟨m + 1, by omega, by go_num, by rw [HS2.out]; simp only [wv_mod]⟩, by simp [intOf]; omega⟩
        · obtain rfl : m = 8 := by omega
          go_wp2
          exact ⟨⟨k + 1, by omega, by go_num, by rw [HS.out]⟩, by simp [intOf]; omega⟩
    · obtain rfl : k = s.size := by omega
      rw [List.take_of_length_le (by simp)]
      go_wp2
      go_ret
      exact ⟨rfl, rfl⟩
end

theorem crcSumR (s : ByteArray) (w : World) (hs : s.size ≤ maxLen) :
    Calls Tryz.prog 71 #[.string s] w fun e w' => e = .returned (.int .u32 (wv (crcS 0 s.data.toList))) ∧ w = w' := by
  have h0 := fun W => addR 0 s W hs
  rw [show wv 0 = 0 from rfl] at h0
  generalize crcS 0 s.data.toList = r at h0 ⊢
  have H0 := Lib.hid h0
  clear h0
  go_enter Tryz.func71, Tryz.ntmps71
  go_wp2_with fail
  refine (H0.out _).mono ?_
  rintro e w1 ⟨rfl, rfl⟩
  go_wp2
  go_ret
  exact ⟨rfl, rfl⟩
end Go.Proofs.YtjimgncefeldbaaGreatDoor
