/-
  frame.sumOf, frame.Put, the document's sum and Put: what each call answers.
-/
import Derived.Test.YtmcabkoabecnnaaFramePlain
import Derived.Test.YtmcabkoabecnnaaCrcAdd
import Derived.Test.YtmcabkoabecnnaaWireText
import Derived.Test.YtmcabkoabecnnaaRefWire
import Derived.Laws.Concat
namespace Go.Proofs.Ytmcabkoabecnnaa
open Go.RowKit

/-- the row of the sum's bytes behind k of them -/
def sumRow (N k : Nat) : List UInt8 := (List.range 4).map fun j => if j < k then byteN N j else 0
theorem sumRow_zero (N : Nat) : sumRow N 0 = [0, 0, 0, 0] := by simp [sumRow, List.range, List.range.loop]
theorem sumRow_four (l : List UInt8) : sumRow (crcS 0 l).toNat 4 = sumF l := by simp [sumRow, sumF, List.range, List.range.loop]
theorem sumRow_set (N k : Nat) (hk : k < 4) : (sumRow N k).set k (byteN N k) = sumRow N (k + 1) := by
  match k, hk with
  | 0, _ => simp [sumRow, List.range, List.range.loop]
  | 1, _ => simp [sumRow, List.range, List.range.loop]
  | 2, _ => simp [sumRow, List.range, List.range.loop]
  | 3, _ => simp [sumRow, List.range, List.range.loop]
theorem sumRow_at (N k : Nat) (hk : k < 4) : (sumRow N k)[k]? = some 0 := by
  match k, hk with
  | 0, _ => simp [sumRow, List.range, List.range.loop]
  | 1, _ => simp [sumRow, List.range, List.range.loop]
  | 2, _ => simp [sumRow, List.range, List.range.loop]
  | 3, _ => simp [sumRow, List.range, List.range.loop]
theorem sumRow_len (N k : Nat) : (sumRow N k).length = 4 := by simp [sumRow]

/-- a row of four bytes in a block of its own -/
def Four (b : Nat) (l : List UInt8) (w : World) : Prop := l.length = 4 ∧ w.heap[b]? = some (.cells (Lib.byteCells l).toArray 5 (0, 0))
theorem Four.own {b B : Nat} {l : List UInt8} {w : World} (h : Four b l w) (hB : B ≤ b) : OwnB B (.slice (some ⟨b, 0, none⟩) 4 4) l w := by
  obtain ⟨hl, hh⟩ := h
  refine ⟨by simp [Lib.byteCells, hl], .inr ⟨b, 4, _, by rw [hl], hB, hh, ?_, by unfold maxLen; omega, ?_, ?_⟩⟩
  · rw [hl]; exact Nat.le_refl _
  · simp [Lib.byteCells, hl]
  · simp [Lib.byteCells, hl, List.take_of_length_le]
theorem Four.set {b : Nat} {N k : Nat} {w : World} (h : Four b (sumRow N k) w) (hk : k < 4) : Four b (sumRow N (k + 1)) (w.setCell ⟨b, k, none⟩ (.int .u8 ((N / 256 ^ k % 256 : Nat) : Int))) := by
  obtain ⟨hl, hh⟩ := h
  refine ⟨sumRow_len _ _, ?_⟩
  have h1 := Joins.block_setCell hh (i := k) (.int .u8 ((N / 256 ^ k % 256 : Nat) : Int))
  rw [h1]
  congr 2
  rw [← sumRow_set N k hk]
  apply Array.ext'
  simp only [Array.toList_setIfInBounds]
  unfold Lib.byteCells byteN
  rw [List.map_set, Lib.toUInt8_toNat (by omega)]

set_option maxHeartbeats 1000000 in
set_option maxRecDepth 100000 in
theorem sumOfC (s : ByteArray) (w : World) (hs : s.size ≤ maxLen) :
    Calls Try.prog 14 #[.string s] w fun e w' => e = .returned (.string ⟨(sumF s.data.toList).toArray⟩) ∧ Below w.heap.size w w' := by
  have hsum := fun W => sumC s W hs
  have hF := sumRow_four s.data.toList
  unfold wv at hsum
  generalize hN : (crcS 0 s.data.toList).toNat = N at hsum hF
  have hNlt : N < 4294967296 := by rw [← hN]; exact (crcS 0 s.data.toList).isLt
  clear hN
  have hmk := make_bytes 4 4 4 4 rfl rfl (by omega) (by omega) w
  have HF := Lib.hid hF
  clear hF
  go_enter Try.func14, Try.ntmps14
  go_wp2_with fail
  refine (hsum _).mono ?_
  rintro e w1 ⟨rfl, rfl⟩
  go_wp2
  go_loopw [3, 11] (fun n i wr => ∃ k : Nat, k ≤ 4 ∧ i = .int .i64 k ∧ n = .int .u32 ((N / 256 ^ k : Nat) : Int) ∧ Four w.heap.size (sumRow N k) wr ∧ Below w.heap.size w wr) (fun _ i _ => 4 - (intOf i).toNat)
  case atStart => exact ⟨0, by omega, rfl, by simp, ⟨rfl, by rw [sumRow_zero]; exact heap_alloc_new w _⟩, (Below.refl _ _).alloc (Nat.le_refl _) _⟩
  case round =>
    obtain ⟨k, hk, rfl, rfl, h4, hb⟩ := hrel
    by_cases hlt : k < 4
    · have hc : wr.cell? ⟨w.heap.size, k, none⟩ = some (.int .u8 0) := by
        rw [Joins.cell_of_block h4.2]
        simp only [List.getElem?_toArray, Lib.byteCells, List.getElem?_map, sumRow_at N k hlt]; rfl
      have hf := Joins.unfrozen_of_block h4.2 k
      have hset := h4.set hlt
      have hdiv : ((N / 256 ^ k : Nat) : Int) / 256 = ((N / 256 ^ (k + 1) : Nat) : Int) := by rw [Nat.pow_succ, ← Nat.div_div_eq_div_mul]; omega
      have hm : ((N / 256 ^ k % 256 : Nat) : Int) = ((N / 256 ^ k : Nat) : Int) % 256 := by omega
      rw [hm] at hset
      have hMlt : N / 256 ^ k < 4294967296 := Nat.lt_of_le_of_lt (Nat.div_le_self _ _) hNlt
      generalize N / 256 ^ k = M at *
      have HS := Lib.hid hset
      have HB := Lib.hid hb
      have HD := Lib.hid hdiv
      clear hset hb hdiv h4 hm
      go_wp2
      exact ⟨⟨k + 1, by omega, by go_num, by rw [← HD.out], HS.out, HB.out.setCell (Nat.le_refl _) _⟩, by simp [intOf]; omega⟩
    · obtain rfl : k = 4 := by omega
      have hconv := own_text (h4.own (Nat.le_refl w.heap.size))
      rw [HF.out] at hconv
      go_wp2
      go_ret
      exact ⟨rfl, hb⟩

theorem byteN_four (N : Nat) : Lib.byteCells ((List.range 4).map (byteN N)) = [.int .u8 ((N : Int) % 256), .int .u8 ((N : Int) / 256 % 256), .int .u8 ((N : Int) / 65536 % 256), .int .u8 ((N : Int) / 16777216 % 256)] := by
  have h : ∀ k, Value.int .u8 ((byteN N k).toNat : Nat) = .int .u8 ((N / 256 ^ k % 256 : Nat) : Int) := by
    intro k
    unfold byteN
    rw [Lib.toUInt8_toNat (by omega)]
  simp only [Lib.byteCells, List.range, List.range.loop, List.map_cons, List.map_nil, h]
  simp

set_option maxHeartbeats 1000000 in
set_option maxRecDepth 100000 in
theorem sumOfR (s : ByteArray) (w : World) (hs : s.size ≤ maxLen) :
    Calls Try.prog 16 #[.string s] w fun e w' => e = .returned (.string ⟨(sumF s.data.toList).toArray⟩) ∧ Below w.heap.size w w' := by
  have hsum := fun W => sumR s W hs
  have hF : (List.range 4).map (byteN (crcS 0 s.data.toList).toNat) = sumF s.data.toList := rfl
  unfold wv at hsum
  generalize hN : (crcS 0 s.data.toList).toNat = N at hsum hF
  have hNlt : N < 4294967296 := by rw [← hN]; exact (crcS 0 s.data.toList).isLt
  clear hN
  have h4 : Four w.heap.size (sumF s.data.toList) (w.alloc (.cells #[.int .u8 ((N : Int) % 256), .int .u8 ((N : Int) / 256 % 256), .int .u8 ((N : Int) / 65536 % 256), .int .u8 ((N : Int) / 16777216 % 256)] 5)) := by
    refine ⟨sumF_len _, ?_⟩
    rw [← hF, byteN_four]
    exact heap_alloc_new w _
  have hconv := own_text (h4.own (Nat.le_refl w.heap.size))
  rw [show (N : Int) / 16777216 % 256 = (N : Int) / 16777216 by omega] at hconv
  clear h4 hF
  go_enter Try.func16, Try.ntmps16
  go_wp2_with fail
  refine (hsum _).mono ?_
  rintro e w1 ⟨rfl, rfl⟩
  go_wp2
  go_ret
  exact ⟨rfl, (Below.refl _ _).alloc (Nat.le_refl _) _⟩

theorem encT_len (s : ByteArray) (hs : s.size ≤ 65536) : (⟨(encT s).toArray⟩ : ByteArray).size ≤ 65546 := by
  have hlen := Lib.uvarint_length64 (x := s.size) (by omega)
  show (encT s).length ≤ _
  unfold encT
  rw [List.length_append, ba_len]
  omega

set_option maxHeartbeats 1000000 in
set_option maxRecDepth 100000 in
theorem fputC (s : ByteArray) (hs : s.size ≤ 65536) (w : World) :
    Calls Try.prog 6 #[.string s] w fun e w' => e = .returned (.tuple #[.string (recB s), .int .i64 0]) ∧ Below w.heap.size w w' := by
  have ht := fun W => text_ok s hs W
  have hel := encT_len s hs
  have hsum := fun W => sumOfC ⟨(encT s).toArray⟩ W (by unfold maxLen; omega)
  have hrec : (⟨(encT s ++ sumF (encT s)).toArray⟩ : ByteArray) = recB s := rfl
  have hz : (ByteArray.mk (sumF (encT s)).toArray).size = 4 := sumF_len _
  rw [show Lib.uvarint s.size ++ s.data.toList = encT s from rfl] at ht
  have hadd := fun W => run_string_add_sum (P := Try.prog) (w := W) ⟨(encT s).toArray⟩ ⟨(sumF (encT s)).toArray⟩ (by rw [hz]; omega)
  rw [append_str, hrec] at hadd
  simp only at hsum
  generalize encT s = l at *
  generalize sumF l = q at *
  have HZ := Lib.hid hz
  have HE := Lib.hid hel
  clear hz hel hrec
  go_enter Try.func6, Try.ntmps6
  go_wp2_with fail
  refine (ht _).mono ?_
  rintro e w1 ⟨rfl, hb1⟩
  go_wp2_with fail
  refine (hsum _).mono ?_
  rintro e w2 ⟨rfl, hb2⟩
  go_wp2
  go_ret2
  exact ⟨rfl, hb1.trans (hb2.mono hb1.size)⟩

set_option maxHeartbeats 1000000 in
set_option maxRecDepth 100000 in
theorem fputE (s : ByteArray) (hs : 65536 < s.size) (w : World) :
    Calls Try.prog 6 #[.string s] w fun e w' => e = .returned (.tuple #[.string ⟨#[]⟩, .int .i64 3]) ∧ w = w' := by
  go_enter Try.func6, Try.ntmps6
  go_wp2_with fail
  refine (text_err s hs _).mono ?_
  rintro e w1 ⟨rfl, rfl⟩
  go_wp2
  go_ret2
  exact ⟨rfl, rfl⟩

set_option maxHeartbeats 1000000 in
set_option maxRecDepth 100000 in
theorem fputR (s : ByteArray) (hs : s.size ≤ 65536) (w : World) :
    Calls Try.prog 7 #[.string s] w fun e w' => e = .returned (.tuple #[.string (recB s), .int .i64 0]) ∧ Below w.heap.size w w' := by
  have ht := fun W => reftext_ok s hs W
  have hel := encT_len s hs
  have hsum := fun W => sumOfR ⟨(encT s).toArray⟩ W (by unfold maxLen; omega)
  have hrec : (⟨(encT s ++ sumF (encT s)).toArray⟩ : ByteArray) = recB s := rfl
  have hz : (ByteArray.mk (sumF (encT s)).toArray).size = 4 := sumF_len _
  rw [show Lib.uvarint s.size ++ s.data.toList = encT s from rfl] at ht
  have hadd := fun W => run_string_add_sum (P := Try.prog) (w := W) ⟨(encT s).toArray⟩ ⟨(sumF (encT s)).toArray⟩ (by rw [hz]; omega)
  rw [append_str, hrec] at hadd
  simp only at hsum
  generalize encT s = l at *
  generalize sumF l = q at *
  have HZ := Lib.hid hz
  have HE := Lib.hid hel
  clear hz hel hrec
  go_enter Try.func7, Try.ntmps7
  go_wp2_with fail
  refine (ht _).mono ?_
  rintro e w1 ⟨rfl, hb1⟩
  go_wp2_with fail
  refine (hsum _).mono ?_
  rintro e w2 ⟨rfl, hb2⟩
  go_wp2
  go_ret2
  exact ⟨rfl, hb1.trans (hb2.mono hb1.size)⟩
end Go.Proofs.Ytmcabkoabecnnaa
