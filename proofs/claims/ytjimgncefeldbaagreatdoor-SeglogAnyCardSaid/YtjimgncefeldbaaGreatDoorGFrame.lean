/-
  Plain facts: records with sums, by value: what Read and All answer. Nothing of the program.
  frame.sumOf, frame.Put, the document's sum and Put: what each call answers.
  almonryref01's reader R: what each call answers.
  almonryref01's reader R: Text, List, Done.
  frame.Read and the document's: what each call answers.
  frame.All and the document's: what each call answers.
-/
import Derived.Test.YtjimgncefeldbaaGreatDoorGWireA
import Derived.Test.YtjimgncefeldbaaGreatDoorGCrc
import Derived.Laws.Concat
import Derived.Test.YtjimgncefeldbaaGreatDoorGWireB
import Derived.Laws.ResultCell
import Derived.BigRegion
import Derived.RegionTactic
import Derived.ChangeAlike
import Derived.Test.YtjimgncefeldbaaGreatDoorGDiskB
import Derived.Lib.QuietBelow
import Derived.BigQuiet
namespace Go.Proofs.YtjimgncefeldbaaGreatDoor

/-- byte k of a word, the lowest first -/
def byteN (n k : Nat) : UInt8 := (n / 256 ^ k % 256).toUInt8
/-- the sum of some bytes as it stands in a record -/
def sumF (l : List UInt8) : List UInt8 := (List.range 4).map (byteN (crcS 0 l).toNat)
theorem sumF_len (l : List UInt8) : (sumF l).length = 4 := by simp [sumF]

/-- a text behind its length -/
def encT (s : ByteArray) : List UInt8 := Lib.uvarint s.size ++ s.data.toList
def recF (s : ByteArray) : List UInt8 := encT s ++ sumF (encT s)
def recB (s : ByteArray) : ByteArray := ⟨(recF s).toArray⟩

/-- the record with which a text begins: its text, its bytes' count, the error -/
def frd (s : ByteArray) : ByteArray × Nat × Int :=
  if (sText (s, 0)).2.2 ≠ 0 then (ByteArray.empty, 0, (sText (s, 0)).2.2)
  else if (sText (s, 0)).2.1.size < 4 then (ByteArray.empty, 0, 4)
  else if sumF (s.data.toList.take (s.size - (sText (s, 0)).2.1.size)) ≠ (sText (s, 0)).2.1.data.toList.take 4 then (ByteArray.empty, 0, 6)
  else ((sText (s, 0)).1, s.size - (sText (s, 0)).2.1.size + 4, 0)

/-- the records with which a text begins, k at most -/
def fall : Nat → ByteArray → List ByteArray × Nat
  | 0, _ => ([], 0)
  | k + 1, s => if (frd s).2.2 ≠ 0 then ([], 0)
    else ((frd s).1 :: (fall k (s.extract (frd s).2.1 s.size)).1, (frd s).2.1 + (fall k (s.extract (frd s).2.1 s.size)).2)

theorem fall_err {k : Nat} {s : ByteArray} (h : (frd s).2.2 ≠ 0) : fall k s = ([], 0) := by
  cases k with
  | zero => rfl
  | succ k => rw [fall, if_pos h]
theorem fall_ok {k : Nat} {s : ByteArray} (h : (frd s).2.2 = 0) : fall (k + 1) s = ((frd s).1 :: (fall k (s.extract (frd s).2.1 s.size)).1, (frd s).2.1 + (fall k (s.extract (frd s).2.1 s.size)).2) := by
  rw [fall, if_neg (by simp [h])]

theorem ba_eq {a b : ByteArray} (h : a.data.toList = b.data.toList) : a = b := ByteArray.ext (Array.toList_inj.1 h)
theorem ext_to (s : ByteArray) (i : Nat) : (s.extract i s.size).data.toList = s.data.toList.drop i := Lib.extract_to_end s i
theorem ba_len (s : ByteArray) : s.data.toList.length = s.size := by simp
theorem ext_size (s : ByteArray) (i : Nat) : (s.extract i s.size).size = s.size - i := by
  rw [← ba_len, ext_to, List.length_drop, ba_len]
theorem ext_ext (s : ByteArray) (i j : Nat) : (s.extract i s.size).extract j (s.extract i s.size).size = s.extract (i + j) s.size :=
  ba_eq (by rw [ext_to, ext_to, ext_to, List.drop_drop])
theorem ext_zero (s : ByteArray) : s.extract 0 s.size = s := ba_eq (by rw [ext_to]; rfl)

/-- a text that was read stands at the beginning, as it would be put -/
theorem sNum_form {s : ByteArray} (h : (sNum (s, 0)).2.2 = 0) : s.data.toList = Lib.uvarint (sNum (s, 0)).1 ++ (sNum (s, 0)).2.1.data.toList := by
  unfold sNum at h ⊢
  simp only at h ⊢
  rw [if_neg (by simp)] at h ⊢
  by_cases h2 : (numR s.data.toList).2.2 = 0
  · rw [if_pos h2]
    simp only
    rw [numR_put h2, ext_to, List.take_append_drop]
  · rw [if_neg h2] at h
    exact absurd h h2
theorem sText_form {s : ByteArray} (h : (sText (s, 0)).2.2 = 0) : s.data.toList = encT (sText (s, 0)).1 ++ (sText (s, 0)).2.1.data.toList ∧ (sText (s, 0)).1.size ≤ 65536 := by
  obtain ⟨n, s1, e1, hn⟩ : ∃ n, ∃ s1 : ByteArray, ∃ e1 : Int, sNum (s, 0) = (n, (s1, e1)) := ⟨_, _, _, rfl⟩
  by_cases he : e1 = 0
  · subst he
    have hf := sNum_form (s := s) (by rw [hn])
    rw [hn] at hf
    simp only at hf
    have hc : (sCount 65536 (s, 0)) = if 65536 < n then (0, false, (s1, 3)) else (n, true, (s1, 0)) := by
      unfold sCount; rw [hn]; simp
    unfold sText at h ⊢
    rw [hc] at h ⊢
    by_cases h1 : 65536 < n
    · rw [if_pos h1] at h; simp at h
    · rw [if_neg h1] at h ⊢
      simp only at h ⊢
      rw [if_neg (by simp)] at h ⊢
      by_cases h2 : s1.size < n
      · rw [if_pos h2] at h; simp at h
      · rw [if_neg h2]
        simp only
        have h3 : (s1.extract 0 n).data.toList = s1.data.toList.take n := by rw [Lib.extract_data]; simp
        have h4 : (s1.extract 0 n).size = n := by rw [ByteArray.size_extract]; omega
        refine ⟨?_, by omega⟩
        unfold encT
        rw [h4, h3, ext_to, List.append_assoc, List.take_append_drop, hf]
  · exfalso
    have hc : (sCount 65536 (s, 0)) = (0, false, (s1, e1)) := by unfold sCount; rw [hn]; simp [he]
    unfold sText at h
    rw [hc] at h
    simp at h
    exact he h
theorem sText_back (t : ByteArray) (ht : t.size ≤ 65536) (s : ByteArray) (r : List UInt8) (h : s.data.toList = encT t ++ r) : sText (s, 0) = (t, (⟨r.toArray⟩, 0)) := by
  have hs : s = ⟨(Lib.uvarint t.size ++ t.data.toList ++ r).toArray⟩ := ba_eq (by rw [h]; rfl)
  rw [hs]
  exact sText_enc t ht r

/-- what is read without an error is a record -/
theorem frd_form {s : ByteArray} (h : (frd s).2.2 = 0) : ∃ r, s.data.toList = recF (frd s).1 ++ r ∧ (frd s).2.1 = (recF (frd s).1).length ∧ (frd s).1.size ≤ 65536 := by
  unfold frd at h ⊢
  by_cases h1 : (sText (s, 0)).2.2 = 0
  · rw [if_neg (by simp [h1])] at h ⊢
    by_cases h2 : (sText (s, 0)).2.1.size < 4
    · rw [if_pos h2] at h; simp at h
    · rw [if_neg h2] at h ⊢
      by_cases h3 : sumF (s.data.toList.take (s.size - (sText (s, 0)).2.1.size)) ≠ (sText (s, 0)).2.1.data.toList.take 4
      · rw [if_pos h3] at h; simp at h
      · rw [if_neg h3]
        simp only
        obtain ⟨hf, hs⟩ := sText_form h1
        have hl := congrArg List.length hf
        rw [List.length_append, ba_len, ba_len] at hl
        have hlen : s.size - (sText (s, 0)).2.1.size = (encT (sText (s, 0)).1).length := by omega
        have h3' : sumF (s.data.toList.take (s.size - (sText (s, 0)).2.1.size)) = (sText (s, 0)).2.1.data.toList.take 4 := by simpa using h3
        rw [hlen] at h3' ⊢
        have ht : s.data.toList.take (encT (sText (s, 0)).1).length = encT (sText (s, 0)).1 := by rw [hf]; exact List.take_left
        rw [ht] at h3'
        refine ⟨(sText (s, 0)).2.1.data.toList.drop 4, ?_, ?_, hs⟩
        · unfold recF
          rw [h3', List.append_assoc, List.take_append_drop, ← hf]
        · unfold recF
          rw [List.length_append, sumF_len]
  · rw [if_pos h1] at h
    exact absurd h h1
/-- a record is read -/
theorem frd_rec (t : ByteArray) (ht : t.size ≤ 65536) (s : ByteArray) (r : List UInt8) (h : s.data.toList = recF t ++ r) : frd s = (t, (recF t).length, 0) := by
  have h0 : s.data.toList = encT t ++ (sumF (encT t) ++ r) := by rw [h]; unfold recF; rw [List.append_assoc]
  have h1 := sText_back t ht s _ h0
  have hl := congrArg List.length h0
  have hz : (ByteArray.mk (sumF (encT t) ++ r).toArray).size = (sumF (encT t) ++ r).length := rfl
  have hs4 := sumF_len (encT t)
  rw [List.length_append, ba_len, List.length_append, hs4] at hl
  unfold frd
  rw [h1]
  simp only
  rw [List.length_append, hs4] at hz
  rw [if_neg (by simp), if_neg (by omega)]
  have e1 : s.size - (ByteArray.mk (sumF (encT t) ++ r).toArray).size = (encT t).length := by omega
  rw [e1]
  have e2 : s.data.toList.take (encT t).length = encT t := by rw [h0]; exact List.take_left
  have e3 : (ByteArray.mk (sumF (encT t) ++ r).toArray).data.toList.take 4 = sumF (encT t) := by
    show (sumF (encT t) ++ r).take 4 = _
    rw [← hs4]; exact List.take_left
  rw [e2, e3, if_neg (by simp)]
  simp [recF, hs4]
/-- nothing is read of a part of a record -/
theorem frd_part (t : ByteArray) (ht : t.size ≤ 65536) (s : ByteArray) (q : List UInt8) (h : recF t = s.data.toList ++ q) (hq : q ≠ []) : (frd s).2.2 ≠ 0 := by
  intro h0
  obtain ⟨r, hr, hn, hs⟩ := frd_form h0
  have h1 : (⟨(recF t).toArray⟩ : ByteArray).data.toList = recF t ++ [] := by simp
  have h2 : (⟨(recF t).toArray⟩ : ByteArray).data.toList = recF (frd s).1 ++ (r ++ q) := by
    show recF t = _
    rw [h, hr, List.append_assoc]
  have e1 := frd_rec t ht _ _ h1
  have e2 := frd_rec (frd s).1 hs _ _ h2
  rw [e1] at e2
  have e3 : (recF t).length = (recF (frd s).1).length := congrArg (fun x => x.2.1) e2
  have e4 := congrArg List.length h
  have e5 := congrArg List.length hr
  rw [List.length_append] at e4 e5
  have : 0 < q.length := List.length_pos_iff.2 hq
  omega

def encRecs (l : List ByteArray) : List UInt8 := l.flatMap recF
theorem encRecs_cons (s : ByteArray) (l : List ByteArray) : encRecs (s :: l) = recF s ++ encRecs l := rfl
theorem encRecs_snoc (l : List ByteArray) (s : ByteArray) : encRecs (l ++ [s]) = encRecs l ++ recF s := by simp [encRecs]
theorem recF_pos (t : ByteArray) : 4 < (recF t).length := by
  unfold recF encT
  have : 0 < (Lib.uvarint t.size).length := by
    by_cases h : t.size < 128
    · rw [Lib.uvarint_small h]; simp
    · rw [Lib.uvarint_big (by omega)]; simp
  rw [List.length_append, List.length_append, sumF_len]; omega

/-- of records of which bytes at the end lack those that are whole are there -/
theorem fall_recs : ∀ (l : List ByteArray) (m k : Nat) (s : ByteArray), (∀ t ∈ l, t.size ≤ 65536) → m ≤ l.length → (encRecs (l.take m)).length ≤ s.size → (m < l.length → s.size < (encRecs (l.take (m + 1))).length) →
    (∃ q, encRecs l = s.data.toList ++ q) → m < k → fall k s = (l.take m, (encRecs (l.take m)).length) := by
  intro l
  induction l with
  | nil =>
    intro m k s _ hm _ _ ⟨q, hq⟩ hk
    have hs : s.size = 0 := by have := congrArg List.length hq; rw [List.length_append, ba_len] at this; simp [encRecs] at this; omega
    have hs2 : s = ⟨#[]⟩ := ba_eq (List.length_eq_zero_iff.1 (by rw [ba_len]; exact hs))
    obtain rfl : m = 0 := by simpa using hm
    have h4 : (frd s).2.2 ≠ 0 := frd_part ⟨#[]⟩ (by decide) s (recF ⟨#[]⟩) (by rw [hs2]; rfl) (fun e => by have := recF_pos ⟨#[]⟩; rw [e] at this; simp at this)
    rw [fall_err h4]; rfl
  | cons t r ih =>
    intro m k s hb hm hge hlt ⟨q, hq⟩ hk
    cases m with
    | zero =>
      have h1 := hlt (by simp)
      simp only [List.take_succ_cons, List.take_zero] at h1
      have h2 : encRecs [t] = recF t := by simp [encRecs]
      rw [h2] at h1
      rw [encRecs_cons] at hq
      have h3 : recF t = s.data.toList ++ q.take ((recF t).length - s.size) := by
        have := congrArg (List.take (recF t).length) hq
        rw [List.take_left, List.take_append, List.take_of_length_le (by rw [ba_len]; omega), ba_len] at this
        exact this
      have h4 : (frd s).2.2 ≠ 0 := frd_part t (hb t (List.mem_cons_self ..)) s _ h3 (fun e => by rw [e] at h3; have := congrArg List.length h3; rw [List.length_append, ba_len] at this; simp at this; omega)
      rw [fall_err h4]; rfl
    | succ m =>
      have ht := hb t (List.mem_cons_self ..)
      rw [List.take_succ_cons, encRecs_cons, List.length_append] at hge
      rw [encRecs_cons] at hq
      have h1 : s.data.toList = recF t ++ s.data.toList.drop (recF t).length := by
        have := congrArg (List.take (recF t).length) hq
        rw [List.take_left, List.take_append_of_le_length (by rw [ba_len]; omega)] at this
        conv => lhs; rw [← List.take_append_drop (recF t).length s.data.toList, ← this]
      have h2 := frd_rec t ht s _ h1
      obtain ⟨k, rfl⟩ : ∃ k', k = k' + 1 := ⟨k - 1, by omega⟩
      rw [fall_ok (by rw [h2]), h2]
      simp only
      have h3 := ih m k (s.extract (recF t).length s.size) (fun x hx => hb x (List.mem_cons_of_mem _ hx)) (by simpa using hm) (by rw [ext_size]; omega)
        (fun hlt2 => by have := hlt (by simpa using hlt2); rw [List.take_succ_cons, encRecs_cons, List.length_append] at this; rw [ext_size]; omega)
        ⟨q, by
          rw [ext_to]
          rw [h1, List.append_assoc] at hq
          exact List.append_cancel_left hq⟩ (by omega)
      rw [h3, List.take_succ_cons, encRecs_cons, List.length_append]
end Go.Proofs.YtjimgncefeldbaaGreatDoor

namespace Go.Proofs.YtjimgncefeldbaaGreatDoor
open Go.RowKit

/-- the row of the sum's bytes behind k of them -/
def sumRow (N k : Nat) : List UInt8 := (List.range 4).map fun j => if j < k then byteN N j else 0
theorem sumRow_zero (N : Nat) : sumRow N 0 = [0, 0, 0, 0] := by simp [sumRow, List.range, List.range.loop]
theorem sumRow_four (l : List UInt8) : sumRow (crcS 0 l).toNat 4 = sumF l := by simp [sumRow, sumF, List.range, List.range.loop]
theorem sumRow_set (N k : Nat) (hk : k < 4) : (sumRow N k).set k (byteN N k) = sumRow N (k + 1) := by
  match k, hk with
  | 0, _ => simp [sumRow, List.range, List.range.loop]
  | 1, _ => simp [sumRow, List.range, List.range.loop]
  | 2, _ => simp [sumRow, List.range, List.range.loop]
  | 3, _ => simp [sumRow, List.range, List.range.loop]
theorem sumRow_at (N k : Nat) (hk : k < 4) : (sumRow N k)[k]? = some 0 := by
  match k, hk with
  | 0, _ => simp [sumRow, List.range, List.range.loop]
  | 1, _ => simp [sumRow, List.range, List.range.loop]
  | 2, _ => simp [sumRow, List.range, List.range.loop]
  | 3, _ => simp [sumRow, List.range, List.range.loop]
theorem sumRow_len (N k : Nat) : (sumRow N k).length = 4 := by simp [sumRow]

/-- a row of four bytes in a block of its own -/
def Four (b : Nat) (l : List UInt8) (w : World) : Prop := l.length = 4 ∧ w.heap[b]? = some (.cells (Lib.byteCells l).toArray 5 (0, 0))
theorem Four.own {b B : Nat} {l : List UInt8} {w : World} (h : Four b l w) (hB : B ≤ b) : OwnB B (.slice (some ⟨b, 0, none⟩) 4 4) l w := by
  obtain ⟨hl, hh⟩ := h
  refine ⟨by simp [Lib.byteCells, hl], .inr ⟨b, 4, _, by rw [hl], hB, hh, ?_, by unfold maxLen; omega, ?_, ?_⟩⟩
  · rw [hl]; exact Nat.le_refl _
  · simp [Lib.byteCells, hl]
  · simp [Lib.byteCells, hl, List.take_of_length_le]
theorem Four.set {b : Nat} {N k : Nat} {w : World} (h : Four b (sumRow N k) w) (hk : k < 4) : Four b (sumRow N (k + 1)) (w.setCell ⟨b, k, none⟩ (.int .u8 ((N / 256 ^ k % 256 : Nat) : Int))) := by
  obtain ⟨hl, hh⟩ := h
  refine ⟨sumRow_len _ _, ?_⟩
  have h1 := Joins.block_setCell hh (i := k) (.int .u8 ((N / 256 ^ k % 256 : Nat) : Int))
  rw [h1]
  congr 2
  rw [← sumRow_set N k hk]
  apply Array.ext'
  simp only [Array.toList_setIfInBounds]
  unfold Lib.byteCells byteN
  rw [List.map_set, Lib.toUInt8_toNat (by omega)]

set_option maxHeartbeats 1000000 in
set_option maxRecDepth 100000 in
theorem sumOfC (s : ByteArray) (w : World) (hs : s.size ≤ maxLen) :
    Calls Tryz.prog 128 #[.string s] w fun e w' => e = .returned (.string ⟨(sumF s.data.toList).toArray⟩) ∧ Below w.heap.size w w' := by
  have hsum := fun W => crcSumC s W hs
  have hF := sumRow_four s.data.toList
  unfold wv at hsum
  generalize hN : (crcS 0 s.data.toList).toNat = N at hsum hF
  have hNlt : N < 4294967296 := by rw [← hN]; exact (crcS 0 s.data.toList).isLt
  clear hN
  have hmk := make_bytes 4 4 4 4 rfl rfl (by omega) (by omega) w
  have HF := Lib.hid hF
  clear hF
  go_enter Tryz.func128, Tryz.ntmps128
  go_wp2_with fail
  refine (hsum _).mono ?_
  rintro e w1 ⟨rfl, rfl⟩
  go_wp2
  go_loopw [3, 11] (fun n i wr => ∃ k : Nat, k ≤ 4 ∧ i = .int .i64 k ∧ n = .int .u32 ((N / 256 ^ k : Nat) : Int) ∧ Four w.heap.size (sumRow N k) wr ∧ Below w.heap.size w wr) (fun _ i _ => 4 - (intOf i).toNat)
  case atStart => exact ⟨0, by omega, rfl, by simp, ⟨rfl, by rw [sumRow_zero]; exact heap_alloc_new w _⟩, (Below.refl _ _).alloc (Nat.le_refl _) _⟩
  case round =>
    obtain ⟨k, hk, rfl, rfl, h4, hb⟩ := hrel
    by_cases hlt : k < 4
    · have hc : wr.cell? ⟨w.heap.size, k, none⟩ = some (.int .u8 0) := by
        rw [Joins.cell_of_block h4.2]
        simp only [List.getElem?_toArray, Lib.byteCells, List.getElem?_map, sumRow_at N k hlt]; rfl
      have hf := Joins.unfrozen_of_block h4.2 k
      have hset := h4.set hlt
      have hdiv : ((N / 256 ^ k : Nat) : Int) / 256 = ((N / 256 ^ (k + 1) : Nat) : Int) := by rw [Nat.pow_succ, ← Nat.div_div_eq_div_mul]; omega
      have hm : ((N / 256 ^ k % 256 : Nat) : Int) = ((N / 256 ^ k : Nat) : Int) % 256 := by omega
      rw [hm] at hset
      have hMlt : N / 256 ^ k < 4294967296 := Nat.lt_of_le_of_lt (Nat.div_le_self _ _) hNlt
      generalize N / 256 ^ k = M at *
      have HS := Lib.hid hset
      have HB := Lib.hid hb
      have HD := Lib.hid hdiv
      clear hset hb hdiv h4 hm
      go_wp2
      exact ⟨⟨k + 1, by omega, by go_num, by rw [← HD.out], HS.out, HB.out.setCell (Nat.le_refl _) _⟩, by simp [intOf]; omega⟩
    · obtain rfl : k = 4 := by omega
      have hconv := own_text (h4.own (Nat.le_refl w.heap.size))
      rw [HF.out] at hconv
      go_wp2
      go_ret
      exact ⟨rfl, hb⟩

theorem byteN_four (N : Nat) : Lib.byteCells ((List.range 4).map (byteN N)) = [.int .u8 ((N : Int) % 256), .int .u8 ((N : Int) / 256 % 256), .int .u8 ((N : Int) / 65536 % 256), .int .u8 ((N : Int) / 16777216 % 256)] := by
  have h : ∀ k, Value.int .u8 ((byteN N k).toNat : Nat) = .int .u8 ((N / 256 ^ k % 256 : Nat) : Int) := by
    intro k
    unfold byteN
    rw [Lib.toUInt8_toNat (by omega)]
  simp only [Lib.byteCells, List.range, List.range.loop, List.map_cons, List.map_nil, h]
  simp

set_option maxHeartbeats 1000000 in
set_option maxRecDepth 100000 in
theorem sumOfR (s : ByteArray) (w : World) (hs : s.size ≤ maxLen) :
    Calls Tryz.prog 32 #[.string s] w fun e w' => e = .returned (.string ⟨(sumF s.data.toList).toArray⟩) ∧ Below w.heap.size w w' := by
  have hsum := fun W => crcSumR s W hs
  have hF : (List.range 4).map (byteN (crcS 0 s.data.toList).toNat) = sumF s.data.toList := rfl
  unfold wv at hsum
  generalize hN : (crcS 0 s.data.toList).toNat = N at hsum hF
  have hNlt : N < 4294967296 := by rw [← hN]; exact (crcS 0 s.data.toList).isLt
  clear hN
  have h4 : Four w.heap.size (sumF s.data.toList) (w.alloc (.cells #[.int .u8 ((N : Int) % 256), .int .u8 ((N : Int) / 256 % 256), .int .u8 ((N : Int) / 65536 % 256), .int .u8 ((N : Int) / 16777216 % 256)] 5)) := by
    refine ⟨sumF_len _, ?_⟩
    rw [← hF, byteN_four]
    exact heap_alloc_new w _
  have hconv := own_text (h4.own (Nat.le_refl w.heap.size))
  rw [show (N : Int) / 16777216 % 256 = (N : Int) / 16777216 by omega] at hconv
  clear h4 hF
  go_enter Tryz.func32, Tryz.ntmps32
  go_wp2_with fail
  refine (hsum _).mono ?_
  rintro e w1 ⟨rfl, rfl⟩
  go_wp2
  go_ret
  exact ⟨rfl, (Below.refl _ _).alloc (Nat.le_refl _) _⟩

theorem encT_len (s : ByteArray) (hs : s.size ≤ 65536) : (⟨(encT s).toArray⟩ : ByteArray).size ≤ 65546 := by
  have hlen := Lib.uvarint_length64 (x := s.size) (by omega)
  show (encT s).length ≤ _
  unfold encT
  rw [List.length_append, ba_len]
  omega

set_option maxHeartbeats 1000000 in
set_option maxRecDepth 100000 in
theorem fputC (s : ByteArray) (hs : s.size ≤ 65536) (w : World) :
    Calls Tryz.prog 103 #[.string s] w fun e w' => e = .returned (.tuple #[.string (recB s), .int .i64 0]) ∧ Below w.heap.size w w' := by
  have ht := fun W => text_ok s hs W
  have hel := encT_len s hs
  have hsum := fun W => sumOfC ⟨(encT s).toArray⟩ W (by unfold maxLen; omega)
  have hrec : (⟨(encT s ++ sumF (encT s)).toArray⟩ : ByteArray) = recB s := rfl
  have hz : (ByteArray.mk (sumF (encT s)).toArray).size = 4 := sumF_len _
  rw [show Lib.uvarint s.size ++ s.data.toList = encT s from rfl] at ht
  have hadd := fun W => run_string_add_sum (P := Tryz.prog) (w := W) ⟨(encT s).toArray⟩ ⟨(sumF (encT s)).toArray⟩ (by rw [hz]; omega)
  rw [append_str, hrec] at hadd
  simp only at hsum
  generalize encT s = l at *
  generalize sumF l = q at *
  have HZ := Lib.hid hz
  have HE := Lib.hid hel
  clear hz hel hrec
  go_enter Tryz.func103, Tryz.ntmps103
  go_wp2_with fail
  refine (ht _).mono ?_
  rintro e w1 ⟨rfl, hb1⟩
  go_wp2_with fail
  refine (hsum _).mono ?_
  rintro e w2 ⟨rfl, hb2⟩
  go_wp2
  go_ret2
  exact ⟨rfl, hb1.trans (hb2.mono hb1.size)⟩

set_option maxHeartbeats 1000000 in
set_option maxRecDepth 100000 in
theorem fputE (s : ByteArray) (hs : 65536 < s.size) (w : World) :
    Calls Tryz.prog 103 #[.string s] w fun e w' => e = .returned (.tuple #[.string ⟨#[]⟩, .int .i64 3]) ∧ w = w' := by
  go_enter Tryz.func103, Tryz.ntmps103
  go_wp2_with fail
  refine (text_err s hs _).mono ?_
  rintro e w1 ⟨rfl, rfl⟩
  go_wp2
  go_ret2
  exact ⟨rfl, rfl⟩

set_option maxHeartbeats 1000000 in
set_option maxRecDepth 100000 in
theorem fputR (s : ByteArray) (hs : s.size ≤ 65536) (w : World) :
    Calls Tryz.prog 7 #[.string s] w fun e w' => e = .returned (.tuple #[.string (recB s), .int .i64 0]) ∧ Below w.heap.size w w' := by
  have ht := fun W => reftext_ok s hs W
  have hel := encT_len s hs
  have hsum := fun W => sumOfR ⟨(encT s).toArray⟩ W (by unfold maxLen; omega)
  have hrec : (⟨(encT s ++ sumF (encT s)).toArray⟩ : ByteArray) = recB s := rfl
  have hz : (ByteArray.mk (sumF (encT s)).toArray).size = 4 := sumF_len _
  rw [show Lib.uvarint s.size ++ s.data.toList = encT s from rfl] at ht
  have hadd := fun W => run_string_add_sum (P := Tryz.prog) (w := W) ⟨(encT s).toArray⟩ ⟨(sumF (encT s)).toArray⟩ (by rw [hz]; omega)
  rw [append_str, hrec] at hadd
  simp only at hsum
  generalize encT s = l at *
  generalize sumF l = q at *
  have HZ := Lib.hid hz
  have HE := Lib.hid hel
  clear hz hel hrec
  go_enter Tryz.func7, Tryz.ntmps7
  go_wp2_with fail
  refine (ht _).mono ?_
  rintro e w1 ⟨rfl, hb1⟩
  go_wp2_with fail
  refine (hsum _).mono ?_
  rintro e w2 ⟨rfl, hb2⟩
  go_wp2
  go_ret2
  exact ⟨rfl, hb1.trans (hb2.mono hb1.size)⟩
end Go.Proofs.YtjimgncefeldbaaGreatDoor

namespace Go.Proofs.YtjimgncefeldbaaGreatDoor
open Go.RowKit

/-- a state as a value -/
abbrev rv (st : ByteArray × Int) : Value := .agg #[.string st.1, .int .i64 st.2]

theorem lev_drop (l : List UInt8) (i : Nat) (h : i < l.length) : lev (l.drop i) = l[i].toNat % 128 + 128 * lev (l.drop (i + 1)) := by
  rw [List.drop_eq_getElem_cons h]; rfl

/-- numR, in the order in which the document's answer asks -/
theorem numR_form {l : List UInt8} (h1 : run l < l.length) (h2 : run l ≤ 7) (h3 : l.getD (run l) 0 = 0) (h4 : 0 < run l) : numR l = (0, 0, 5) := by
  have e : l.take (run l + 1) = l.take (run l) ++ [l[run l]] := by rw [List.take_succ_eq_append_getElem h1]
  have hz : l[run l] = 0 := by rw [List.getD_eq_getElem?_getD, List.getElem?_eq_getElem h1] at h3; exact h3
  have hv : lev (l.take (run l + 1)) = lev (l.take (run l)) := by rw [e, lev_snoc, hz]; simp
  have hlt := lev_lt (l.take (run l))
  have hle : (l.take (run l)).length = run l := by rw [List.length_take]; omega
  have hp : 128 ^ run l ≤ 128 ^ 7 := Nat.pow_le_pow_right (by omega) h2
  rw [hle] at hlt
  unfold numR
  rw [if_neg (by omega), if_neg (by rw [hv]; omega), if_pos ⟨h3, h4⟩]

theorem below2 (w : World) (o1 o2 : Obj) : Below w.heap.size w ((w.alloc o1).alloc o2) := ((Below.refl _ _).alloc (Nat.le_refl _) _).alloc (by simp) _

end Go.Proofs.YtjimgncefeldbaaGreatDoor

namespace Go.Proofs.YtjimgncefeldbaaGreatDoor
open Go.RowKit

/-- the state that R hands on: on an error, what was left ahead -/
def qSt (st st' : ByteArray × Int) : ByteArray × Int := if st'.2 = 0 then st' else (st.1, st'.2)

theorem sText_e {st : ByteArray × Int} {n : Nat} {s1 : ByteArray} {e : Int} (h : sNum st = (n, (s1, e))) (he : e ≠ 0) : sText st = (ByteArray.empty, (s1, e)) := by
  have hc : sCount 65536 st = (0, false, (s1, e)) := by simp [sCount, h, he]
  simp [sText, hc]
theorem sText_l {st : ByteArray × Int} {n : Nat} {s1 : ByteArray} (h : sNum st = (n, (s1, 0))) (hn : 65536 < n) : sText st = (ByteArray.empty, (s1, 3)) := by
  have hc : sCount 65536 st = (0, false, (s1, 3)) := by simp [sCount, h, hn]
  simp [sText, hc]
theorem sText_c {st : ByteArray × Int} {n : Nat} {s1 : ByteArray} (h : sNum st = (n, (s1, 0))) (hn : ¬ 65536 < n) (hs : s1.size < n) : sText st = (ByteArray.empty, (s1, 4)) := by
  have hc : sCount 65536 st = (n, true, (s1, 0)) := by simp [sCount, h, hn]
  simp [sText, hc, hs]
theorem sText_k {st : ByteArray × Int} {n : Nat} {s1 : ByteArray} (h : sNum st = (n, (s1, 0))) (hn : ¬ 65536 < n) (hs : ¬ s1.size < n) : sText st = (s1.extract 0 n, (s1.extract n s1.size, 0)) := by
  have hc : sCount 65536 st = (n, true, (s1, 0)) := by simp [sCount, h, hn]
  simp [sText, hc, hs]

/-- two blocks of two cells, made ahead of a call that leaves them alone -/
theorem two_keep {w w1 : World} {T : TypeId} {x0 x1 y0 y1 : Value} (h : Below ((w.alloc (.cells #[x0, x1] T)).alloc (.cells #[y0, y1] T)).heap.size ((w.alloc (.cells #[x0, x1] T)).alloc (.cells #[y0, y1] T)) w1) :
    w1.cell? ⟨w.heap.size, 0, none⟩ = some x0 ∧ w1.cell? ⟨w.heap.size, 1, none⟩ = some x1 ∧ w1.cell? ⟨w.heap.size + 1, 0, none⟩ = some y0 ∧ w1.cell? ⟨w.heap.size + 1, 1, none⟩ = some y1 ∧
    w1.frozen? ⟨w.heap.size + 1, 0, none⟩ = false ∧ w1.frozen? ⟨w.heap.size + 1, 1, none⟩ = false ∧ w.heap.size + 1 < w1.heap.size ∧ Below w.heap.size w w1 := by
  have hz := h.size
  have e0 : ((w.alloc (.cells #[x0, x1] T)).alloc (.cells #[y0, y1] T)).heap[w.heap.size]? = some (.cells #[x0, x1] T (0, 0)) := by
    rw [Below.heap_alloc _ _ _ (by simp)]; simp [World.alloc, -World.alloc_eq]
  have e1 : ((w.alloc (.cells #[x0, x1] T)).alloc (.cells #[y0, y1] T)).heap[w.heap.size + 1]? = some (.cells #[y0, y1] T (0, 0)) := by
    show ((w.heap.push _).push _)[w.heap.size + 1]? = _
    have : w.heap.size + 1 = (w.heap.push (.cells #[x0, x1] T)).size := by simp
    rw [this, Array.getElem?_push_size]
  have h0 : w1.heap[w.heap.size]? = some (.cells #[x0, x1] T (0, 0)) := by rw [h.block _ (by simp; omega)]; exact e0
  have h1 : w1.heap[w.heap.size + 1]? = some (.cells #[y0, y1] T (0, 0)) := by rw [h.block _ (by simp)]; exact e1
  refine ⟨by rw [Joins.cell_of_block h0]; rfl, by rw [Joins.cell_of_block h0]; rfl, by rw [Joins.cell_of_block h1]; rfl, by rw [Joins.cell_of_block h1]; rfl, Joins.unfrozen_of_block h1 0, Joins.unfrozen_of_block h1 1, by simp at hz; omega, (below2 w _ _).trans (h.mono (by simp; omega))⟩

/-- a result of two cells, stored, and a block made behind it -/
theorem ends0 {w : World} {b : Nat} {y0 y1 : Value} (h0 : w.cell? ⟨b, 0, none⟩ = some y0) (_h1 : w.cell? ⟨b, 1, none⟩ = some y1) (hlt : b < w.heap.size) (x0 x1 : Value) (o : Obj) :
    (((w.setCell ⟨b, 0, none⟩ x0).setCell ⟨b, 1, none⟩ x1).alloc o).cell? ⟨b, 0, none⟩ = some x0 := by
  rw [World.cell?_alloc_past _ _ _ (by simpa using hlt), World.cell?_setCell_other _ _ _ _ (by simp), World.cell?_setCell_same _ _ _ h0]
theorem ends1 {w : World} {b : Nat} {y0 y1 : Value} (_h0 : w.cell? ⟨b, 0, none⟩ = some y0) (h1 : w.cell? ⟨b, 1, none⟩ = some y1) (hlt : b < w.heap.size) (x0 x1 : Value) (o : Obj) :
    (((w.setCell ⟨b, 0, none⟩ x0).setCell ⟨b, 1, none⟩ x1).alloc o).cell? ⟨b, 1, none⟩ = some x1 := by
  rw [World.cell?_alloc_past _ _ _ (by simpa using hlt), World.cell?_setCell_same _ _ _ ((World.cell?_setCell_other _ _ _ _ (by simp)).trans h1)]

end Go.Proofs.YtjimgncefeldbaaGreatDoor

namespace Go.Proofs.YtjimgncefeldbaaGreatDoor
open Go.RowKit Go.Sort

theorem frd_sText {s t r : ByteArray} (h : sText (s, 0) = (t, (r, 0))) : t.size ≤ 65536 ∧ s.size = (encT t).length + r.size ∧
    frd s = if r.size < 4 then (ByteArray.empty, 0, 4) else if hasP (recB t) s = true then (t, (recB t).size, 0) else (ByteArray.empty, 0, 6) := by
  have hf := sText_form (s := s) (by rw [h])
  rw [h] at hf
  obtain ⟨hf, ht⟩ := hf
  simp only at hf ht
  have hl := congrArg List.length hf
  rw [List.length_append, ba_len, ba_len] at hl
  refine ⟨ht, hl, ?_⟩
  unfold frd
  rw [h]
  simp only
  rw [if_neg (by simp)]
  by_cases h4 : r.size < 4
  · rw [if_pos h4, if_pos h4]
  · rw [if_neg h4, if_neg h4]
    have e1 : s.size - r.size = (encT t).length := by omega
    have e2 : s.data.toList.take (encT t).length = encT t := by rw [hf]; exact List.take_left
    rw [e1, e2]
    have hr4 : sumF (encT t) = r.data.toList.take 4 ↔ hasP (recB t) s = true := by
      unfold hasP Lib.hasPrefix
      rw [List.isPrefixOf_iff_prefix, List.prefix_iff_eq_take]
      show _ ↔ recF t = List.take (recF t).length s.data.toList
      have e3 : (recF t).length = (encT t).length + 4 := by unfold recF; rw [List.length_append, sumF_len]
      rw [e3, hf, List.take_append, List.take_of_length_le (l := encT t) (by omega)]
      have e4 : (encT t).length + 4 - (encT t).length = 4 := by omega
      rw [e4]
      unfold recF
      constructor
      · intro h; rw [h]
      · intro h; exact List.append_cancel_left h
    have e5 : (recB t).size = (encT t).length + 4 := by show (recF t).length = _; unfold recF; rw [List.length_append, sumF_len]
    by_cases hp : hasP (recB t) s = true
    · rw [if_neg (by simpa using hr4.2 hp), if_pos hp, e5]
    · rw [if_pos (fun e => hp (hr4.1 e)), if_neg hp]

set_option maxHeartbeats 1000000 in
set_option maxRecDepth 100000 in
theorem freadC (s : ByteArray) (w : World) (hs : s.size ≤ 1000000) :
    Calls Tryz.prog 112 #[.string s] w fun e w' => e = .returned (.tuple #[.string (frd s).1, .int .i64 (frd s).2.1, .int .i64 (frd s).2.2]) ∧ Below w.heap.size w w' := by
  obtain ⟨t, r, er, hT⟩ : ∃ t, ∃ r : ByteArray, ∃ er : Int, sText (s, 0) = (t, (r, er)) := ⟨_, _, _, rfl⟩
  have ht := fun W h => rtext_any w.heap.size (s, 0) W h (by simp only; omega)
  rw [hT] at ht
  simp only at ht
  go_enter Tryz.func112, Tryz.ntmps112
  go_wp2_with fail
  refine (new_any s w).mono ?_
  rintro e w1 ⟨rfl, hw1⟩
  have hrd := Rd.made s w
  have hb1 : Below w.heap.size w w1 := by rw [← hw1]; exact (Below.refl _ _).alloc (Nat.le_refl _) _
  rw [hw1] at hrd
  have HB1 := Lib.hid hb1
  have HT := Lib.hid hT
  clear hw1 hb1 hT
  go_wp2_with fail
  refine (ht w1 hrd).mono ?_
  rintro e w2 ⟨rfl, hrd2, hg⟩
  have hb2 : Below w.heap.size w w2 := HB1.out.grown hg HB1.out.size (fun i hi => by cases hi; exact Nat.le_refl _)
  have HB2 := Lib.hid hb2
  clear hrd ht hb2 hg
  go_wp2_with fail
  refine (err_any w.heap.size (r, er) w2 hrd2).mono ?_
  rintro e w3 ⟨rfl, rfl⟩
  clear hrd2
  simp only
  by_cases he : er = 0
  · subst he
    obtain ⟨hts, hsz, hfr⟩ := frd_sText HT.out
    have hes := encT_len t hts
    have hrz : (recB t).size = (encT t).length + 4 := by show (recF t).length = _; unfold recF; rw [List.length_append, sumF_len]
    have hpf := fun W => prefix_any s (recB t) W
    have HP := Lib.hid hpf
    have HFR := Lib.hid hfr
    clear hpf hfr
    go_wp2_with fail
    refine (fputC t hts _).mono ?_
    rintro e w4 ⟨rfl, hb4⟩
    have HB4 := Lib.hid (HB2.out.trans (hb4.mono HB2.out.size))
    clear hb4
    by_cases h4 : r.size < 4
    · have hlt : decide ((s.size : Int) < ((recB t).size : Int)) = true := by simp; omega
      go_wp2_with fail
      go_ret3
      refine ⟨?_, HB4.out⟩
      rw [HFR.out, if_pos h4]; rfl
    · have hlt : decide ((s.size : Int) < ((recB t).size : Int)) = false := by simp; omega
      go_wp2_with fail
      refine (HP.out _).mono ?_
      rintro e w5 ⟨rfl, rfl⟩
      by_cases hp : hasP (recB t) s = true
      · rw [hp]
        go_wp2_with fail
        go_ret3
        refine ⟨?_, HB4.out⟩
        rw [HFR.out, if_neg h4, if_pos hp, hrz]; rfl
      · have hpf : hasP (recB t) s = false := by simpa using hp
        rw [hpf]
        go_wp2_with fail
        go_ret3
        refine ⟨?_, HB4.out⟩
        rw [HFR.out, if_neg h4, if_neg hp]; rfl
  · have hb : (er != 0) = true := by simp [he]
    have hfr : frd s = (ByteArray.empty, 0, er) := by unfold frd; rw [HT.out]; simp [he]
    have HFR := Lib.hid hfr
    clear hfr
    go_wp2_with fail
    go_ret3
    refine ⟨?_, HB2.out⟩
    rw [HFR.out]; rfl

theorem frd_ref {s t r : ByteArray} (h : sText (s, 0) = (t, (r, 0))) : r.size ≤ s.size ∧
    frd s = if r.size < 4 then (ByteArray.empty, 0, 4) else if (!sumF (s.extract 0 (s.size - r.size)).data.toList == (r.extract 0 4).toList) = false then (t, s.size - r.size + 4, 0) else (ByteArray.empty, 0, 6) := by
  have hz := sText_size (s, 0)
  rw [h] at hz
  refine ⟨hz, ?_⟩
  unfold frd
  rw [h]
  simp only
  rw [if_neg (by simp)]
  by_cases h4 : r.size < 4
  · rw [if_pos h4, if_pos h4]
  · rw [if_neg h4, if_neg h4]
    have e1 : (s.extract 0 (s.size - r.size)).data.toList = s.data.toList.take (s.size - r.size) := by rw [Lib.extract_data]; simp
    have e2 : (r.extract 0 4).toList = r.data.toList.take 4 := by rw [ByteArray.toList_eq, Lib.extract_data]; simp
    rw [e1, e2]
    by_cases hp : sumF (s.data.toList.take (s.size - r.size)) = r.data.toList.take 4
    · rw [if_neg (by simp [hp]), if_pos (by simp [hp])]
    · rw [if_pos hp, if_neg (by simp [hp])]

end Go.Proofs.YtjimgncefeldbaaGreatDoor

namespace Go.Proofs.YtjimgncefeldbaaGreatDoor
open Go.RowKit

def fallS (s : ByteArray) : List ByteArray × Nat := fall (s.size + 1) s

theorem frd_small {s : ByteArray} (h : (frd s).2.2 = 0) : 4 < (frd s).2.1 ∧ (frd s).2.1 ≤ s.size := by
  obtain ⟨r, hr, hn, _⟩ := frd_form h
  have h1 := recF_pos (frd s).1
  have h2 := congrArg List.length hr
  rw [List.length_append, ba_len] at h2
  omega

/-- what holds of the loop behind some rounds -/
def FRel (w : World) (s : ByteArray) (v i : Value) (wr : World) : Prop :=
  ∃ (p m : Nat) (acc : List ByteArray), i = .int .i64 p ∧ p ≤ s.size ∧ s.size - p < m ∧ acc.length ≤ p ∧ OwnS w.heap.size v acc wr ∧ Below w.heap.size w wr ∧
    fallS s = (acc ++ (fall m (s.extract p s.size)).1, p + (fall m (s.extract p s.size)).2)

theorem FRel.start (w : World) (s : ByteArray) : FRel w s (.slice none 0 0) (.int .i64 0) w :=
  ⟨0, s.size + 1, [], rfl, Nat.zero_le _, by omega, Nat.le_refl _, ownS_nil _ _, Below.refl _ _, by rw [ext_zero]; simp [fallS]⟩

set_option maxHeartbeats 2000000 in
set_option maxRecDepth 100000 in
theorem fallC (s : ByteArray) (w : World) (hs : s.size ≤ 1000000) :
    Calls Tryz.prog 86 #[.string s] w fun e w' => ∃ v, e = .returned (.tuple #[v, .int .i64 (fallS s).2]) ∧ OwnS w.heap.size v (fallS s).1 w' ∧ Below w.heap.size w w' := by
  obtain ⟨i0, hi, hz0, hz1, hz2⟩ := info_parts strInfo
  go_enter Tryz.func86, Tryz.ntmps86
  go_wp2
  go_step3
  go_wp2
  go_step3
  go_wp2_with fail
  go_loopw [4, 5] (fun v i wr => FRel w s v i wr) (fun _ i _ => s.size - (intOf i).toNat)
  case atStart => exact FRel.start w s
  case round =>
    obtain ⟨p, m, acc, rfl, hp, hm, hacc, hown, hb, heq⟩ := hrel
    have hes : (s.extract p s.size).size ≤ 1000000 := by rw [ext_size]; omega
    have hez := ext_size s p
    have hee := fun j => ext_ext s p j
    have hpI : (p : Int) ≤ (s.size : Int) := by omega
    have hpn : ((p : Int)).toNat = p := by omega
    obtain ⟨q, hq⟩ : ∃ q, s.extract p s.size = q := ⟨_, rfl⟩
    have hrd := fun W => freadC q W (by rw [← hq]; exact hes)
    rw [hq] at heq hez hee
    have hfs := @frd_small q
    have hfe := fun k => @fall_err k q
    have hfo := fun k => @fall_ok k q
    obtain ⟨t, n, er, hf⟩ : ∃ t, ∃ n : Nat, ∃ er : Int, frd q = (t, n, er) := ⟨_, _, _, rfl⟩
    rw [hf] at hrd hfs
    simp only [hf] at hfe hfo
    simp only at hrd hfs
    have HQ := Lib.hid heq
    have HE := Lib.hid hee
    have HB := Lib.hid hb
    have HF := Lib.hid (And.intro hfe hfo)
    have hbs := hb.size
    clear heq hee hb hes hf hfe hfo
    go_wp2_with fail
    refine (hrd _).mono ?_
    rintro e w2 ⟨rfl, hb2⟩
    have hbs2 := hb2.size
    have hown2 := hown.below hb2 (Nat.le_refl _)
    have hB2 := HB.out.trans (hb2.mono hbs)
    have HB2 := Lib.hid hB2
    clear hown hrd hb2 hB2
    by_cases he : er = 0
    · subst he
      obtain ⟨hn4, hns⟩ := hfs rfl
      clear hfs
      go_wp2_with (at_builtin; refine wpList_append_own _ rfl _ _ 40 rfl w.heap.size 9 i0 (.string ByteArray.empty) 1 16 Tryz.underlying40 hi hz0 hz1 hz2 rfl (by decide) _ _ _ rfl (World.ownsRow.alloc hown2 _) ⟨w2.heap.size, 0, none⟩ 1 1 [Value.string t] rfl rfl ?c1 ?c2 ?c3 ?c4 ?c5 ?_)
      case c1 =>
        intro j u hj
        match j, hj with
        | 0, hj => simp at hj; subst hj; simp [Addr.add]
      case c2 => intro u hu; simp at hu; subst hu; rfl
      case c3 => unfold maxLen; omega
      case c4 => omega
      case c5 => simp; omega
      intro v' w3 hown3 hg3 _
      have hown4 : OwnS w.heap.size v' (acc ++ [t]) w3 := by unfold OwnS; rw [List.length_append, List.map_append]; exact hown3
      have hB3 : Below w.heap.size w w3 := (HB2.out.alloc (by omega) _).grown hg3 (by simp; omega) (fun j hj => (World.ownsRow.lt hown2 j hj).1)
      have H4 := Lib.hid hown4
      have HB3 := Lib.hid hB3
      clear hown3 hown2 hown4 hg3 hB3
      go_wp2_with fail
      go_roundw
      case rel =>
        obtain ⟨m, rfl⟩ : ∃ m', m = m' + 1 := ⟨m - 1, by omega⟩
        refine ⟨p + n, m, acc ++ [t], by go_num, by omega, by omega, by rw [List.length_append]; simp; omega, H4.out, HB3.out, ?_⟩
        rw [HQ.out, HF.out.2 m trivial, HE.out n]
        simp [Nat.add_assoc]
      case measure => simp [intOf]; omega
    · have hb : (er == 0) = false := by simp [he]
      have hz : fall m q = ([], 0) := HF.out.1 m he
      have hfin : fallS s = (acc, p) := by rw [HQ.out, hz]; simp
      have HFIN := Lib.hid hfin
      clear hfin hz
      go_wp2_with fail
      rw [Exit.noGoto_ret]
      go_ret2
      rw [HFIN.out]
      exact ⟨_, rfl, hown2, HB2.out⟩

end Go.Proofs.YtjimgncefeldbaaGreatDoor
