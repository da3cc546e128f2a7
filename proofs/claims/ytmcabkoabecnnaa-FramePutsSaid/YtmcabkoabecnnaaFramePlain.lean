/-
  Plain facts: records with sums, by value: what Read and All answer. Nothing of the program.
-/
import Derived.Test.YtmcabkoabecnnaaWireInv
import Derived.Test.YtmcabkoabecnnaaWirePlain
import Derived.Test.YtmcabkoabecnnaaCrcPlain
namespace Go.Proofs.Ytmcabkoabecnnaa

/-- byte k of a word, the lowest first -/
def byteN (n k : Nat) : UInt8 := (n / 256 ^ k % 256).toUInt8
/-- the sum of some bytes as it stands in a record -/
def sumF (l : List UInt8) : List UInt8 := (List.range 4).map (byteN (crcS 0 l).toNat)
theorem sumF_len (l : List UInt8) : (sumF l).length = 4 := by simp [sumF]

/-- a text behind its length -/
def encT (s : ByteArray) : List UInt8 := Lib.uvarint s.size ++ s.data.toList
def recF (s : ByteArray) : List UInt8 := encT s ++ sumF (encT s)
def recB (s : ByteArray) : ByteArray := ⟨(recF s).toArray⟩

/-- the record with which a text begins: its text, its bytes' count, the error -/
def frd (s : ByteArray) : ByteArray × Nat × Int :=
  if (sText (s, 0)).2.2 ≠ 0 then (ByteArray.empty, 0, (sText (s, 0)).2.2)
  else if (sText (s, 0)).2.1.size < 4 then (ByteArray.empty, 0, 4)
  else if sumF (s.data.toList.take (s.size - (sText (s, 0)).2.1.size)) ≠ (sText (s, 0)).2.1.data.toList.take 4 then (ByteArray.empty, 0, 6)
  else ((sText (s, 0)).1, s.size - (sText (s, 0)).2.1.size + 4, 0)

/-- the records with which a text begins, k at most -/
def fall : Nat → ByteArray → List ByteArray × Nat
  | 0, _ => ([], 0)
  | k + 1, s => if (frd s).2.2 ≠ 0 then ([], 0)
    else ((frd s).1 :: (fall k (s.extract (frd s).2.1 s.size)).1, (frd s).2.1 + (fall k (s.extract (frd s).2.1 s.size)).2)

theorem fall_err {k : Nat} {s : ByteArray} (h : (frd s).2.2 ≠ 0) : fall k s = ([], 0) := by
  cases k with
  | zero => rfl
  | succ k => rw [fall, if_pos h]
theorem fall_ok {k : Nat} {s : ByteArray} (h : (frd s).2.2 = 0) : fall (k + 1) s = ((frd s).1 :: (fall k (s.extract (frd s).2.1 s.size)).1, (frd s).2.1 + (fall k (s.extract (frd s).2.1 s.size)).2) := by
  rw [fall, if_neg (by simp [h])]

theorem ba_eq {a b : ByteArray} (h : a.data.toList = b.data.toList) : a = b := ByteArray.ext (Array.toList_inj.1 h)
theorem ext_to (s : ByteArray) (i : Nat) : (s.extract i s.size).data.toList = s.data.toList.drop i := Lib.extract_to_end s i
theorem ba_len (s : ByteArray) : s.data.toList.length = s.size := by simp
theorem ext_size (s : ByteArray) (i : Nat) : (s.extract i s.size).size = s.size - i := by
  rw [← ba_len, ext_to, List.length_drop, ba_len]
theorem ext_ext (s : ByteArray) (i j : Nat) : (s.extract i s.size).extract j (s.extract i s.size).size = s.extract (i + j) s.size :=
  ba_eq (by rw [ext_to, ext_to, ext_to, List.drop_drop])
theorem ext_zero (s : ByteArray) : s.extract 0 s.size = s := ba_eq (by rw [ext_to]; rfl)

/-- a text that was read stands at the beginning, as it would be put -/
theorem sNum_form {s : ByteArray} (h : (sNum (s, 0)).2.2 = 0) : s.data.toList = Lib.uvarint (sNum (s, 0)).1 ++ (sNum (s, 0)).2.1.data.toList := by
  unfold sNum at h ⊢
  simp only at h ⊢
  rw [if_neg (by simp)] at h ⊢
  by_cases h2 : (numR s.data.toList).2.2 = 0
  · rw [if_pos h2]
    simp only
    rw [numR_put h2, ext_to, List.take_append_drop]
  · rw [if_neg h2] at h
    exact absurd h h2
theorem sText_form {s : ByteArray} (h : (sText (s, 0)).2.2 = 0) : s.data.toList = encT (sText (s, 0)).1 ++ (sText (s, 0)).2.1.data.toList ∧ (sText (s, 0)).1.size ≤ 65536 := by
  obtain ⟨n, s1, e1, hn⟩ : ∃ n, ∃ s1 : ByteArray, ∃ e1 : Int, sNum (s, 0) = (n, (s1, e1)) := ⟨_, _, _, rfl⟩
  by_cases he : e1 = 0
  · subst he
    have hf := sNum_form (s := s) (by rw [hn])
    rw [hn] at hf
    simp only at hf
    have hc : (sCount 65536 (s, 0)) = if 65536 < n then (0, false, (s1, 3)) else (n, true, (s1, 0)) := by
      unfold sCount; rw [hn]; simp
    unfold sText at h ⊢
    rw [hc] at h ⊢
    by_cases h1 : 65536 < n
    · rw [if_pos h1] at h; simp at h
    · rw [if_neg h1] at h ⊢
      simp only at h ⊢
      rw [if_neg (by simp)] at h ⊢
      by_cases h2 : s1.size < n
      · rw [if_pos h2] at h; simp at h
      · rw [if_neg h2]
        simp only
        have h3 : (s1.extract 0 n).data.toList = s1.data.toList.take n := by rw [Lib.extract_data]; simp
        have h4 : (s1.extract 0 n).size = n := by rw [ByteArray.size_extract]; omega
        refine ⟨?_, by omega⟩
        unfold encT
        rw [h4, h3, ext_to, List.append_assoc, List.take_append_drop, hf]
  · exfalso
    have hc : (sCount 65536 (s, 0)) = (0, false, (s1, e1)) := by unfold sCount; rw [hn]; simp [he]
    unfold sText at h
    rw [hc] at h
    simp at h
    exact he h
theorem sText_back (t : ByteArray) (ht : t.size ≤ 65536) (s : ByteArray) (r : List UInt8) (h : s.data.toList = encT t ++ r) : sText (s, 0) = (t, (⟨r.toArray⟩, 0)) := by
  have hs : s = ⟨(Lib.uvarint t.size ++ t.data.toList ++ r).toArray⟩ := ba_eq (by rw [h]; rfl)
  rw [hs]
  exact sText_enc t ht r

/-- what is read without an error is a record -/
theorem frd_form {s : ByteArray} (h : (frd s).2.2 = 0) : ∃ r, s.data.toList = recF (frd s).1 ++ r ∧ (frd s).2.1 = (recF (frd s).1).length ∧ (frd s).1.size ≤ 65536 := by
  unfold frd at h ⊢
  by_cases h1 : (sText (s, 0)).2.2 = 0
  · rw [if_neg (by simp [h1])] at h ⊢
    by_cases h2 : (sText (s, 0)).2.1.size < 4
    · rw [if_pos h2] at h; simp at h
    · rw [if_neg h2] at h ⊢
      by_cases h3 : sumF (s.data.toList.take (s.size - (sText (s, 0)).2.1.size)) ≠ (sText (s, 0)).2.1.data.toList.take 4
      · rw [if_pos h3] at h; simp at h
      · rw [if_neg h3]
        simp only
        obtain ⟨hf, hs⟩ := sText_form h1
        have hl := congrArg List.length hf
        rw [List.length_append, ba_len, ba_len] at hl
        have hlen : s.size - (sText (s, 0)).2.1.size = (encT (sText (s, 0)).1).length := by omega
        have h3' : sumF (s.data.toList.take (s.size - (sText (s, 0)).2.1.size)) = (sText (s, 0)).2.1.data.toList.take 4 := by simpa using h3
        rw [hlen] at h3' ⊢
        have ht : s.data.toList.take (encT (sText (s, 0)).1).length = encT (sText (s, 0)).1 := by rw [hf]; exact List.take_left
        rw [ht] at h3'
        refine ⟨(sText (s, 0)).2.1.data.toList.drop 4, ?_, ?_, hs⟩
        · unfold recF
          rw [h3', List.append_assoc, List.take_append_drop, ← hf]
        · unfold recF
          rw [List.length_append, sumF_len]
  · rw [if_pos h1] at h
    exact absurd h h1
/-- a record is read -/
theorem frd_rec (t : ByteArray) (ht : t.size ≤ 65536) (s : ByteArray) (r : List UInt8) (h : s.data.toList = recF t ++ r) : frd s = (t, (recF t).length, 0) := by
  have h0 : s.data.toList = encT t ++ (sumF (encT t) ++ r) := by rw [h]; unfold recF; rw [List.append_assoc]
  have h1 := sText_back t ht s _ h0
  have hl := congrArg List.length h0
  have hz : (ByteArray.mk (sumF (encT t) ++ r).toArray).size = (sumF (encT t) ++ r).length := rfl
  have hs4 := sumF_len (encT t)
  rw [List.length_append, ba_len, List.length_append, hs4] at hl
  unfold frd
  rw [h1]
  simp only
  rw [List.length_append, hs4] at hz
  rw [if_neg (by simp), if_neg (by omega)]
  have e1 : s.size - (ByteArray.mk (sumF (encT t) ++ r).toArray).size = (encT t).length := by omega
  rw [e1]
  have e2 : s.data.toList.take (encT t).length = encT t := by rw [h0]; exact List.take_left
  have e3 : (ByteArray.mk (sumF (encT t) ++ r).toArray).data.toList.take 4 = sumF (encT t) := by
    show (sumF (encT t) ++ r).take 4 = _
    rw [← hs4]; exact List.take_left
  rw [e2, e3, if_neg (by simp)]
  simp [recF, hs4]
/-- nothing is read of a part of a record -/
theorem frd_part (t : ByteArray) (ht : t.size ≤ 65536) (s : ByteArray) (q : List UInt8) (h : recF t = s.data.toList ++ q) (hq : q ≠ []) : (frd s).2.2 ≠ 0 := by
  intro h0
  obtain ⟨r, hr, hn, hs⟩ := frd_form h0
  have h1 : (⟨(recF t).toArray⟩ : ByteArray).data.toList = recF t ++ [] := by simp
  have h2 : (⟨(recF t).toArray⟩ : ByteArray).data.toList = recF (frd s).1 ++ (r ++ q) := by
    show recF t = _
    rw [h, hr, List.append_assoc]
  have e1 := frd_rec t ht _ _ h1
  have e2 := frd_rec (frd s).1 hs _ _ h2
  rw [e1] at e2
  have e3 : (recF t).length = (recF (frd s).1).length := congrArg (fun x => x.2.1) e2
  have e4 := congrArg List.length h
  have e5 := congrArg List.length hr
  rw [List.length_append] at e4 e5
  have : 0 < q.length := List.length_pos_iff.2 hq
  omega

def encRecs (l : List ByteArray) : List UInt8 := l.flatMap recF
theorem encRecs_cons (s : ByteArray) (l : List ByteArray) : encRecs (s :: l) = recF s ++ encRecs l := rfl
theorem encRecs_snoc (l : List ByteArray) (s : ByteArray) : encRecs (l ++ [s]) = encRecs l ++ recF s := by simp [encRecs]
theorem recF_pos (t : ByteArray) : 4 < (recF t).length := by
  unfold recF encT
  have : 0 < (Lib.uvarint t.size).length := by
    by_cases h : t.size < 128
    · rw [Lib.uvarint_small h]; simp
    · rw [Lib.uvarint_big (by omega)]; simp
  rw [List.length_append, List.length_append, sumF_len]; omega

/-- of records of which bytes at the end lack those that are whole are there -/
theorem fall_recs : ∀ (l : List ByteArray) (m k : Nat) (s : ByteArray), (∀ t ∈ l, t.size ≤ 65536) → m ≤ l.length → (encRecs (l.take m)).length ≤ s.size → (m < l.length → s.size < (encRecs (l.take (m + 1))).length) →
    (∃ q, encRecs l = s.data.toList ++ q) → m < k → fall k s = (l.take m, (encRecs (l.take m)).length) := by
  intro l
  induction l with
  | nil =>
    intro m k s _ hm _ _ ⟨q, hq⟩ hk
    have hs : s.size = 0 := by have := congrArg List.length hq; rw [List.length_append, ba_len] at this; simp [encRecs] at this; omega
    have hs2 : s = ⟨#[]⟩ := ba_eq (List.length_eq_zero_iff.1 (by rw [ba_len]; exact hs))
    obtain rfl : m = 0 := by simpa using hm
    have h4 : (frd s).2.2 ≠ 0 := frd_part ⟨#[]⟩ (by decide) s (recF ⟨#[]⟩) (by rw [hs2]; rfl) (fun e => by have := recF_pos ⟨#[]⟩; rw [e] at this; simp at this)
    rw [fall_err h4]; rfl
  | cons t r ih =>
    intro m k s hb hm hge hlt ⟨q, hq⟩ hk
    cases m with
    | zero =>
      have h1 := hlt (by simp)
      simp only [List.take_succ_cons, List.take_zero] at h1
      have h2 : encRecs [t] = recF t := by simp [encRecs]
      rw [h2] at h1
      rw [encRecs_cons] at hq
      have h3 : recF t = s.data.toList ++ q.take ((recF t).length - s.size) := by
        have := congrArg (List.take (recF t).length) hq
        rw [List.take_left, List.take_append, List.take_of_length_le (by rw [ba_len]; omega), ba_len] at this
        exact this
      have h4 : (frd s).2.2 ≠ 0 := frd_part t (hb t (List.mem_cons_self ..)) s _ h3 (fun e => by rw [e] at h3; have := congrArg List.length h3; rw [List.length_append, ba_len] at this; simp at this; omega)
      rw [fall_err h4]; rfl
    | succ m =>
      have ht := hb t (List.mem_cons_self ..)
      rw [List.take_succ_cons, encRecs_cons, List.length_append] at hge
      rw [encRecs_cons] at hq
      have h1 : s.data.toList = recF t ++ s.data.toList.drop (recF t).length := by
        have := congrArg (List.take (recF t).length) hq
        rw [List.take_left, List.take_append_of_le_length (by rw [ba_len]; omega)] at this
        conv => lhs; rw [← List.take_append_drop (recF t).length s.data.toList, ← this]
      have h2 := frd_rec t ht s _ h1
      obtain ⟨k, rfl⟩ : ∃ k', k = k' + 1 := ⟨k - 1, by omega⟩
      rw [fall_ok (by rw [h2]), h2]
      simp only
      have h3 := ih m k (s.extract (recF t).length s.size) (fun x hx => hb x (List.mem_cons_of_mem _ hx)) (by simpa using hm) (by rw [ext_size]; omega)
        (fun hlt2 => by have := hlt (by simpa using hlt2); rw [List.take_succ_cons, encRecs_cons, List.length_append] at this; rw [ext_size]; omega)
        ⟨q, by
          rw [ext_to]
          rw [h1, List.append_assoc] at hq
          exact List.append_cancel_left hq⟩ (by omega)
      rw [h3, List.take_succ_cons, encRecs_cons, List.length_append]
end Go.Proofs.Ytmcabkoabecnnaa
