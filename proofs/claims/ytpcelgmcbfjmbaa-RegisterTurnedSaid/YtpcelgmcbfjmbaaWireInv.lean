/-
  Plain facts: what is put comes back, and what is read is what would be put. Nothing of the program.
-/
import Derived.Test.YtpcelgmcbfjmbaaWireUv
import Derived.Test.YtpcelgmcbfjmbaaWireText
namespace Go.Proofs.Ytpcelgmcbfjmbaa

theorem run_big (d : UInt8) (r : List UInt8) (h : 128 ≤ d.toNat) : run (d :: r) = run r + 1 := by rw [run, if_pos h]
theorem run_small (d : UInt8) (r : List UInt8) (h : d.toNat < 128) : run (d :: r) = 0 := by rw [run, if_neg (by omega)]

theorem run_uv : ∀ n (r : List UInt8), run (Lib.uvarint n ++ r) + 1 = (Lib.uvarint n).length := by
  intro n
  induction n using Nat.strongRecOn with
  | _ n ih =>
    intro r
    by_cases h : n < 128
    · rw [Lib.uvarint_small h, List.singleton_append, run_small _ _ (by rw [Lib.toUInt8_toNat (by omega)]; exact h)]; rfl
    · rw [Lib.uvarint_big (x := n) (by omega), List.cons_append, run_big _ _ (by rw [Lib.toUInt8_toNat (by omega)]; omega), ih (n / 128) (by omega), List.length_cons]

theorem lev_uv : ∀ n, lev (Lib.uvarint n) = n := by
  intro n
  induction n using Nat.strongRecOn with
  | _ n ih =>
    by_cases h : n < 128
    · rw [Lib.uvarint_small h]; simp only [lev]; rw [Lib.toUInt8_toNat (by omega)]; omega
    · rw [Lib.uvarint_big (x := n) (by omega)]; simp only [lev]; rw [ih (n / 128) (by omega), Lib.toUInt8_toNat (by omega)]; omega

theorem last_uv : ∀ n (r : List UInt8), 1 ≤ n → (Lib.uvarint n ++ r).getD (run (Lib.uvarint n ++ r)) 0 ≠ 0 := by
  intro n
  induction n using Nat.strongRecOn with
  | _ n ih =>
    intro r hn
    by_cases h : n < 128
    · rw [Lib.uvarint_small h, List.singleton_append, run_small _ _ (by rw [Lib.toUInt8_toNat (by omega)]; exact h)]
      intro e
      have h2 : (n.toUInt8 : UInt8) = 0 := by simpa using e
      have := congrArg UInt8.toNat h2
      rw [Lib.toUInt8_toNat (by omega)] at this
      simp at this; omega
    · rw [Lib.uvarint_big (x := n) (by omega), List.cons_append, run_big _ _ (by rw [Lib.toUInt8_toNat (by omega)]; omega)]
      have := ih (n / 128) (by omega) r (by omega)
      simpa using this

theorem uv_len8 (n : Nat) (hn : n ≤ 9007199254740992) : (Lib.uvarint n).length ≤ 8 := Lib.uvarint_length 7 n (by omega)

theorem numR_uv (n : Nat) (hn : n ≤ 9007199254740992) (r : List UInt8) : numR (Lib.uvarint n ++ r) = (n, (Lib.uvarint n).length, 0) := by
  have h1 := run_uv n r
  have h2 := uv_len8 n hn
  have h3 : (Lib.uvarint n ++ r).take (run (Lib.uvarint n ++ r) + 1) = Lib.uvarint n := by rw [h1]; simp
  have h4 : lev ((Lib.uvarint n ++ r).take (run (Lib.uvarint n ++ r) + 1)) = n := by rw [h3, lev_uv]
  unfold numR
  rw [if_neg (by rw [List.length_append]; omega), h4, if_neg (by omega)]
  by_cases h5 : n < 128
  · rw [if_neg (by rw [Lib.uvarint_small h5] at h1 ⊢; simp at h1; simp [h1]), h1]
  · rw [if_neg (fun h => last_uv n r (by omega) h.1), h1]

theorem extract_list (a : List UInt8) (i : Nat) : (⟨a.toArray⟩ : ByteArray).extract i (⟨a.toArray⟩ : ByteArray).size = ⟨(a.drop i).toArray⟩ := by
  apply ByteArray.ext
  apply Array.toList_inj.1
  rw [Lib.extract_data]
  show (a.drop i).take (a.length - i) = a.drop i
  exact List.take_of_length_le (by simp)
theorem extract_list0 (a : List UInt8) (n : Nat) : (⟨a.toArray⟩ : ByteArray).extract 0 n = ⟨(a.take n).toArray⟩ := by
  apply ByteArray.ext
  apply Array.toList_inj.1
  rw [Lib.extract_data]
  simp

theorem sNum_uv (n : Nat) (hn : n ≤ 9007199254740992) (r : List UInt8) : sNum (⟨(Lib.uvarint n ++ r).toArray⟩, 0) = (n, (⟨r.toArray⟩, 0)) := by
  have h := numR_uv n hn r
  unfold sNum
  simp only [h]
  rw [extract_list]
  simp

theorem sText_enc (s : ByteArray) (hs : s.size ≤ 65536) (r : List UInt8) : sText (⟨(Lib.uvarint s.size ++ s.data.toList ++ r).toArray⟩, 0) = (s, (⟨r.toArray⟩, 0)) := by
  have h := sNum_uv s.size (by omega) (s.data.toList ++ r)
  rw [← List.append_assoc] at h
  have hc : sCount 65536 (⟨(Lib.uvarint s.size ++ s.data.toList ++ r).toArray⟩, 0) = (s.size, true, (⟨(s.data.toList ++ r).toArray⟩, 0)) := by
    unfold sCount
    rw [h]
    simp only
    rw [if_neg (by simp), if_neg (by omega)]
  have hl : s.data.toList.length = s.size := by simp
  have hz : (ByteArray.mk (s.data.toList ++ r).toArray).size = s.size + r.length := by
    show (s.data.toList ++ r).length = _
    rw [List.length_append, hl]
  unfold sText
  rw [hc]
  simp only
  rw [if_neg (by simp), if_neg (by omega), extract_list, extract_list0]
  have e1 : (s.data.toList ++ r).take s.size = s.data.toList := by rw [← hl]; exact List.take_left
  have e2 : (s.data.toList ++ r).drop s.size = r := by rw [← hl]; exact List.drop_left
  rw [e1, e2]

theorem sTexts_enc : ∀ (ss : List ByteArray) (r : List UInt8) (acc : List ByteArray), (∀ s ∈ ss, s.size ≤ 65536) → sTexts ss.length (⟨(encTexts ss ++ r).toArray⟩, 0) acc = (acc ++ ss, (⟨r.toArray⟩, 0)) := by
  intro ss
  induction ss with
  | nil => intro r acc _; simp [sTexts, encTexts]
  | cons s t ih =>
    intro r acc h
    have h1 := sText_enc s (h s (List.mem_cons_self ..)) (encTexts t ++ r)
    have e : encTexts (s :: t) ++ r = Lib.uvarint s.size ++ s.data.toList ++ (encTexts t ++ r) := by simp [encTexts]
    rw [List.length_cons, sTexts, e, h1]
    simp only
    rw [if_neg (by simp), ih r _ (fun x hx => h x (List.mem_cons_of_mem _ hx))]
    simp

theorem sList_enc (ss : List ByteArray) (hl : ss.length ≤ 4096) (h : ∀ s ∈ ss, s.size ≤ 65536) (r : List UInt8) : sList (⟨(Lib.uvarint ss.length ++ encTexts ss ++ r).toArray⟩, 0) = (ss, (⟨r.toArray⟩, 0)) := by
  have h0 := sNum_uv ss.length (by omega) (encTexts ss ++ r)
  rw [← List.append_assoc] at h0
  have hc : sCount 4096 (⟨(Lib.uvarint ss.length ++ encTexts ss ++ r).toArray⟩, 0) = (ss.length, true, (⟨(encTexts ss ++ r).toArray⟩, 0)) := by
    unfold sCount
    rw [h0]
    simp only
    rw [if_neg (by simp), if_neg (by omega)]
  unfold sList
  rw [hc]
  simp only
  rw [if_neg (by simp), sTexts_enc ss r [] h]
  simp

theorem uv_lev : ∀ (l : List UInt8), run l + 1 = l.length → (l.getD (run l) 0 ≠ 0 ∨ run l = 0) → Lib.uvarint (lev l) = l ∧ (run l ≠ 0 → 1 ≤ lev l) := by
  intro l
  induction l with
  | nil => intro h; simp [run] at h
  | cons d r ih =>
    intro h hz
    by_cases hd : 128 ≤ d.toNat
    · rw [run_big d r hd, List.length_cons] at h
      rw [run_big d r hd] at hz ⊢
      have hz' : r.getD (run r) 0 ≠ 0 ∨ run r = 0 := by
        rcases hz with hz | hz
        · exact .inl (by simpa using hz)
        · omega
      obtain ⟨h1, h2⟩ := ih (by omega) hz'
      have hpos : 1 ≤ lev r := by
        by_cases h0 : run r = 0
        · have hl : r.length = 1 := by omega
          obtain ⟨x, rfl⟩ := List.length_eq_one_iff.1 hl
          have hx : x ≠ 0 := by
            rcases hz with hz | hz
            · rw [h0] at hz; simpa using hz
            · omega
          have hx2 : x.toNat < 128 := by
            rcases Nat.lt_or_ge x.toNat 128 with h3 | h3
            · exact h3
            · rw [run_big x [] h3] at h0; omega
          have hx3 : x.toNat ≠ 0 := fun e => hx (UInt8.toNat_inj.1 (by simpa using e))
          simp only [lev]; omega
        · exact h2 h0
      have hb : d.toNat < 256 := UInt8.toNat_lt _
      refine ⟨?_, fun _ => by simp only [lev]; omega⟩
      have e1 : lev (d :: r) = d.toNat % 128 + 128 * lev r := rfl
      rw [e1, Lib.uvarint_big (by omega)]
      have e2 : (d.toNat % 128 + 128 * lev r) / 128 = lev r := by omega
      have e3 : (d.toNat % 128 + 128 * lev r) % 128 + 128 = d.toNat := by omega
      rw [e2, e3, h1]
      congr 1
      exact UInt8.toNat_inj.1 (Lib.toUInt8_toNat hb)
    · rw [run_small d r (by omega)] at h ⊢
      have hr : r = [] := List.length_eq_zero_iff.1 (by simpa using h.symm)
      subst hr
      refine ⟨?_, fun h => absurd rfl h⟩
      have e1 : lev [d] = d.toNat := by simp only [lev]; omega
      rw [e1, Lib.uvarint_small (by omega)]
      congr 1
      exact UInt8.toNat_inj.1 (Lib.toUInt8_toNat (by omega))

theorem run_take (l : List UInt8) : ∀ k, run l < k → run (l.take k) = run l := by
  induction l with
  | nil => intro k _; simp
  | cons d r ih =>
    intro k hk
    cases k with
    | zero => omega
    | succ k =>
      rw [List.take_succ_cons]
      by_cases hd : 128 ≤ d.toNat
      · rw [run_big d r hd] at hk ⊢; rw [run_big _ _ hd, ih k (by omega)]
      · rw [run_small d r (by omega), run_small _ _ (by omega)]

/-- what is read is what would be put -/
theorem numR_put {l : List UInt8} (h : (numR l).2.2 = 0) : Lib.uvarint (numR l).1 = l.take (numR l).2.1 := by
  have h0 := run_le l
  unfold numR at h ⊢
  split at h
  · simp at h
  · split at h
    · simp at h
    · split at h
      · simp at h
      · rename_i a b c
        rw [if_neg a, if_neg b, if_neg c]
        simp only
        have hr := run_take l (run l + 1) (by omega)
        refine (uv_lev (l.take (run l + 1)) (by rw [hr, List.length_take]; omega) ?_).1
        rw [hr]
        by_cases hz : run l = 0
        · exact .inr hz
        · refine .inl ?_
          rw [List.getD_eq_getElem?_getD, List.getElem?_take_of_lt (by omega), ← List.getD_eq_getElem?_getD]
          exact fun e => c ⟨e, by omega⟩
end Go.Proofs.Ytpcelgmcbfjmbaa
