/-
  Plain facts: the disk that SeglogAny lays.
-/
import Derived.Test.YtjimgncefeldbaaGreatDoorSegTwice
namespace Go.Proofs.YtjimgncefeldbaaGreatDoor
open Go.Lib Go.RowKit

structure SInv (s0 : ByteArray) (i : Nat) (s : DS) : Prop where
  calm : Calm s
  room : s.room = 65536
  gens : Gens 9 s
  len : s.l.length ≤ i + 1
  tot : stotal s.l ≤ 400 + 500 * i
  there : ∃ f ∈ s.l, f.name = genB 7 ∧ ∃ q, f.body = recF s0 ++ q

theorem SInv.more {s0 : ByteArray} {i : Nat} {s : DS} (h : SInv s0 i s) : SInv s0 (i + 1) s :=
  ⟨h.calm, h.room, h.gens, by have := h.len; omega, by have := h.tot; omega, h.there⟩

theorem recF_small (s0 : ByteArray) (h : s0.size ≤ 300) : (recF s0).length ≤ 400 := by
  unfold recF encT
  have h1 : (Lib.uvarint s0.size).length ≤ 10 := Lib.uvarint_length64 (x := s0.size) (by omega)
  rw [List.length_append, List.length_append, sumF_len, ba_len]
  omega

theorem inv_first (s0 : ByteArray) (h : s0.size ≤ 300) : SInv s0 0 (appendS (newS 65536) (genB 7) (recB s0)).2 := by
  have hr := recF_small s0 h
  have hsz : (recB s0).size = (recF s0).length := rfl
  have hnm : isNm (genB 7) = true := gen_nm ⟨7, by omega⟩
  have hb : (recB s0).data.toList = recF s0 := by show (recF s0).toArray.toList = _; simp
  have e : appendS (newS 65536) (genB 7) (recB s0) = (0, { newS 65536 with l := [⟨genB 7, recF s0, 0⟩] }) := by
    unfold appendS
    rw [if_neg (by simp [newS]), hnm, if_neg (by simp), if_neg (by
      unfold sfull
      simp only [newS, stotal, List.map_nil, List.sum_nil, List.length_nil, Bool.or_eq_true, decide_eq_true_eq, Bool.and_eq_true, beq_iff_eq]
      omega)]
    rw [Calm.act ⟨rfl, rfl⟩, hb]
    rfl
  rw [e]
  refine ⟨⟨rfl, rfl⟩, rfl, fun f hf => ?_, by simp, by simp [stotal]; omega, ⟨genB 7, recF s0, 0⟩, by simp, rfl, [], by simp⟩
  simp at hf
  exact ⟨7, by omega, by omega, by rw [hf]⟩

theorem inv_step {s0 : ByteArray} {i : Nat} {s : DS} (h : SInv s0 i s) (_hf : Fit s) (hi : i ≤ 20) (k : Nat) (hk1 : 1 ≤ k) (hk : k ≤ 9) (t : ByteArray) (ht : t.size ≤ 500) : SInv s0 (i + 1) (appendS s (genB k) t).2 := by
  have hnm : isNm (genB k) = true := gen_nm ⟨k, by omega⟩
  have htot := h.tot
  have hlen := h.len
  have hroom := h.room
  have htl : t.data.toList.length = t.size := ba_len t
  unfold appendS
  rw [if_neg (by rw [h.calm.off]; simp), hnm, if_neg (by simp), if_neg (by
    unfold sfull
    simp only [Bool.or_eq_true, decide_eq_true_eq, Bool.and_eq_true, beq_iff_eq]
    omega)]
  rw [h.calm.act]
  cases hth : sthere s.l (genB k)
  · rw [if_neg (by simp)]
    refine ⟨⟨h.calm.off, h.calm.fused⟩, hroom, fun f hf => ?_, ?_, ?_, ?_⟩
    · simp only [sins, List.mem_append, List.mem_cons] at hf
      rcases hf with hf | rfl | hf
      · exact h.gens f (List.mem_of_mem_take hf)
      · exact ⟨k, hk1, hk, rfl⟩
      · exact h.gens f (List.mem_of_mem_drop hf)
    · show (sins s.l (spos s.l (genB k)) _).length ≤ _
      rw [sins_len]; omega
    · show stotal (sins s.l (spos s.l (genB k)) _) ≤ _
      rw [stotal_sins]; simp only; omega
    · obtain ⟨f, h1, h2, h3⟩ := h.there
      refine ⟨f, ?_, h2, h3⟩
      show f ∈ sins s.l (spos s.l (genB k)) _
      rw [← List.take_append_drop (spos s.l (genB k)) s.l] at h1
      simp only [sins, List.mem_append, List.mem_cons]
      rcases List.mem_append.1 h1 with h1 | h1
      · exact .inl h1
      · exact .inr (.inr h1)
  · rw [if_pos rfl]
    obtain ⟨f, hfp, hfn⟩ := sthere_at hth
    have e : smod s.l (spos s.l (genB k)) (fun f => { f with body := f.body ++ t.data.toList }) = s.l.set (spos s.l (genB k)) { f with body := f.body ++ t.data.toList } := by unfold smod; rw [hfp]
    rw [e]
    have hs := stotal_set hfp { f with body := f.body ++ t.data.toList }
    simp only [List.length_append] at hs
    refine ⟨⟨h.calm.off, h.calm.fused⟩, hroom, fun g hg => ?_, ?_, ?_, ?_⟩
    · rcases List.mem_or_eq_of_mem_set hg with hg | rfl
      · exact h.gens g hg
      · exact ⟨k, hk1, hk, hfn⟩
    · show (s.l.set _ _).length ≤ _
      rw [List.length_set]; omega
    · show stotal (s.l.set _ _) ≤ _
      omega
    · obtain ⟨f2, h1, h2, q, h3⟩ := h.there
      by_cases hff : f2 = f
      · subst hff
        refine ⟨{ f2 with body := f2.body ++ t.data.toList }, List.mem_set (List.getElem?_eq_some_iff.1 hfp).1 _, h2, q ++ t.data.toList, ?_⟩
        simp only [h3, List.append_assoc]
      · refine ⟨f2, ?_, h2, q, h3⟩
        obtain ⟨j, hj⟩ := List.mem_iff_getElem?.1 h1
        have hne : spos s.l (genB k) ≠ j := fun e => by rw [← e, hfp] at hj; exact hff (Option.some.inj hj).symm
        exact List.mem_of_getElem? (i := j) (by show (s.l.set _ _)[j]? = _; rw [List.getElem?_set_ne hne]; exact hj)

/-- so it is opened twice -/
theorem inv_twice {s0 : ByteArray} {i : Nat} {s : DS} (h : SInv s0 i s) (hf : Fit s) (hi : i ≤ 20) (hs0 : s0.size ≤ 300) :
    ∃ G t0 r s5, OpenS s G t0 r s5 ∧ OpenS s5 G t0 r s5 ∧ s5.off = false ∧ s5.room = 65536 ∧ r.length ≤ 65536 := by
  obtain ⟨f, h1, _, q, h3⟩ := h.there
  have htot := h.tot
  refine open_twice hf h.calm h.gens h.room (by omega) h1 ?_
  have := frd_rec s0 (by omega) ⟨f.body.toArray⟩ q (by show f.body.toArray.toList = _; simp [h3])
  rw [this]
end Go.Proofs.YtjimgncefeldbaaGreatDoor
