/-
  The Reader's List: what it answers, and what becomes of the reader.
-/
import Derived.Test.YtkgjklcokjfhlaaWireReader
namespace Go.Proofs.Ytkgjklcokjfhlaa
open Go.RowKit

theorem strInfo : (Try.prog.info? 9).map (fun i => (i.zero, i.size, i.bytes)) = some (some (.string ByteArray.empty), 1, 16) := by kernel_rfl

/-- The slice v is the call's own, and holds the texts ss. -/
def OwnS (B : Nat) (v : Value) (ss : List ByteArray) (w : World) : Prop := w.ownsRow B 9 1 v ss.length (ss.map Value.string)

theorem ownS_nil (B : Nat) (w : World) : OwnS B (.slice none 0 0) [] w := World.ownsRow_nil _ _ _ _

theorem OwnS.keep {B b : Nat} {v : Value} {ss : List ByteArray} {w w' : World} (h : OwnS B v ss w) (hg : w.grownBy w' (some b)) (hb : b < B) : OwnS B v ss w' :=
  World.ownsRow.kept h hg (.inr fun e => by have := (World.ownsRow.lt h b e).1; omega)

set_option maxHeartbeats 2000000 in
set_option maxRecDepth 100000 in
theorem rlist_any (b : Nat) (st : ByteArray × Int) (w : World) (h : Rd b st w) (hsz : st.1.size ≤ 9223372036854775807) :
    Calls Try.prog 21 #[.pointer (some ⟨b, 0, none⟩)] w fun e w' => ∃ v, e = .returned v ∧ OwnS w.heap.size v (sList st).1 w' ∧ Rd b (sList st).2 w' ∧ w.grownBy w' (some b) := by
  obtain ⟨i0, hi, hz0, hz1, hz2⟩ := info_parts strInfo
  have hbw := h.lt
  have hsc := sCount_size 4096 st
  have H := Lib.hid h
  clear h
  go_enter Try.func21, Try.ntmps21
  go_wp2_with fail
  refine (count_any b st 4096 (by omega) w H.out hsz).mono ?_
  rintro e w1 ⟨rfl, h1, hg1⟩
  have her : (sCount 4096 st).2.1 = true → (sCount 4096 st).2.2.2 = 0 ∧ (sCount 4096 st).1 ≤ 4096 := by
    unfold sCount
    split
    · intro h; cases h
    · split
      · intro h; cases h
      · intro _; simp only; omega
  generalize hr : sCount 4096 st = r at h1 hsc her ⊢
  obtain ⟨n, ok, s1, er⟩ := r
  simp only at h1 hsc her ⊢
  have HR := Lib.hid hr
  clear hr
  have H1 := Lib.hid h1
  clear h1
  cases ok with
  | false =>
    clear her
    go_wp2
    go_ret
    have hS : sList st = ([], (s1, er)) := by simp [sList, HR.out]
    rw [hS]
    exact ⟨_, rfl, ownS_nil _ _, H1.out, hg1⟩
  | true =>
    obtain ⟨rfl, hn⟩ := her rfl
    clear her
    have hS : sList st = sTexts n (s1, 0) [] := by simp [sList, HR.out]
    have HS := Lib.hid hS
    clear hS
    go_wp2
    go_loopw [5, 15] (fun l i wr => ∃ (k : Nat) (acc : List ByteArray) (s : ByteArray), i = .int .i64 k ∧ k ≤ n ∧ acc.length = k ∧ s.size ≤ st.1.size ∧ sTexts (n - k) (s, 0) acc = sTexts n (s1, 0) [] ∧ OwnS w.heap.size l acc wr ∧ Rd b (s, 0) wr ∧ w.grownBy wr (some b)) (fun _ i _ => n - (intOf i).toNat)
    case atStart => exact ⟨0, [], s1, rfl, Nat.zero_le _, rfl, hsc, rfl, ownS_nil _ _, H1.out, hg1⟩
    case round =>
      obtain ⟨k, acc, s, rfl, hk, hacc, hss, heq, hown, hrd, hg⟩ := hrel
      have HQ := Lib.hid heq
      have HC := Lib.hid hacc
      have HRd := Lib.hid hrd
      have hBr := hg.size
      clear heq hacc hrd
      by_cases hlt : k < n
      · have hts := sText_size (s, 0)
        have hcut : n - k = (n - (k + 1)) + 1 := by omega
        have HU := Lib.hid hcut
        clear hcut
        go_wp2_with fail
        refine (rtext_any b (s, 0) wr HRd.out (by simp only; omega)).mono ?_
        rintro e w2 ⟨rfl, h2, hg2⟩
        generalize hq : sText (s, 0) = q at h2 hts ⊢
        obtain ⟨t, s2, e2⟩ := q
        simp only at h2 hts ⊢
        have HT := Lib.hid hq
        clear hq
        have hc1 := h2.err
        simp only at hc1
        have hown2 := OwnS.keep hown hg2 hbw
        have hB2 := hg2.size
        have H2 := Lib.hid h2
        clear h2 hown
        by_cases h0 : e2 = 0
        · subst h0
          go_wp2_with (at_builtin; refine wpList_append_own _ rfl _ _ 22 rfl w.heap.size 9 i0 (.string ByteArray.empty) 1 16 Try.underlying22 hi hz0 hz1 hz2 rfl (by decide) _ _ _ rfl (World.ownsRow.alloc hown2 _) ⟨w2.heap.size, 0, none⟩ 1 1 [Value.string t] rfl rfl ?c1 ?c2 ?c3 ?c4 ?c5 ?_)
          case c1 =>
            intro j u hj
            match j, hj with
            | 0, hj => simp at hj; subst hj; simp [Addr.add]
          case c2 => intro u hu; simp at hu; subst hu; rfl
          case c3 => have := HC.out; unfold maxLen; omega
          case c4 => have := HC.out; omega
          case c5 => simp; omega
          intro v' w3 hown3 hg3 _
          have hrd3 : Rd b (s2, 0) w3 := (H2.out.grown (World.grownBy_alloc _ _ none) (fun _ h => by cases h)).grown hg3 (fun j hj => by have := (World.ownsRow.lt hown2 j hj).1; omega)
          have hgg : w.grownBy w3 (some b) := ((hg.trans hg2).trans (World.grownBy_alloc _ _ _)).andThen hg3 (fun j hj => .inl ((World.ownsRow.lt hown2 j hj).1))
          have hown4 : OwnS w.heap.size v' (acc ++ [t]) w3 := by unfold OwnS; rw [List.length_append, List.map_append]; exact hown3
          have H3 := Lib.hid hrd3
          have H4 := Lib.hid hown4
          clear hown3 hown2 hrd3 hown4 hg3
          go_wp2
          go_roundw
          case rel =>
            refine ⟨k + 1, acc ++ [t], s2, by go_num, by omega, by rw [List.length_append, HC.out]; rfl, by omega, ?_, H4.out, H3.out, hgg⟩
            rw [← HQ.out, HU.out, sTexts, HT.out]
            rfl
          case measure => simp [intOf]; omega
        · have hb : (e2 != 0) = true := by simp [h0]
          go_wp2
          go_ret
          have hfin : sList st = ([], (s2, e2)) := by rw [HS.out, ← HQ.out, HU.out, sTexts, HT.out, if_pos h0]
          rw [hfin]
          exact ⟨_, rfl, ownS_nil _ _, H2.out, hg.trans hg2⟩
      · obtain rfl : k = n := by omega
        go_wp2
        go_ret
        have hfin : sList st = (acc, (s, 0)) := by rw [HS.out, ← HQ.out, Nat.sub_self]; rfl
        rw [hfin]
        exact ⟨_, rfl, hown, HRd.out, hg⟩
end Go.Proofs.Ytkgjklcokjfhlaa
