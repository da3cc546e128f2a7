/-
  almonryref01's reader R: List, Done.
  almonryref01's reader R: Done.
  Read: the program's and the document's.
  fact: whether a fact may be; Check.
  list.Check of facts: whether each may be, and whether they rise.
-/
import Derived.Test.YtcedliaeipabnaaGreatGKernN
import Derived.Test.YtcedliaeipabnaaGreatGKernB
import Derived.Test.YtcedliaeipabnaaGreatGKernK
import Derived.Test.YtcedliaeipabnaaGreatGKernE
import Derived.Lib.QuietBelow
import Derived.BigQuiet
import Derived.Deep.Cut
import Derived.Deep.DeepCutAuto
namespace Go.Proofs.YtcedliaeipabnaaGreat
open Go.RowKit

/-- Block b is a reader R in the state st. -/
def Qd (b : Nat) (st : ByteArray × Int) (w : World) : Prop := w.heap[b]? = some (.cells #[.string st.1, .int .i64 st.2] 147 (0, 0))

theorem Qd.lt {b : Nat} {st : ByteArray × Int} {w : World} (h : Qd b st w) : b < w.heap.size := lt_of_block h
theorem Qd.left {b : Nat} {st : ByteArray × Int} {w : World} (h : Qd b st w) : w.cell? ⟨b, 0, none⟩ = some (.string st.1) := by rw [Joins.cell_of_block h]; rfl
theorem Qd.err {b : Nat} {st : ByteArray × Int} {w : World} (h : Qd b st w) : w.cell? ⟨b, 1, none⟩ = some (.int .i64 st.2) := by rw [Joins.cell_of_block h]; rfl
theorem Qd.free {b : Nat} {st : ByteArray × Int} {w : World} (h : Qd b st w) (i : Nat) : w.frozen? ⟨b, i, none⟩ = false := Joins.unfrozen_of_block h i
theorem Qd.set {b : Nat} {st : ByteArray × Int} {w : World} (h : Qd b st w) (s : ByteArray) (e : Int) : Qd b (s, e) ((w.setCell ⟨b, 0, none⟩ (.string s)).setCell ⟨b, 1, none⟩ (.int .i64 e)) := by
  have := Joins.block_setCell (Joins.block_setCell h (i := 0) (.string s)) (i := 1) (.int .i64 e); simpa [Qd] using this
theorem Qd.setErr {b : Nat} {st : ByteArray × Int} {w : World} (h : Qd b st w) (e : Int) : Qd b (st.1, e) (w.setCell ⟨b, 1, none⟩ (.int .i64 e)) := by
  have := Joins.block_setCell h (i := 1) (.int .i64 e); simpa [Qd] using this
theorem Qd.below {b B : Nat} {st : ByteArray × Int} {w w' : World} (h : Qd b st w) (hb : Below B w w') (hlt : b < B) : Qd b st w' := by
  unfold Qd; rw [hb.block b hlt]; exact h
theorem Qd.alloc {b : Nat} {st : ByteArray × Int} {w : World} (h : Qd b st w) (o : Obj) : Qd b st (w.alloc o) := by
  unfold Qd; rw [Below.heap_alloc _ _ _ h.lt]; exact h
theorem Qd.grown {b : Nat} {row : Option Nat} {st : ByteArray × Int} {w w' : World} (h : Qd b st w) (hg : w.grownBy w' row) (hne : ∀ j, row = some j → b ≠ j) : Qd b st w' := by
  unfold Qd; rw [hg.block b h.lt (fun e => hne b e.symm rfl)]; exact h
theorem Qd.other {b c i : Nat} {st : ByteArray × Int} {w : World} (h : Qd b st w) (hne : b ≠ c) (v : Value) : Qd b st (w.setCell ⟨c, i, none⟩ v) := by
  unfold Qd; rw [Below.heap_setCell _ _ _ _ hne]; exact h
theorem Qd.made (st : ByteArray × Int) (w : World) : Qd w.heap.size st (w.alloc (.cells #[.string st.1, .int .i64 st.2] 147)) := by
  simp [Qd, World.alloc, -World.alloc_eq]
theorem OwnS.below {B C : Nat} {v : Value} {ss : List ByteArray} {w w' : World} (h : OwnS B v ss w) (hb : Below C w w') (hC : w.heap.size ≤ C) : OwnS B v ss w' := by
  obtain ⟨h1, h2⟩ := h
  refine ⟨h1, ?_⟩
  rcases h2 with h2 | ⟨g, cap, cur, hv, hg, hh, r⟩
  · exact .inl h2
  · exact .inr ⟨g, cap, cur, hv, hg, by rw [hb.block g (by have := lt_of_block hh; omega)]; exact hh, r⟩

theorem OwnS.mono {B C : Nat} {v : Value} {ss : List ByteArray} {w : World} (h : OwnS B v ss w) (hC : C ≤ B) : OwnS C v ss w := by
  obtain ⟨h1, h2⟩ := h
  refine ⟨h1, ?_⟩
  rcases h2 with h2 | ⟨g, cap, cur, hv, hg, hh, r⟩
  · exact .inl h2
  · exact .inr ⟨g, cap, cur, hv, Nat.le_trans hC hg, hh, r⟩

def qListSt (st : ByteArray × Int) : ByteArray × Int := qSt st (sList st).2

/-- What holds of the loop of R's List, the reader's block b, behind some rounds. -/
def ListRel (w : World) (b n : Nat) (st0 : ByteArray × Int) (s1 : ByteArray) (o i : Value) (wr : World) : Prop :=
  Qd w.heap.size st0 wr ∧ Qd (w.heap.size + 1) (⟨#[]⟩, 0) wr ∧ Below w.heap.size w wr ∧ b < wr.heap.size ∧
  ((∃ (k : Nat) (acc : List ByteArray) (sk : ByteArray), i = .int .i64 k ∧ k ≤ n ∧ acc.length = k ∧ sk.size ≤ s1.size ∧ sTexts (n - k) (sk, 0) acc = sTexts n (s1, 0) [] ∧ OwnS (b + 1) o acc wr ∧ Qd b (sk, 0) wr) ∨
   (∃ (k : Nat) (sk s' : ByteArray) (e : Int), i = .int .i64 k ∧ k ≤ n ∧ e ≠ 0 ∧ sTexts n (s1, 0) [] = ([], (s', e)) ∧ Qd b (sk, e) wr))

theorem sList_e {st : ByteArray × Int} {n : Nat} {s1 : ByteArray} {e : Int} (h : sNum st = (n, (s1, e))) (he : e ≠ 0) : sList st = ([], (s1, e)) := by
  have hc : sCount 4096 st = (0, false, (s1, e)) := by simp [sCount, h, he]
  simp [sList, hc]
theorem sList_l {st : ByteArray × Int} {n : Nat} {s1 : ByteArray} (h : sNum st = (n, (s1, 0))) (hn : 4096 < n) : sList st = ([], (s1, 3)) := by
  have hc : sCount 4096 st = (0, false, (s1, 3)) := by simp [sCount, h, hn]
  simp [sList, hc]
theorem sList_k {st : ByteArray × Int} {n : Nat} {s1 : ByteArray} (h : sNum st = (n, (s1, 0))) (hn : ¬ 4096 < n) : sList st = sTexts n (s1, 0) [] := by
  have hc : sCount 4096 st = (n, true, (s1, 0)) := by simp [sCount, h, hn]
  simp [sList, hc]
theorem qd_two {w w1 : World} {x0 : ByteArray} {x1 : Int} {y0 : ByteArray} {y1 : Int} (h : Below ((w.alloc (.cells #[.string x0, .int .i64 x1] 147)).alloc (.cells #[.string y0, .int .i64 y1] 147)).heap.size ((w.alloc (.cells #[.string x0, .int .i64 x1] 147)).alloc (.cells #[.string y0, .int .i64 y1] 147)) w1) : Qd w.heap.size (x0, x1) w1 ∧ Qd (w.heap.size + 1) (y0, y1) w1 := by
  have h0 := (Qd.made (x0, x1) w).alloc (.cells #[.string y0, .int .i64 y1] 147)
  have h1 := Qd.made (y0, y1) (w.alloc (.cells #[.string x0, .int .i64 x1] 147))
  have e : (w.alloc (.cells #[.string x0, .int .i64 x1] 147)).heap.size = w.heap.size + 1 := by simp
  rw [e] at h1
  exact ⟨h0.below h (by simp; omega), h1.below h (by simp)⟩

set_option maxHeartbeats 4000000 in
set_option maxRecDepth 100000 in
theorem refR_list (s : ByteArray) (er : Int) (hs : s.size ≤ 9223372036854775807) (w : World) :
    Calls Tryz.prog 117 #[.agg #[.string s, .int .i64 er]] w fun e w' => ∃ v, e = .returned (.tuple #[rv (qListSt (s, er)), v]) ∧ OwnS w.heap.size v (sList (s, er)).1 w' ∧ Below w.heap.size w w' := by
  obtain ⟨i0, hi, hz0', hz1', hz2'⟩ := info_parts strInfo
  have hsz1 := sNum_size (s, er)
  go_enter Tryz.func117, Tryz.ntmps117
  go_wp2_with fail
  refine (refR_num s er hs _).mono ?_
  rintro e w1 ⟨rfl, hb1⟩
  generalize hr : sNum (s, er) = r at hsz1 ⊢
  obtain ⟨n, s1, e1⟩ := r
  simp only at hsz1
  have HR := Lib.hid hr
  clear hr
  obtain ⟨hq0, hq1⟩ := qd_two hb1
  obtain ⟨c10, c11, r0, r1, f0, f1, hz1, hB1⟩ := two_keep hb1
  have hz0 : w.heap.size < w1.heap.size := by omega
  have HQ0 := Lib.hid hq0
  have HQ1 := Lib.hid hq1
  have HE0 := Lib.hid (ends0 r0 r1 hz1)
  have HE1 := Lib.hid (ends1 r0 r1 hz1)
  have hB1' : ∀ o v0 v1, Below w.heap.size w (((w1.setCell ⟨w.heap.size + 1, 0, none⟩ v0).setCell ⟨w.heap.size + 1, 1, none⟩ v1).alloc o) := fun o v0 v1 => ((hB1.setCell (by simp) _).setCell (by simp) _).alloc (by simp; omega) o
  have HB := Lib.hid hB1'
  clear hb1 hq0 hq1 hB1'
  by_cases he : e1 = 0
  · subst he
    by_cases hn : 4096 < n
    · have hni : (4096 : Int) < (n : Int) := by omega
      have HS := Lib.hid (sList_l HR.out hn)
      clear hB1
      go_wp2
      refine wp_loop_rounds 1 ?_
      rw [rounds_succ]
      go_wp2
      refine bodyPost_ret (v := .tuple #[rv (s, 3), .slice none 0 0]) (by simp [results, Tryz.results117, go_sem, HE0.out, HE1.out]) rfl ?_
      unfold qListSt
      rw [HS.out]
      exact ⟨_, rfl, ownS_nil _ _, HB.out _ _ _⟩
    · have hni : ¬ (4096 : Int) < (n : Int) := by omega
      have hni' : decide ((4096 : Int) < (n : Int)) = false := by simp; omega
      have HS := Lib.hid (sList_k HR.out hn)
      clear HE0 HE1 HB r0 r1 c10 c11 f0 f1
      go_wp2
      go_loopw [6, 7] (fun o i wr => ListRel w w1.heap.size n (s, er) s1 o i wr) (fun _ i _ => n - (intOf i).toNat)
      case atStart => exact ⟨HQ0.out.alloc _, HQ1.out.alloc _, hB1.alloc (by omega) _, by simp, .inl ⟨0, [], s1, rfl, Nat.zero_le _, rfl, Nat.le_refl _, rfl, ownS_nil _ _, Qd.made (s1, 0) w1⟩⟩
      case round =>
        obtain ⟨g0, g1, hB, hbl, hcase⟩ := hrel
        have G0 := Lib.hid g0
        have G1 := Lib.hid g1
        rcases hcase with ⟨k, acc, sk, rfl, hk, hacc, hss, heq, hown, hq⟩ | ⟨k, sk, s', e, rfl, hk, hne, heq, hq⟩
        · have hq0c := hq.left
          have hq1c := hq.err
          have hqf0 := hq.free 0
          have hqf1 := hq.free 1
          simp only at hq0c hq1c
          have HQ := Lib.hid hq
          have HEQ := Lib.hid heq
          have HC := Lib.hid hacc
          clear g0 g1 hq heq hacc
          by_cases hlt : k < n
          · have hlti : (k : Int) < (n : Int) := by omega
            have hcut : n - k = (n - (k + 1)) + 1 := by omega
            have HU := Lib.hid hcut
            clear hcut
            have hts := sText_size (sk, 0)
            go_wp2_with fail
            refine (refR_text sk 0 (by omega) wr).mono ?_
            rintro e w2 ⟨rfl, hb2⟩
            generalize hq : sText (sk, 0) = q at hts ⊢
            obtain ⟨t, s2, e2⟩ := q
            simp only at hts
            have HT := Lib.hid hq
            clear hq hq0c hq1c hqf0 hqf1
            have hq2 := HQ.out.below hb2 hbl
            have hq0c := hq2.left
            have hq1c := hq2.err
            have hqf0 := hq2.free 0
            have hqf1 := hq2.free 1
            simp only at hq0c hq1c
            have H2 := Lib.hid hq2
            have G02 := Lib.hid (G0.out.below hb2 G0.out.lt)
            have G12 := Lib.hid (G1.out.below hb2 G1.out.lt)
            have hown2 := hown.below hb2 (Nat.le_refl _)
            have hB2 := hB.trans (hb2.mono hB.size)
            have hbl2 : w1.heap.size < w2.heap.size := Nat.lt_of_lt_of_le hbl hb2.size
            have hne : ∀ g, (u6 : Value).ownBlock = some g → w1.heap.size + 1 ≤ g := fun g hg => (World.ownsRow.lt hown2 g hg).1
            have HNE := Lib.hid hne
            clear hq2 hown hb2 hB hne
            by_cases he2 : e2 = 0
            · subst he2
              have hqs : qSt (sk, 0) (s2, 0) = (s2, 0) := rfl
              rw [hqs]
              clear hqs
              have hown3 : OwnS (w1.heap.size + 1) u6 acc (((w2.setCell ⟨w1.heap.size, 0, none⟩ (.string s2)).setCell ⟨w1.heap.size, 1, none⟩ (.int .i64 0)).alloc (.cells #[.string s2, .int .i64 0] 147)) :=
                World.ownsRow.alloc (ownsRow_setCell_other (ownsRow_setCell_other hown2 (fun e => by have := HNE.out _ e; simp at this; omega) _) (fun e => by have := HNE.out _ e; simp at this; omega) _) _
              have hlast : (((w2.setCell ⟨w1.heap.size, 0, none⟩ (.string s2)).setCell ⟨w1.heap.size, 1, none⟩ (.int .i64 0)).alloc (.cells #[.string s2, .int .i64 0] 147)).heap.size = w2.heap.size + 1 := by simp
              have HLAST := Lib.hid hlast
              clear hlast
              go_wp2_with (at_builtin; refine wpList_append_own _ rfl _ _ 117 rfl (w1.heap.size + 1) 9 i0 (.string ByteArray.empty) 1 16 Tryz.underlying117 hi hz0' hz1' hz2' rfl (by decide) _ _ _ rfl (World.ownsRow.alloc hown3 _) ⟨w2.heap.size + 1, 0, none⟩ 1 1 [Value.string t] rfl rfl ?c1 ?c2 ?c3 ?c4 ?c5 ?_)
              case c1 =>
                intro j u hj
                match j, hj with
                | 0, hj =>
                  simp at hj; subst hj
                  simp only [Addr.add]
                  rw [if_pos trivial, World.cell?_alloc_at _ _ _ _ HLAST.out.symm]
                  rfl
              case c2 => intro u hu; simp at hu; subst hu; rfl
              case c3 => have := HC.out; unfold maxLen; omega
              case c4 => have := HC.out; omega
              case c5 => simp; omega
              intro v' w3 hown4 hg3 _
              have hne3 : ∀ b, b ≤ w1.heap.size → ∀ j, (u6 : Value).ownBlock = some j → b ≠ j := fun b hb j hj => by have := HNE.out j hj; omega
              have g03 := ((((G02.out.other (i := 0) (by omega) (.string s2)).other (i := 1) (by omega) (.int .i64 0)).alloc (.cells #[.string s2, .int .i64 0] 147)).alloc (.cells #[.string t] 9)).grown hg3 (hne3 _ (by omega))
              have g13 := ((((G12.out.other (i := 0) (by omega) (.string s2)).other (i := 1) (by omega) (.int .i64 0)).alloc (.cells #[.string s2, .int .i64 0] 147)).alloc (.cells #[.string t] 9)).grown hg3 (hne3 _ (by omega))
              have hq3 := (((H2.out.set s2 0).alloc (.cells #[.string s2, .int .i64 0] 147)).alloc (.cells #[.string t] 9)).grown hg3 (hne3 _ (by omega))
              have hB3 := ((((hB2.setCell (p := ⟨w1.heap.size, 0, none⟩) (by simp; omega) (.string s2)).setCell (p := ⟨w1.heap.size, 1, none⟩) (by simp; omega) (.int .i64 0)).alloc (by simp; omega) (.cells #[.string s2, .int .i64 0] 147)).alloc (by simp; omega) (.cells #[.string t] 9)).grown hg3 (by simp; omega) (fun j hj => by have := HNE.out j hj; omega)
              have hbl3 : w1.heap.size < w3.heap.size := Nat.lt_of_lt_of_le (by simp; omega) hg3.size
              have hown5 : OwnS (w1.heap.size + 1) v' (acc ++ [t]) w3 := by unfold OwnS; rw [List.length_append, List.map_append]; exact hown4
              have hrel3 : ListRel w w1.heap.size n (s, er) s1 v' (.int .i64 ((k + 1 : Nat) : Int)) w3 := by
                refine ⟨g03, g13, hB3, hbl3, .inl ⟨k + 1, acc ++ [t], s2, rfl, by omega, by rw [List.length_append, HC.out]; rfl, by omega, ?_, hown5, hq3⟩⟩
                rw [← HEQ.out, HU.out, sTexts, HT.out]
                rfl
              have HREL := Lib.hid hrel3
              clear hown2 hown3 hown4 hown5 hg3 hne3 g03 g13 hq3 hB3 hbl3 hrel3 hq0c hq1c hqf0 hqf1
              go_wp2
              go_roundw
              case rel => exact HREL.out
              case measure => simp [intOf]; omega
            · have hqs : qSt (sk, 0) (s2, e2) = (sk, e2) := by simp [qSt, he2]
              rw [hqs]
              clear hqs
              have hown3 : OwnS (w1.heap.size + 1) u6 acc (((w2.setCell ⟨w1.heap.size, 0, none⟩ (.string sk)).setCell ⟨w1.heap.size, 1, none⟩ (.int .i64 e2)).alloc (.cells #[.string sk, .int .i64 e2] 147)) :=
                World.ownsRow.alloc (ownsRow_setCell_other (ownsRow_setCell_other hown2 (fun e => by have := HNE.out _ e; simp at this; omega) _) (fun e => by have := HNE.out _ e; simp at this; omega) _) _
              have hlast : (((w2.setCell ⟨w1.heap.size, 0, none⟩ (.string sk)).setCell ⟨w1.heap.size, 1, none⟩ (.int .i64 e2)).alloc (.cells #[.string sk, .int .i64 e2] 147)).heap.size = w2.heap.size + 1 := by simp
              have HLAST := Lib.hid hlast
              clear hlast
              go_wp2_with (at_builtin; refine wpList_append_own _ rfl _ _ 117 rfl (w1.heap.size + 1) 9 i0 (.string ByteArray.empty) 1 16 Tryz.underlying117 hi hz0' hz1' hz2' rfl (by decide) _ _ _ rfl (World.ownsRow.alloc hown3 _) ⟨w2.heap.size + 1, 0, none⟩ 1 1 [Value.string t] rfl rfl ?c1 ?c2 ?c3 ?c4 ?c5 ?_)
              case c1 =>
                intro j u hj
                match j, hj with
                | 0, hj =>
                  simp at hj; subst hj
                  simp only [Addr.add]
                  rw [if_pos trivial, World.cell?_alloc_at _ _ _ _ HLAST.out.symm]
                  rfl
              case c2 => intro u hu; simp at hu; subst hu; rfl
              case c3 => have := HC.out; unfold maxLen; omega
              case c4 => have := HC.out; omega
              case c5 => simp; omega
              intro v' w3 hown4 hg3 _
              have hne3 : ∀ b, b ≤ w1.heap.size → ∀ j, (u6 : Value).ownBlock = some j → b ≠ j := fun b hb j hj => by have := HNE.out j hj; omega
              have g03 := ((((G02.out.other (i := 0) (by omega) (.string sk)).other (i := 1) (by omega) (.int .i64 e2)).alloc (.cells #[.string sk, .int .i64 e2] 147)).alloc (.cells #[.string t] 9)).grown hg3 (hne3 _ (by omega))
              have g13 := ((((G12.out.other (i := 0) (by omega) (.string sk)).other (i := 1) (by omega) (.int .i64 e2)).alloc (.cells #[.string sk, .int .i64 e2] 147)).alloc (.cells #[.string t] 9)).grown hg3 (hne3 _ (by omega))
              have hq3 := (((H2.out.set sk e2).alloc (.cells #[.string sk, .int .i64 e2] 147)).alloc (.cells #[.string t] 9)).grown hg3 (hne3 _ (by omega))
              have hB3 := ((((hB2.setCell (p := ⟨w1.heap.size, 0, none⟩) (by simp; omega) (.string sk)).setCell (p := ⟨w1.heap.size, 1, none⟩) (by simp; omega) (.int .i64 e2)).alloc (by simp; omega) (.cells #[.string sk, .int .i64 e2] 147)).alloc (by simp; omega) (.cells #[.string t] 9)).grown hg3 (by simp; omega) (fun j hj => by have := HNE.out j hj; omega)
              have hbl3 : w1.heap.size < w3.heap.size := Nat.lt_of_lt_of_le (by simp; omega) hg3.size
              have hrel3 : ListRel w w1.heap.size n (s, er) s1 v' (.int .i64 ((k + 1 : Nat) : Int)) w3 := by
                refine ⟨g03, g13, hB3, hbl3, .inr ⟨k + 1, sk, s2, e2, rfl, by omega, he2, ?_, hq3⟩⟩
                rw [← HEQ.out, HU.out, sTexts, HT.out]
                simp [he2]
              have HREL := Lib.hid hrel3
              clear hown2 hown3 hown4 hg3 hne3 g03 g13 hq3 hB3 hbl3 hrel3 hq0c hq1c hqf0 hqf1
              go_wp2
              go_roundw
              case rel => exact HREL.out
              case measure => simp [intOf]; omega
          · have hkn : k = n := by omega
            have hS2 : sList (s, er) = (acc, (sk, 0)) := by rw [HS.out, ← HEQ.out, hkn, Nat.sub_self]; rfl
            have HS2 := Lib.hid hS2
            have hr0 := G1.out.left
            have hr1 := G1.out.err
            have hrf0 := G1.out.free 0
            have hrf1 := G1.out.free 1
            have hrz := G1.out.lt
            simp only at hr0 hr1
            have HF := Lib.hid (G1.out.set sk 0)
            have hownb := OwnS.mono hown (show w.heap.size ≤ w1.heap.size + 1 by omega)
            have hne : ∀ g, (u6 : Value).ownBlock = some g → w1.heap.size + 1 ≤ g := fun g hg => (World.ownsRow.lt hown g hg).1
            have hownf : OwnS w.heap.size u6 acc ((wr.setCell ⟨w.heap.size + 1, 0, none⟩ (.string sk)).setCell ⟨w.heap.size + 1, 1, none⟩ (.int .i64 0)) :=
              ownsRow_setCell_other (ownsRow_setCell_other hownb (fun e => by have := hne _ e; simp at this; omega) _) (fun e => by have := hne _ e; simp at this; omega) _
            have HOWN := Lib.hid hownf
            have HBF := Lib.hid ((hB.setCell (p := ⟨w.heap.size + 1, 0, none⟩) (by simp) (.string sk)).setCell (p := ⟨w.heap.size + 1, 1, none⟩) (by simp) (.int .i64 0))
            clear hS2 hownb hne hownf hown hB hkn
            go_wp2
            refine bodyPost_ret (v := .tuple #[rv (sk, 0), u6]) (by simp [results, Tryz.results117, go_sem, HF.out.left, HF.out.err]) rfl ?_
            have hq : qListSt (s, er) = (sk, 0) := by unfold qListSt; rw [HS2.out]; rfl
            rw [hq, HS2.out]
            exact ⟨_, rfl, HOWN.out, HBF.out⟩
        · have hq0c := hq.left
          have hq1c := hq.err
          simp only at hq0c hq1c
          have hs0 := G0.out.left
          simp only at hs0
          have hr0 := G1.out.left
          have hr1 := G1.out.err
          have hrf0 := G1.out.free 0
          have hrf1 := G1.out.free 1
          have hrz := G1.out.lt
          simp only at hr0 hr1
          have HF := Lib.hid (G1.out.set s e)
          have HBF := Lib.hid ((hB.setCell (p := ⟨w.heap.size + 1, 0, none⟩) (by simp) (.string s)).setCell (p := ⟨w.heap.size + 1, 1, none⟩) (by simp) (.int .i64 e))
          have hS2 : sList (s, er) = ([], (s', e)) := by rw [HS.out, heq]
          have HS2 := Lib.hid hS2
          have hb0 : (e == 0) = false := by simp [hne]
          have hb2 : (e != 0) = true := by simp [hne]
          have HNE := Lib.hid hne
          clear g0 g1 hS2 hB heq hne hq
          by_cases hlt : k < n
          all_goals
            go_wp2
            refine bodyPost_ret (v := .tuple #[rv (s, e), .slice none 0 0]) (by simp [results, Tryz.results117, go_sem, HF.out.left, HF.out.err]) rfl ?_
            have hq : qListSt (s, er) = (s, e) := by unfold qListSt; rw [HS2.out]; simp [qSt, HNE.out]
            rw [hq, HS2.out]
            exact ⟨_, rfl, ownS_nil _ _, HBF.out⟩
  · have hb : (e1 == 0) = false := by simp [he]
    have HS := Lib.hid (sList_e HR.out he)
    have hb2 : (e1 != 0) = true := by simp [he]
    clear hB1
    go_wp2
    refine wp_loop_rounds 1 ?_
    rw [rounds_succ]
    go_wp2
    all_goals
      refine bodyPost_ret (v := .tuple #[rv (s, e1), .slice none 0 0]) (by simp [results, Tryz.results117, go_sem, HE0.out, HE1.out]) rfl ?_
      have hq : qListSt (s, er) = (s, e1) := by unfold qListSt; rw [HS.out]; simp [qSt, he]
      rw [hq, HS.out]
      exact ⟨_, rfl, ownS_nil _ _, HB.out _ _ _⟩
end Go.Proofs.YtcedliaeipabnaaGreat

namespace Go.Proofs.YtcedliaeipabnaaGreat
open Go.RowKit

theorem empty_iff (s : ByteArray) : s.toList.isEmpty = decide (s.size = 0) := by
  rw [ByteArray.toList_eq]
  have : s.data.toList.length = s.size := by simp
  cases h : s.data.toList with
  | nil => rw [h] at this; simp at this; simp [← this]
  | cons a r =>
    rw [h, List.length_cons] at this
    rw [decide_eq_false (by omega)]
    rfl

set_option maxHeartbeats 1000000 in
set_option maxRecDepth 100000 in
theorem refR_done (s : ByteArray) (er : Int) (w : World) :
    Calls Tryz.prog 118 #[.agg #[.string s, .int .i64 er]] w fun e w' => e = .returned (.int .i64 (doneS (s, er))) ∧ w.alloc (.cells #[.string s, .int .i64 er] 147) = w' := by
  by_cases he : er = 0
  · subst he
    by_cases hz : s.size = 0
    · have hes : s.toList.isEmpty = true := by rw [empty_iff]; simp [hz]
      have hes2 : s.toList = [] := by simpa using hes
      go_enter Tryz.func118, Tryz.ntmps118
      go_wp2
      go_ret
      exact ⟨by simp [doneS, hz], rfl⟩
    · have hes : s.toList.isEmpty = false := by rw [empty_iff]; simp [hz]
      go_enter Tryz.func118, Tryz.ntmps118
      go_wp2
      go_ret
      have hd : doneS (s, 0) = 5 := by
        unfold doneS
        simp only
        rw [if_neg (by simp), if_pos (by omega)]
      exact ⟨by rw [hd]; rfl, rfl⟩
  · have hb : (er == 0) = false := by simp [he]
    go_enter Tryz.func118, Tryz.ntmps118
    go_wp2
    go_ret
    exact ⟨by simp [doneS, he], rfl⟩
end Go.Proofs.YtcedliaeipabnaaGreat

namespace Go.Proofs.YtcedliaeipabnaaGreat
open Go.RowKit Go.Sort

/-- what is read: the two numbers, the IDs, the reader's state behind them -/
def rSt (s : ByteArray) : ByteArray × Int := (sList (sNum (sNum (s, 0)).2).2).2
def rMan (s : ByteArray) : Man := ⟨(sNum (s, 0)).1, (sNum (sNum (s, 0)).2).1, (sList (sNum (sNum (s, 0)).2).2).1⟩
def readM (s : ByteArray) : Man × Int :=
  if doneS (rSt s) ≠ 0 then (⟨0, 0, []⟩, doneS (rSt s)) else if manE (rMan s) ≠ 0 then (⟨0, 0, []⟩, manE (rMan s)) else (rMan s, 0)

theorem sTexts_mem : ∀ (n : Nat) (st : ByteArray × Int) (acc : List ByteArray), ∀ x ∈ (sTexts n st acc).1, x ∈ acc ∨ x.size ≤ st.1.size := by
  intro n
  induction n with
  | zero => intro st acc x hx; exact .inl (by simpa [sTexts] using hx)
  | succ n ih =>
    intro st acc x hx
    have hz := sText_size st
    simp only [sTexts] at hx
    split at hx
    · simp at hx
    · rcases ih _ _ x hx with h | h
      · rcases List.mem_append.1 h with h | h
        · exact .inl h
        · right
          simp at h
          subst h
          unfold sText
          split
          · simp
          · split
            · simp
            · have h1 := sCount_size 65536 st
              have h2 := extract_size_le (sCount 65536 st).2.2.1 0 (sCount 65536 st).1
              simp only
              omega
      · exact .inr (by omega)

theorem sList_mem (st : ByteArray × Int) : ∀ x ∈ (sList st).1, x.size ≤ st.1.size := fun x hx => by
  have h := sCount_size 4096 st
  unfold sList at hx
  split at hx
  · simp at hx
  · rcases sTexts_mem _ _ _ x hx with h' | h'
    · simp at h'
    · omega

theorem rMan_short {s : ByteArray} (hs : s.size ≤ 5000) : ∀ x ∈ (rMan s).ids, x.size ≤ 5000 := fun x hx => by
  have h1 := sNum_size (s, 0)
  have h2 := sNum_size (sNum (s, 0)).2
  have h3 := sList_mem (sNum (sNum (s, 0)).2).2 x hx
  simp only at h1
  omega

set_option maxHeartbeats 4000000 in
set_option maxRecDepth 100000 in
theorem readMC (s : ByteArray) (hs : s.size ≤ 9223372036854775807) (hsh : ∀ x ∈ (rMan s).ids, x.size ≤ 5000) (w : World) :
    Calls Tryz.prog 115 #[.string s] w fun e w' => ∃ v, e = .returned (.tuple #[mv (readM s).1 v, .int .i64 (readM s).2]) ∧ OwnS w.heap.size v (readM s).1.ids w' ∧ Below w.heap.size w w' := by
  have r0 := MBox.new w ⟨0, 0, []⟩ (.slice none 0 0)
  have hb0 : Below w.heap.size w (w.alloc (.cells #[.int .i64 0, .int .i64 0, .slice none 0 0] 119)) := (Below.refl _ w).alloc (Nat.le_refl _) _
  have R0 := Lib.hid r0
  have HB0 := Lib.hid hb0
  have hlt0 := r0.lt
  clear r0 hb0
  go_enter Tryz.func115, Tryz.ntmps115
  go_wp2_with fail
  refine (new_any s _).mono ?_
  rintro e w1 ⟨rfl, hw1⟩
  have hrd : Rd (w.heap.size + 1) (s, 0) w1 := by
    rw [← hw1]
    have h := heap_alloc_new (w.alloc (.cells #[.int .i64 0, .int .i64 0, .slice none 0 0] 119)) (.cells #[.string s, .int .i64 0] 180)
    rw [World.size_alloc] at h
    exact h
  have r1 : MBox w1 w.heap.size ⟨0, 0, []⟩ (.slice none 0 0) := by rw [← hw1]; exact R0.out.alloc _
  have hB1 : Below w.heap.size w w1 := by rw [← hw1]; exact HB0.out.alloc HB0.out.size _
  have H1 := Lib.hid (And.intro r1 hB1)
  have HR1 := Lib.hid hrd
  clear hrd r1 hB1 R0 HB0 hw1
  simp only [World.size_alloc]
  go_wp2_with fail
  refine (rnum_any (w.heap.size + 1) (s, 0) w1 HR1.out hs).mono ?_
  rintro e w2 ⟨rfl, hrd2, hg2⟩
  have z1 : (sNum (s, 0)).2.1.size ≤ s.size := sNum_size (s, 0)
  have hsz1 := H1.out.2.size
  have H2 := Lib.hid (And.intro (H1.out.1.kept hg2 (fun e => by have : w.heap.size = w.heap.size + 1 := Option.some.inj e; omega)) (H1.out.2.grown hg2 hsz1 (fun k e => by have : w.heap.size + 1 = k := Option.some.inj e; omega)))
  have HR2 := Lib.hid hrd2
  clear hrd2 hg2 H1 HR1
  go_wp2_with fail
  refine (rnum_any (w.heap.size + 1) _ w2 HR2.out (by omega)).mono ?_
  rintro e w3 ⟨rfl, hrd3, hg3⟩
  have z2 := sNum_size (sNum (s, 0)).2
  have hsz2 := H2.out.2.size
  have H3 := Lib.hid (And.intro (H2.out.1.kept hg3 (fun e => by have : w.heap.size = w.heap.size + 1 := Option.some.inj e; omega)) (H2.out.2.grown hg3 hsz2 (fun k e => by have : w.heap.size + 1 = k := Option.some.inj e; omega)))
  have HR3 := Lib.hid hrd3
  clear hrd3 hg3 H2 HR2
  go_wp2_with fail
  refine (rlist_any (w.heap.size + 1) _ w3 HR3.out (by omega)).mono ?_
  rintro e w4 ⟨v, rfl, hown, hrd4, hg4⟩
  have hsz3 := H3.out.2.size
  have hlt3 := H3.out.1.lt
  have H4 := Lib.hid (And.intro (H3.out.1.kept hg4 (fun e => by have : w.heap.size = w.heap.size + 1 := Option.some.inj e; omega)) (H3.out.2.grown hg4 hsz3 (fun k e => by have : w.heap.size + 1 = k := Option.some.inj e; omega)))
  have HR4 := Lib.hid (show Rd (w.heap.size + 1) (rSt s) w4 from hrd4)
  have HO4 := Lib.hid (show OwnS w3.heap.size v (rMan s).ids w4 from hown)
  have hm0 : (((sNum (s, 0)).1 : Nat) : Int) = (rMan s).size := rfl
  have hm1 : (((sNum (sNum (s, 0)).2).1 : Nat) : Int) = (rMan s).chunk := rfl
  rw [hm0, hm1]
  have zR : (rSt s).1.size ≤ s.size := by
    have z3 := sList_size (sNum (sNum (s, 0)).2).2
    unfold rSt
    omega
  clear hrd4 hg4 H3 HR3 hown hm0 hm1
  have hRM : readM s = if doneS (rSt s) ≠ 0 then (⟨0, 0, []⟩, doneS (rSt s)) else if manE (rMan s) ≠ 0 then (⟨0, 0, []⟩, manE (rMan s)) else (rMan s, 0) := rfl
  have HRM := Lib.hid hRM
  clear hRM z1 z2
  generalize rMan s = M at *
  generalize rSt s = st at *
  obtain ⟨la, lc, rfl, hrow, hlm⟩ := ownS_row HO4.out
  have hdn := fun W (h : Rd (w.heap.size + 1) st W) => done_any (w.heap.size + 1) st W h (by omega)
  have hd2 : (if st.2 ≠ 0 then st.2 else if 0 < st.1.size then (5 : Int) else 0) = doneS st := rfl
  rw [hd2] at hdn
  generalize doneS st = D at *
  have hg := MBox.new w4 M (.slice la M.ids.length lc)
  have hg0 := hg.c0
  have hg1 := hg.c1
  have hg2 := hg.c2
  have hgl := hg.lt
  have hb5 : Below w4.heap.size w4 (w4.alloc (.cells #[.int .i64 M.size, .int .i64 M.chunk, .slice la M.ids.length lc] 119)) := (Below.refl _ w4).alloc (Nat.le_refl _) _
  have HR5 := Lib.hid (HR4.out.below hb5 HR4.out.lt)
  have hs4 := H4.out.2.size
  have r5 := H4.out.1.below hb5 H4.out.1.lt
  have hr5l := r5.lt
  have H5 := Lib.hid (And.intro r5 (H4.out.2.trans (hb5.mono hs4)))
  have HA5 := Lib.hid (show MArg _ M la from ⟨hrow.below hb5, by unfold maxLen at hlm; omega, hsh⟩)
  have HG5 := Lib.hid hg
  have HO5 := Lib.hid (row_below HO4.out hb5)
  clear hb5 hg r5 hrow HR4 HO4 H4 hd2
  go_wp2_with fail
  generalize w4.alloc (.cells #[.int .i64 M.size, .int .i64 M.chunk, .slice la M.ids.length lc] 119) = w5 at *
  refine (hdn w5 HR5.out).mono ?_
  rintro e w6 ⟨rfl, rfl⟩
  have f0 := H5.out.1.free 0
  have f1 := H5.out.1.free 1
  have f2 := H5.out.1.free 2
  have k0 := H5.out.1.c0
  have k1 := H5.out.1.c1
  have k2 := H5.out.1.c2
  by_cases hD : D = 0
  case neg =>
    have hj := HRM.out
    rw [if_pos hD] at hj
    have hne : (D != 0) = true := by simp [hD]
    have HJ := Lib.hid hj
    have hput := Lib.hid (H5.out.1.put ⟨0, 0, []⟩ (.slice none 0 0))
    clear hj hD
    go_wp2_with fail
    refine bodyPost_ret (results_man rfl _ _ w.heap.size 119 _ _ _ (0, 0) _ rfl hput.out Tryz.underlying119 rfl manInfo) rfl ?_
    rw [HJ.out]
    exact ⟨_, rfl, ownS_nil _ _, below_put3 H5.out.2 (Nat.le_refl _) _ _ _⟩
  case pos =>
    have hj := HRM.out
    rw [if_neg (fun hh => hh hD)] at hj
    have HJ := Lib.hid hj
    subst hD
    clear hj HRM
    have hck := fun W (hW : MArg W M la) => checkMC M la lc W hW
    go_wp2_with fail
    refine (hck _ HA5.out).mono ?_
    rintro e w6 ⟨rfl, hb6⟩
    have hs5 := H5.out.2.size
    have r6 := H5.out.1.below hb6 hr5l
    have g6 := HG5.out.below hb6 hgl
    have l0 := r6.c0
    have l1 := r6.c1
    have l2 := r6.c2
    have u0 := r6.free 0
    have u1 := r6.free 1
    have u2 := r6.free 2
    have n0 := g6.c0
    have n1 := g6.c1
    have n2 := g6.c2
    have HB6 := Lib.hid (H5.out.2.trans (hb6.mono hs5))
    by_cases hE : manE M = 0
    · have hj := HJ.out
      rw [if_neg (fun hh => hh hE)] at hj
      have HJ2 := Lib.hid hj
      have hput := Lib.hid (r6.put M (.slice la M.ids.length lc))
      have hO := Lib.hid (row_put3 (row_below HO5.out hb6) (G := w.heap.size) (by omega) (.int .i64 M.size) (.int .i64 M.chunk) (.slice la M.ids.length lc))
      clear hj HJ hb6 r6 g6 k0 k1 k2 f0 f1 f2 hg0 hg1 hg2
      go_wp2_with fail
      refine bodyPost_ret (results_man rfl _ _ w.heap.size 119 _ _ _ (0, 0) _ rfl hput.out Tryz.underlying119 rfl manInfo) rfl ?_
      rw [HJ2.out]
      exact ⟨_, rfl, row_mono hO.out (by omega), below_put3 HB6.out (Nat.le_refl _) _ _ _⟩
    · have hj := HJ.out
      rw [if_pos hE] at hj
      have hne : (manE M != 0) = true := by simp [hE]
      have HJ2 := Lib.hid hj
      have hput := Lib.hid (r6.put ⟨0, 0, []⟩ (.slice none 0 0))
      clear hj hE HJ hb6 r6 g6 k0 k1 k2 f0 f1 f2 hg0 hg1 hg2
      generalize manE M = E at *
      go_wp2_with fail
      refine bodyPost_ret (results_man rfl _ _ w.heap.size 119 _ _ _ (0, 0) _ rfl hput.out Tryz.underlying119 rfl manInfo) rfl ?_
      rw [HJ2.out]
      exact ⟨_, rfl, ownS_nil _ _, below_put3 HB6.out (Nat.le_refl _) _ _ _⟩
end Go.Proofs.YtcedliaeipabnaaGreat

namespace Go.Proofs.YtcedliaeipabnaaGreat
open Go.RowKit Go.Sort
set_option maxRecDepth 100000

/-- 9's Read's error of a text -/
def rdM (s : ByteArray) : Int := (readM s).2
/-- the document's answer on one -/
abbrev chkFm (f : Ft) : Int := chkF rdM f

theorem isNameC (s : ByteArray) (w : World) : Calls Tryz.prog 60 #[.string s] w fun e w' => e = .returned (.bool (decide (1 ≤ s.size ∧ s.size ≤ 64))) ∧ w = w' := by
  by_cases h1 : 1 ≤ s.size
  · have g1 : decide ((1 : Int) ≤ (s.size : Int)) = true := by simp; omega
    by_cases h2 : s.size ≤ 64
    · rw [decide_eq_true ⟨h1, h2⟩]
      have g2 : decide ((s.size : Int) ≤ 64) = true := by simp; omega
      clear h1 h2
      go_enter Tryz.func60, Tryz.ntmps60
      go_wp2
      go_ret
      exact ⟨rfl, rfl⟩
    · rw [decide_eq_false (fun h => h2 h.2)]
      have g2 : decide ((s.size : Int) ≤ 64) = false := by simp; omega
      clear h1 h2
      go_enter Tryz.func60, Tryz.ntmps60
      go_wp2
      go_ret
      exact ⟨rfl, rfl⟩
  · rw [decide_eq_false (fun h => h1 h.1)]
    have g1 : decide ((1 : Int) ≤ (s.size : Int)) = false := by simp; omega
    clear h1
    go_enter Tryz.func60, Tryz.ntmps60
    go_wp2
    go_ret
    exact ⟨rfl, rfl⟩

theorem rMan_short' {s : ByteArray} (hs : s.size ≤ 5000) : ∀ x ∈ (rMan s).ids, x.size ≤ 5000 := rMan_short hs

set_option maxHeartbeats 1000000 in
theorem chkManC (s : ByteArray) (hs : s.size ≤ 5000) (w : World) : Calls Tryz.prog 88 #[.string s] w fun e w' => e = .returned (.int .i64 (if 16384 < s.size then 3 else rdM s)) ∧ Below w.heap.size w w' := by
  have H := Lib.hid (fun W => readMC s (by omega) (rMan_short hs) W)
  rw [if_neg (by omega)]
  have hi : decide ((16384 : Int) < (s.size : Int)) = false := by simp; omega
  have e : rdM s = (readM s).2 := rfl
  rw [e]
  clear e hs
  generalize readM s = M at *
  obtain ⟨⟨z, c, ids⟩, x⟩ := M
  unfold mv at H
  simp only at H ⊢
  go_enter Tryz.func88, Tryz.ntmps88
  go_wp2_with fail
  refine (H.out _).mono ?_
  rintro e w1 ⟨v, rfl, hown, hb⟩
  obtain ⟨la, lc, rfl, -, -⟩ := ownS_row hown
  have HB := Lib.hid (And.intro hb (hb.alloc hb.size (.cells #[.int .i64 z, .int .i64 c, .slice la ids.length lc] 119)))
  clear hb hown
  go_wp2_with fail
  go_ret
  exact ⟨rfl, HB.out.2⟩

/-- what a value's error is -/
def valE (k : Int) (v : ByteArray) : Int :=
  if k = 1 then (if 16384 < v.size then 3 else rdM v)
  else if k = 2 then (if 256 < v.size then 3 else 0)
  else if k = 3 then (if v.size < 1 ∨ 64 < v.size then 14 else 0)
  else (if v.size ≠ 8 then 5 else 0)

set_option maxHeartbeats 2000000 in
theorem chkValC (k : Int) (v : ByteArray) (h1 : 1 ≤ k) (h4 : k ≤ 4) (hs : v.size ≤ 5000) (w : World) : Calls Tryz.prog 61 #[.int .i64 k, .string v] w fun e w' => e = .returned (.int .i64 (valE k v)) ∧ Below w.heap.size w w' := by
  have HM := Lib.hid (fun W => chkManC v hs W)
  have HN := Lib.hid (fun W => isNameC v W)
  obtain rfl | rfl | rfl | rfl : k = 1 ∨ k = 2 ∨ k = 3 ∨ k = 4 := by omega
  · have e : valE 1 v = if 16384 < v.size then 3 else rdM v := rfl
    rw [e]
    clear e HN
    generalize (if 16384 < v.size then 3 else rdM v) = x at *
    go_enter Tryz.func61, Tryz.ntmps61
    go_wp2_with fail
    refine (HM.out _).mono ?_
    rintro e w1 ⟨rfl, hb⟩
    have HB := Lib.hid hb
    clear hb
    go_wp2_with fail
    go_ret
    exact ⟨rfl, HB.out⟩
  · have e : valE 2 v = if 256 < v.size then 3 else 0 := rfl
    rw [e]
    clear e HN HM
    by_cases h : 256 < v.size
    · rw [if_pos h]
      have g : decide ((256 : Int) < (v.size : Int)) = true := by simp; omega
      clear h
      go_enter Tryz.func61, Tryz.ntmps61
      go_wp2_with fail
      go_ret
      exact ⟨rfl, Below.refl _ _⟩
    · rw [if_neg h]
      have g : decide ((256 : Int) < (v.size : Int)) = false := by simp; omega
      clear h
      go_enter Tryz.func61, Tryz.ntmps61
      go_wp2_with fail
      go_ret
      exact ⟨rfl, Below.refl _ _⟩
  · have e : valE 3 v = if v.size < 1 ∨ 64 < v.size then 14 else 0 := rfl
    rw [e]
    clear e HM
    by_cases h : 1 ≤ v.size ∧ v.size ≤ 64
    · rw [if_neg (by omega)]
      rw [decide_eq_true h] at HN
      clear h
      go_enter Tryz.func61, Tryz.ntmps61
      go_wp2_with (go_at_call 60; refine (HN.out _).mono ?_; rintro e w1 ⟨rfl, rfl⟩)
      go_ret
      exact ⟨rfl, Below.refl _ _⟩
    · rw [if_pos (by omega)]
      rw [decide_eq_false h] at HN
      clear h
      go_enter Tryz.func61, Tryz.ntmps61
      go_wp2_with (go_at_call 60; refine (HN.out _).mono ?_; rintro e w1 ⟨rfl, rfl⟩)
      go_ret
      exact ⟨rfl, Below.refl _ _⟩
  · have e : valE 4 v = if v.size ≠ 8 then 5 else 0 := rfl
    rw [e]
    clear e HM HN
    by_cases h : v.size = 8
    · rw [if_neg (by simp [h])]
      have g : ((v.size : Int) != 8) = false := by simp; omega
      clear h
      go_enter Tryz.func61, Tryz.ntmps61
      go_wp2_with fail
      go_ret
      exact ⟨rfl, Below.refl _ _⟩
    · rw [if_pos h]
      have g : ((v.size : Int) != 8) = true := by simp; omega
      clear h
      go_enter Tryz.func61, Tryz.ntmps61
      go_wp2_with fail
      go_ret
      exact ⟨rfl, Below.refl _ _⟩

theorem chkF_val (f : Ft) (h1 : chkD f.d = 0) (h2 : chkS f.s = 0) (h3 : f.d.1 = f.s.r) (h4 : 1 ≤ f.k) (h5 : f.k ≤ 4) (h6 : 1 ≤ f.n.size ∧ f.n.size ≤ 64) : chkFm f = valE f.k f.v := by
  show chkF rdM f = _
  unfold chkF valE
  rw [if_neg (by simp [h1]), if_neg (by simp [h2]), if_neg (by simp [h3]), if_neg (by omega), if_neg (by omega)]

set_option maxHeartbeats 4000000 in
/-- Check, the program's -/
theorem fchkC (f : Ft) (hs : f.v.size ≤ 5000) (w : World) : Calls Tryz.prog 35 #[.agg (fcs f).toArray] w fun e w' => e = .returned (.int .i64 (chkFm f)) ∧ Below w.heap.size w w' := by
  have hcd := fun W => checkC f.d W
  have hcs := fun W => tchkC f.s W
  have hval := fun (h1 : 1 ≤ f.k) (h2 : f.k ≤ 4) W => chkValC f.k f.v h1 h2 hs W
  have hnm := fun W => isNameC f.n W
  have hin := boxF_in w f
  have HB0 := Lib.hid (boxF_gr w f).below
  have HSZ := Lib.hid (boxF_size w f)
  have hch : chkFm f = if chkD f.d ≠ 0 then chkD f.d else if chkS f.s ≠ 0 then chkS f.s else if f.d.1 ≠ f.s.r then 5 else if f.k < 1 ∨ 4 < f.k then 1 else if f.n.size < 1 ∨ 64 < f.n.size then 14 else valE f.k f.v := rfl
  generalize chkFm f = R at *
  have HJ := Lib.hid hch
  clear hch
  have HVAL := Lib.hid hval
  obtain ⟨V, hV⟩ : ∃ V, valE f.k f.v = V := ⟨_, rfl⟩
  rw [hV] at HJ HVAL
  clear hV
  obtain ⟨D, hDD⟩ : ∃ D, chkD f.d = D := ⟨_, rfl⟩
  obtain ⟨E, hEE⟩ : ∃ E, chkS f.s = E := ⟨_, rfl⟩
  rw [hDD] at HJ hcd
  rw [hEE] at HJ hcs
  clear hDD hEE
  clear hval hs
  unfold boxD at hcd
  unfold boxS at hcs
  have HCD := Lib.hid hcd
  have HCS := Lib.hid hcs
  have HNM := Lib.hid hnm
  clear hcd hcs hnm
  have cells : ∀ U, Below (boxF w f).heap.size (boxF w f) U → ∀ j v, (fcs f)[j]? = some v → U.cell? ⟨w.heap.size, j, none⟩ = some v := fun U hU j v hv => by
    rw [hU.cell (p := ⟨w.heap.size, j, none⟩) (by show w.heap.size < _; rw [HSZ.out]; omega)]
    have := hin j v hv
    rwa [Nat.zero_add] at this
  have HC := Lib.hid cells
  have c0 := cells _ (Below.refl _ _) 0 _ rfl
  have c1 := cells _ (Below.refl _ _) 1 _ rfl
  clear cells hin
  unfold boxF at c0 c1 HC HB0
  go_enter Tryz.func35, Tryz.ntmps35
  go_wp2_with fail
  generalize w.alloc (.cells (fcs f).toArray 61) = W at *
  refine (HCD.out _).mono ?_
  rintro e w1 ⟨rfl, hw⟩
  have hb1 : Below W.heap.size W w1 := by rw [← hw]; exact (Below.refl _ _).alloc (Nat.le_refl _) _
  have HB1 := Lib.hid hb1
  clear hb1 hw c0 c1 HCD
  by_cases hD : D = 0
  case neg =>
    replace HJ := Lib.hid (HJ.out.trans (if_pos hD))
    have hne : (D != 0) = true := by simp [hD]
    clear hD
    go_wp2_with fail
    go_ret
    exact ⟨by rw [HJ.out]; rfl, HB0.out.trans (HB1.out.mono HB0.out.size)⟩
  replace HJ := Lib.hid (HJ.out.trans (if_neg (by simp [hD])))
  subst hD
  have c2 := HC.out w1 HB1.out 2 _ rfl
  have c3 := HC.out w1 HB1.out 3 _ rfl
  have c4 := HC.out w1 HB1.out 4 _ rfl
  go_wp2_with fail
  refine (HCS.out _).mono ?_
  rintro e w2 ⟨rfl, hw⟩
  have hb2 : Below w1.heap.size w1 w2 := by rw [← hw]; exact (Below.refl _ _).alloc (Nat.le_refl _) _
  have HB2 := Lib.hid (HB1.out.trans (hb2.mono HB1.out.size))
  clear hb2 hw c2 c3 c4 HCS
  by_cases hE : E = 0
  case neg =>
    replace HJ := Lib.hid (HJ.out.trans (if_pos hE))
    have hne : (E != 0) = true := by simp [hE]
    clear hE
    go_wp2_with fail
    go_ret
    exact ⟨by rw [HJ.out]; rfl, HB0.out.trans (HB2.out.mono HB0.out.size)⟩
  replace HJ := Lib.hid (HJ.out.trans (if_neg (by simp [hE])))
  subst hE
  have d0 := HC.out w2 HB2.out 0 _ rfl
  have d4 := HC.out w2 HB2.out 4 _ rfl
  have d5 := HC.out w2 HB2.out 5 _ rfl
  have d6 := HC.out w2 HB2.out 6 _ rfl
  have d7 := HC.out w2 HB2.out 7 _ rfl
  have HB3 := Lib.hid (HB0.out.trans (HB2.out.mono HB0.out.size))
  clear HC HB0 HB1 HB2 HSZ
  by_cases hR : f.d.1 = f.s.r
  case neg =>
    replace HJ := Lib.hid (HJ.out.trans (if_pos hR))
    have hne : (f.d.1 != f.s.r) = true := by simp [hR]
    clear hR
    go_wp2_with fail
    go_ret
    exact ⟨by rw [HJ.out]; rfl, HB3.out⟩
  replace HJ := Lib.hid (HJ.out.trans (if_neg (by simp [hR])))
  have hne : (f.d.1 != f.s.r) = false := by simp [hR]
  by_cases hK1 : f.k < 1
  · replace HJ := Lib.hid (HJ.out.trans (if_pos (.inl hK1)))
    have g : decide (f.k < 1) = true := by simp; omega
    clear hK1 hR
    go_wp2_with fail
    go_ret
    exact ⟨by rw [HJ.out]; rfl, HB3.out⟩
  have g1 : decide (f.k < 1) = false := by simp; omega
  by_cases hK2 : 4 < f.k
  · replace HJ := Lib.hid (HJ.out.trans (if_pos (.inr hK2)))
    have g : decide (4 < f.k) = true := by simp; omega
    clear hK1 hK2 hR
    go_wp2_with fail
    go_ret
    exact ⟨by rw [HJ.out]; rfl, HB3.out⟩
  have g2 : decide (4 < f.k) = false := by simp; omega
  replace HJ := Lib.hid (HJ.out.trans (if_neg (by omega)))
  have HV := Lib.hid (HVAL.out (by omega) (by omega))
  clear HVAL
  by_cases hN : 1 ≤ f.n.size ∧ f.n.size ≤ 64
  case neg =>
    replace HJ := Lib.hid (HJ.out.trans (if_pos (by omega)))
    rw [decide_eq_false hN] at HNM
    clear hN hK1 hK2 hR
    go_wp2_with (go_at_call 60; refine (HNM.out _).mono ?_; rintro e w3 ⟨rfl, rfl⟩)
    go_ret
    exact ⟨by rw [HJ.out]; rfl, HB3.out⟩
  replace HJ := Lib.hid (HJ.out.trans (if_neg (by omega)))
  rw [decide_eq_true hN] at HNM
  clear hN hK1 hK2 hR
  go_wp2_with (go_at_call 60; refine (HNM.out _).mono ?_; rintro e w3 ⟨rfl, rfl⟩)
  refine (HV.out _).mono ?_
  rintro e w3 ⟨rfl, hb3⟩
  have H4 := Lib.hid (HB3.out.trans (hb3.mono HB3.out.size))
  clear hb3
  go_wp2_with fail
  go_ret
  exact ⟨by rw [HJ.out]; rfl, H4.out⟩
end Go.Proofs.YtcedliaeipabnaaGreat

namespace Go.Proofs.YtcedliaeipabnaaGreat
set_option maxRecDepth 100000
open Go.RowKit Go.Sort

theorem firstF_atJ {rd : ByteArray → Int} {l : List Ft} {k : Nat} {d : Ft} (h : ∀ j d, j < k → l[j]? = some d → chkF rd d = 0) (hd : l[k]? = some d) (he : chkF rd d ≠ 0) : chkFs rd l = chkF rd d := by
  have h1 := firstF_at hd he (fun i g hi hg => h i g hi hg)
  rw [chkFs_bad (by rw [h1]; exact he), h1]
theorem chkFs_flatJ {rd : ByteArray → Int} {l : List Ft} (h : ∀ d ∈ l, chkF rd d = 0) (hr : ¬ RiseF l) : chkFs rd l = 5 := chkFs_flat (firstF_ok.2 h) hr
theorem chkFs_goodJ {rd : ByteArray → Int} {l : List Ft} (h : ∀ d ∈ l, chkF rd d = 0) (hr : RiseF l) : chkFs rd l = 0 := chkFs_good (firstF_ok.2 h) hr

set_option maxHeartbeats 4000000 in
set_option maxRecDepth 100000 in
theorem chkFsC (l : List Ft) (a : Option Addr) (cap : Nat) (w : World) (h : FIn w a l) (hl : l.length ≤ maxLen) (hv : ∀ f ∈ l, f.v.size ≤ 5000) :
    Calls Tryz.prog 34 #[.slice a l.length cap, .func (.func 35) #[] #[], .func (.func 36) #[] #[]] w fun e w' => e = .returned (.int .i64 (chkFs rdM l)) ∧ Go.RowKit.Below w.heap.size w w' := by
  have H := Lib.hid h
  clear h
  unfold maxLen at hl
  go_enter Tryz.func34, Tryz.ntmps34
  go_wp2_with fail
  go_loopw [13] (fun i wr => ∃ k : Nat, k ≤ l.length ∧ i = .int .i64 k ∧ Hid (∀ j d, j < k → l[j]? = some d → chkFm d = 0) ∧ Go.RowKit.Below w.heap.size w wr) (fun i _ => l.length - (intOf i).toNat)
  case atStart => exact ⟨0, Nat.zero_le _, rfl, Lib.hid (fun j d hj => by omega), Go.RowKit.Below.refl _ _⟩
  case round =>
    obtain ⟨k, hk, rfl, HK, hb⟩ := hrel
    have HB := Lib.hid hb
    have hbs := hb.size
    clear hb
    by_cases hlt : k < l.length
    · obtain ⟨d, hd⟩ : ∃ d, l[k]? = some d := ⟨_, List.getElem?_eq_getElem hlt⟩
      obtain ⟨b, off, rfl, hbl, c0⟩ := (H.out.below HB.out).at hd
      have c0 := Lib.hid c0
      have hi1 : (k : Int) < (l.length : Int) := by omega
      have hck := fun W => fchkC d (hv d (List.mem_of_getElem? hd)) W
      have HD := Lib.hid hd
      have hch : ∀ he : chkFm d ≠ 0, chkFs rdM l = chkFm d := fun he => firstF_atJ HK.out HD.out he
      have HCH := Lib.hid hch
      have HK3 := Lib.hid (show chkFm d = 0 → ∀ j d, j < k + 1 → l[j]? = some d → chkFm d = 0 from fun he j d hj hjd => by
        rcases Nat.lt_or_ge j k with h1 | h1
        · exact HK.out j d h1 hjd
        · obtain rfl : j = k := by omega
          rw [HD.out] at hjd
          rw [← Option.some.inj hjd]; exact he)
      generalize hE : chkFm d = E at hck HCH HK3
      clear hd hch hE
      by_cases he : E = 0
      · have HK2 := Lib.hid (HK3.out he)
        subst he
        clear HK3
        go_wp2_with (first
          | ((with_reducible refine fl_load ?_ (.tmp 15) ?_ b (off + k * 8) d ?_ ?_ ?_); rfl; rfl; rfl; exact c0.out)
          | ((with_reducible refine fl_store ?_ (.tmp 8) (.tmp 16) ?_ wr.heap.size d ?_ ?_ ?_ ?_); rfl; rfl; rfl; rfl; exact boxZ_old wr)
          | ((with_reducible refine fl_load ?_ (.tmp 8) ?_ wr.heap.size 0 d ?_ ?_ ?_); rfl; rfl; rfl; exact (boxZ_row wr d).range))
        refine (hck _).mono ?_
        rintro e w1 ⟨rfl, hb1⟩
        have HB1 := Lib.hid (HB.out.trans (((boxZ_below wr d).trans (hb1.mono (boxZ_below wr d).size)).mono hbs))
        clear hb1
        go_wp2_with fail
        go_roundw
        case rel => exact ⟨k + 1, by omega, by go_num, HK2, HB1.out⟩
        case measure => simp [intOf]; omega
      · have HF := Lib.hid (HCH.out he)
        have hne : (E != 0) = true := by simp [he]
        clear he HK3 HCH
        go_wp2_with (first
          | ((with_reducible refine fl_load ?_ (.tmp 15) ?_ b (off + k * 8) d ?_ ?_ ?_); rfl; rfl; rfl; exact c0.out)
          | ((with_reducible refine fl_store ?_ (.tmp 8) (.tmp 16) ?_ wr.heap.size d ?_ ?_ ?_ ?_); rfl; rfl; rfl; rfl; exact boxZ_old wr)
          | ((with_reducible refine fl_load ?_ (.tmp 8) ?_ wr.heap.size 0 d ?_ ?_ ?_); rfl; rfl; rfl; exact (boxZ_row wr d).range))
        refine (hck _).mono ?_
        rintro e w1 ⟨rfl, hb1⟩
        have HB1 := Lib.hid (HB.out.trans (((boxZ_below wr d).trans (hb1.mono (boxZ_below wr d).size)).mono hbs))
        clear hb1
        go_wp2_with fail
        go_ret
        exact ⟨by rw [HF.out]; rfl, HB1.out⟩
    · have hkn : k = l.length := by omega
      have HG := Lib.hid (show ∀ d ∈ l, chkFm d = 0 from fun d hd => by
        obtain ⟨j, hj, hjd⟩ := List.mem_iff_getElem.1 hd
        exact HK.out j d (by omega) (by rw [List.getElem?_eq_getElem hj, hjd]))
      clear hkn HK hk
      go_wp2_with fail
      go_loopw [10] (fun i wk => ∃ k : Nat, i = .int .i64 ((k : Int) + 1) ∧ k ≤ l.length ∧ Hid (∀ j, (h : j + 1 < l.length) → j < k → ltF l[j] l[j + 1] = true) ∧ Go.RowKit.Below w.heap.size w wk) (fun i _ => l.length + 1 - (intOf i).toNat)
      case atStart => exact ⟨0, by simp, Nat.zero_le _, Lib.hid (fun j _ hj => by omega), HB.out⟩
      case round =>
        obtain ⟨m, rfl, hm, HR, hb2⟩ := hrel
        have HB2 := Lib.hid hb2
        have hbs2 := hb2.size
        clear hb2
        by_cases hlt2 : m + 1 < l.length
        · obtain ⟨x, hx⟩ : ∃ x, l[m]? = some x := ⟨_, List.getElem?_eq_getElem (by omega)⟩
          obtain ⟨y, hy⟩ : ∃ y, l[m + 1]? = some y := ⟨_, List.getElem?_eq_getElem hlt2⟩
          obtain ⟨b, off, rfl, hbl, c0⟩ := (H.out.below HB2.out).at hx
          obtain ⟨b', off', hbe, hbl', p0⟩ := (H.out.below HB2.out).at hy
          have hbe2 := Option.some.inj hbe
          obtain ⟨rfl, rfl⟩ : b = b' ∧ off = off' := by injection hbe2 with h1 h2; exact ⟨h1, h2⟩
          have hxe : l[m]'(by omega) = x := by rw [List.getElem?_eq_getElem (by omega)] at hx; exact Option.some.inj hx
          have hye : l[m + 1] = y := by rw [List.getElem?_eq_getElem hlt2] at hy; exact Option.some.inj hy
          have HXE := Lib.hid hxe
          have HYE := Lib.hid hye
          have hi0 : (0 : Int) ≤ (m : Int) := by omega
          have hi1 : (m : Int) < (l.length : Int) := by omega
          have hi2 : (m : Int) + 1 < (l.length : Int) := by omega
          have hi3 : IntKind.i64.wrap (m : Int) = m := by simp [IntKind.wrap, IntKind.bits, IntKind.signed]; omega
          have hi4 : (0 : Int) ≤ (m : Int) + 1 := by omega
          have HR0 := Lib.hid (range_regrown c0 hbl)
          have HR1 := Lib.hid (range_regrown p0 hbl)
          have cX := fun d os => Calls.regrown_of (lessFC x y (grow (redrawn wr d) os))
          have HCX := Lib.hid cX
          have hno : ltF x y = true ∨ ltF x y = false := by cases ltF x y <;> simp
          have HNO := Lib.hid (show ltF x y = true → ∀ j, (h : j + 1 < l.length) → j < m + 1 → ltF l[j] l[j + 1] = true from fun hh j hj hjm => by
            rcases Nat.lt_or_ge j m with h1 | h1
            · exact HR.out j hj h1
            · obtain rfl : j = m := by omega
              rw [HXE.out, HYE.out]; exact hh)
          have HNF := Lib.hid (show ltF x y = false → chkFs rdM l = 5 from fun hh => chkFs_flatJ HG.out (fun hr => by have := hr.near m hlt2; rw [HXE.out, HYE.out, hh] at this; cases this))
          generalize ltF x y = t at HNO HNF HCX hno
          clear hx hy hxe hye cX hbe hbe2 hbl' c0 p0
          rcases hno with rfl | rfl
          · have HN := Lib.hid (HNO.out rfl)
            clear HNO HNF
            go_upto_region 11 with fail
            refine wp_region_quiet_below (by kernel_rfl) (by kernel_rfl) ?_
            repeat (first
              | ((with_reducible refine fq_load ?_ (.tmp 34) ?_ b (off + m * 8) x ?_ ?_ ?_); rfl; rfl; rfl; exact HR0.out; simp only [Act.put, List.setIfInBounds_toArray, List.set_cons_zero, List.set_cons_succ])
              | ((with_reducible refine fq_load ?_ (.tmp 38) ?_ b (off + (m + 1) * 8) y ?_ ?_ ?_); rfl; rfl; rfl; exact HR1.out; simp only [Act.put, List.setIfInBounds_toArray, List.set_cons_zero, List.set_cons_succ])
              | go_big_quiet_step ((go_at_call 36; with_reducible exact HCX.out _ _)) | quiet_step ((go_at_call 36; with_reducible exact HCX.out _ _)))
            refine wpQuiet_nil ?_
            intro _ hw'
            obtain ⟨⟨dq, osq⟩, hw''⟩ := hw'
            subst hw''
            have HB9 := Lib.hid (HB2.out.trans ((below_regrown wr dq osq).mono HB2.out.size))
            clear HCX HR0 HR1
            generalize grow (redrawn wr dq) osq = W at *
            go_wp2_with fail
            go_roundw
            case rel => exact ⟨m + 1, by go_num, by omega, HN, HB9.out⟩
            case measure => simp [intOf]; omega
          · have HN := Lib.hid (HNF.out rfl)
            clear HNO HNF
            go_upto_region 11 with fail
            refine wp_region_quiet_below (by kernel_rfl) (by kernel_rfl) ?_
            repeat (first
              | ((with_reducible refine fq_load ?_ (.tmp 34) ?_ b (off + m * 8) x ?_ ?_ ?_); rfl; rfl; rfl; exact HR0.out; simp only [Act.put, List.setIfInBounds_toArray, List.set_cons_zero, List.set_cons_succ])
              | ((with_reducible refine fq_load ?_ (.tmp 38) ?_ b (off + (m + 1) * 8) y ?_ ?_ ?_); rfl; rfl; rfl; exact HR1.out; simp only [Act.put, List.setIfInBounds_toArray, List.set_cons_zero, List.set_cons_succ])
              | go_big_quiet_step ((go_at_call 36; with_reducible exact HCX.out _ _)) | quiet_step ((go_at_call 36; with_reducible exact HCX.out _ _)))
            refine wpQuiet_nil ?_
            intro _ hw'
            obtain ⟨⟨dq, osq⟩, hw''⟩ := hw'
            subst hw''
            have HB9 := Lib.hid (HB2.out.trans ((below_regrown wr dq osq).mono HB2.out.size))
            clear HCX HR0 HR1
            generalize grow (redrawn wr dq) osq = W at *
            go_wp2_with fail
            go_ret
            exact ⟨by rw [HN.out]; rfl, HB9.out⟩
        · have hfin : chkFs rdM l = 0 := chkFs_goodJ HG.out (riseF_near l (fun j hj => HR.out j hj (by omega)))
          have HF := Lib.hid hfin
          have hi2 : ¬ (m : Int) + 1 < (l.length : Int) := by omega
          clear hfin
          go_wp2_with fail
          go_ret
          exact ⟨by rw [HF.out]; rfl, HB2.out⟩
end Go.Proofs.YtcedliaeipabnaaGreat
