/-
  almonryref01's reader R: List, Done.
  almonryref01's reader R: Done.
-/
import Derived.Test.YtchnklekeinhiaaGreatGV08
import Derived.Test.YtchnklekeinhiaaGreatGV02
namespace Go.Proofs.YtchnklekeinhiaaGreat
open Go.RowKit

/-- Block b is a reader R in the state st. -/
def Qd (b : Nat) (st : ByteArray × Int) (w : World) : Prop := w.heap[b]? = some (.cells #[.string st.1, .int .i64 st.2] 91 (0, 0))

theorem Qd.lt {b : Nat} {st : ByteArray × Int} {w : World} (h : Qd b st w) : b < w.heap.size := lt_of_block h
theorem Qd.left {b : Nat} {st : ByteArray × Int} {w : World} (h : Qd b st w) : w.cell? ⟨b, 0, none⟩ = some (.string st.1) := by rw [Joins.cell_of_block h]; rfl
theorem Qd.err {b : Nat} {st : ByteArray × Int} {w : World} (h : Qd b st w) : w.cell? ⟨b, 1, none⟩ = some (.int .i64 st.2) := by rw [Joins.cell_of_block h]; rfl
theorem Qd.free {b : Nat} {st : ByteArray × Int} {w : World} (h : Qd b st w) (i : Nat) : w.frozen? ⟨b, i, none⟩ = false := Joins.unfrozen_of_block h i
theorem Qd.set {b : Nat} {st : ByteArray × Int} {w : World} (h : Qd b st w) (s : ByteArray) (e : Int) : Qd b (s, e) ((w.setCell ⟨b, 0, none⟩ (.string s)).setCell ⟨b, 1, none⟩ (.int .i64 e)) := by
  have := Joins.block_setCell (Joins.block_setCell h (i := 0) (.string s)) (i := 1) (.int .i64 e); simpa [Qd] using this
theorem Qd.setErr {b : Nat} {st : ByteArray × Int} {w : World} (h : Qd b st w) (e : Int) : Qd b (st.1, e) (w.setCell ⟨b, 1, none⟩ (.int .i64 e)) := by
  have := Joins.block_setCell h (i := 1) (.int .i64 e); simpa [Qd] using this
theorem Qd.below {b B : Nat} {st : ByteArray × Int} {w w' : World} (h : Qd b st w) (hb : Below B w w') (hlt : b < B) : Qd b st w' := by
  unfold Qd; rw [hb.block b hlt]; exact h
theorem Qd.alloc {b : Nat} {st : ByteArray × Int} {w : World} (h : Qd b st w) (o : Obj) : Qd b st (w.alloc o) := by
  unfold Qd; rw [Below.heap_alloc _ _ _ h.lt]; exact h
theorem Qd.grown {b : Nat} {row : Option Nat} {st : ByteArray × Int} {w w' : World} (h : Qd b st w) (hg : w.grownBy w' row) (hne : ∀ j, row = some j → b ≠ j) : Qd b st w' := by
  unfold Qd; rw [hg.block b h.lt (fun e => hne b e.symm rfl)]; exact h
theorem Qd.other {b c i : Nat} {st : ByteArray × Int} {w : World} (h : Qd b st w) (hne : b ≠ c) (v : Value) : Qd b st (w.setCell ⟨c, i, none⟩ v) := by
  unfold Qd; rw [Below.heap_setCell _ _ _ _ hne]; exact h
theorem Qd.made (st : ByteArray × Int) (w : World) : Qd w.heap.size st (w.alloc (.cells #[.string st.1, .int .i64 st.2] 91)) := by
  simp [Qd, World.alloc, -World.alloc_eq]
theorem OwnS.below {B C : Nat} {v : Value} {ss : List ByteArray} {w w' : World} (h : OwnS B v ss w) (hb : Below C w w') (hC : w.heap.size ≤ C) : OwnS B v ss w' := by
  obtain ⟨h1, h2⟩ := h
  refine ⟨h1, ?_⟩
  rcases h2 with h2 | ⟨g, cap, cur, hv, hg, hh, r⟩
  · exact .inl h2
  · exact .inr ⟨g, cap, cur, hv, hg, by rw [hb.block g (by have := lt_of_block hh; omega)]; exact hh, r⟩

theorem OwnS.mono {B C : Nat} {v : Value} {ss : List ByteArray} {w : World} (h : OwnS B v ss w) (hC : C ≤ B) : OwnS C v ss w := by
  obtain ⟨h1, h2⟩ := h
  refine ⟨h1, ?_⟩
  rcases h2 with h2 | ⟨g, cap, cur, hv, hg, hh, r⟩
  · exact .inl h2
  · exact .inr ⟨g, cap, cur, hv, Nat.le_trans hC hg, hh, r⟩

def qListSt (st : ByteArray × Int) : ByteArray × Int := qSt st (sList st).2

/-- What holds of the loop of R's List, the reader's block b, behind some rounds. -/
def ListRel (w : World) (b n : Nat) (st0 : ByteArray × Int) (s1 : ByteArray) (o i : Value) (wr : World) : Prop :=
  Qd w.heap.size st0 wr ∧ Qd (w.heap.size + 1) (⟨#[]⟩, 0) wr ∧ Below w.heap.size w wr ∧ b < wr.heap.size ∧
  ((∃ (k : Nat) (acc : List ByteArray) (sk : ByteArray), i = .int .i64 k ∧ k ≤ n ∧ acc.length = k ∧ sk.size ≤ s1.size ∧ sTexts (n - k) (sk, 0) acc = sTexts n (s1, 0) [] ∧ OwnS (b + 1) o acc wr ∧ Qd b (sk, 0) wr) ∨
   (∃ (k : Nat) (sk s' : ByteArray) (e : Int), i = .int .i64 k ∧ k ≤ n ∧ e ≠ 0 ∧ sTexts n (s1, 0) [] = ([], (s', e)) ∧ Qd b (sk, e) wr))

theorem sList_e {st : ByteArray × Int} {n : Nat} {s1 : ByteArray} {e : Int} (h : sNum st = (n, (s1, e))) (he : e ≠ 0) : sList st = ([], (s1, e)) := by
  have hc : sCount 4096 st = (0, false, (s1, e)) := by simp [sCount, h, he]
  simp [sList, hc]
theorem sList_l {st : ByteArray × Int} {n : Nat} {s1 : ByteArray} (h : sNum st = (n, (s1, 0))) (hn : 4096 < n) : sList st = ([], (s1, 3)) := by
  have hc : sCount 4096 st = (0, false, (s1, 3)) := by simp [sCount, h, hn]
  simp [sList, hc]
theorem sList_k {st : ByteArray × Int} {n : Nat} {s1 : ByteArray} (h : sNum st = (n, (s1, 0))) (hn : ¬ 4096 < n) : sList st = sTexts n (s1, 0) [] := by
  have hc : sCount 4096 st = (n, true, (s1, 0)) := by simp [sCount, h, hn]
  simp [sList, hc]
theorem qd_two {w w1 : World} {x0 : ByteArray} {x1 : Int} {y0 : ByteArray} {y1 : Int} (h : Below ((w.alloc (.cells #[.string x0, .int .i64 x1] 91)).alloc (.cells #[.string y0, .int .i64 y1] 91)).heap.size ((w.alloc (.cells #[.string x0, .int .i64 x1] 91)).alloc (.cells #[.string y0, .int .i64 y1] 91)) w1) : Qd w.heap.size (x0, x1) w1 ∧ Qd (w.heap.size + 1) (y0, y1) w1 := by
  have h0 := (Qd.made (x0, x1) w).alloc (.cells #[.string y0, .int .i64 y1] 91)
  have h1 := Qd.made (y0, y1) (w.alloc (.cells #[.string x0, .int .i64 x1] 91))
  have e : (w.alloc (.cells #[.string x0, .int .i64 x1] 91)).heap.size = w.heap.size + 1 := by simp
  rw [e] at h1
  exact ⟨h0.below h (by simp; omega), h1.below h (by simp)⟩

set_option maxHeartbeats 4000000 in
set_option maxRecDepth 100000 in
theorem refR_list (s : ByteArray) (er : Int) (hs : s.size ≤ 9223372036854775807) (w : World) :
    Calls Tryz.prog 60 #[.agg #[.string s, .int .i64 er]] w fun e w' => ∃ v, e = .returned (.tuple #[rv (qListSt (s, er)), v]) ∧ OwnS w.heap.size v (sList (s, er)).1 w' ∧ Below w.heap.size w w' := by
  obtain ⟨i0, hi, hz0', hz1', hz2'⟩ := info_parts strInfo
  have hsz1 := sNum_size (s, er)
  go_enter Tryz.func60, Tryz.ntmps60
  go_wp2_with fail
  refine (refR_num s er hs _).mono ?_
  rintro e w1 ⟨rfl, hb1⟩
  generalize hr : sNum (s, er) = r at hsz1 ⊢
  obtain ⟨n, s1, e1⟩ := r
  simp only at hsz1
  have HR := Lib.hid hr
  clear hr
  obtain ⟨hq0, hq1⟩ := qd_two hb1
  obtain ⟨c10, c11, r0, r1, f0, f1, hz1, hB1⟩ := two_keep hb1
  have hz0 : w.heap.size < w1.heap.size := by omega
  have HQ0 := Lib.hid hq0
  have HQ1 := Lib.hid hq1
  have HE0 := Lib.hid (ends0 r0 r1 hz1)
  have HE1 := Lib.hid (ends1 r0 r1 hz1)
  have hB1' : ∀ o v0 v1, Below w.heap.size w (((w1.setCell ⟨w.heap.size + 1, 0, none⟩ v0).setCell ⟨w.heap.size + 1, 1, none⟩ v1).alloc o) := fun o v0 v1 => ((hB1.setCell (by simp) _).setCell (by simp) _).alloc (by simp; omega) o
  have HB := Lib.hid hB1'
  clear hb1 hq0 hq1 hB1'
  by_cases he : e1 = 0
  · subst he
    by_cases hn : 4096 < n
    · have hni : (4096 : Int) < (n : Int) := by omega
      have HS := Lib.hid (sList_l HR.out hn)
      clear hB1
      go_wp2
      refine wp_loop_rounds 1 ?_
      rw [rounds_succ]
      go_wp2
      refine bodyPost_ret (v := .tuple #[rv (s, 3), .slice none 0 0]) (by simp [results, Tryz.results60, go_sem, HE0.out, HE1.out]) rfl ?_
      unfold qListSt
      rw [HS.out]
      exact ⟨_, rfl, ownS_nil _ _, HB.out _ _ _⟩
    · have hni : ¬ (4096 : Int) < (n : Int) := by omega
      have hni' : decide ((4096 : Int) < (n : Int)) = false := by simp; omega
      have HS := Lib.hid (sList_k HR.out hn)
      clear HE0 HE1 HB r0 r1 c10 c11 f0 f1
      go_wp2
      go_loopw [6, 7] (fun o i wr => ListRel w w1.heap.size n (s, er) s1 o i wr) (fun _ i _ => n - (intOf i).toNat)
      case atStart => exact ⟨HQ0.out.alloc _, HQ1.out.alloc _, hB1.alloc (by omega) _, by simp, .inl ⟨0, [], s1, rfl, Nat.zero_le _, rfl, Nat.le_refl _, rfl, ownS_nil _ _, Qd.made (s1, 0) w1⟩⟩
      case round =>
        obtain ⟨g0, g1, hB, hbl, hcase⟩ := hrel
        have G0 := Lib.hid g0
        have G1 := Lib.hid g1
        rcases hcase with ⟨k, acc, sk, rfl, hk, hacc, hss, heq, hown, hq⟩ | ⟨k, sk, s', e, rfl, hk, hne, heq, hq⟩
        · have hq0c := hq.left
          have hq1c := hq.err
          have hqf0 := hq.free 0
          have hqf1 := hq.free 1
          simp only at hq0c hq1c
          have HQ := Lib.hid hq
          have HEQ := Lib.hid heq
          have HC := Lib.hid hacc
          clear g0 g1 hq heq hacc
          by_cases hlt : k < n
          · have hlti : (k : Int) < (n : Int) := by omega
            have hcut : n - k = (n - (k + 1)) + 1 := by omega
            have HU := Lib.hid hcut
            clear hcut
            have hts := sText_size (sk, 0)
            go_wp2_with fail
            refine (refR_text sk 0 (by omega) wr).mono ?_
            rintro e w2 ⟨rfl, hb2⟩
            generalize hq : sText (sk, 0) = q at hts ⊢
            obtain ⟨t, s2, e2⟩ := q
            simp only at hts
            have HT := Lib.hid hq
            clear hq hq0c hq1c hqf0 hqf1
            have hq2 := HQ.out.below hb2 hbl
            have hq0c := hq2.left
            have hq1c := hq2.err
            have hqf0 := hq2.free 0
            have hqf1 := hq2.free 1
            simp only at hq0c hq1c
            have H2 := Lib.hid hq2
            have G02 := Lib.hid (G0.out.below hb2 G0.out.lt)
            have G12 := Lib.hid (G1.out.below hb2 G1.out.lt)
            have hown2 := hown.below hb2 (Nat.le_refl _)
            have hB2 := hB.trans (hb2.mono hB.size)
            have hbl2 : w1.heap.size < w2.heap.size := Nat.lt_of_lt_of_le hbl hb2.size
            have hne : ∀ g, (u6 : Value).ownBlock = some g → w1.heap.size + 1 ≤ g := fun g hg => (World.ownsRow.lt hown2 g hg).1
            have HNE := Lib.hid hne
            clear hq2 hown hb2 hB hne
            by_cases he2 : e2 = 0
            · subst he2
              have hqs : qSt (sk, 0) (s2, 0) = (s2, 0) := rfl
              rw [hqs]
              clear hqs
              have hown3 : OwnS (w1.heap.size + 1) u6 acc (((w2.setCell ⟨w1.heap.size, 0, none⟩ (.string s2)).setCell ⟨w1.heap.size, 1, none⟩ (.int .i64 0)).alloc (.cells #[.string s2, .int .i64 0] 91)) :=
                World.ownsRow.alloc (ownsRow_setCell_other (ownsRow_setCell_other hown2 (fun e => by have := HNE.out _ e; simp at this; omega) _) (fun e => by have := HNE.out _ e; simp at this; omega) _) _
              have hlast : (((w2.setCell ⟨w1.heap.size, 0, none⟩ (.string s2)).setCell ⟨w1.heap.size, 1, none⟩ (.int .i64 0)).alloc (.cells #[.string s2, .int .i64 0] 91)).heap.size = w2.heap.size + 1 := by simp
              have HLAST := Lib.hid hlast
              clear hlast
              go_wp2_with (at_builtin; refine wpList_append_own _ rfl _ _ 25 rfl (w1.heap.size + 1) 9 i0 (.string ByteArray.empty) 1 16 Tryz.underlying25 hi hz0' hz1' hz2' rfl (by decide) _ _ _ rfl (World.ownsRow.alloc hown3 _) ⟨w2.heap.size + 1, 0, none⟩ 1 1 [Value.string t] rfl rfl ?c1 ?c2 ?c3 ?c4 ?c5 ?_)
              case c1 =>
                intro j u hj
                match j, hj with
                | 0, hj =>
                  simp at hj; subst hj
                  simp only [Addr.add]
                  rw [if_pos trivial, World.cell?_alloc_at _ _ _ _ HLAST.out.symm]
                  rfl
              case c2 => intro u hu; simp at hu; subst hu; rfl
              case c3 => have := HC.out; unfold maxLen; omega
              case c4 => have := HC.out; omega
              case c5 => simp; omega
              intro v' w3 hown4 hg3 _
              have hne3 : ∀ b, b ≤ w1.heap.size → ∀ j, (u6 : Value).ownBlock = some j → b ≠ j := fun b hb j hj => by have := HNE.out j hj; omega
              have g03 := ((((G02.out.other (i := 0) (by omega) (.string s2)).other (i := 1) (by omega) (.int .i64 0)).alloc (.cells #[.string s2, .int .i64 0] 91)).alloc (.cells #[.string t] 9)).grown hg3 (hne3 _ (by omega))
              have g13 := ((((G12.out.other (i := 0) (by omega) (.string s2)).other (i := 1) (by omega) (.int .i64 0)).alloc (.cells #[.string s2, .int .i64 0] 91)).alloc (.cells #[.string t] 9)).grown hg3 (hne3 _ (by omega))
              have hq3 := (((H2.out.set s2 0).alloc (.cells #[.string s2, .int .i64 0] 91)).alloc (.cells #[.string t] 9)).grown hg3 (hne3 _ (by omega))
              have hB3 := ((((hB2.setCell (p := ⟨w1.heap.size, 0, none⟩) (by simp; omega) (.string s2)).setCell (p := ⟨w1.heap.size, 1, none⟩) (by simp; omega) (.int .i64 0)).alloc (by simp; omega) (.cells #[.string s2, .int .i64 0] 91)).alloc (by simp; omega) (.cells #[.string t] 9)).grown hg3 (by simp; omega) (fun j hj => by have := HNE.out j hj; omega)
              have hbl3 : w1.heap.size < w3.heap.size := Nat.lt_of_lt_of_le (by simp; omega) hg3.size
              have hown5 : OwnS (w1.heap.size + 1) v' (acc ++ [t]) w3 := by unfold OwnS; rw [List.length_append, List.map_append]; exact hown4
              have hrel3 : ListRel w w1.heap.size n (s, er) s1 v' (.int .i64 ((k + 1 : Nat) : Int)) w3 := by
                refine ⟨g03, g13, hB3, hbl3, .inl ⟨k + 1, acc ++ [t], s2, rfl, by omega, by rw [List.length_append, HC.out]; rfl, by omega, ?_, hown5, hq3⟩⟩
                rw [← HEQ.out, HU.out, sTexts, HT.out]
                rfl
              have HREL := Lib.hid hrel3
              clear hown2 hown3 hown4 hown5 hg3 hne3 g03 g13 hq3 hB3 hbl3 hrel3 hq0c hq1c hqf0 hqf1
              go_wp2
              go_roundw
              case rel => exact HREL.out
              case measure => simp [intOf]; omega
            · have hqs : qSt (sk, 0) (s2, e2) = (sk, e2) := by simp [qSt, he2]
              rw [hqs]
              clear hqs
              have hown3 : OwnS (w1.heap.size + 1) u6 acc (((w2.setCell ⟨w1.heap.size, 0, none⟩ (.string sk)).setCell ⟨w1.heap.size, 1, none⟩ (.int .i64 e2)).alloc (.cells #[.string sk, .int .i64 e2] 91)) :=
                World.ownsRow.alloc (ownsRow_setCell_other (ownsRow_setCell_other hown2 (fun e => by have := HNE.out _ e; simp at this; omega) _) (fun e => by have := HNE.out _ e; simp at this; omega) _) _
              have hlast : (((w2.setCell ⟨w1.heap.size, 0, none⟩ (.string sk)).setCell ⟨w1.heap.size, 1, none⟩ (.int .i64 e2)).alloc (.cells #[.string sk, .int .i64 e2] 91)).heap.size = w2.heap.size + 1 := by simp
              have HLAST := Lib.hid hlast
              clear hlast
              go_wp2_with (at_builtin; refine wpList_append_own _ rfl _ _ 25 rfl (w1.heap.size + 1) 9 i0 (.string ByteArray.empty) 1 16 Tryz.underlying25 hi hz0' hz1' hz2' rfl (by decide) _ _ _ rfl (World.ownsRow.alloc hown3 _) ⟨w2.heap.size + 1, 0, none⟩ 1 1 [Value.string t] rfl rfl ?c1 ?c2 ?c3 ?c4 ?c5 ?_)
              case c1 =>
                intro j u hj
                match j, hj with
                | 0, hj =>
                  simp at hj; subst hj
                  simp only [Addr.add]
                  rw [if_pos trivial, World.cell?_alloc_at _ _ _ _ HLAST.out.symm]
                  rfl
              case c2 => intro u hu; simp at hu; subst hu; rfl
              case c3 => have := HC.out; unfold maxLen; omega
              case c4 => have := HC.out; omega
              case c5 => simp; omega
              intro v' w3 hown4 hg3 _
              have hne3 : ∀ b, b ≤ w1.heap.size → ∀ j, (u6 : Value).ownBlock = some j → b ≠ j := fun b hb j hj => by have := HNE.out j hj; omega
              have g03 := ((((G02.out.other (i := 0) (by omega) (.string sk)).other (i := 1) (by omega) (.int .i64 e2)).alloc (.cells #[.string sk, .int .i64 e2] 91)).alloc (.cells #[.string t] 9)).grown hg3 (hne3 _ (by omega))
              have g13 := ((((G12.out.other (i := 0) (by omega) (.string sk)).other (i := 1) (by omega) (.int .i64 e2)).alloc (.cells #[.string sk, .int .i64 e2] 91)).alloc (.cells #[.string t] 9)).grown hg3 (hne3 _ (by omega))
              have hq3 := (((H2.out.set sk e2).alloc (.cells #[.string sk, .int .i64 e2] 91)).alloc (.cells #[.string t] 9)).grown hg3 (hne3 _ (by omega))
              have hB3 := ((((hB2.setCell (p := ⟨w1.heap.size, 0, none⟩) (by simp; omega) (.string sk)).setCell (p := ⟨w1.heap.size, 1, none⟩) (by simp; omega) (.int .i64 e2)).alloc (by simp; omega) (.cells #[.string sk, .int .i64 e2] 91)).alloc (by simp; omega) (.cells #[.string t] 9)).grown hg3 (by simp; omega) (fun j hj => by have := HNE.out j hj; omega)
              have hbl3 : w1.heap.size < w3.heap.size := Nat.lt_of_lt_of_le (by simp; omega) hg3.size
              have hrel3 : ListRel w w1.heap.size n (s, er) s1 v' (.int .i64 ((k + 1 : Nat) : Int)) w3 := by
                refine ⟨g03, g13, hB3, hbl3, .inr ⟨k + 1, sk, s2, e2, rfl, by omega, he2, ?_, hq3⟩⟩
                rw [← HEQ.out, HU.out, sTexts, HT.out]
                simp [he2]
              have HREL := Lib.hid hrel3
              clear hown2 hown3 hown4 hg3 hne3 g03 g13 hq3 hB3 hbl3 hrel3 hq0c hq1c hqf0 hqf1
              go_wp2
              go_roundw
              case rel => exact HREL.out
              case measure => simp [intOf]; omega
          · have hkn : k = n := by omega
            have hS2 : sList (s, er) = (acc, (sk, 0)) := by rw [HS.out, ← HEQ.out, hkn, Nat.sub_self]; rfl
            have HS2 := Lib.hid hS2
            have hr0 := G1.out.left
            have hr1 := G1.out.err
            have hrf0 := G1.out.free 0
            have hrf1 := G1.out.free 1
            have hrz := G1.out.lt
            simp only at hr0 hr1
            have HF := Lib.hid (G1.out.set sk 0)
            have hownb := OwnS.mono hown (show w.heap.size ≤ w1.heap.size + 1 by omega)
            have hne : ∀ g, (u6 : Value).ownBlock = some g → w1.heap.size + 1 ≤ g := fun g hg => (World.ownsRow.lt hown g hg).1
            have hownf : OwnS w.heap.size u6 acc ((wr.setCell ⟨w.heap.size + 1, 0, none⟩ (.string sk)).setCell ⟨w.heap.size + 1, 1, none⟩ (.int .i64 0)) :=
              ownsRow_setCell_other (ownsRow_setCell_other hownb (fun e => by have := hne _ e; simp at this; omega) _) (fun e => by have := hne _ e; simp at this; omega) _
            have HOWN := Lib.hid hownf
            have HBF := Lib.hid ((hB.setCell (p := ⟨w.heap.size + 1, 0, none⟩) (by simp) (.string sk)).setCell (p := ⟨w.heap.size + 1, 1, none⟩) (by simp) (.int .i64 0))
            clear hS2 hownb hne hownf hown hB hkn
            go_wp2
            refine bodyPost_ret (v := .tuple #[rv (sk, 0), u6]) (by simp [results, Tryz.results60, go_sem, HF.out.left, HF.out.err]) rfl ?_
            have hq : qListSt (s, er) = (sk, 0) := by unfold qListSt; rw [HS2.out]; rfl
            rw [hq, HS2.out]
            exact ⟨_, rfl, HOWN.out, HBF.out⟩
        · have hq0c := hq.left
          have hq1c := hq.err
          simp only at hq0c hq1c
          have hs0 := G0.out.left
          simp only at hs0
          have hr0 := G1.out.left
          have hr1 := G1.out.err
          have hrf0 := G1.out.free 0
          have hrf1 := G1.out.free 1
          have hrz := G1.out.lt
          simp only at hr0 hr1
          have HF := Lib.hid (G1.out.set s e)
          have HBF := Lib.hid ((hB.setCell (p := ⟨w.heap.size + 1, 0, none⟩) (by simp) (.string s)).setCell (p := ⟨w.heap.size + 1, 1, none⟩) (by simp) (.int .i64 e))
          have hS2 : sList (s, er) = ([], (s', e)) := by rw [HS.out, heq]
          have HS2 := Lib.hid hS2
          have hb0 : (e == 0) = false := by simp [hne]
          have hb2 : (e != 0) = true := by simp [hne]
          have HNE := Lib.hid hne
          clear g0 g1 hS2 hB heq hne hq
          by_cases hlt : k < n
          all_goals
            go_wp2
            refine bodyPost_ret (v := .tuple #[rv (s, e), .slice none 0 0]) (by simp [results, Tryz.results60, go_sem, HF.out.left, HF.out.err]) rfl ?_
            have hq : qListSt (s, er) = (s, e) := by unfold qListSt; rw [HS2.out]; simp [qSt, HNE.out]
            rw [hq, HS2.out]
            exact ⟨_, rfl, ownS_nil _ _, HBF.out⟩
  · have hb : (e1 == 0) = false := by simp [he]
    have HS := Lib.hid (sList_e HR.out he)
    have hb2 : (e1 != 0) = true := by simp [he]
    clear hB1
    go_wp2
    refine wp_loop_rounds 1 ?_
    rw [rounds_succ]
    go_wp2
    all_goals
      refine bodyPost_ret (v := .tuple #[rv (s, e1), .slice none 0 0]) (by simp [results, Tryz.results60, go_sem, HE0.out, HE1.out]) rfl ?_
      have hq : qListSt (s, er) = (s, e1) := by unfold qListSt; rw [HS.out]; simp [qSt, he]
      rw [hq, HS.out]
      exact ⟨_, rfl, ownS_nil _ _, HB.out _ _ _⟩
end Go.Proofs.YtchnklekeinhiaaGreat

namespace Go.Proofs.YtchnklekeinhiaaGreat
open Go.RowKit

theorem empty_iff (s : ByteArray) : s.toList.isEmpty = decide (s.size = 0) := by
  rw [ByteArray.toList_eq]
  have : s.data.toList.length = s.size := by simp
  cases h : s.data.toList with
  | nil => rw [h] at this; simp at this; simp [← this]
  | cons a r =>
    rw [h, List.length_cons] at this
    rw [decide_eq_false (by omega)]
    rfl

set_option maxHeartbeats 1000000 in
set_option maxRecDepth 100000 in
theorem refR_done (s : ByteArray) (er : Int) (w : World) :
    Calls Tryz.prog 61 #[.agg #[.string s, .int .i64 er]] w fun e w' => e = .returned (.int .i64 (doneS (s, er))) ∧ w.alloc (.cells #[.string s, .int .i64 er] 91) = w' := by
  by_cases he : er = 0
  · subst he
    by_cases hz : s.size = 0
    · have hes : s.toList.isEmpty = true := by rw [empty_iff]; simp [hz]
      have hes2 : s.toList = [] := by simpa using hes
      go_enter Tryz.func61, Tryz.ntmps61
      go_wp2
      go_ret
      exact ⟨by simp [doneS, hz], rfl⟩
    · have hes : s.toList.isEmpty = false := by rw [empty_iff]; simp [hz]
      go_enter Tryz.func61, Tryz.ntmps61
      go_wp2
      go_ret
      have hd : doneS (s, 0) = 5 := by
        unfold doneS
        simp only
        rw [if_neg (by simp), if_pos (by omega)]
      exact ⟨by rw [hd]; rfl, rfl⟩
  · have hb : (er == 0) = false := by simp [he]
    go_enter Tryz.func61, Tryz.ntmps61
    go_wp2
    go_ret
    exact ⟨by simp [doneS, he], rfl⟩
end Go.Proofs.YtchnklekeinhiaaGreat
