/-
  Read: the program's and the document's.
  Read, the document's.
-/
import Derived.Test.YtkodololdjainaaGreatDotPut
import Derived.Test.YtkodololdjainaaGreatGDelI
import Derived.Test.YtkodololdjainaaGreatGDelE
namespace Go.Proofs.YtkodololdjainaaGreat
set_option maxRecDepth 100000
open Go.RowKit

theorem OwnD.keep {B b : Nat} {v : Value} {l : List Dt} {w w' : World} (h : OwnD B v l w) (hg : w.grownBy w' (some b)) (hb : b < B) : OwnD B v l w' := by
  unfold OwnD at *
  refine ⟨h.1, ?_⟩
  rcases h.2 with hn | ⟨g, cap, cur, rfl, hB, hg0, rest⟩
  · exact .inl hn
  · exact .inr ⟨g, cap, cur, rfl, hB, by rw [hg.block g (lt_of_block hg0) (by simp; omega)]; exact hg0, rest⟩
theorem OwnD.set {B b i : Nat} {v : Value} {l : List Dt} {w : World} (h : OwnD B v l w) (hb : b < B) (u : Value) : OwnD B v l (w.setCell ⟨b, i, none⟩ u) := h.keep (grownBy_setCell w b i u) hb

theorem grown_newCell {w X : World} {row : Option Nat} {g i : Nat} (h : w.grownBy X row) (hg : w.heap.size ≤ g) (u : Value) : w.grownBy (X.setCell ⟨g, i, none⟩ u) row :=
  ⟨h.os, h.tape, h.output, by simpa using h.size, fun k hk hne => by
    have hn : k ≠ g := by omega
    rw [Below.heap_setCell _ _ _ _ hn]; exact h.block k hk hne⟩
theorem grown_alloc {w X : World} {row : Option Nat} (h : w.grownBy X row) (o : Obj) : w.grownBy (X.alloc o) row :=
  ⟨h.os, h.tape, h.output, by have := h.size; simp; omega, fun k hk hne => by rw [Below.heap_alloc _ _ _ (Nat.lt_of_lt_of_le hk h.size)]; exact h.block k hk hne⟩
theorem grown_trans {w X Y : World} {row : Option Nat} (h : w.grownBy X row) (k : X.grownBy Y row) : w.grownBy Y row :=
  ⟨k.os.trans h.os, k.tape.trans h.tape, k.output.trans h.output, Nat.le_trans h.size k.size, fun j hj hne => (k.block j (Nat.lt_of_lt_of_le hj h.size) hne).trans (h.block j hj hne)⟩

set_option maxHeartbeats 4000000 in
set_option maxRecDepth 100000 in
theorem takeDotC (b : Nat) (st : ByteArray × Int) (w : World) (h : Rd b st w) (hs : st.1.size ≤ 9223372036854775807) :
    Calls Tryz.prog 74 #[.pointer (some ⟨b, 0, none⟩)] w fun e w' => e = .returned (.agg #[.int .i64 (((sNum st).1 : Nat) : Int), .int .i64 (((sNum (sNum st).2).1 : Nat) : Int)]) ∧ Rd b (sNum (sNum st).2).2 w' ∧ w.grownBy w' (some b) := by
  have hlt := h.lt
  have hR0 : Rd b st (w.alloc (.cells #[.int .i64 0, .int .i64 0] 23)) := h.below ((Below.refl _ _).alloc (Nat.le_refl _) _) hlt
  have hg0 : (w.alloc (.cells #[.int .i64 0, .int .i64 0] 23)).heap[w.heap.size]? = some (.cells #[.int .i64 0, .int .i64 0] 23 (0, 0)) := heap_alloc_new w _
  have hG0 : w.grownBy (w.alloc (.cells #[.int .i64 0, .int .i64 0] 23)) (some b) := World.grownBy_alloc w _ _
  have H0 := Lib.hid (And.intro hR0 (And.intro hg0 hG0))
  clear h hR0 hg0 hG0
  have hz := sNum_size st
  have hz2 := sNum_size (sNum st).2
  go_enter Tryz.func74, Tryz.ntmps74
  go_wp2_with fail
  refine (rnum_any b st _ H0.out.1 hs).mono ?_
  rintro e w1 ⟨rfl, hR1, hg1⟩
  have H1 := Lib.hid (And.intro hR1 (And.intro ((hg1.block w.heap.size (by simp) (fun e => by have := Option.some.inj e; omega)).trans H0.out.2.1) (grown_trans H0.out.2.2 hg1)))
  clear hR1 hg1 H0
  go_wp2_with fail
  refine (rnum_any b (sNum st).2 w1 H1.out.1 (by omega)).mono ?_
  rintro e w2 ⟨rfl, hR2, hg2⟩
  have hwl : w.heap.size < w1.heap.size := lt_of_block H1.out.2.1
  have hgb := (hg2.block w.heap.size hwl (fun e => by have := Option.some.inj e; omega)).trans H1.out.2.1
  have H2 := Lib.hid (And.intro hR2 (And.intro hgb (grown_trans H1.out.2.2 hg2)))
  have c0 : w2.cell? ⟨w.heap.size, 0, none⟩ = some (.int .i64 0) := by rw [Joins.cell_of_block hgb]; rfl
  have c1 : w2.cell? ⟨w.heap.size, 1, none⟩ = some (.int .i64 0) := by rw [Joins.cell_of_block hgb]; rfl
  have f0 : w2.frozen? ⟨w.heap.size, 0, none⟩ = false := Joins.unfrozen_of_block hgb 0
  have f1 : w2.frozen? ⟨w.heap.size, 1, none⟩ = false := Joins.unfrozen_of_block hgb 1
  clear hR2 hg2 H1 hgb hz hz2 hwl
  go_wp2_with fail
  have hb1 := Joins.block_setCell (i := 0) H2.out.2.1 (.int .i64 ((sNum st).1 : Int))
  have hb2 := Joins.block_setCell (i := 1) hb1 (.int .i64 ((sNum (sNum st).2).1 : Int))
  simp only [Array.setIfInBounds] at hb2
  refine bodyPost_ret (results_cell_row rfl _ _ w.heap.size 23 #[.int .i64 ((sNum st).1 : Int), .int .i64 ((sNum (sNum st).2).1 : Int)] (0, 0) _ rfl hb2 Tryz.underlying23 rfl (by kernel_rfl)) rfl ?_
  refine ⟨rfl, ?_, grown_newCell (grown_newCell H2.out.2.2 (Nat.le_refl _) _) (Nat.le_refl _) _⟩
  exact (H2.out.1.grown (grownBy_setCell w2 w.heap.size 0 _) (fun j hj => by have := Option.some.inj hj; omega)).grown (grownBy_setCell _ w.heap.size 1 _) (fun j hj => by have := Option.some.inj hj; omega)

set_option maxHeartbeats 4000000 in
set_option maxRecDepth 100000 in
theorem lreadD (s : ByteArray) (hs : s.size ≤ 9223372036854775807) (w : World) :
    Calls Tryz.prog 73 #[.string s, .func (.func 57) #[] #[], .func (.func 35) #[] #[], .func (.func 74) #[] #[]] w fun e w' => ∃ v, e = .returned (.tuple #[v, .int .i64 (readD s).2]) ∧ OwnD w.heap.size v (readD s).1 w' ∧ Below w.heap.size w w' := by
  obtain ⟨i0, hi, hz0, hz1, hz2⟩ := info_parts dotInfo
  go_enter Tryz.func73, Tryz.ntmps73
  go_wp2_with fail
  refine (new_any s w).mono ?_
  rintro e w1 ⟨rfl, hw1⟩
  have hrd1 : Rd w.heap.size (s, 0) w1 := by rw [← hw1]; exact Rd.made s w
  have hB1 : Below w.heap.size w w1 := by rw [← hw1]; exact (Below.refl _ _).alloc (Nat.le_refl _) _
  have H1 := Lib.hid (And.intro hrd1 hB1)
  clear hrd1 hB1 hw1
  go_wp2_with fail
  refine (rnum_any w.heap.size (s, 0) w1 H1.out.1 hs).mono ?_
  rintro e w2 ⟨rfl, hrd2, hg2⟩
  have z1 : (sNum (s, 0)).2.1.size ≤ s.size := sNum_size (s, 0)
  have H2 := Lib.hid (And.intro hrd2 (H1.out.2.grown hg2 H1.out.2.size (fun j hj => by have := Option.some.inj hj; omega)))
  have hr : readD s = if 4096 < (sNum (s, 0)).1 then ([], 3) else if doneS (rdD s).2 ≠ 0 then ([], doneS (rdD s).2) else if chkL (rdD s).1 ≠ 0 then ([], chkL (rdD s).1) else ((rdD s).1, 0) := rfl
  have hst : sDots (sNum (s, 0)).1 (sNum (s, 0)).2 [] = rdD s := rfl
  clear hrd2 hg2 H1
  generalize rdD s = T at hr hst
  generalize hn : sNum (s, 0) = nst at *
  obtain ⟨n, st1⟩ := nst
  simp only at hr hst z1
  have HR := Lib.hid hr
  have HST := Lib.hid hst
  clear hr hst hn
  by_cases hbig : 4096 < n
  · have hbi : (4096 : Int) < (n : Int) := by omega
    have hj := HR.out
    rw [if_pos hbig] at hj
    have HF := Lib.hid hj
    clear hj
    go_wp2_with fail
    go_ret2
    rw [HF.out]
    exact ⟨_, rfl, ownD_nil _ _, H2.out.2⟩
  · have hbi : ¬ (4096 : Int) < (n : Int) := by omega
    have hj := HR.out
    rw [if_neg hbig] at hj
    have HJ := Lib.hid hj
    clear hj HR
    go_wp2_with fail
    go_loopw [12, 22] (fun v i wr => ∃ (k : Nat) (acc : List Dt) (st : ByteArray × Int), i = .int .i64 k ∧ k ≤ n ∧ acc.length = k ∧ st.1.size ≤ s.size ∧ sDots (n - k) st acc = T ∧ OwnD (w.heap.size + 1) v acc wr ∧ Rd w.heap.size st wr ∧ Below w.heap.size w wr) (fun _ i _ => n - (intOf i).toNat)
    case atStart => exact ⟨0, [], st1, rfl, Nat.zero_le _, rfl, z1, by rw [Nat.sub_zero]; exact HST.out, ownD_nil _ _, H2.out.1, H2.out.2⟩
    case round =>
      obtain ⟨k, acc, st, rfl, hk, hacc, hss, heq, hown, hrd, hb⟩ := hrel
      have HQ := Lib.hid heq
      have HC := Lib.hid hacc
      have H3 := Lib.hid (And.intro hown (And.intro hrd hb))
      have hlr := hrd.lt
      clear heq hacc hown hrd hb
      by_cases hlt : k < n
      · have hcut : n - k = (n - (k + 1)) + 1 := by omega
        have HU := Lib.hid hcut
        clear hcut
        go_wp2_with fail
        refine (takeDotC w.heap.size st wr H3.out.2.1 (by omega)).mono ?_
        rintro e w4 ⟨rfl, hrd4, hg4⟩
        have z2 := sNum_size st
        have z3 := sNum_size (sNum st).2
        have hsz4 := hg4.size
        have H5 := Lib.hid (And.intro (H3.out.1.keep hg4 (by omega)) (And.intro hrd4 (H3.out.2.2.grown hg4 H3.out.2.2.size (fun j hj => by have := Option.some.inj hj; omega))))
        have hnx : sDots (n - k) st acc = sDots (n - (k + 1)) (sNum (sNum st).2).2 (acc ++ [((((sNum st).1 : Nat) : Int), (((sNum (sNum st).2).1 : Nat) : Int))]) := by rw [HU.out]; rfl
        have HNX := Lib.hid hnx
        clear hrd4 hg4 H3 hnx
        have hzz : (sNum (sNum st).2).2.1.size ≤ s.size := by omega
        clear z2 z3
        generalize (sNum (sNum st).2).2 = st4 at *
        generalize (sNum (sNum st).2).1 = q at *
        generalize (sNum st).1 = r at *
        go_wp2_with (at_builtin; refine wpList_append_own _ rfl _ _ 27 rfl (w.heap.size + 1) 23 i0 (.agg #[.int .i64 0, .int .i64 0]) 2 16 Tryz.underlying27 hi hz0 hz1 hz2 rfl (by decide) _ _ _ rfl (World.ownsRow.alloc H5.out.1 _) ⟨w4.heap.size, 0, none⟩ 1 1 [Value.int .i64 r, Value.int .i64 q] rfl rfl ?c1 ?c2 ?c3 ?c4 ?c5 ?_)
        case c1 =>
          intro j u hj
          match j, hj with
          | 0, hj => simp at hj; subst hj; simp [Addr.add, go_sem]
          | 1, hj => simp at hj; subst hj; simp [Addr.add, go_sem]
        case c2 => intro u hu; simp at hu; rcases hu with rfl | rfl <;> rfl
        case c3 => have := HC.out; unfold maxLen; omega
        case c4 => have := HC.out; omega
        case c5 => simp; omega
        intro v' w5 hown5 hg5 _
        have hne : ∀ j, (u12 : Value).ownBlock = some j → w.heap.size + 1 ≤ j := fun j hj => (World.ownsRow.lt H5.out.1 j hj).1
        have hrd5 : Rd w.heap.size st4 w5 := (H5.out.2.1.below ((Below.refl _ _).alloc (Nat.le_refl _) _) H5.out.2.1.lt).grown hg5 (fun j hj => by have := hne j hj; omega)
        have hB5 : Below w.heap.size w w5 := (H5.out.2.2.alloc H5.out.2.2.size _).grown hg5 (by have := H5.out.2.2.size; simp; omega) (fun j hj => by have := hne j hj; omega)
        have hown6 : OwnD (w.heap.size + 1) v' (acc ++ [((r : Int), (q : Int))]) w5 := by unfold OwnD; rw [List.length_append, rowD_append]; exact hown5
        have H6 := Lib.hid (And.intro hown6 (And.intro hrd5 hB5))
        clear hown5 hg5 hne hrd5 hB5 hown6 H5
        go_wp2_with fail
        go_roundw
        case rel => exact ⟨k + 1, _, st4, by go_num, by omega, by rw [List.length_append, HC.out]; rfl, hzz, by rw [← HNX.out]; exact HQ.out, H6.out.1, H6.out.2.1, H6.out.2.2⟩
        case measure => simp [intOf]; omega
      · obtain rfl : k = n := by omega
        have hT : T = (acc, st) := by rw [← HQ.out, Nat.sub_self]; rfl
        subst hT
        have hdn := done_any w.heap.size st wr H3.out.2.1 (by omega)
        have hd2 : (if st.2 ≠ 0 then st.2 else if 0 < st.1.size then (5 : Int) else 0) = doneS st := rfl
        rw [hd2] at hdn
        clear hd2
        have hj := HJ.out
        simp only at hj
        have HJ2 := Lib.hid hj
        have HDN := Lib.hid hdn
        clear hj HJ hdn
        by_cases hD : doneS st = 0
        · have hj := HJ2.out
          rw [if_neg (fun h => h hD)] at hj
          rw [hD] at HDN
          have HJ3 := Lib.hid hj
          obtain ⟨da, dc, hv, hdin, hdl⟩ := H3.out.1.din
          rw [HC.out] at hv
          have hck := chkLC acc da dc wr hdin hdl
          rw [HC.out] at hck
          have HCK := Lib.hid hck
          have HO := Lib.hid H3.out.1
          have HB := Lib.hid H3.out.2.2
          subst hv
          clear hj HJ2 hD hdin hdl hck H3
          go_wp2_with fail
          refine HDN.out.mono ?_
          rintro e w6 ⟨rfl, rfl⟩
          go_wp2_with fail
          refine HCK.out.mono ?_
          rintro e w7 ⟨rfl, hb7⟩
          have hO7 := HO.out.below hb7 (Nat.le_refl _)
          have HB7 := Lib.hid (HB.out.trans (hb7.mono HB.out.size))
          have HO7 := Lib.hid (hO7.mono (show w.heap.size ≤ w.heap.size + 1 by omega))
          clear hb7 hO7 HCK HDN
          by_cases hE : chkL acc = 0
          · have hj := HJ3.out
            rw [if_neg (fun h => h hE)] at hj
            have HF := Lib.hid hj
            have HE := Lib.hid hE
            clear hj HJ3 hE
            go_wp2_with (simp only [HE.out])
            go_ret2
            rw [HF.out]
            exact ⟨_, rfl, HO7.out, HB7.out⟩
          · have hj := HJ3.out
            rw [if_pos hE] at hj
            have HF := Lib.hid hj
            have hne : (chkL acc != 0) = true := by simp [hE]
            clear hj HJ3 hE
            go_wp2_with fail
            go_ret2
            rw [HF.out]
            exact ⟨_, rfl, ownD_nil _ _, HB7.out⟩
        · have hj := HJ2.out
          rw [if_pos hD] at hj
          have HF := Lib.hid hj
          have hne : (doneS st != 0) = true := by simp [hD]
          have HB := Lib.hid H3.out.2.2
          clear hj HJ2 hD H3
          go_wp2_with fail
          refine HDN.out.mono ?_
          rintro e w6 ⟨rfl, rfl⟩
          go_wp2_with fail
          go_ret2
          rw [HF.out]
          exact ⟨_, rfl, ownD_nil _ _, HB.out⟩
theorem readDC (s : ByteArray) (hs : s.size ≤ 9223372036854775807) (w : World) :
    Calls Tryz.prog 41 #[.string s] w fun e w' => ∃ v, e = .returned (.tuple #[v, .int .i64 (readD s).2]) ∧ OwnD w.heap.size v (readD s).1 w' ∧ Below w.heap.size w w' := by
  have H := Lib.hid (lreadD s hs w)
  clear hs
  go_enter Tryz.func41, Tryz.ntmps41
  go_wp2_with fail
  refine H.out.mono ?_
  rintro e w1 ⟨v, rfl, ho, hb1⟩
  go_wp2_with fail
  go_ret2
  exact ⟨v, rfl, ho, hb1⟩
end Go.Proofs.YtkodololdjainaaGreat

namespace Go.Proofs.YtkodololdjainaaGreat
set_option maxRecDepth 100000
open Go.RowKit

set_option maxHeartbeats 4000000 in
set_option maxRecDepth 100000 in
theorem readDR (s : ByteArray) (hs : s.size ≤ 9223372036854775807) (w : World) :
    Calls Tryz.prog 46 #[.string s] w fun e w' => ∃ v, e = .returned (.tuple #[v, .int .i64 (readD s).2]) ∧ OwnD w.heap.size v (readD s).1 w' ∧ Below w.heap.size w w' := by
  obtain ⟨i0, hi, hz0, hz1, hz2⟩ := info_parts dotInfo
  go_enter Tryz.func46, Tryz.ntmps46
  go_wp2_with fail
  refine (refR_num s 0 hs w).mono ?_
  rintro e w1 ⟨rfl, hb1⟩
  have z1 : (sNum (s, 0)).2.1.size ≤ s.size := sNum_size (s, 0)
  have hr : readD s = if 4096 < (sNum (s, 0)).1 then ([], 3) else if doneS (rdD s).2 ≠ 0 then ([], doneS (rdD s).2) else if chkL (rdD s).1 ≠ 0 then ([], chkL (rdD s).1) else ((rdD s).1, 0) := rfl
  have hst : sDots (sNum (s, 0)).1 (sNum (s, 0)).2 [] = rdD s := rfl
  have hnb : (sNum (s, 0)).2.2 ≠ 0 → (sNum (s, 0)).1 = 0 := fun h => by
    generalize hr : numR s.data.toList = r at *
    obtain ⟨m, k, e⟩ := r
    by_cases he : e = 0
    · exfalso; apply h; simp [sNum, hr, he]
    · simp [sNum, hr, he]
  have HB1 := Lib.hid hb1
  have hs1 := hb1.size
  have HQ1 := Lib.hid (Qd.made (sNum (s, 0)).2 w1)
  clear hb1
  generalize rdD s = T at hr hst
  generalize hn : sNum (s, 0) = nst at *
  obtain ⟨n, t1, e1⟩ := nst
  simp only at hr hst z1 hnb
  have HR := Lib.hid hr
  have HST := Lib.hid hst
  clear hr hst hn
  by_cases hbig : 4096 < n
  · have he1 : e1 = 0 := Classical.byContradiction fun h => by have := hnb h; omega
    subst he1
    have hbi : decide ((4096 : Int) < (n : Int)) = true := by simp; omega
    have hj := HR.out
    rw [if_pos hbig] at hj
    have HF := Lib.hid hj
    clear hj hnb HQ1
    go_wp2_with fail
    go_ret2
    rw [HF.out]
    exact ⟨_, rfl, ownD_nil _ _, HB1.out.alloc hs1 _⟩
  · have hbi : decide ((4096 : Int) < (n : Int)) = false := by simp; omega
    have hj := HR.out
    rw [if_neg hbig] at hj
    have HJ := Lib.hid hj
    clear hj HR
    have hgo : ∀ Q : Prop, ((e1 == 0) = true → Q) → ((e1 == 0) = false → Q) → Q := fun Q h1 h2 => by cases h : (e1 == 0) <;> simp_all
    refine hgo _ ?_ ?_
    all_goals
      intro he1
      clear hgo hnb
      go_wp2_with fail
      go_loopw [6, 7] (fun v i wr => ∃ (k : Nat) (acc : List Dt) (st : ByteArray × Int), i = .int .i64 k ∧ k ≤ n ∧ acc.length = k ∧ st.1.size ≤ s.size ∧ sDots (n - k) st acc = T ∧ OwnD (w1.heap.size + 1) v acc wr ∧ Qd w1.heap.size st wr ∧ Below w.heap.size w wr) (fun _ i _ => n - (intOf i).toNat)
      case atStart => exact ⟨0, [], (t1, e1), rfl, Nat.zero_le _, rfl, z1, by rw [Nat.sub_zero]; exact HST.out, ownD_nil _ _, HQ1.out, HB1.out.alloc hs1 _⟩
      case round =>
        clear he1 HQ1
        obtain ⟨k, acc, st, rfl, hk, hacc, hss, heq, hown, hrd, hb⟩ := hrel
        have HQ := Lib.hid heq
        have HC := Lib.hid hacc
        have H3 := Lib.hid (And.intro hown (And.intro hrd hb))
        have hlr := hrd.lt
        have q0 := hrd.left
        have q1 := hrd.err
        have qf0 := hrd.free 0
        have qf1 := hrd.free 1
        clear heq hacc hown hrd hb
        obtain ⟨t, er⟩ := st
        simp only at q0 q1 hss
        by_cases hlt : k < n
        · have hki : decide ((k : Int) < (n : Int)) = true := by simp; omega
          have hcut : n - k = (n - (k + 1)) + 1 := by omega
          have HU := Lib.hid hcut
          clear hcut
          by_cases h0 : er = 0
          · subst h0
            go_wp2_with fail
            refine (refR_num t 0 (by omega) wr).mono ?_
            rintro e w3 ⟨rfl, hb3⟩
            have z2 := sNum_size (t, 0)
            have hsz3 := hb3.size
            have hB3 := H3.out.2.2.trans (hb3.mono H3.out.2.2.size)
            have H4 := Lib.hid (And.intro (H3.out.1.below hb3 (Nat.le_refl _)) (And.intro (H3.out.2.1.below hb3 hlr) hB3))
            have hs4 := hB3.size
            have HN4 := Lib.hid (Qd.made (sNum (t, 0)).2 w3)
            simp only at z2
            clear hb3 H3 hB3 q0 q1 qf0 qf1
            go_wp2_with fail
            refine (refR_num (sNum (t, 0)).2.1 (sNum (t, 0)).2.2 (by omega) _).mono ?_
            rintro e w4 ⟨rfl, hb4⟩
            have z3 := sNum_size (sNum (t, 0)).2
            have hsz4 : w3.heap.size + 1 ≤ w4.heap.size := by have := hb4.size; simpa using this
            have hb4' : Below w3.heap.size w3 w4 := ((Below.refl _ _).alloc (Nat.le_refl _) _).trans (hb4.mono (by simp))
            have hnx : sDots (n - k) (t, 0) acc = sDots (n - (k + 1)) (sNum (sNum (t, 0)).2).2 (acc ++ [((((sNum (t, 0)).1 : Nat) : Int), (((sNum (sNum (t, 0)).2).1 : Nat) : Int))]) := by rw [HU.out]; rfl
            have HNX := Lib.hid hnx
            have hzz : (sNum (sNum (t, 0)).2).2.1.size ≤ s.size := by omega
            have hsame : sNum ((sNum (t, 0)).2.1, (sNum (t, 0)).2.2) = sNum (sNum (t, 0)).2 := rfl
            rw [hsame]
            have hB4 := H4.out.2.2.trans (hb4'.mono hs4)
            have H5 := Lib.hid (And.intro (H4.out.1.below hb4' (Nat.le_refl _)) (And.intro (H4.out.2.1.below hb4' H4.out.2.1.lt) hB4))
            have hs5 := hB4.size
            clear hb4 hb4' H4 hnx z2 z3 hsame HN4 hB4
            generalize (sNum (sNum (t, 0)).2).1 = q at *
            generalize (sNum (sNum (t, 0)).2).2 = st4 at *
            generalize (sNum (t, 0)).1 = r at *
            obtain ⟨t4, e4⟩ := st4
            simp only at hzz
            have g0 := H5.out.2.1.left
            have g1 := H5.out.2.1.err
            have gf0 := H5.out.2.1.free 0
            have gf1 := H5.out.2.1.free 1
            have gl := H5.out.2.1.lt
            simp only at g0 g1
            have hne : ∀ j, (u6 : Value).ownBlock = some j → w1.heap.size + 1 ≤ j := fun j hj => (World.ownsRow.lt H5.out.1 j hj).1
            have HNE := Lib.hid hne
            have HO5 := Lib.hid (((H5.out.1.set (b := w1.heap.size) (i := 0) (by omega) (.string t4)).set (b := w1.heap.size) (i := 1) (by omega) (.int .i64 e4)).alloc (.cells #[.string t4, .int .i64 e4] 75))
            have HQ5 := Lib.hid ((H5.out.2.1.set t4 e4).alloc (.cells #[.string t4, .int .i64 e4] 75))
            have HB5 := Lib.hid (((H5.out.2.2.setCell (p := ⟨w1.heap.size, 0, none⟩) hs1 (.string t4)).setCell (p := ⟨w1.heap.size, 1, none⟩) hs1 (.int .i64 e4)).alloc (by simpa using hs5) (.cells #[.string t4, .int .i64 e4] 75))
            clear hne
            go_wp2_with (at_builtin; refine wpList_append_own _ rfl _ _ 27 rfl (w1.heap.size + 1) 23 i0 (.agg #[.int .i64 0, .int .i64 0]) 2 16 Tryz.underlying27 hi hz0 hz1 hz2 rfl (by decide) _ _ _ rfl (World.ownsRow.alloc HO5.out _) ⟨w4.heap.size + 1, 0, none⟩ 1 1 [Value.int .i64 r, Value.int .i64 q] rfl rfl ?c1 ?c2 ?c3 ?c4 ?c5 ?_)
            case c1 =>
              intro j u hj
              match j, hj with
              | 0, hj => simp at hj; subst hj; simp [Addr.add, go_sem]
              | 1, hj => simp at hj; subst hj; simp [Addr.add, go_sem]
            case c2 => intro u hu; simp at hu; rcases hu with rfl | rfl <;> rfl
            case c3 => have := HC.out; unfold maxLen; omega
            case c4 => have := HC.out; omega
            case c5 => simp; omega
            intro v' w5 hown5 hg5 _
            have hrd5 : Qd w1.heap.size (t4, e4) w5 := (HQ5.out.alloc _).grown hg5 (fun j hj => by have := HNE.out j hj; omega)
            have hB5 : Below w.heap.size w w5 := (HB5.out.alloc HB5.out.size _).grown hg5 (by have := HB5.out.size; simp at this ⊢; omega) (fun j hj => by have := HNE.out j hj; omega)
            have hown6 : OwnD (w1.heap.size + 1) v' (acc ++ [((r : Int), (q : Int))]) w5 := by unfold OwnD; rw [List.length_append, rowD_append]; exact hown5
            have H6 := Lib.hid (And.intro hown6 (And.intro hrd5 hB5))
            clear hown5 hg5 hrd5 hB5 hown6 H5 HO5 HQ5 HB5 g0 g1 gf0 gf1
            go_wp2_with fail
            go_roundw
            case rel => exact ⟨k + 1, _, (t4, e4), by go_num, by omega, by rw [List.length_append, HC.out]; rfl, hzz, by rw [← HNX.out]; exact HQ.out, H6.out.1, H6.out.2.1, H6.out.2.2⟩
            case measure => simp [intOf]; omega
          · have hT : T.2 = (t, er) := by rw [← HQ.out]; exact sDots_bad _ _ _ h0
            have hD : doneS (t, er) = er := by unfold doneS; rw [if_pos h0]
            have hb0 : (er == 0) = false := by simp [h0]
            have hne : (er != 0) = true := by simp [h0]
            have hj := HJ.out
            rw [hT, hD, if_pos h0] at hj
            have HF := Lib.hid hj
            have HDE := Lib.hid hD
            clear hj HJ hT hD h0
            go_wp2_with fail
            refine (refR_done t er _).mono ?_
            rintro e w6 ⟨rfl, hw6⟩
            have HB6 := Lib.hid (show Below w.heap.size w w6 from by rw [← hw6]; exact H3.out.2.2.alloc H3.out.2.2.size _)
            clear hw6
            go_wp2_with (simp only [HDE.out])
            go_ret2
            rw [HF.out]
            exact ⟨_, rfl, ownD_nil _ _, HB6.out⟩
        · obtain rfl : k = n := by omega
          have hki : decide ((k : Int) < (k : Int)) = false := by simp
          have hT : T = (acc, (t, er)) := by rw [← HQ.out, Nat.sub_self]; rfl
          subst hT
          have hj := HJ.out
          simp only at hj
          have HJ2 := Lib.hid hj
          clear hj HJ
          by_cases hD : doneS (t, er) = 0
          · have hj := HJ2.out
            rw [if_neg (fun h => h hD)] at hj
            have HJ3 := Lib.hid hj
            have HDE := Lib.hid hD
            obtain ⟨da, dc, hv, hdin, hdl⟩ := H3.out.1.din
            rw [HC.out] at hv
            subst hv
            have HDI := Lib.hid hdin
            have hck := fun W (h : DIn W da acc) => chkLR acc da dc W h hdl
            rw [HC.out] at hck
            clear hj HJ2 hD hdin
            go_wp2_with fail
            refine (refR_done t er _).mono ?_
            rintro e w6 ⟨rfl, hw6⟩
            have hb6 : Below wr.heap.size wr w6 := by rw [← hw6]; exact (Below.refl _ _).alloc (Nat.le_refl _) _
            have HDI6 := Lib.hid (HDI.out.below hb6)
            have HO6 := Lib.hid (H3.out.1.below hb6 (Nat.le_refl _))
            have HB6 := Lib.hid (H3.out.2.2.trans (hb6.mono H3.out.2.2.size))
            clear hw6 hb6 HDI H3 q0 q1 qf0 qf1
            go_wp2_with (simp only [HDE.out])
            refine (hck _ HDI6.out).mono ?_
            rintro e w7 ⟨rfl, hb7⟩
            have HO7 := Lib.hid ((HO6.out.below hb7 (Nat.le_refl _)).mono (show w.heap.size ≤ w1.heap.size + 1 by omega))
            have HB7 := Lib.hid (HB6.out.trans (hb7.mono HB6.out.size))
            clear hb7 HO6 hck
            by_cases hE : chkL acc = 0
            · have hj := HJ3.out
              rw [if_neg (fun h => h hE)] at hj
              have HF := Lib.hid hj
              have HE := Lib.hid hE
              clear hj HJ3 hE
              go_wp2_with (simp only [HE.out])
              go_ret2
              rw [HF.out]
              exact ⟨_, rfl, HO7.out, HB7.out⟩
            · have hj := HJ3.out
              rw [if_pos hE] at hj
              have HF := Lib.hid hj
              have hne : (chkL acc != 0) = true := by simp [hE]
              clear hj HJ3 hE
              go_wp2_with fail
              go_ret2
              rw [HF.out]
              exact ⟨_, rfl, ownD_nil _ _, HB7.out⟩
          · have hj := HJ2.out
            rw [if_pos hD] at hj
            have HF := Lib.hid hj
            have hne : (doneS (t, er) != 0) = true := by simp [hD]
            clear hj HJ2 hD
            go_wp2_with fail
            refine (refR_done t er _).mono ?_
            rintro e w6 ⟨rfl, hw6⟩
            have HB6 := Lib.hid (show Below w.heap.size w w6 from by rw [← hw6]; exact H3.out.2.2.alloc H3.out.2.2.size _)
            clear hw6
            go_wp2_with fail
            go_ret2
            rw [HF.out]
            exact ⟨_, rfl, ownD_nil _ _, HB6.out⟩
end Go.Proofs.YtkodololdjainaaGreat
