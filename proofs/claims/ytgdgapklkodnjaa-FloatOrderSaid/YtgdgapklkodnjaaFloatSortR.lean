/-
  The document's Sort: what the call answers.
-/
import Derived.Test.YtgdgapklkodnjaaFloatRow
import Derived.Test.YtgdgapklkodnjaaFloatR
import Derived.Deep.AppendLies
namespace Go.Proofs.Ytgdgapklkodnjaa
open Go.RowKit

attribute [local go_sem] run_store_flt

theorem ownF_nil (B : Nat) (w : World) : OwnF B (.slice none 0 0) [] w := World.ownsRow_nil _ _ _ _
theorem ownF_more {w : World} {B z : Nat} {v : Value} {l : List Nat} (h : w.ownsRow B 22 1 v (l.length + 1) (fcs l ++ [Value.float .f64 z])) : OwnF B v (l ++ [z]) w := by
  unfold OwnF
  have e : fcs (l ++ [z]) = fcs l ++ [Value.float .f64 z] := by simp [fcs]
  rw [e, List.length_append, List.length_singleton]
  exact h
theorem ownF_form {B : Nat} {v : Value} {l : List Nat} {w : World} (h : OwnF B v l w) (hl : 0 < l.length) : ∃ g cap, v = .slice (some ⟨g, 0, none⟩) l.length cap := Joins.ownsRow_form h hl
theorem ownF_lenOf {B : Nat} {v : Value} {l : List Nat} {w : World} (h : OwnF B v l w) : ∃ p cap, v = .slice p l.length cap := by
  obtain ⟨_, hv⟩ := h
  rcases hv with ⟨rfl, h0⟩ | ⟨g, cap, cur, rfl, _⟩
  · exact ⟨none, 0, by rw [h0]⟩
  · exact ⟨_, cap, rfl⟩
theorem ownF_block {B : Nat} {g n cap : Nat} {l : List Nat} {w : World} (h : OwnF B (.slice (some ⟨g, 0, none⟩) n cap) l w) : B ≤ g ∧ g < w.heap.size ∧ n = l.length := by
  obtain ⟨_, hv⟩ := h
  rcases hv with ⟨h0, _⟩ | ⟨g', cap', cur, h0, hb, hg, _⟩
  · cases h0
  · injection h0 with h1 h2 h3
    injection h1 with h1
    injection h1 with h1
    subst h1
    exact ⟨hb, (Array.getElem?_eq_some_iff.1 hg).1, h2⟩

/-- one step of the way down: x has changed places with the one ahead of it -/
theorem swap_row (A B : List Nat) (y x : Nat) : (((A ++ [y]) ++ x :: B).set (A.length + 1) y).set A.length x = A ++ x :: (y :: B) := by
  rw [List.append_assoc, List.set_append_right _ _ (by omega)]
  simp
/-- where it comes to lie all is sorted -/
theorem IsSort.put {l A B : List Nat} {x : Nat} (h : IsSort l (A ++ B)) (hB : ∀ b ∈ B, keyB (cln x) < keyB b) (hA : ∀ A' a, A = A' ++ [a] → ¬ keyB (cln x) < keyB a) : IsSort (l ++ [x]) (A ++ cln x :: B) := by
  obtain ⟨hp, hs⟩ := h
  refine ⟨?_, ?_⟩
  · rw [List.map_append]
    refine (List.perm_middle).trans ?_
    exact ((hp.cons (cln x)).trans (List.perm_append_singleton (cln x) (l.map cln)).symm)
  · rw [List.pairwise_append] at hs ⊢
    obtain ⟨sA, sB, sAB⟩ := hs
    have hAx : ∀ a ∈ A, keyB a ≤ keyB (cln x) := by
      intro a ha
      by_cases hne : A = []
      · subst hne; cases ha
      · have e := List.dropLast_concat_getLast hne
        have h1 := hA _ _ e.symm
        rw [← e] at sA ha
        rw [List.pairwise_append] at sA
        rcases List.mem_append.1 ha with hm | hm
        · have := sA.2.2 a hm (A.getLast hne) (by simp)
          omega
        · obtain rfl : a = A.getLast hne := by simpa using hm
          omega
    refine ⟨sA, List.pairwise_cons.2 ⟨fun b hb => Nat.le_of_lt (hB b hb), sB⟩, ?_⟩
    intro a ha b hb
    rcases List.mem_cons.1 hb with rfl | hb
    · exact hAx a ha
    · exact sAB a ha b hb

set_option maxHeartbeats 2000000 in
set_option maxRecDepth 100000 in
theorem sortR (l : List Nat) (v : Value) (w : World) (hin : FIn w v l) (hl : ∀ x ∈ l, x < 18446744073709551616) (hlen : l.length ≤ 1000) :
    Calls Try.prog 23 #[v] w fun e w' => ∃ v' r, e = .returned v' ∧ IsSort l r ∧ FIn w' v' r ∧ Below w.heap.size w w' := by
  obtain ⟨i0, hi, hz0, hz1, hz2⟩ := info_parts floatInfo
  obtain ⟨p, cap, hv, hcell⟩ : ∃ p cap, v = .slice p l.length cap ∧ ∀ j (h : j < l.length), ∃ g, p = some ⟨g, 0, none⟩ ∧ g < w.heap.size ∧ w.cell? ⟨g, j, none⟩ = some (.float .f64 l[j]) := by
    rcases hin with ⟨rfl, rfl⟩ | ⟨g, cap, rfl, hg, hc⟩
    · exact ⟨none, 0, rfl, fun j hj => by simp at hj⟩
    · exact ⟨_, cap, rfl, fun j hj => ⟨g, rfl, hg, hc j hj⟩⟩
  subst hv
  clear hin
  have HC := Lib.hid hcell
  have HL := Lib.hid hl
  clear hcell hl
  obtain ⟨n, hn⟩ : ∃ n, n = l.length := ⟨_, rfl⟩
  rw [← hn] at hlen ⊢
  have HN := Lib.hid hn
  clear hn
  go_enter Try.func23, Try.ntmps23
  go_wp2
  go_loopw [3, 4] (fun v i wr => ∃ (j : Nat) (pre : List Nat), j ≤ n ∧ i = .int .i64 (j : Int) ∧ pre.length = j ∧ OwnF w.heap.size v pre wr ∧ IsSort (l.take j) pre ∧ Below w.heap.size w wr) (fun _ i _ => n - (intOf i).toNat)
  case atStart => exact ⟨0, [], by omega, rfl, rfl, ownF_nil _ _, ⟨by simp, List.Pairwise.nil⟩, Below.refl _ _⟩
  case round =>
    obtain ⟨j, pre, hj, rfl, hpl, hown, hsrt, hb⟩ := hrel
    by_cases hlt : j < n
    · have hjl : j < l.length := by rw [← HN.out]; exact hlt
      obtain ⟨g, hp, hg, hc⟩ := HC.out j hjl
      subst hp
      rw [← hb.cell (p := ⟨g, j, none⟩) hg] at hc
      have htk : l.take (j + 1) = l.take j ++ [l[j]] := List.take_succ_eq_append_getElem hjl
      have hx64 := HL.out l[j] (List.getElem_mem _)
      have hcc := fun W => cleanR l[j] W
      generalize l[j] = y at hc hcc htk hx64
      have hbs := hb.size
      obtain ⟨pv, cv, hvv⟩ := ownF_lenOf hown
      rw [hpl] at hvv
      have HB := Lib.hid hb
      have HS := Lib.hid hsrt
      have HT := Lib.hid htk
      have HCC := Lib.hid hcc
      have HX := Lib.hid hx64
      have HPL := Lib.hid hpl
      have hpl1000 : pre.length ≤ 1000 := by omega
      have hj1000 : j ≤ 1000 := by omega
      have hmx : (j : Int) + 1 ≤ maxLen := by unfold maxLen; omega
      clear hb hsrt htk hcc hx64
      subst hvv
      have hrow : wr.ownsRow w.heap.size 22 1 (.slice pv j cv) j (fcs pre) := by
        have h := hown; unfold OwnF at h; rw [hpl] at h; exact h
      clear hown hpl
      go_wp2_with fail
      refine (HCC.out _).mono ?_
      rintro e w1 ⟨rfl, rfl⟩
      generalize hz : cln y = z
      have HZ := Lib.hid hz
      clear hz
      go_wp2_with (at_builtin; refine wpList_append_own _ rfl _ _ 39 rfl w.heap.size 22 i0 (.float .f64 0) 1 8 Try.underlying39 hi hz0 hz1 hz2 rfl (by decide) _ _ _ rfl (hrow.alloc _) ⟨wr.heap.size, 0, none⟩ 1 1 [Value.float .f64 z] rfl rfl ?c1 ?c2 ?c3 ?c4 ?c5 ?_)
      case c1 =>
        intro j u hj
        match j, hj with
        | 0, hj => simp at hj; subst hj; simp [Addr.add]
      case c2 => intro u hu; simp at hu; subst hu; rfl
      case c3 => unfold maxLen; omega
      case c4 => omega
      case c5 => simp; omega
      intro v' w1 hown' hgrow _
      have hb1 : Below w.heap.size w w1 := (HB.out.alloc (by omega) _).grown hgrow (by simp; omega) (fun j hj => (hrow.lt j hj).1)
      rw [← HPL.out] at hown'
      have hown2 := ownF_more hown'
      obtain ⟨g2, cap2, hv2⟩ := ownF_form hown2 (by simp)
      rw [List.length_append, List.length_singleton, HPL.out] at hv2
      subst hv2
      have hbl1 := (ownF_block hown2).1
      have hbl2 := (ownF_block hown2).2.1
      have HO2 := Lib.hid hown2
      have HB1 := Lib.hid hb1
      have hb1s := hb1.size
      clear hown2 hb1 hown' hgrow hrow hc
      go_wp2
      go_loopw [5, 6] (fun kk _ ws => ∃ (k : Nat) (A B : List Nat), k ≤ j ∧ kk = .int .i64 (k : Int) ∧ A.length = k ∧ A ++ B = pre ∧ (∀ b ∈ B, keyB z < keyB b) ∧ OwnF w.heap.size (.slice (some ⟨g2, 0, none⟩) (j + 1) cap2) (A ++ z :: B) ws ∧ Below w.heap.size w ws) (fun kk _ _ => (intOf kk).toNat)
      case atStart => exact ⟨j, pre, [], by omega, rfl, HPL.out, by simp, (fun b hb => absurd hb (by simp)), HO2.out, HB1.out⟩
      case round =>
        clear HO2 HB1
        obtain ⟨k, A, B, hk, rfl, hA, hAB, hB, hown, hb⟩ := hrel
        have hz64 : z < 18446744073709551616 := by rw [← HZ.out]; exact cln_lt HX.out
        have hkz : keyB (cln y) = keyB z := by rw [HZ.out]
        have hbs2 := hb.size
        cases k with
        | zero =>
          obtain rfl : A = [] := List.length_eq_zero_iff.1 hA
          have hs2 : IsSort (l.take (j + 1)) (z :: B) := by
            have h := IsSort.put (l := l.take j) (A := []) (B := B) (x := y) (by rw [hAB]; exact HS.out) (by rw [HZ.out]; exact hB) (fun A' a h => by simp at h)
            rw [HZ.out, ← HT.out] at h
            exact h
          have hl2 : (z :: B).length = j + 1 := by
            have h := congrArg List.length hAB
            simp at h ⊢; have := HPL.out; omega
          have H1 := Lib.hid hs2
          have H2 := Lib.hid hl2
          have H3 := Lib.hid hown
          have H4 := Lib.hid hb
          clear hs2 hl2 hown hb hAB hB hkz hA HC
          go_wp2_with fail
          go_quiet (fail)
          go_wp2
          exact ⟨⟨j + 1, z :: B, by omega, by go_num, H2.out, H3.out, H1.out, belowN H4.out _⟩, by simp [intOf]; omega⟩
        | succ m =>
          obtain ⟨A0, a, rfl⟩ : ∃ A0 a, A = A0 ++ [a] := ⟨A.dropLast, A.getLast (by intro h; subst h; simp at hA), (List.dropLast_concat_getLast _).symm⟩
          have hA0 : A0.length = m := by simpa using hA
          have hbl3 := ownF_block hown
          have hjl2 : j + 1 = ((A0 ++ [a]) ++ z :: B).length := hbl3.2.2
          have hrow : wr.ownsRow w.heap.size 22 1 (.slice (some ⟨g2, 0, none⟩) (j + 1) cap2) (j + 1) (fcs ((A0 ++ [a]) ++ z :: B)) := by
            have h := hown; unfold OwnF at h; rw [← hjl2] at h; exact h
          have hc1 := World.ownsRow.cellAt hrow (m + 1) (by omega)
          have hc2 := World.ownsRow.cellAt hrow m (by omega)
          have hf1 : wr.frozen? ⟨g2, m + 1, none⟩ = false := World.ownsRow.frozenAt hrow (m + 1)
          have hf2 : wr.frozen? ⟨g2, m, none⟩ = false := World.ownsRow.frozenAt hrow m
          have e1 : (fcs ((A0 ++ [a]) ++ z :: B))[m + 1]? = some (.float .f64 z) := by
            unfold fcs; rw [List.getElem?_map, List.getElem?_append_right (by simp; omega)]; simp [hA0]
          have e2 : (fcs ((A0 ++ [a]) ++ z :: B))[m]? = some (.float .f64 a) := by
            unfold fcs; rw [List.getElem?_map, List.append_assoc, List.getElem?_append_right (by omega)]; simp [hA0]
          rw [e1] at hc1
          rw [e2] at hc2
          have ha64 : a < 18446744073709551616 := by
            have hm : a ∈ pre := by rw [← hAB]; simp
            obtain ⟨x, hx, rfl⟩ := List.mem_map.1 ((HS.out.1.mem_iff).1 hm)
            exact cln_lt (HL.out x (List.mem_of_mem_take hx))
          have hls := fun W => lessR z a hz64 ha64 W
          by_cases hlt2 : keyB z < keyB a
          · have hdec : decide (keyB z < keyB a) = true := by simpa using hlt2
            rw [hdec] at hls
            have hst := (World.ownsRow.stored hrow (m + 1) (.float .f64 a)).1
            have hst2 := (World.ownsRow.stored hst m (.float .f64 z)).1
            rw [fcs_set, fcs_set, ← hA0, swap_row, hA0] at hst2
            have H1 := Lib.hid hst2
            have H2 := Lib.hid hls
            have hB2 : ∀ b ∈ a :: B, keyB z < keyB b := by
              intro b hbm
              rcases List.mem_cons.1 hbm with rfl | h
              · exact hlt2
              · exact hB b h
            have hAB2 : A0 ++ (a :: B) = pre := by rw [← hAB]; simp
            have H3 := Lib.hid hB2
            have H4 := Lib.hid hAB2
            have H5 := Lib.hid hb
            have H6 := Lib.hid hjl2
            have hmi : (m : Int) < (j : Int) + 1 := by omega
            have hm0 : (0 : Int) ≤ (m : Int) + 1 := by omega
            have hwm : IntKind.i64.wrap (m : Int) = (m : Int) := by simp [IntKind.wrap, IntKind.bits, IntKind.signed]; omega
            have hmi2 : (m : Int) + 1 < (j : Int) + 1 := by omega
            clear hst hst2 hls hown hb hAB hB hkz hA HC hrow hAB2 hB2 e1 e2 hdec hlt2 hbl3 hjl2
            go_wp2_with fail
            go_quiet ((go_at_call 30; exact still1 (H2.out _)))
            go_wp2
            have hl3 : (A0 ++ z :: (a :: B)).length = j + 1 := by rw [H6.out]; simp
            exact ⟨⟨m, A0, a :: B, by omega, rfl, hA0, H4.out, H3.out, by unfold OwnF; rw [hl3]; exact H1.out, ((belowN H5.out nq).setCell hbl1 _).setCell hbl1 _⟩, by simp [intOf]⟩
          · have hdec : decide (keyB z < keyB a) = false := by simpa using hlt2
            rw [hdec] at hls
            have hs2 : IsSort (l.take (j + 1)) ((A0 ++ [a]) ++ z :: B) := by
              have h := IsSort.put (l := l.take j) (A := A0 ++ [a]) (B := B) (x := y) (by rw [hAB]; exact HS.out) (by rw [HZ.out]; exact hB) (fun A' a' h => by
                obtain ⟨_, h2⟩ := List.append_inj' h rfl
                obtain rfl : a = a' := by simpa using h2
                rw [HZ.out]; exact hlt2)
              rw [HZ.out, ← HT.out] at h
              exact h
            have H1 := Lib.hid hs2
            have H2 := Lib.hid hls
            have H3 := Lib.hid hown
            have H4 := Lib.hid hb
            have H6 := Lib.hid hjl2
            have hmi : (m : Int) < (j : Int) + 1 := by omega
            have hm0 : (0 : Int) ≤ (m : Int) + 1 := by omega
            have hwm : IntKind.i64.wrap (m : Int) = (m : Int) := by simp [IntKind.wrap, IntKind.bits, IntKind.signed]; omega
            have hmi2 : (m : Int) + 1 < (j : Int) + 1 := by omega
            clear hs2 hls hown hb hAB hB hkz hA HC hrow e1 e2 hdec hlt2 hbl3 hjl2
            go_wp2_with fail
            go_quiet ((go_at_call 30; exact still1 (H2.out _)))
            go_wp2
            exact ⟨⟨j + 1, _, by omega, by go_num, H6.out.symm, H3.out, H1.out, belowN H4.out _⟩, by simp [intOf]; omega⟩
    · obtain rfl : j = n := by omega
      rw [List.take_of_length_le (by rw [← HN.out]; omega)] at hsrt
      have H1 := Lib.hid hsrt
      have H2 := Lib.hid hown.fin
      have H3 := Lib.hid hb
      clear hsrt hown hb
      go_wp2
      go_ret
      exact ⟨_, pre, rfl, H1.out, H2.out, H3.out⟩
end Go.Proofs.Ytgdgapklkodnjaa
