/-
  The document's Sort: what the call answers.
  view: what lies there while a backup is told.
-/
import Derived.Test.YtchnklekeinhiaaGreatGV14
import Derived.Test.YtchnklekeinhiaaGreatGV17
import Derived.Deep.AppendLies
import Derived.Laws.ResultCell
namespace Go.Proofs.YtchnklekeinhiaaGreat
set_option maxRecDepth 100000
open Go.RowKit

attribute [local go_sem] run_store_flt

theorem ownFl_nil (B : Nat) (w : World) : OwnFl B (.slice none 0 0) [] w := World.ownsRow_nil _ _ _ _
theorem ownFl_more {w : World} {B z : Nat} {v : Value} {l : List Nat} (h : w.ownsRow B 55 1 v (l.length + 1) (flcs l ++ [Value.float .f64 z])) : OwnFl B v (l ++ [z]) w := by
  unfold OwnFl
  have e : flcs (l ++ [z]) = flcs l ++ [Value.float .f64 z] := by simp [flcs]
  rw [e, List.length_append, List.length_singleton]
  exact h
theorem ownFl_form {B : Nat} {v : Value} {l : List Nat} {w : World} (h : OwnFl B v l w) (hl : 0 < l.length) : ∃ g cap, v = .slice (some ⟨g, 0, none⟩) l.length cap := Joins.ownsRow_form h hl
theorem ownFl_lenOf {B : Nat} {v : Value} {l : List Nat} {w : World} (h : OwnFl B v l w) : ∃ p cap, v = .slice p l.length cap := by
  obtain ⟨_, hv⟩ := h
  rcases hv with ⟨rfl, h0⟩ | ⟨g, cap, cur, rfl, _⟩
  · exact ⟨none, 0, by rw [h0]⟩
  · exact ⟨_, cap, rfl⟩
theorem ownFl_block {B : Nat} {g n cap : Nat} {l : List Nat} {w : World} (h : OwnFl B (.slice (some ⟨g, 0, none⟩) n cap) l w) : B ≤ g ∧ g < w.heap.size ∧ n = l.length := by
  obtain ⟨_, hv⟩ := h
  rcases hv with ⟨h0, _⟩ | ⟨g', cap', cur, h0, hb, hg, _⟩
  · cases h0
  · injection h0 with h1 h2 h3
    injection h1 with h1
    injection h1 with h1
    subst h1
    exact ⟨hb, (Array.getElem?_eq_some_iff.1 hg).1, h2⟩

/-- one step of the way down: x has changed places with the one ahead of it -/
theorem swap_row (A B : List Nat) (y x : Nat) : (((A ++ [y]) ++ x :: B).set (A.length + 1) y).set A.length x = A ++ x :: (y :: B) := by
  rw [List.append_assoc, List.set_append_right _ _ (by omega)]
  simp
/-- where it comes to lie all is sorted -/
theorem IsSort.put {l A B : List Nat} {x : Nat} (h : IsSort l (A ++ B)) (hB : ∀ b ∈ B, keyB (cln x) < keyB b) (hA : ∀ A' a, A = A' ++ [a] → ¬ keyB (cln x) < keyB a) : IsSort (l ++ [x]) (A ++ cln x :: B) := by
  obtain ⟨hp, hs⟩ := h
  refine ⟨?_, ?_⟩
  · rw [List.map_append]
    refine (List.perm_middle).trans ?_
    exact ((hp.cons (cln x)).trans (List.perm_append_singleton (cln x) (l.map cln)).symm)
  · rw [List.pairwise_append] at hs ⊢
    obtain ⟨sA, sB, sAB⟩ := hs
    have hAx : ∀ a ∈ A, keyB a ≤ keyB (cln x) := by
      intro a ha
      by_cases hne : A = []
      · subst hne; cases ha
      · have e := List.dropLast_concat_getLast hne
        have h1 := hA _ _ e.symm
        rw [← e] at sA ha
        rw [List.pairwise_append] at sA
        rcases List.mem_append.1 ha with hm | hm
        · have := sA.2.2 a hm (A.getLast hne) (by simp)
          omega
        · obtain rfl : a = A.getLast hne := by simpa using hm
          omega
    refine ⟨sA, List.pairwise_cons.2 ⟨fun b hb => Nat.le_of_lt (hB b hb), sB⟩, ?_⟩
    intro a ha b hb
    rcases List.mem_cons.1 hb with rfl | hb
    · exact hAx a ha
    · exact sAB a ha b hb

set_option maxHeartbeats 2000000 in
set_option maxRecDepth 100000 in
theorem flSortRN (l : List Nat) (v : Value) (w : World) (hin : FlIn w v l) (hl : ∀ x ∈ l, x < 18446744073709551616) (hlen : l.length ≤ 1000) :
    Calls Tryz.prog 33 #[v] w fun e w' => ∃ v' r, e = .returned v' ∧ IsSort l r ∧ FlFrom w' w.heap.size v' r ∧ Below w.heap.size w w' := by
  obtain ⟨i0, hi, hz0, hz1, hz2⟩ := info_parts floatInfo
  obtain ⟨p, cap, hv, hcell⟩ : ∃ p cap, v = .slice p l.length cap ∧ ∀ j (h : j < l.length), ∃ g, p = some ⟨g, 0, none⟩ ∧ g < w.heap.size ∧ w.cell? ⟨g, j, none⟩ = some (.float .f64 l[j]) := by
    rcases hin with ⟨rfl, rfl⟩ | ⟨g, cap, rfl, hg, hc⟩
    · exact ⟨none, 0, rfl, fun j hj => by simp at hj⟩
    · exact ⟨_, cap, rfl, fun j hj => ⟨g, rfl, hg, hc j hj⟩⟩
  subst hv
  clear hin
  have HC := Lib.hid hcell
  have HL := Lib.hid hl
  clear hcell hl
  obtain ⟨n, hn⟩ : ∃ n, n = l.length := ⟨_, rfl⟩
  rw [← hn] at hlen ⊢
  have HN := Lib.hid hn
  clear hn
  go_enter Tryz.func33, Tryz.ntmps33
  go_wp2
  go_loopw [3, 4] (fun v i wr => ∃ (j : Nat) (pre : List Nat), j ≤ n ∧ i = .int .i64 (j : Int) ∧ pre.length = j ∧ OwnFl w.heap.size v pre wr ∧ IsSort (l.take j) pre ∧ Below w.heap.size w wr) (fun _ i _ => n - (intOf i).toNat)
  case atStart => exact ⟨0, [], by omega, rfl, rfl, ownFl_nil _ _, ⟨by simp, List.Pairwise.nil⟩, Below.refl _ _⟩
  case round =>
    obtain ⟨j, pre, hj, rfl, hpl, hown, hsrt, hb⟩ := hrel
    by_cases hlt : j < n
    · have hjl : j < l.length := by rw [← HN.out]; exact hlt
      obtain ⟨g, hp, hg, hc⟩ := HC.out j hjl
      subst hp
      rw [← hb.cell (p := ⟨g, j, none⟩) hg] at hc
      have htk : l.take (j + 1) = l.take j ++ [l[j]] := List.take_succ_eq_append_getElem hjl
      have hx64 := HL.out l[j] (List.getElem_mem _)
      have hcc := fun W => cleanR l[j] W
      generalize l[j] = y at hc hcc htk hx64
      have hbs := hb.size
      obtain ⟨pv, cv, hvv⟩ := ownFl_lenOf hown
      rw [hpl] at hvv
      have HB := Lib.hid hb
      have HS := Lib.hid hsrt
      have HT := Lib.hid htk
      have HCC := Lib.hid hcc
      have HX := Lib.hid hx64
      have HPL := Lib.hid hpl
      have hpl1000 : pre.length ≤ 1000 := by omega
      have hj1000 : j ≤ 1000 := by omega
      have hmx : (j : Int) + 1 ≤ maxLen := by unfold maxLen; omega
      clear hb hsrt htk hcc hx64
      subst hvv
      have hrow : wr.ownsRow w.heap.size 55 1 (.slice pv j cv) j (flcs pre) := by
        have h := hown; unfold OwnFl at h; rw [hpl] at h; exact h
      clear hown hpl
      go_wp2_with fail
      refine (HCC.out _).mono ?_
      rintro e w1 ⟨rfl, rfl⟩
      generalize hz : cln y = z
      have HZ := Lib.hid hz
      clear hz
      go_wp2_with (at_builtin; refine wpList_append_own _ rfl _ _ 28 rfl w.heap.size 55 i0 (.float .f64 0) 1 8 Tryz.underlying28 hi hz0 hz1 hz2 rfl (by decide) _ _ _ rfl (hrow.alloc _) ⟨wr.heap.size, 0, none⟩ 1 1 [Value.float .f64 z] rfl rfl ?c1 ?c2 ?c3 ?c4 ?c5 ?_)
      case c1 =>
        intro j u hj
        match j, hj with
        | 0, hj => simp at hj; subst hj; simp [Addr.add]
      case c2 => intro u hu; simp at hu; subst hu; rfl
      case c3 => unfold maxLen; omega
      case c4 => omega
      case c5 => simp; omega
      intro v' w1 hown' hgrow _
      have hb1 : Below w.heap.size w w1 := (HB.out.alloc (by omega) _).grown hgrow (by simp; omega) (fun j hj => (hrow.lt j hj).1)
      rw [← HPL.out] at hown'
      have hown2 := ownFl_more hown'
      obtain ⟨g2, cap2, hv2⟩ := ownFl_form hown2 (by simp)
      rw [List.length_append, List.length_singleton, HPL.out] at hv2
      subst hv2
      have hbl1 := (ownFl_block hown2).1
      have hbl2 := (ownFl_block hown2).2.1
      have HO2 := Lib.hid hown2
      have HB1 := Lib.hid hb1
      have hb1s := hb1.size
      clear hown2 hb1 hown' hgrow hrow hc
      go_wp2
      go_loopw [5, 6] (fun kk _ ws => ∃ (k : Nat) (A B : List Nat), k ≤ j ∧ kk = .int .i64 (k : Int) ∧ A.length = k ∧ A ++ B = pre ∧ (∀ b ∈ B, keyB z < keyB b) ∧ OwnFl w.heap.size (.slice (some ⟨g2, 0, none⟩) (j + 1) cap2) (A ++ z :: B) ws ∧ Below w.heap.size w ws) (fun kk _ _ => (intOf kk).toNat)
      case atStart => exact ⟨j, pre, [], by omega, rfl, HPL.out, by simp, (fun b hb => absurd hb (by simp)), HO2.out, HB1.out⟩
      case round =>
        clear HO2 HB1
        obtain ⟨k, A, B, hk, rfl, hA, hAB, hB, hown, hb⟩ := hrel
        have hz64 : z < 18446744073709551616 := by rw [← HZ.out]; exact cln_lt HX.out
        have hkz : keyB (cln y) = keyB z := by rw [HZ.out]
        have hbs2 := hb.size
        cases k with
        | zero =>
          obtain rfl : A = [] := List.length_eq_zero_iff.1 hA
          have hs2 : IsSort (l.take (j + 1)) (z :: B) := by
            have h := IsSort.put (l := l.take j) (A := []) (B := B) (x := y) (by rw [hAB]; exact HS.out) (by rw [HZ.out]; exact hB) (fun A' a h => by simp at h)
            rw [HZ.out, ← HT.out] at h
            exact h
          have hl2 : (z :: B).length = j + 1 := by
            have h := congrArg List.length hAB
            simp at h ⊢; have := HPL.out; omega
          have H1 := Lib.hid hs2
          have H2 := Lib.hid hl2
          have H3 := Lib.hid hown
          have H4 := Lib.hid hb
          clear hs2 hl2 hown hb hAB hB hkz hA HC
          go_wp2_with fail
          go_quiet (fail)
          go_wp2
          exact ⟨⟨j + 1, z :: B, by omega, by go_num, H2.out, H3.out, H1.out, belowN H4.out _⟩, by simp [intOf]; omega⟩
        | succ m =>
          obtain ⟨A0, a, rfl⟩ : ∃ A0 a, A = A0 ++ [a] := ⟨A.dropLast, A.getLast (by intro h; subst h; simp at hA), (List.dropLast_concat_getLast _).symm⟩
          have hA0 : A0.length = m := by simpa using hA
          have hbl3 := ownFl_block hown
          have hjl2 : j + 1 = ((A0 ++ [a]) ++ z :: B).length := hbl3.2.2
          have hrow : wr.ownsRow w.heap.size 55 1 (.slice (some ⟨g2, 0, none⟩) (j + 1) cap2) (j + 1) (flcs ((A0 ++ [a]) ++ z :: B)) := by
            have h := hown; unfold OwnFl at h; rw [← hjl2] at h; exact h
          have hc1 := World.ownsRow.cellAt hrow (m + 1) (by omega)
          have hc2 := World.ownsRow.cellAt hrow m (by omega)
          have hf1 : wr.frozen? ⟨g2, m + 1, none⟩ = false := World.ownsRow.frozenAt hrow (m + 1)
          have hf2 : wr.frozen? ⟨g2, m, none⟩ = false := World.ownsRow.frozenAt hrow m
          have e1 : (flcs ((A0 ++ [a]) ++ z :: B))[m + 1]? = some (.float .f64 z) := by
            unfold flcs; rw [List.getElem?_map, List.getElem?_append_right (by simp; omega)]; simp [hA0]
          have e2 : (flcs ((A0 ++ [a]) ++ z :: B))[m]? = some (.float .f64 a) := by
            unfold flcs; rw [List.getElem?_map, List.append_assoc, List.getElem?_append_right (by omega)]; simp [hA0]
          rw [e1] at hc1
          rw [e2] at hc2
          have ha64 : a < 18446744073709551616 := by
            have hm : a ∈ pre := by rw [← hAB]; simp
            obtain ⟨x, hx, rfl⟩ := List.mem_map.1 ((HS.out.1.mem_iff).1 hm)
            exact cln_lt (HL.out x (List.mem_of_mem_take hx))
          have hls := fun W => flLessR z a hz64 ha64 W
          by_cases hlt2 : keyB z < keyB a
          · have hdec : decide (keyB z < keyB a) = true := by simpa using hlt2
            rw [hdec] at hls
            have hst := (World.ownsRow.stored hrow (m + 1) (.float .f64 a)).1
            have hst2 := (World.ownsRow.stored hst m (.float .f64 z)).1
            rw [flcs_set, flcs_set, ← hA0, swap_row, hA0] at hst2
            have H1 := Lib.hid hst2
            have H2 := Lib.hid hls
            have hB2 : ∀ b ∈ a :: B, keyB z < keyB b := by
              intro b hbm
              rcases List.mem_cons.1 hbm with rfl | h
              · exact hlt2
              · exact hB b h
            have hAB2 : A0 ++ (a :: B) = pre := by rw [← hAB]; simp
            have H3 := Lib.hid hB2
            have H4 := Lib.hid hAB2
            have H5 := Lib.hid hb
            have H6 := Lib.hid hjl2
            have hmi : (m : Int) < (j : Int) + 1 := by omega
            have hm0 : (0 : Int) ≤ (m : Int) + 1 := by omega
            have hwm : IntKind.i64.wrap (m : Int) = (m : Int) := by simp [IntKind.wrap, IntKind.bits, IntKind.signed]; omega
            have hmi2 : (m : Int) + 1 < (j : Int) + 1 := by omega
            clear hst hst2 hls hown hb hAB hB hkz hA HC hrow hAB2 hB2 e1 e2 hdec hlt2 hbl3 hjl2
            go_wp2_with fail
            go_quiet ((go_at_call 65; exact still1 (H2.out _)))
            go_wp2
            have hl3 : (A0 ++ z :: (a :: B)).length = j + 1 := by rw [H6.out]; simp
            exact ⟨⟨m, A0, a :: B, by omega, rfl, hA0, H4.out, H3.out, by unfold OwnFl; rw [hl3]; exact H1.out, ((belowN H5.out nq).setCell hbl1 _).setCell hbl1 _⟩, by simp [intOf]⟩
          · have hdec : decide (keyB z < keyB a) = false := by simpa using hlt2
            rw [hdec] at hls
            have hs2 : IsSort (l.take (j + 1)) ((A0 ++ [a]) ++ z :: B) := by
              have h := IsSort.put (l := l.take j) (A := A0 ++ [a]) (B := B) (x := y) (by rw [hAB]; exact HS.out) (by rw [HZ.out]; exact hB) (fun A' a' h => by
                obtain ⟨_, h2⟩ := List.append_inj' h rfl
                obtain rfl : a = a' := by simpa using h2
                rw [HZ.out]; exact hlt2)
              rw [HZ.out, ← HT.out] at h
              exact h
            have H1 := Lib.hid hs2
            have H2 := Lib.hid hls
            have H3 := Lib.hid hown
            have H4 := Lib.hid hb
            have H6 := Lib.hid hjl2
            have hmi : (m : Int) < (j : Int) + 1 := by omega
            have hm0 : (0 : Int) ≤ (m : Int) + 1 := by omega
            have hwm : IntKind.i64.wrap (m : Int) = (m : Int) := by simp [IntKind.wrap, IntKind.bits, IntKind.signed]; omega
            have hmi2 : (m : Int) + 1 < (j : Int) + 1 := by omega
            clear hs2 hls hown hb hAB hB hkz hA HC hrow e1 e2 hdec hlt2 hbl3 hjl2
            go_wp2_with fail
            go_quiet ((go_at_call 65; exact still1 (H2.out _)))
            go_wp2
            exact ⟨⟨j + 1, _, by omega, by go_num, H6.out.symm, H3.out, H1.out, belowN H4.out _⟩, by simp [intOf]; omega⟩
    · obtain rfl : j = n := by omega
      rw [List.take_of_length_le (by rw [← HN.out]; omega)] at hsrt
      have H1 := Lib.hid hsrt
      have H2 := Lib.hid hown.from
      have H3 := Lib.hid hb
      clear hsrt hown hb
      go_wp2
      go_ret
      exact ⟨_, pre, rfl, H1.out, H2.out, H3.out⟩
end Go.Proofs.YtchnklekeinhiaaGreat

namespace Go.Proofs.YtchnklekeinhiaaGreat
set_option linter.unusedSimpArgs false
set_option linter.unusedVariables false
set_option maxRecDepth 100000
open Go.RowKit Go.Sort

/-- a backup's block -/
abbrev EBlk (w : World) (b : Nat) (r : ER) : Prop := Blk w b 31 (ecs r).toArray
abbrev zER : ER := ⟨zEn, none, 0, none, 0, none, 0, none, 0⟩
section
variable {w : World} {b : Nat} {n lb : ByteArray} {m : Man} {tg : List ByteArray} {kp : List Nat} {ds : List Dt} {ia ta ka da : Option Addr} {ic tc kc dc : Nat}
theorem EBlk.setM (h : EBlk w b ⟨⟨n, m, lb, tg, kp, ds⟩, ia, ic, ta, tc, ka, kc, da, dc⟩) (m' : Man) (ia' : Option Addr) (ic' : Nat) :
    EBlk (((w.setCell ⟨b, 1, none⟩ (.int .i64 m'.size)).setCell ⟨b, 2, none⟩ (.int .i64 m'.chunk)).setCell ⟨b, 3, none⟩ (.slice ia' m'.ids.length ic')) b ⟨⟨n, m', lb, tg, kp, ds⟩, ia', ic', ta, tc, ka, kc, da, dc⟩ := by
  have h0 := Joins.block_setCell (i := 1) h (.int .i64 m'.size)
  have h1 := Joins.block_setCell (i := 2) h0 (.int .i64 m'.chunk)
  have h2 := Joins.block_setCell (i := 3) h1 (.slice ia' m'.ids.length ic')
  exact h2
theorem EBlk.setL (h : EBlk w b ⟨⟨n, m, lb, tg, kp, ds⟩, ia, ic, ta, tc, ka, kc, da, dc⟩) (lb' : ByteArray) :
    EBlk (w.setCell ⟨b, 4, none⟩ (.string lb')) b ⟨⟨n, m, lb', tg, kp, ds⟩, ia, ic, ta, tc, ka, kc, da, dc⟩ := by
  have h0 := Joins.block_setCell (i := 4) h (.string lb')
  exact h0
theorem EBlk.setT (h : EBlk w b ⟨⟨n, m, lb, tg, kp, ds⟩, ia, ic, ta, tc, ka, kc, da, dc⟩) (tg' : List ByteArray) (ta' : Option Addr) (tc' : Nat) :
    EBlk (w.setCell ⟨b, 5, none⟩ (.slice ta' tg'.length tc')) b ⟨⟨n, m, lb, tg', kp, ds⟩, ia, ic, ta', tc', ka, kc, da, dc⟩ := by
  have h0 := Joins.block_setCell (i := 5) h (.slice ta' tg'.length tc')
  exact h0
theorem EBlk.setK (h : EBlk w b ⟨⟨n, m, lb, tg, kp, ds⟩, ia, ic, ta, tc, ka, kc, da, dc⟩) (kp' : List Nat) (ka' : Option Addr) (kc' : Nat) :
    EBlk (w.setCell ⟨b, 6, none⟩ (.slice ka' kp'.length kc')) b ⟨⟨n, m, lb, tg, kp', ds⟩, ia, ic, ta, tc, ka', kc', da, dc⟩ := by
  have h0 := Joins.block_setCell (i := 6) h (.slice ka' kp'.length kc')
  exact h0
theorem EBlk.setD (h : EBlk w b ⟨⟨n, m, lb, tg, kp, ds⟩, ia, ic, ta, tc, ka, kc, da, dc⟩) (ds' : List Dt) (da' : Option Addr) (dc' : Nat) :
    EBlk (w.setCell ⟨b, 7, none⟩ (.slice da' ds'.length dc')) b ⟨⟨n, m, lb, tg, kp, ds'⟩, ia, ic, ta, tc, ka, kc, da', dc'⟩ := by
  have h0 := Joins.block_setCell (i := 7) h (.slice da' ds'.length dc')
  exact h0
end
theorem XFrom.set {w : World} {lo : Nat} {a : Option Addr} {l : List ByteArray} (h : XFrom w lo a l) {g : Nat} (hg : g < lo) (j : Nat) (u : Value) : XFrom (w.setCell ⟨g, j, none⟩ u) lo a l := by
  rcases h with h | ⟨b, off, h1, h0, h2, h3⟩
  · exact .inl h
  · refine .inr ⟨b, off, h1, h0, by simpa using h2, fun k hk => ?_⟩
    have := h3 k hk
    unfold World.cell? at this ⊢
    rw [Below.heap_setCell _ _ _ _ (show b ≠ g by omega)]
    exact this
theorem XFrom.setRow {w : World} {lo : Nat} {a : Option Addr} {l : List ByteArray} (h : XFrom w lo a l) {g : Nat} (hg : g < lo) (C : Array Value) : XFrom (w.setRow g C) lo a l := by
  rcases h with h | ⟨b, off, h1, h0, h2, h3⟩
  · exact .inl h
  · refine .inr ⟨b, off, h1, h0, by simpa using h2, fun k hk => ?_⟩
    have := h3 k hk
    unfold World.cell? at this ⊢
    rw [setRow_other _ _ _ _ (show b ≠ g by omega)]
    exact this
theorem FlFrom.set {w : World} {lo : Nat} {v : Value} {l : List Nat} (h : FlFrom w lo v l) {g : Nat} (hg : g < lo) (j : Nat) (u : Value) : FlFrom (w.setCell ⟨g, j, none⟩ u) lo v l := by
  rcases h with h | ⟨b, c, h1, h0, h2, h3⟩
  · exact .inl h
  · refine .inr ⟨b, c, h1, h0, by simpa using h2, fun k hk => ?_⟩
    have := h3 k hk
    unfold World.cell? at this ⊢
    rw [Below.heap_setCell _ _ _ _ (show b ≠ g by omega)]
    exact this
theorem FlFrom.setRow {w : World} {lo : Nat} {v : Value} {l : List Nat} (h : FlFrom w lo v l) {g : Nat} (hg : g < lo) (C : Array Value) : FlFrom (w.setRow g C) lo v l := by
  rcases h with h | ⟨b, c, h1, h0, h2, h3⟩
  · exact .inl h
  · refine .inr ⟨b, c, h1, h0, by simpa using h2, fun k hk => ?_⟩
    have := h3 k hk
    unfold World.cell? at this ⊢
    rw [setRow_other _ _ _ _ (show b ≠ g by omega)]
    exact this
theorem EnMem.set {w : World} {lo : Nat} {r : ER} (h : EnMem w lo r) {g : Nat} (hg : g < lo) (j : Nat) (u : Value) : EnMem (w.setCell ⟨g, j, none⟩ u) lo r := ⟨h.ids.set hg j u, h.tg.set hg j u, h.kp.set hg j u, h.ds.set hg j u⟩
theorem EnMem.setRow {w : World} {lo : Nat} {r : ER} (h : EnMem w lo r) {g : Nat} (hg : g < lo) (C : Array Value) : EnMem (w.setRow g C) lo r := ⟨h.ids.setRow hg C, h.tg.setRow hg C, h.kp.setRow hg C, h.ds.setRow hg C⟩
theorem enMem_zero (w : World) (lo : Nat) : EnMem w lo zER := ⟨.inl rfl, .inl rfl, .inl ⟨rfl, rfl⟩, .inl rfl⟩
theorem belowRow' {B : Nat} {w w' : World} {g : Nat} (h : Below B w w') (hg : B ≤ g) (C : Array Value) : Below B w (w'.setRow g C) :=
  ⟨h.os, h.tape, h.output, by simpa using h.size, fun k hk => by rw [setRow_other _ _ _ _ (show k ≠ g by omega)]; exact h.block k hk⟩
/-- the answer's block, and the backup's -/
structure EnK (w : World) (g : Nat) (r : ER) (U : World) : Prop where
  rs : EBlk U w.heap.size zER
  out : EBlk U g r
  low : Below w.heap.size w U
  hi : w.heap.size < g
theorem EnK.below {w : World} {g : Nat} {r : ER} {U V : World} (h : EnK w g r U) (hb : Below U.heap.size U V) : EnK w g r V := ⟨h.rs.keep hb, h.out.keep hb, h.low.trans (hb.mono h.low.size), h.hi⟩
theorem EnK.lt {w : World} {g : Nat} {r : ER} {U : World} (h : EnK w g r U) : g < U.heap.size := h.out.lt
theorem EnK.set {w : World} {g : Nat} {r r' : ER} {U : World} (h : EnK w g r U) {j : Nat} {u : Value} (ho : EBlk (U.setCell ⟨g, j, none⟩ u) g r') : EnK w g r' (U.setCell ⟨g, j, none⟩ u) :=
  ⟨h.rs.set (by have := h.hi; omega) u, ho, h.low.setCell (p := ⟨g, j, none⟩) (Nat.le_of_lt h.hi) u, h.hi⟩
theorem EnK.set3 {w : World} {g : Nat} {r r' : ER} {U : World} (h : EnK w g r U) {j1 j2 j3 : Nat} {u1 u2 u3 : Value} (ho : EBlk (((U.setCell ⟨g, j1, none⟩ u1).setCell ⟨g, j2, none⟩ u2).setCell ⟨g, j3, none⟩ u3) g r') : EnK w g r' (((U.setCell ⟨g, j1, none⟩ u1).setCell ⟨g, j2, none⟩ u2).setCell ⟨g, j3, none⟩ u3) :=
  ⟨((h.rs.set (by have := h.hi; omega) u1).set (by have := h.hi; omega) u2).set (by have := h.hi; omega) u3, ho,
   ((h.low.setCell (p := ⟨g, j1, none⟩) (Nat.le_of_lt h.hi) u1).setCell (p := ⟨g, j2, none⟩) (Nat.le_of_lt h.hi) u2).setCell (p := ⟨g, j3, none⟩) (Nat.le_of_lt h.hi) u3, h.hi⟩
theorem retEn {fn : Func} {p u : Tmp} (h : fn.results = #[.cell p 31, .tmp u]) (tmps : Array Value) (w : World) (g : Nat) (r : ER) (x : Value)
    (hp : tmps.getD p undef = .pointer (some ⟨g, 0, none⟩)) (hx : tmps.getD u undef = x) (hg : EBlk w g r) :
    (results fn tmps).run Tryz.prog w = .ok (.tuple #[.agg (ecs r).toArray, x]) w := by
  rw [results_cell_tmp h, hp, hx]
  simp [asAddr, run_loadVar_row w g 31 31 (ecs r).toArray (0, 0) _ hg Tryz.underlying31 rfl (infoEn _)]
/-- numbers in a row of the call's own -/
def encFl : EncG Nat := {
  enc := fun b => [.float .f64 b], n := 1, T := 55, S := 28, z := .float .f64 0, by' := 8
  len := fun _ => rfl, cell := fun a u hu => by obtain rfl := List.mem_singleton.1 hu; rfl, pos := by omega, info := floatInfo, und := Tryz.underlying28, zs := rfl, lim := by omega }
theorem rowG_fl (l : List Nat) : rowG encFl l = flcs l := by
  induction l with
  | nil => rfl
  | cons x r ih =>
    have e : rowG encFl (x :: r) = [.float .f64 x] ++ rowG encFl r := rfl
    rw [e, ih]; rfl
theorem OwnG.fl {B : Nat} {v : Value} {l : List Nat} {w : World} (h : OwnG encFl B v l w) : OwnFl B v l w := by
  unfold OwnG at h
  rw [rowG_fl] at h
  exact h
theorem build1Fl (b : Nat) (w : World) : (Instr.buildSlice 28 1 #[(0, .float .f64 b)]).run Tryz.prog w = .ok (.slice (some ⟨w.heap.size, 0, none⟩) 1 1) (w.alloc (.cells #[.float .f64 b] 55)) := by
  obtain ⟨i0, hi, hz0, hz1, hz2⟩ := infoG encFl
  refine run_buildSlice w 28 55 1 _ #[.float .f64 b] i0 (.float .f64 0) Tryz.underlying28 hi hz0 (by rw [hz1]; decide) (by rw [hz1]; decide) ?_
  rw [hz1]
  kernel_rfl
theorem build1Dv (z : Dt) (w : World) : (Instr.buildSlice 29 1 #[(0, .agg #[.int .i64 z.1, .int .i64 z.2])]).run Tryz.prog w = .ok (.slice (some ⟨w.heap.size, 0, none⟩) 1 1) (w.alloc (.cells #[.int .i64 z.1, .int .i64 z.2] 44)) := by
  obtain ⟨i0, hi, hz0, hz1, hz2⟩ := info_parts dotInfo
  refine run_buildSlice w 29 44 1 _ #[.int .i64 z.1, .int .i64 z.2] i0 (.agg #[.int .i64 0, .int .i64 0]) Tryz.underlying29 hi hz0 (by rw [hz1]; decide) (by rw [hz1]; decide) ?_
  rw [hz1]
  kernel_rfl
theorem numsV_snoc (l : List ByteArray) (s : ByteArray) : numsV (l ++ [s]) = numsV l ++ if rdN s.data.toList = 0 then [rdB s.data.toList] else [] := by
  unfold numsV
  rw [List.filterMap_append]
  congr 1
  by_cases h : rdN s.data.toList = 0 <;> simp [h]
theorem numsV_len (l : List ByteArray) : (numsV l).length ≤ l.length := List.length_filterMap_le _ _
/-- the last of some values is one of them, or none -/
theorem lastR_small {l s : List Ft} (h : OrderR l s) {n : Nat} (hv : ∀ f ∈ l, f.v.size ≤ n) : (lastR s).1.size ≤ n := by
  unfold lastR
  cases hs : s.getLast? with
  | none => exact Nat.zero_le _
  | some f =>
    have hm : f ∈ s := List.mem_of_getLast? hs
    have := h.perm.mem_iff (a := f)
    first
      | exact hv f (this.1 hm)
      | exact hv f (this.2 hm)
/-- a backup, or that there is none -/
def EntA (l : List Ft) (n : ByteArray) (e : Ent) : Prop := (ofR 1 n l = [] ∧ e = zEn) ∨ (ofR 1 n l ≠ [] ∧ EntR l n e)
def entE (l : List Ft) (n : ByteArray) : Int := if ofR 1 n l = [] then 7 else 0
theorem EntA.same {l k : List Ft} {n : ByteArray} {a b : Ent} (hp : l.Perm k) (h : EntA l n a) (h2 : EntA k n b) : a = b := by
  have hq := ofR_perm hp 1 n
  rcases h with ⟨h0, rfl⟩ | ⟨h0, h⟩
  · rcases h2 with ⟨h1, rfl⟩ | ⟨h1, -⟩
    · rfl
    · rw [h0] at hq; exact absurd (List.nil_perm.1 hq) h1
  · rcases h2 with ⟨h1, -⟩ | ⟨h1, h2⟩
    · rw [h1] at hq; exact absurd (List.perm_nil.1 hq) h0
    · exact EntR.same hp h h2
theorem entE_perm {l k : List Ft} (hp : l.Perm k) (n : ByteArray) : entE l n = entE k n := by
  have hq := ofR_perm hp 1 n
  unfold entE
  by_cases h : ofR 1 n l = []
  · rw [if_pos h, if_pos]; rw [h] at hq; exact List.nil_perm.1 hq
  · rw [if_neg h, if_neg]; intro h2; rw [h2] at hq; exact h (List.perm_nil.1 hq)
end Go.Proofs.YtchnklekeinhiaaGreat
