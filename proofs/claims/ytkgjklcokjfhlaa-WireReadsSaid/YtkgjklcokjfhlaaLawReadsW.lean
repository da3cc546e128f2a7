/-
  WireReads: the walk.
-/
import Derived.Test.YtkgjklcokjfhlaaRefRead3
import Derived.Test.YtkgjklcokjfhlaaLawKit
import Derived.Deep.RegionWith
import Derived.OpenShut
namespace Go.Proofs.Ytkgjklcokjfhlaa
open Go.RowKit

/-- what Done answers -/
def doneS (st : ByteArray × Int) : Int := if st.2 ≠ 0 then st.2 else if 0 < st.1.size then 5 else 0

theorem empty_iff (s : ByteArray) : s.toList.isEmpty = decide (s.size = 0) := by
  rw [ByteArray.toList_eq]
  have : s.data.toList.length = s.size := by simp
  cases h : s.data.toList with
  | nil => rw [h] at this; simp at this; simp [← this]
  | cons a r =>
    rw [h, List.length_cons] at this
    rw [decide_eq_false (by omega)]
    rfl

set_option maxHeartbeats 1000000 in
set_option maxRecDepth 100000 in
theorem refR_done (s : ByteArray) (er : Int) (w : World) :
    Calls Try.prog 24 #[.agg #[.string s, .int .i64 er]] w fun e w' => e = .returned (.int .i64 (doneS (s, er))) ∧ w.alloc (.cells #[.string s, .int .i64 er] 38) = w' := by
  by_cases he : er = 0
  · subst he
    by_cases hz : s.size = 0
    · have hes : s.toList.isEmpty = true := by rw [empty_iff]; simp [hz]
      have hes2 : s.toList = [] := by simpa using hes
      go_enter Try.func24, Try.ntmps24
      go_wp2
      go_ret
      exact ⟨by simp [doneS, hz], rfl⟩
    · have hes : s.toList.isEmpty = false := by rw [empty_iff]; simp [hz]
      go_enter Try.func24, Try.ntmps24
      go_wp2
      go_ret
      have hd : doneS (s, 0) = 5 := by
        unfold doneS
        simp only
        rw [if_neg (by simp), if_pos (by omega)]
      exact ⟨by rw [hd]; rfl, rfl⟩
  · have hb : (er == 0) = false := by simp [he]
    go_enter Try.func24, Try.ntmps24
    go_wp2
    go_ret
    exact ⟨by simp [doneS, he], rfl⟩

/-- the two readers answer alike -/
def Sim (st qs : ByteArray × Int) : Prop := qs.2 = st.2 ∧ (st.2 = 0 → qs = st)

theorem sNum_bad {st : ByteArray × Int} (h : st.2 ≠ 0) : sNum st = (0, st) := by simp [sNum, h]
theorem sText_bad {st : ByteArray × Int} (h : st.2 ≠ 0) : sText st = (ByteArray.empty, st) := by
  obtain ⟨s, e⟩ := st
  exact sText_e (sNum_bad h) h
theorem sList_bad {st : ByteArray × Int} (h : st.2 ≠ 0) : sList st = ([], st) := by
  obtain ⟨s, e⟩ := st
  exact sList_e (sNum_bad h) h
theorem sim_qSt (st st' : ByteArray × Int) : Sim st' (qSt st st') := by
  unfold Sim qSt
  split
  · exact ⟨rfl, fun _ => rfl⟩
  · rename_i h; exact ⟨rfl, fun h2 => absurd h2 h⟩
theorem sim_self (st : ByteArray × Int) : Sim st st := ⟨rfl, fun _ => rfl⟩
theorem qSt_self (st : ByteArray × Int) : qSt st st = st := by unfold qSt; split <;> rfl

theorem sim_num {st qs : ByteArray × Int} (h : Sim st qs) : (sNum st).1 = (sNum qs).1 ∧ Sim (sNum st).2 (sNum qs).2 := by
  by_cases h0 : st.2 = 0
  · rw [h.2 h0]; exact ⟨rfl, sim_self _⟩
  · rw [sNum_bad h0, sNum_bad (by rw [h.1]; exact h0)]; exact ⟨rfl, h⟩
theorem sim_text {st qs : ByteArray × Int} (h : Sim st qs) : (sText st).1 = (sText qs).1 ∧ Sim (sText st).2 (qSt qs (sText qs).2) := by
  by_cases h0 : st.2 = 0
  · rw [h.2 h0]; exact ⟨rfl, sim_qSt _ _⟩
  · rw [sText_bad h0, sText_bad (by rw [h.1]; exact h0)]; exact ⟨rfl, by rw [qSt_self]; exact h⟩
theorem sim_list {st qs : ByteArray × Int} (h : Sim st qs) : (sList st).1 = (sList qs).1 ∧ Sim (sList st).2 (qListSt qs) := by
  unfold qListSt
  by_cases h0 : st.2 = 0
  · rw [h.2 h0]; exact ⟨rfl, sim_qSt _ _⟩
  · rw [sList_bad h0, sList_bad (by rw [h.1]; exact h0)]; exact ⟨rfl, by rw [qSt_self]; exact h⟩
theorem sim_done {st qs : ByteArray × Int} (h : Sim st qs) : doneS qs = doneS st := by
  by_cases h0 : st.2 = 0
  · rw [h.2 h0]
  · unfold doneS; rw [if_pos h0, if_pos (by rw [h.1]; exact h0), h.1]
theorem qSt_size (st st' : ByteArray × Int) (h : st'.1.size ≤ st.1.size) : (qSt st st').1.size ≤ st.1.size := by
  unfold qSt; split
  · exact h
  · exact Nat.le_refl _

theorem done_dv {b : Nat} {st : ByteArray × Int} {w : World} {d : Int} (h : Rd b st w) (hsz : st.1.size ≤ 9223372036854775807) (hd : doneS st = d) :
    Calls Try.prog 23 #[.pointer (some ⟨b, 0, none⟩)] w fun e w' => e = .returned (.int .i64 d) ∧ w = w' := by
  rw [← hd]; exact done_any b st w h hsz
theorem refR_dv {s : ByteArray} {er : Int} {w : World} {d : Int} (hd : doneS (s, er) = d) :
    Calls Try.prog 24 #[.agg #[.string s, .int .i64 er]] w fun e w' => e = .returned (.int .i64 d) ∧ w.alloc (.cells #[.string s, .int .i64 er] 38) = w' := by
  rw [← hd]; exact refR_done s er w

theorem Rd.alloc' {b : Nat} {st : ByteArray × Int} {w : World} (h : Rd b st w) (o : Obj) : Rd b st (w.alloc o) := by
  unfold Rd; rw [Below.heap_alloc _ _ _ h.lt]; exact h

theorem OwnS.row2 {B : Nat} {v : Value} {ss : List ByteArray} {w : World} (h : OwnS B v ss w) : ∃ a cap, v = .slice a ss.length cap ∧ StrRow w a ss ∧ (∀ g off, a = some ⟨g, off, none⟩ → B ≤ g) ∧ ss.length ≤ maxLen := by
  obtain ⟨a, cap, rfl, hrow⟩ := OwnS.row h
  refine ⟨a, cap, rfl, hrow, fun g off e => (World.ownsRow.lt h g (by rw [e]; rfl)).1, ?_⟩
  obtain ⟨_, hv⟩ := h
  rcases hv with ⟨_, h0⟩ | ⟨g, cap', cur, hv, hB, hg, hn, hm, hs, htk⟩
  · rw [h0]; simp [maxLen]
  · omega

/-- What holds behind some rounds: b the reader, c the reference's. -/
def ReadsRel (w : World) (b c n len : Nat) (i : Value) (wr : World) : Prop :=
  ∃ (k : Nat) (st qs : ByteArray × Int), i = .int .i64 k ∧ k ≤ len ∧ Sim st qs ∧ st.1.size ≤ n ∧ qs.1.size ≤ n ∧ Rd b st wr ∧ Qd c qs wr ∧ Below w.heap.size w wr

set_option maxHeartbeats 4000000 in
set_option maxRecDepth 100000 in
theorem reads_law (a0 : ByteArray) (a1 : Option Addr) (len1 cap1 : Nat) (z1 : List Int) (w : World) (w0 : a0.size ≤ maxLen) (w1 : IsRow .u8 w a1 len1 cap1 z1) :
    Calls Try.prog 4 #[.string a0, .slice a1 len1 cap1] w fun e w' => e = .returned (.bool true) ∧ Below w.heap.size w w' := by
  unfold maxLen at w0
  have hlm : len1 ≤ 9223372036854775807 := by
    rcases w1 with ⟨_, h, _, _⟩ | ⟨x, _, h1, h2, _⟩
    · omega
    · unfold maxLen at h2; omega
  by_cases hbig : 3000 < a0.size ∨ 60 < len1
  · have hor : (3000 < (a0.size : Int)) ∨ ¬ (3000 < (a0.size : Int)) ∧ 60 < (len1 : Int) := by omega
    clear hbig
    rcases hor with hor | ⟨hor1, hor2⟩
    all_goals
      go_enter Try.func4, Try.ntmps4
      go_wp2_with fail
      refine (awake_any w).mono ?_
      rintro e w3 ⟨rfl, hb3⟩
      go_wp2
      go_ret
      exact ⟨rfl, hb3⟩
  · have hs1 : ¬ (3000 < (a0.size : Int)) := by omega
    have hs2 : ¬ (60 < (len1 : Int)) := by omega
    clear hbig
    go_enter Try.func4, Try.ntmps4
    go_wp2_with fail
    refine (new_at a0 w).mono ?_
    rintro e w2 ⟨b, rfl, hbge, hrd2, hb2⟩
    have hbw2 := hrd2.lt
    have hz2 := hb2.size
    have HR2 := Lib.hid hrd2
    clear hrd2
    go_wp2
    go_loopw [7] (fun i wr => ReadsRel w b w2.heap.size a0.size len1 i wr) (fun i _ => len1 - (intOf i).toNat)
    case atStart =>
      exact ⟨0, (a0, 0), (a0, 0), rfl, Nat.zero_le _, sim_self _, Nat.le_refl _, Nat.le_refl _, HR2.out.below ((Below.refl _ _).alloc (Nat.le_refl _) _) hbw2, Qd.made (a0, 0) w2, hb2.alloc hz2 _⟩
    case round =>
      obtain ⟨k, ⟨s0, e0⟩, ⟨q0, f0⟩, rfl, hk, hsim, hst, hqs, hrd, hqd, hb⟩ := hrel
      simp only at hst hqs
      have hbl := hrd.lt
      have hcl := hqd.lt
      have hsz := hb.size
      by_cases hlt : k < len1
      · have hlti : (k : Int) < (len1 : Int) := by omega
        obtain ⟨kb, koff, hkb, rfl, hkc, hwf⟩ : ∃ kb koff, kb < w.heap.size ∧ a1 = some ⟨kb, koff, none⟩ ∧ w.cell? ⟨kb, koff + k, none⟩ = some (.int .u8 (z1.getD k 0)) ∧ (Lit.int .u8 (z1.getD k 0)).wf = true := by
          rcases w1 with ⟨_, h, _, _⟩ | ⟨x, rfl, h1, h2, h3, hc, hw⟩
          · omega
          · obtain ⟨kb, koff, spot⟩ := x
            have hc0 := hc 0 (by omega)
            have hspot : spot = none := by simpa [Addr.add] using World.cell?_spot hc0
            subst hspot
            have hck := hc k (by omega)
            have e1 : (⟨kb, koff, none⟩ : Addr).add k = ⟨kb, koff + k, none⟩ := by cases k <;> simp [Addr.add]
            rw [e1] at hck
            refine ⟨kb, koff, World.block_lt_of_cell? w _ hck, rfl, hck, hw _ ?_⟩
            rw [List.getD_eq_getElem?_getD, List.getElem?_eq_getElem (by omega)]
            exact List.getElem_mem (by omega)
        have hck := (hb.cell (p := ⟨kb, koff + k, none⟩) hkb).trans hkc
        have hbd := bounds_u8 hwf
        generalize z1.getD k 0 = v at hck hbd
        have hq0 := hqd.left
        have hq1 := hqd.err
        have hqf0 := hqd.free 0
        have hqf1 := hqd.free 1
        simp only at hq0 hq1
        have HRD := Lib.hid hrd
        have HQD := Lib.hid hqd
        have HSIM := Lib.hid hsim
        clear hrd hqd hsim hkc hwf
        have hm3 : v % 3 = 0 ∨ v % 3 = 1 ∨ v % 3 = 2 := by omega
        rcases hm3 with h3 | h3 | h3
        · have t0 : (v % 3 == 0) = true := by simp [h3]
          clear h3
          obtain ⟨hsim1, hsim2⟩ := sim_num HSIM.out
          have hns := sNum_size (q0, f0)
          have hnt := sNum_size (s0, e0)
          go_wp2_with fail
          refine (refR_num q0 f0 (by omega) wr).mono ?_
          rintro e w3 ⟨rfl, hb3⟩
          generalize sNum (q0, f0) = r at hsim1 hsim2 hns ⊢
          obtain ⟨m, q1, f1⟩ := r
          simp only at hsim1 hns ⊢
          have HS1 := Lib.hid hsim1
          have HS2 := Lib.hid hsim2
          clear hsim1 hsim2 hq0 hq1 hqf0 hqf1
          have hqd3 := HQD.out.below hb3 hcl
          have hrd3 := HRD.out.below hb3 hbl
          have hB3 := hb.trans (hb3.mono hsz)
          have hz3 := hB3.size
          have hcl3 := hqd3.lt
          have hq0 := hqd3.left
          have hq1 := hqd3.err
          have hqf0 := hqd3.free 0
          have hqf1 := hqd3.free 1
          simp only at hq0 hq1
          have HQD3 := Lib.hid hqd3
          have hrd4 : Rd b (s0, e0) (((w3.setCell ⟨w2.heap.size, 0, none⟩ (.string q1)).setCell ⟨w2.heap.size, 1, none⟩ (.int .i64 f1)).alloc (.cells #[.string q1, .int .i64 f1] 38)) :=
            ((hrd3.other (grownBy_setCell _ _ _ _) (by omega)).other (grownBy_setCell _ _ _ _) (by omega)).grown (World.grownBy_alloc _ _ none) (fun _ h => by cases h)
          have hqd4 : Qd w2.heap.size (q1, f1) (((w3.setCell ⟨w2.heap.size, 0, none⟩ (.string q1)).setCell ⟨w2.heap.size, 1, none⟩ (.int .i64 f1)).alloc (.cells #[.string q1, .int .i64 f1] 38)) :=
            (hqd3.set q1 f1).alloc _
          have hB4 : Below w.heap.size w (((w3.setCell ⟨w2.heap.size, 0, none⟩ (.string q1)).setCell ⟨w2.heap.size, 1, none⟩ (.int .i64 f1)).alloc (.cells #[.string q1, .int .i64 f1] 38)) :=
            ((hB3.setCell (by simp; omega) _).setCell (by simp; omega) _).alloc (by simp; omega) _
          have H4 := Lib.hid hrd4
          have Q4 := Lib.hid hqd4
          have B4 := Lib.hid hB4
          clear hqd3 hrd3 hrd4 hqd4 hB4 hB3 hb3
          go_wp2_with fail
          refine (rnum_any b (s0, e0) _ H4.out (by simp only; omega)).mono ?_
          rintro e w5 ⟨rfl, hrd5, hg5⟩
          have hq5 := Q4.out.grown hg5 (fun j hj => by simp only [Option.some.injEq] at hj; omega)
          have hB5 := Below.grown1 B4.out hg5 B4.out.size (by omega)
          have hz5 := hB5.size
          generalize sNum (s0, e0) = r at HS1 HS2 hrd5 hnt ⊢
          obtain ⟨m', s1, e1⟩ := r
          simp only at hnt ⊢
          obtain rfl : m' = m := HS1.out
          obtain rfl : f1 = e1 := HS2.out.1
          have hmm : ((m' : Int) == (m' : Int)) = true := by simp
          have R5 := Lib.hid hrd5
          have Q5 := Lib.hid hq5
          clear hrd5 hq5 hg5 hq0 hq1 hqf0 hqf1
          have hsz5 : s1.size ≤ 9223372036854775807 := by omega
          have hc0 := Q5.out.left
          have hc1 := Q5.out.err
          simp only at hc0 hc1
          have hne1 : (f1 != f1) = false := by simp
          have hdd := sim_done HS2.out
          generalize hd : doneS (s1, f1) = dv at hdd
          have HD := Lib.hid hd
          have HDD := Lib.hid hdd
          clear hd hdd
          have hne2 : (dv != dv) = false := by simp
          have hrel6 : ReadsRel w b w2.heap.size a0.size len1 (.int .i64 ((k + 1 : Nat) : Int)) ((w5.alloc (.cells #[.string q1, .int .i64 f1] 38)).drew) :=
            ⟨k + 1, (s1, f1), (q1, f1), rfl, by omega, HS2.out, by simp only; omega, by simp only; omega, Rd.alloc' R5.out _, Q5.out.alloc _, (hB5.alloc hz5 _).drew⟩
          have HREL := Lib.hid hrel6
          clear hrel6
          have R5d : Hid (Rd b (s1, f1) w5.drew) := Lib.hid R5.out
          go_wp2_with fail
          go_region_with (first | (go_at_call 22; refine (err_any b (s1, f1) _ R5d.out).mono ?_; rintro e w9 ⟨rfl, rfl⟩) | (go_at_call 23; refine (done_dv R5d.out hsz5 HD.out).mono ?_; rintro e w9 ⟨rfl, rfl⟩) | (go_at_call 24; refine (refR_dv HDD.out).mono ?_; rintro e w9 ⟨rfl, rfl⟩))
          all_goals
            go_wp2
            go_roundw
            case rel => exact HREL.out
            case measure => simp [intOf]; omega
        · have t0 : (v % 3 == 0) = false := by simp; omega
          have t1 : (v % 3 == 1) = true := by simp [h3]
          clear h3
          obtain ⟨hsim1, hsim2⟩ := sim_text HSIM.out
          have hns := qSt_size (q0, f0) (sText (q0, f0)).2 (sText_size (q0, f0))
          have hnt := sText_size (s0, e0)
          go_wp2_with fail
          refine (refR_text q0 f0 (by omega) wr).mono ?_
          rintro e w3 ⟨rfl, hb3⟩
          generalize qSt (q0, f0) (sText (q0, f0)).2 = qn at hsim2 hns ⊢
          generalize (sText (q0, f0)).1 = t2 at hsim1 ⊢
          obtain ⟨q1, f1⟩ := qn
          simp only at hns ⊢
          have HS1 := Lib.hid hsim1
          have HS2 := Lib.hid hsim2
          clear hsim1 hsim2 hq0 hq1 hqf0 hqf1
          have hqd3 := HQD.out.below hb3 hcl
          have hrd3 := HRD.out.below hb3 hbl
          have hB3 := hb.trans (hb3.mono hsz)
          have hz3 := hB3.size
          have hcl3 := hqd3.lt
          have hq0 := hqd3.left
          have hq1 := hqd3.err
          have hqf0 := hqd3.free 0
          have hqf1 := hqd3.free 1
          simp only at hq0 hq1
          have HQD3 := Lib.hid hqd3
          have hrd4 : Rd b (s0, e0) (((w3.setCell ⟨w2.heap.size, 0, none⟩ (.string q1)).setCell ⟨w2.heap.size, 1, none⟩ (.int .i64 f1)).alloc (.cells #[.string q1, .int .i64 f1] 38)) :=
            ((hrd3.other (grownBy_setCell _ _ _ _) (by omega)).other (grownBy_setCell _ _ _ _) (by omega)).grown (World.grownBy_alloc _ _ none) (fun _ h => by cases h)
          have hqd4 : Qd w2.heap.size (q1, f1) (((w3.setCell ⟨w2.heap.size, 0, none⟩ (.string q1)).setCell ⟨w2.heap.size, 1, none⟩ (.int .i64 f1)).alloc (.cells #[.string q1, .int .i64 f1] 38)) :=
            (hqd3.set q1 f1).alloc _
          have hB4 : Below w.heap.size w (((w3.setCell ⟨w2.heap.size, 0, none⟩ (.string q1)).setCell ⟨w2.heap.size, 1, none⟩ (.int .i64 f1)).alloc (.cells #[.string q1, .int .i64 f1] 38)) :=
            ((hB3.setCell (by simp; omega) _).setCell (by simp; omega) _).alloc (by simp; omega) _
          have H4 := Lib.hid hrd4
          have Q4 := Lib.hid hqd4
          have B4 := Lib.hid hB4
          clear hqd3 hrd3 hrd4 hqd4 hB4 hB3 hb3
          go_wp2_with fail
          refine (rtext_any b (s0, e0) _ H4.out (by simp only; omega)).mono ?_
          rintro e w5 ⟨rfl, hrd5, hg5⟩
          have hq5 := Q4.out.grown hg5 (fun j hj => by simp only [Option.some.injEq] at hj; omega)
          have hB5 := Below.grown1 B4.out hg5 B4.out.size (by omega)
          have hz5 := hB5.size
          generalize sText (s0, e0) = r at HS1 HS2 hrd5 hnt ⊢
          obtain ⟨t1', s1, e1⟩ := r
          simp only at hnt ⊢
          obtain rfl : t1' = t2 := HS1.out
          obtain rfl : f1 = e1 := HS2.out.1
          have hmm : (t1'.toList == t1'.toList) = true := by simp
          have R5 := Lib.hid hrd5
          have Q5 := Lib.hid hq5
          clear hrd5 hq5 hg5 hq0 hq1 hqf0 hqf1
          have hsz5 : s1.size ≤ 9223372036854775807 := by omega
          have hc0 := Q5.out.left
          have hc1 := Q5.out.err
          simp only at hc0 hc1
          have hne1 : (f1 != f1) = false := by simp
          have hdd := sim_done HS2.out
          generalize hd : doneS (s1, f1) = dv at hdd
          have HD := Lib.hid hd
          have HDD := Lib.hid hdd
          clear hd hdd
          have hne2 : (dv != dv) = false := by simp
          have hrel6 : ReadsRel w b w2.heap.size a0.size len1 (.int .i64 ((k + 1 : Nat) : Int)) ((w5.alloc (.cells #[.string q1, .int .i64 f1] 38)).drew) :=
            ⟨k + 1, (s1, f1), (q1, f1), rfl, by omega, HS2.out, by simp only; omega, by simp only; omega, Rd.alloc' R5.out _, Q5.out.alloc _, (hB5.alloc hz5 _).drew⟩
          have HREL := Lib.hid hrel6
          clear hrel6
          have R5d : Hid (Rd b (s1, f1) w5.drew) := Lib.hid R5.out
          go_wp2_with fail
          go_region_with (first | (go_at_call 22; refine (err_any b (s1, f1) _ R5d.out).mono ?_; rintro e w9 ⟨rfl, rfl⟩) | (go_at_call 23; refine (done_dv R5d.out hsz5 HD.out).mono ?_; rintro e w9 ⟨rfl, rfl⟩) | (go_at_call 24; refine (refR_dv HDD.out).mono ?_; rintro e w9 ⟨rfl, rfl⟩))
          all_goals
            go_wp2
            go_roundw
            case rel => exact HREL.out
            case measure => simp [intOf]; omega
        · have t0 : (v % 3 == 0) = false := by simp; omega
          have t1 : (v % 3 == 1) = false := by simp; omega
          clear h3
          obtain ⟨hsim1, hsim2⟩ := sim_list HSIM.out
          have hns := qSt_size (q0, f0) (sList (q0, f0)).2 (sList_size (q0, f0))
          have hnt := sList_size (s0, e0)
          change (qListSt (q0, f0)).1.size ≤ _ at hns
          go_wp2_with fail
          refine (refR_list q0 f0 (by omega) wr).mono ?_
          rintro e w3 ⟨v2, rfl, hown2, hb3⟩
          obtain ⟨a2, cap2, rfl, hrow2, hnew2, hlen2⟩ := OwnS.row2 hown2
          generalize qListSt (q0, f0) = qn at hsim2 hns ⊢
          generalize (sList (q0, f0)).1 = l2 at hsim1 hrow2 hlen2 ⊢
          obtain ⟨q1, f1⟩ := qn
          simp only at hns ⊢
          have HS1 := Lib.hid hsim1
          have HS2 := Lib.hid hsim2
          clear hsim1 hsim2 hq0 hq1 hqf0 hqf1 hown2
          have hqd3 := HQD.out.below hb3 hcl
          have hrd3 := HRD.out.below hb3 hbl
          have hB3 := hb.trans (hb3.mono hsz)
          have hz3 := hB3.size
          have hcl3 := hqd3.lt
          have hq0 := hqd3.left
          have hq1 := hqd3.err
          have hqf0 := hqd3.free 0
          have hqf1 := hqd3.free 1
          simp only at hq0 hq1
          have HQD3 := Lib.hid hqd3
          have hrd4 : Rd b (s0, e0) (((w3.setCell ⟨w2.heap.size, 0, none⟩ (.string q1)).setCell ⟨w2.heap.size, 1, none⟩ (.int .i64 f1)).alloc (.cells #[.string q1, .int .i64 f1] 38)) :=
            ((hrd3.other (grownBy_setCell _ _ _ _) (by omega)).other (grownBy_setCell _ _ _ _) (by omega)).grown (World.grownBy_alloc _ _ none) (fun _ h => by cases h)
          have hqd4 : Qd w2.heap.size (q1, f1) (((w3.setCell ⟨w2.heap.size, 0, none⟩ (.string q1)).setCell ⟨w2.heap.size, 1, none⟩ (.int .i64 f1)).alloc (.cells #[.string q1, .int .i64 f1] 38)) :=
            (hqd3.set q1 f1).alloc _
          have hB4 : Below w.heap.size w (((w3.setCell ⟨w2.heap.size, 0, none⟩ (.string q1)).setCell ⟨w2.heap.size, 1, none⟩ (.int .i64 f1)).alloc (.cells #[.string q1, .int .i64 f1] 38)) :=
            ((hB3.setCell (by simp; omega) _).setCell (by simp; omega) _).alloc (by simp; omega) _
          have H4 := Lib.hid hrd4
          have Q4 := Lib.hid hqd4
          have B4 := Lib.hid hB4
          clear hqd3 hrd3 hrd4 hqd4 hB4 hB3 hb3
          have hrow4 : StrRow (((w3.setCell ⟨w2.heap.size, 0, none⟩ (.string q1)).setCell ⟨w2.heap.size, 1, none⟩ (.int .i64 f1)).alloc (.cells #[.string q1, .int .i64 f1] 38)) a2 l2 :=
            ((hrow2.grown (grownBy_setCell _ _ _ _) (fun g off e => by have := hnew2 g off e; simp; omega)).grown (grownBy_setCell _ _ _ _) (fun g off e => by have := hnew2 g off e; simp; omega)).grown (World.grownBy_alloc _ _ none) (fun g off e => by simp)
          go_wp2_with fail
          refine (rlist_any b (s0, e0) _ H4.out (by simp only; omega)).mono ?_
          rintro e w5' ⟨v1, rfl, hown1, hrd5', hg5'⟩
          obtain ⟨a1', cap1', rfl, hrow1, hnew1, hlen1⟩ := OwnS.row2 hown1
          have hrow5 := hrow4.grown hg5' (fun g off e => by have := hnew2 g off e; simp; omega)
          clear hown1 hrow4 hrow2 hnew2 hnew1
          have hq5' := Q4.out.grown hg5' (fun j hj => by simp only [Option.some.injEq] at hj; omega)
          have hB5' := Below.grown1 B4.out hg5' B4.out.size (by omega)
          generalize sList (s0, e0) = r at HS1 HS2 hrd5' hnt hrow1 hlen1 ⊢
          obtain ⟨l1, s1, e1⟩ := r
          simp only at hnt hrow1 hlen1 ⊢
          obtain rfl : l1 = l2 := HS1.out
          obtain rfl : f1 = e1 := HS2.out.1
          go_wp2_with fail
          refine (texts_at a1' a2 cap1' cap2 l1 w5' hrow1 hrow5 hlen1).mono ?_
          rintro e w5 ⟨rfl, nq, hw5⟩
          have hrd5 : Rd b (s1, f1) w5 := by rw [hw5]; exact Rd.drewN hrd5' nq
          have hq5 : Qd w2.heap.size (q1, f1) w5 := by rw [hw5]; exact hq5'
          have hB5 : Below w.heap.size w w5 := by rw [hw5]; exact below_drewN hB5' nq
          have hz5 := hB5.size
          have R5 := Lib.hid hrd5
          have Q5 := Lib.hid hq5
          clear hrd5 hq5 hq0 hq1 hqf0 hqf1 hw5 hrd5' hq5' hB5' hg5' hrow5 hrow1
          have hsz5 : s1.size ≤ 9223372036854775807 := by omega
          have hc0 := Q5.out.left
          have hc1 := Q5.out.err
          simp only at hc0 hc1
          have hne1 : (f1 != f1) = false := by simp
          have hdd := sim_done HS2.out
          generalize hd : doneS (s1, f1) = dv at hdd
          have HD := Lib.hid hd
          have HDD := Lib.hid hdd
          clear hd hdd
          have hne2 : (dv != dv) = false := by simp
          have hrel6 : ReadsRel w b w2.heap.size a0.size len1 (.int .i64 ((k + 1 : Nat) : Int)) ((w5.alloc (.cells #[.string q1, .int .i64 f1] 38)).drew) :=
            ⟨k + 1, (s1, f1), (q1, f1), rfl, by omega, HS2.out, by simp only; omega, by simp only; omega, Rd.alloc' R5.out _, Q5.out.alloc _, (hB5.alloc hz5 _).drew⟩
          have HREL := Lib.hid hrel6
          clear hrel6
          have R5d : Hid (Rd b (s1, f1) w5.drew) := Lib.hid R5.out
          go_wp2_with fail
          go_region_with (first | (go_at_call 22; refine (err_any b (s1, f1) _ R5d.out).mono ?_; rintro e w9 ⟨rfl, rfl⟩) | (go_at_call 23; refine (done_dv R5d.out hsz5 HD.out).mono ?_; rintro e w9 ⟨rfl, rfl⟩) | (go_at_call 24; refine (refR_dv HDD.out).mono ?_; rintro e w9 ⟨rfl, rfl⟩))
          all_goals
            go_wp2
            go_roundw
            case rel => exact HREL.out
            case measure => simp [intOf]; omega
      · go_wp2_with fail
        refine (awake_any wr).mono ?_
        rintro e w3 ⟨rfl, hb3⟩
        go_wp2
        go_ret
        exact ⟨rfl, hb.trans (hb3.mono hsz)⟩
end Go.Proofs.Ytkgjklcokjfhlaa
