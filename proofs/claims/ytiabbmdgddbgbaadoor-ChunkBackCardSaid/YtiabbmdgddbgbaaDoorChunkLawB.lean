/-
  ChunkBack: the walk.
-/
import Derived.Test.YtiabbmdgddbgbaaDoorChunkAwake
import Derived.Test.YtiabbmdgddbgbaaDoorShaLaid
import Derived.Test.YtiabbmdgddbgbaaDoorKit
namespace Go.Proofs.YtiabbmdgddbgbaaDoor
open Go.RowKit Go.Sort

theorem readM_short {t : ByteArray} (ht : t.size ≤ 5000) : ∀ x ∈ (readM t).1.ids, x.size ≤ 5000 := fun x hx => by
  unfold readM at hx
  split at hx
  · simp at hx
  · split at hx
    · simp at hx
    · exact rMan_short ht x hx

set_option maxHeartbeats 4000000 in
set_option maxRecDepth 100000 in
theorem cback_law (s : ByteArray) (b : Nat) (hb : b < 256) (t : ByteArray) (w : World) (ws : s.size ≤ maxLen) (wt : t.size ≤ maxLen) (hT : Tab w) :
    Calls Tryd.prog 5 #[.string s, .int .u8 (b : Int), .string t] w fun e w' => e = .returned (.bool true) ∧ Below w.heap.size w w' := by
  unfold maxLen at ws wt
  have HT := Lib.hid hT
  clear hT
  by_cases hs : 600 < s.size ∨ 3000 < t.size
  · have hcond : decide ((600 : Int) < (s.size : Int)) = true ∨ (decide ((600 : Int) < (s.size : Int)) = false ∧ decide ((3000 : Int) < (t.size : Int)) = true) := by
      by_cases h : 600 < s.size
      · left; simp; omega
      · right; constructor
        · simp; omega
        · simp; omega
    clear hs
    rcases hcond with h1 | ⟨h1, h2⟩
    all_goals
      go_enter Tryd.func5, Tryd.ntmps5
      go_wp2_with fail
      refine (chunkAwake w HT.out).mono ?_
      rintro e w1 ⟨rfl, hb1⟩
      have HB1 := Lib.hid hb1
      clear hb1
      go_wp2_with fail
      go_ret
      exact ⟨rfl, HB1.out⟩
  · have h1 : decide ((600 : Int) < (s.size : Int)) = false := by simp; omega
    have h2 : decide ((3000 : Int) < (t.size : Int)) = false := by simp; omega
    have hmod : Int.tmod (b : Int) 64 = ((b % 64 : Nat) : Int) := by rw [Int.tmod_eq_emod_of_nonneg (by omega), Int.natCast_emod]; rfl
    have hm64 : b % 64 < 64 := Nat.mod_lt _ (by decide)
    have e1 : ((b % 64 : Nat) : Int) + 1 = ((b % 64 + 1 : Nat) : Int) := by simp
    have a1 := fun W => cutC s ((b % 64 : Nat) + 1 : Int) W
    have a2 := fun W hW => manC s ((b % 64 : Nat) + 1 : Int) W hW
    generalize b % 64 = q at *
    have hcut : cutE s.size ((q : Int) + 1) = 0 := by
      rw [e1]; unfold cutE
      have := nP_le (a := s.size) (n := q + 1) (by omega)
      rw [if_neg (by omega), if_neg (by rw [Int.toNat_natCast]; omega)]
    have hE := manE_manOf hcut
    have hj1 := join_cut hcut
    have hsh := ids_short hE
    have hps := putM_size hE hsh
    have hrd := manRead_put hE
    have hrm := (rMan_put hE).1
    have hpm : putM (manOf s ((q : Int) + 1)) = ((putM (manOf s ((q : Int) + 1))).1, 0) := by unfold putM; rw [if_pos hE]
    have hLs : ∀ x ∈ cutL s ((q : Int) + 1), x.size ≤ 5000 := fun x hx => by
      unfold cutL at hx
      rw [if_pos hcut, e1, Int.toNat_natCast] at hx
      exact part_size (by omega) x hx
    rw [hcut] at a1 a2
    generalize cutL s ((q : Int) + 1) = L at *
    generalize manOf s ((q : Int) + 1) = M at *
    generalize (putM M).1 = P at *
    have a3 := fun (a b : Option Addr) ca cb W h1 h2 h3 h4 h6 => joinMC M a ca b cb L W h1 h2 h3 h4 hLs h6
    have a4 := fun (a : Option Addr) ca W h1 => putMC M a ca W h1
    have a5 := fun W => readMC P (by omega) (by rw [hrm]; exact hsh) W
    have a6 := fun W => readMC t (by omega) (rMan_short (by omega)) W
    have hzs := readM_short (t := t) (by omega)
    have hzb := fun h => (manPut_read (t := t) h).1
    rw [hj1] at a3
    rw [hpm] at a4
    rw [hrd] at a5
    generalize (readM t).1 = Z at *
    generalize (readM t).2 = ez at *
    have a7 := fun (a : Option Addr) ca W h1 => putMC Z a ca W h1
    have hzz : (ez != 0) = true ∨ ((ez != 0) = false ∧ putM Z = (t, 0)) := by
      by_cases h : ez = 0
      · right; exact ⟨by simp [h], hzb h⟩
      · left; simp [h]
    generalize putM Z = U at *
    have A1 := Lib.hid a1; have A2 := Lib.hid a2; have A3 := Lib.hid a3; have A4 := Lib.hid a4; have A5 := Lib.hid a5; have A6 := Lib.hid a6; have A7 := Lib.hid a7
    have HSH := Lib.hid hsh
    have HZS := Lib.hid hzs
    have HZZ := Lib.hid hzz
    clear a1 a2 a3 a4 a5 a6 a7 hj1 hrd hrm hpm hsh hzs hzb hzz hE hcut hps hLs hs e1
    go_enter Tryd.func5, Tryd.ntmps5
    go_wp2_with fail
    refine (A1.out _).mono ?_
    rintro e w1 ⟨v1, rfl, hown1, hb1⟩
    obtain ⟨la, lc, rfl, hrow1, hlm1, hlc⟩ := ownS_rowC hown1
    have HB1 := Lib.hid hb1
    have HR1 := Lib.hid hrow1
    clear hown1 hb1 hrow1
    unfold maxLen at hlm1
    go_wp2_with fail
    refine (A2.out _ (HT.out.below HB1.out)).mono ?_
    rintro e w2 ⟨v2, rfl, hown2, hb2⟩
    obtain ⟨ma, mc, rfl, hrow2, hlm2, -⟩ := ownS_rowC hown2
    unfold maxLen at hlm2
    have hbA := (Below.refl _ w2).alloc (Nat.le_refl _) (.cells #[.int .i64 M.size, .int .i64 M.chunk, .slice ma M.ids.length mc] 31)
    have hb2A := hb2.trans (hbA.mono hb2.size)
    have HG2 := Lib.hid (MBox.new w2 M (.slice ma M.ids.length mc))
    have HM2 := Lib.hid (show MArg _ M ma from ⟨hrow2.below hbA, hlm2, HSH.out⟩)
    have HB2 := Lib.hid (HB1.out.trans (hb2A.mono HB1.out.size))
    have HR2 := Lib.hid (HR1.out.below hb2A)
    clear hown2 hb2 hrow2 hbA hb2A HB1 HR1
    have g0 := HG2.out.c0
    have g1 := HG2.out.c1
    have g2 := HG2.out.c2
    go_wp2_with fail
    generalize w2.alloc (.cells #[.int .i64 M.size, .int .i64 M.chunk, .slice ma M.ids.length mc] 31) = wa at *
    refine (A3.out ma la mc lc wa HM2.out HR2.out hlm1 hlc (HT.out.below HB2.out)).mono ?_
    rintro e w3 ⟨rfl, hb3⟩
    have HG3 := Lib.hid (HG2.out.below hb3 HG2.out.lt)
    have HB3 := Lib.hid (HB2.out.trans (hb3.mono HB2.out.size))
    have HM3 := Lib.hid (HM2.out.below hb3)
    clear hb3 HG2 HB2 HM2 HR2 g0 g1 g2
    have g0 := HG3.out.c0
    have g1 := HG3.out.c1
    have g2 := HG3.out.c2
    go_wp2_with fail
    refine (A4.out ma mc w3 HM3.out).mono ?_
    rintro e w4 ⟨rfl, hb4⟩
    have HG4 := Lib.hid (HG3.out.below hb4 HG3.out.lt)
    have HB4 := Lib.hid (HB3.out.trans (hb4.mono HB3.out.size))
    have HM4 := Lib.hid (HM3.out.below hb4)
    clear hb4 HG3 HB3 HM3 g0 g1 g2
    go_wp2_with fail
    refine (A5.out w4).mono ?_
    rintro e w5 ⟨v5, rfl, hown5, hb5⟩
    obtain ⟨na, nc, rfl, hrow5, -, -⟩ := ownS_rowC hown5
    have hbA := (Below.refl _ w5).alloc (Nat.le_refl _) (.cells #[.int .i64 M.size, .int .i64 M.chunk, .slice na M.ids.length nc] 31)
    have hb5A := hb5.trans (hbA.mono hb5.size)
    have HN5 := Lib.hid (And.intro (MBox.new w5 M (.slice na M.ids.length nc)) (hrow5.below hbA))
    have HG5 := Lib.hid (HG4.out.below hb5A HG4.out.lt)
    have HB5 := Lib.hid (HB4.out.trans (hb5A.mono HB4.out.size))
    have HM5 := Lib.hid (HM4.out.below hb5A)
    clear hb5 hb5A hbA hown5 hrow5 HG4 HB4 HM4
    go_wp2_with fail
    generalize w5.alloc (.cells #[.int .i64 M.size, .int .i64 M.chunk, .slice na M.ids.length nc] 31) = wb at *
    refine (A6.out wb).mono ?_
    rintro e w6 ⟨v6, rfl, hown6, hb6⟩
    obtain ⟨za, zc, rfl, hrow6, hlm6, -⟩ := ownS_rowC hown6
    unfold maxLen at hlm6
    have hbA := (Below.refl _ w6).alloc (Nat.le_refl _) (.cells #[.int .i64 Z.size, .int .i64 Z.chunk, .slice za Z.ids.length zc] 31)
    have hb6A := hb6.trans (hbA.mono hb6.size)
    have HZ6 := Lib.hid (MBox.new w6 Z (.slice za Z.ids.length zc))
    have HZM6 := Lib.hid (show MArg _ Z za from ⟨hrow6.below hbA, hlm6, HZS.out⟩)
    have HN6 := Lib.hid (And.intro (HN5.out.1.below hb6A HN5.out.1.lt) (HN5.out.2.below hb6A))
    have HG6 := Lib.hid (HG5.out.below hb6A HG5.out.lt)
    have HB6 := Lib.hid (HB5.out.trans (hb6A.mono HB5.out.size))
    have HM6 := Lib.hid (HM5.out.below hb6A)
    clear hb6 hb6A hbA hown6 hrow6 HG5 HB5 HM5 HN5
    have k0 := HZ6.out.c0
    have k1 := HZ6.out.c1
    have k2 := HZ6.out.c2
    go_wp2_with fail
    generalize w6.alloc (.cells #[.int .i64 Z.size, .int .i64 Z.chunk, .slice za Z.ids.length zc] 31) = wc at *
    refine (A7.out za zc wc HZM6.out).mono ?_
    rintro e w7 ⟨rfl, hb7⟩
    have HN7 := Lib.hid (And.intro (HN6.out.1.below hb7 HN6.out.1.lt) (HN6.out.2.below hb7))
    have HG7 := Lib.hid (HG6.out.below hb7 HG6.out.lt)
    have HB7 := Lib.hid (HB6.out.trans (hb7.mono HB6.out.size))
    have HM7 := Lib.hid (HM6.out.below hb7)
    clear hb7 HN6 HG6 HB6 HM6 k0 k1 k2 HZ6 HZM6
    have g0 := HG7.out.c0
    have g1 := HG7.out.c1
    have g2 := HG7.out.c2
    have n0 := HN7.out.1.c0
    have n1 := HN7.out.1.c1
    have n2 := HN7.out.1.c2
    obtain ⟨U1, U2⟩ := U
    rcases HZZ.out with hz | ⟨hz, hU⟩
    · clear HZZ
      go_wp2_with fail
      refine (sameR M na ma nc mc w7 HN7.out.2 HM7.out.row (by unfold maxLen; exact hlm2)).mono ?_
      rintro e w8 ⟨rfl, hb8⟩
      have HB8 := Lib.hid (HB7.out.trans (hb8.mono HB7.out.size))
      clear hb8
      go_wp2_with fail
      refine (chunkAwake w8 (HT.out.below HB8.out)).mono ?_
      rintro e w9 ⟨rfl, hb9⟩
      have HB9 := Lib.hid (HB8.out.trans (hb9.mono HB8.out.size))
      clear hb9
      go_wp2_with fail
      go_ret
      exact ⟨rfl, HB9.out⟩
    · clear HZZ
      cases hU
      go_wp2_with fail
      refine (sameR M na ma nc mc w7 HN7.out.2 HM7.out.row (by unfold maxLen; exact hlm2)).mono ?_
      rintro e w8 ⟨rfl, hb8⟩
      have HB8 := Lib.hid (HB7.out.trans (hb8.mono HB7.out.size))
      clear hb8
      go_wp2_with fail
      refine (chunkAwake w8 (HT.out.below HB8.out)).mono ?_
      rintro e w9 ⟨rfl, hb9⟩
      have HB9 := Lib.hid (HB8.out.trans (hb9.mono HB8.out.size))
      clear hb9
      go_wp2_with fail
      go_ret
      exact ⟨rfl, HB9.out⟩

theorem cback_row (a0 : ByteArray) (a1 : Int) (a2 : ByteArray) (w : World) (w0 : a0.size ≤ maxLen) (w1 : (Lit.int .u8 a1).wf = true) (w2 : a2.size ≤ maxLen) (hL : laidMetH Tryd.prog Rows.chunkBackRow.laid w) :
    Calls Tryd.prog 5 #[.string a0, .int .u8 a1, .string a2] w fun e w' => e = .returned (.bool true) ∧ Below w.heap.size w w' := by
  have h := Go.bounds_u8 w1
  obtain ⟨b, rfl⟩ := Int.eq_ofNat_of_zero_le h.1
  exact cback_law a0 b (by omega) a2 w w0 w2 (tab_of hL (by kernel_rfl) (by kernel_rfl) (.head _))
end Go.Proofs.YtiabbmdgddbgbaaDoor
