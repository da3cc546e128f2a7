/-
  almonrylaw09.awake: what the call answers.
-/
import Derived.Test.YtiabbmdgddbgbaaDoorGChunkC
namespace Go.Proofs.YtiabbmdgddbgbaaDoor
open Go.RowKit Go.Sort

theorem ownS_rowC {B : Nat} {v : Value} {ss : List ByteArray} {w : World} (h : OwnS B v ss w) : ∃ a cap, v = .slice a ss.length cap ∧ StrRow w a ss ∧ ss.length ≤ maxLen ∧ ss.length ≤ cap := by
  obtain ⟨a, cap, hv, hrow, hm⟩ := ownS_row h
  refine ⟨a, cap, hv, hrow, hm, ?_⟩
  rcases h.2 with ⟨e, h0⟩ | ⟨g, c, cur, e, _, _, hn, _⟩
  · omega
  · rw [hv] at e; cases e; exact hn

theorem strRow_made (w : World) (ss : List ByteArray) : StrRow (w.alloc (.cells (ss.map Value.string).toArray 9)) (some ⟨w.heap.size, 0, none⟩) ss :=
  .inr ⟨w.heap.size, 0, rfl, by simp, fun j hj => by
    rw [Joins.cell_of_block (heap_alloc_new w _), Nat.zero_add]
    rw [List.getD_eq_getElem?_getD, List.getElem?_eq_getElem hj]
    simp [hj]⟩

theorem putM_size {m : Man} (h : manE m = 0) (hs : ∀ s ∈ m.ids, s.size ≤ 5000) : (putM m).1.size ≤ 20530100 := by
  obtain ⟨hz0, hz1, hil, hc0, hc1, -, -⟩ := manE_ok h
  have h1 := Lib.uvarint_length64 (x := m.size.toNat) (by omega)
  have h2 := Lib.uvarint_length64 (x := m.chunk.toNat) (by omega)
  have h3 := Lib.uvarint_length64 (x := m.ids.length) (by omega)
  have h4 := encTexts_size hs
  unfold putM
  rw [if_pos h]
  show ((encL m).toArray).size ≤ _
  unfold encL
  simp only [List.size_toArray, List.length_append]
  omega

abbrev tABCDE : ByteArray := ⟨#[97, 98, 99, 100, 101]⟩
theorem cut_abcde : cutE tABCDE.size 2 = 0 := by decide +kernel
theorem parts_abcde : cutL tABCDE 2 = [⟨#[97, 98]⟩, ⟨#[99, 100]⟩, ⟨#[101]⟩] := by decide +kernel
theorem man_abcde : (manOf tABCDE 2).ids = [idS ⟨#[97, 98]⟩, idS ⟨#[99, 100]⟩, idS ⟨#[101]⟩] := by
  unfold manOf
  rw [if_pos cut_abcde]
  have : parts tABCDE (Int.toNat 2) = [⟨#[97, 98]⟩, ⟨#[99, 100]⟩, ⟨#[101]⟩] := by decide +kernel
  rw [this]; rfl
theorem join_bad : joinM (manOf tABCDE 2) [⟨#[97, 98]⟩, ⟨#[99, 100]⟩, ⟨#[102]⟩] = (⟨#[]⟩, 6) := by
  unfold joinM
  rw [manE_manOf cut_abcde, man_abcde]
  rw [if_neg (fun h => h rfl), if_neg (fun h => h rfl), if_pos]
  intro h
  simp only [List.map_cons, List.map_nil, List.cons.injEq, true_and, and_true] at h
  exact idS_ne h.symm
theorem chk_none : manE ⟨0, 0, []⟩ = 2 := by decide +kernel
theorem chk_one : manE ⟨1, 1, []⟩ = 5 := by decide +kernel
theorem cut_a : cutE (ByteArray.mk #[97]).size 0 = 1 ∧ cutL ⟨#[97]⟩ 0 = [] := by decide +kernel

theorem ids_short {m : Man} (h : manE m = 0) : ∀ s ∈ m.ids, s.size ≤ 5000 := fun s hs => by
  have := ck_size ((manE_ok h).2.2.2.2.2.1 s hs); omega

set_option maxHeartbeats 4000000 in
set_option maxRecDepth 100000 in
theorem chunkAwake (w : World) (hT : Tab w) :
    Calls Tryd.prog 7 #[] w fun e w' => e = .returned (.bool true) ∧ Below w.heap.size w w' := by
  have c1 := fun W => cutC tABCDE 2 W
  have c2 := fun W h => manC tABCDE 2 W h
  have hE := manE_manOf cut_abcde
  have hj1 := join_cut cut_abcde
  have hj2 := join_bad
  have hids := man_abcde
  have hsh := ids_short hE
  have hps := putM_size hE hsh
  have hrd := manRead_put hE
  have hrm := (rMan_put hE).1
  have hpm : putM (manOf tABCDE 2) = ((putM (manOf tABCDE 2)).1, 0) := by unfold putM; rw [if_pos hE]
  have c7 := fun W => cutC ⟨#[97]⟩ 0 W
  rw [cut_a.1, cut_a.2] at c7
  rw [cut_abcde, parts_abcde] at c1
  rw [cut_abcde] at c2
  rw [parts_abcde] at hj1
  generalize manOf tABCDE 2 = M at *
  generalize (putM M).1 = P at *
  have c3 := fun (a b : Option Addr) ca cb W h1 h2 h3 h4 h5 h6 => joinMC M a ca b cb [⟨#[97, 98]⟩, ⟨#[99, 100]⟩, ⟨#[101]⟩] W h1 h2 h3 h4 h5 h6
  have c6 := fun (a b : Option Addr) ca cb W h1 h2 h3 h4 h5 h6 => joinMC M a ca b cb [⟨#[97, 98]⟩, ⟨#[99, 100]⟩, ⟨#[102]⟩] W h1 h2 h3 h4 h5 h6
  have c4 := fun (a : Option Addr) ca W h1 => putMC M a ca W h1
  have c5 := fun W => readMC P (by omega) (by rw [hrm]; exact hsh) W
  rw [hj1] at c3
  rw [hj2] at c6
  rw [hpm] at c4
  rw [hrd] at c5
  have hl3 : M.ids.length = 3 := by rw [hids]; rfl
  have HL3 := Lib.hid hl3
  have C1 := Lib.hid c1; have C2 := Lib.hid c2; have C3 := Lib.hid c3; have C4 := Lib.hid c4; have C5 := Lib.hid c5; have C6 := Lib.hid c6; have C7 := Lib.hid c7
  have HSH := Lib.hid hsh
  have HT := Lib.hid hT
  clear c1 c2 c3 c4 c5 c6 c7 hj1 hj2 hids hrd hrm hpm hsh hT hE hl3
  go_enter Tryd.func7, Tryd.ntmps7
  go_wp2_with fail
  refine (C1.out _).mono ?_
  rintro e w1 ⟨v1, rfl, hown1, hb1⟩
  obtain ⟨la, lc, rfl, hrow1, -, hlc⟩ := ownS_rowC hown1
  have HB1 := Lib.hid hb1
  have HR1 := Lib.hid hrow1
  clear hown1 hb1 hrow1
  go_wp2_with fail
  refine (C2.out _ (HT.out.below HB1.out)).mono ?_
  rintro e w2 ⟨v2, rfl, hown2, hb2⟩
  obtain ⟨ma, mc, rfl, hrow2, hlm, -⟩ := ownS_rowC hown2
  have hg := MBox.new w2 M (.slice ma M.ids.length mc)
  have hbA := (Below.refl _ w2).alloc (Nat.le_refl _) (.cells #[.int .i64 M.size, .int .i64 M.chunk, .slice ma M.ids.length mc] 31)
  have hs1 := HB1.out.size
  have hs2 := hb2.size
  have HB2 := Lib.hid ((HB1.out.trans (hb2.mono hs1)).trans (hbA.mono (by omega)))
  have HR2 := Lib.hid ((HR1.out.below hb2).below hbA)
  have HM2 := Lib.hid (show MArg _ M ma from ⟨hrow2.below hbA, by have := HL3.out; omega, HSH.out⟩)
  have HG2 := Lib.hid hg
  clear hown2 hb2 hrow2 hbA hg HB1 HR1 hs1 hs2
  have g0 := HG2.out.c0
  have g1 := HG2.out.c1
  have g2 := HG2.out.c2
  go_wp2_with fail
  generalize w2.alloc (.cells #[.int .i64 M.size, .int .i64 M.chunk, .slice ma M.ids.length mc] 31) = wa at *
  refine (C3.out ma la mc lc wa HM2.out HR2.out (by simp) hlc (by decide) (HT.out.below HB2.out)).mono ?_
  rintro e w3 ⟨rfl, hb3⟩
  have hs2 := HB2.out.size
  have hgl := HG2.out.lt
  have hg3 := HG2.out.below hb3 hgl
  have HB3 := Lib.hid (HB2.out.trans (hb3.mono hs2))
  have HR3 := Lib.hid (HR2.out.below hb3)
  have HM3 := Lib.hid (HM2.out.below hb3)
  have HG3 := Lib.hid hg3
  have g0 := hg3.c0
  have g1 := hg3.c1
  have g2 := hg3.c2
  clear hb3 hg3 HB2 HR2 HM2 HG2 hs2 hgl
  go_wp2_with fail
  refine (C4.out ma mc w3 HM3.out).mono ?_
  rintro e w4 ⟨rfl, hb4⟩
  have hs2 := HB3.out.size
  have hgl := HG3.out.lt
  have hg3 := HG3.out.below hb4 hgl
  have HB4 := Lib.hid (HB3.out.trans (hb4.mono hs2))
  have HR4 := Lib.hid (HR3.out.below hb4)
  have HM4 := Lib.hid (HM3.out.below hb4)
  have HG4 := Lib.hid hg3
  clear hb4 hg3 HB3 HR3 HM3 HG3 hs2 hgl g0 g1 g2
  go_wp2_with fail
  refine (C5.out w4).mono ?_
  rintro e w5 ⟨v5, rfl, hown5, hb5⟩
  obtain ⟨na, nc, rfl, hrow5, -, -⟩ := ownS_rowC hown5
  have hn := MBox.new w5 M (.slice na M.ids.length nc)
  have hbA := (Below.refl _ w5).alloc (Nat.le_refl _) (.cells #[.int .i64 M.size, .int .i64 M.chunk, .slice na M.ids.length nc] 31)
  have hs2 := HB4.out.size
  have hs5 := hb5.size
  have hgl := HG4.out.lt
  have hg4 := HG4.out.below hb5 hgl
  have hg5 := hg4.below hbA hg4.lt
  have hg5a := hg5.lt
  have HB5 := Lib.hid ((HB4.out.trans (hb5.mono hs2)).trans (hbA.mono (by omega)))
  have HR5 := Lib.hid ((HR4.out.below hb5).below hbA)
  have HM5 := Lib.hid ((HM4.out.below hb5).below hbA)
  have HN5 := Lib.hid (And.intro hn (hrow5.below hbA))
  have HG5 := Lib.hid hg5
  have g0 := hg5.c0
  have g1 := hg5.c1
  have g2 := hg5.c2
  clear hb5 hg5 hg4 HB4 HR4 HM4 HG4 hs2 hs5 hgl hown5 hrow5 hn hbA
  go_wp2_with fail
  have hwb : (w5.alloc (.cells #[.int .i64 M.size, .int .i64 M.chunk, .slice na M.ids.length nc] 31)).heap.size = w5.heap.size + 1 := by simp
  generalize w5.alloc (.cells #[.int .i64 M.size, .int .i64 M.chunk, .slice na M.ids.length nc] 31) = wb at *
  have hbc := (Below.refl _ wb).alloc (Nat.le_refl _) (.cells #[.string ⟨#[97, 98]⟩, .string ⟨#[99, 100]⟩, .string ⟨#[102]⟩] 9)
  have hrF := strRow_made wb [⟨#[97, 98]⟩, ⟨#[99, 100]⟩, ⟨#[102]⟩]
  rw [hwb] at hrF
  have hs5 := HB5.out.size
  have HBc := Lib.hid (HB5.out.trans (hbc.mono hs5))
  have HRc := Lib.hid (HR5.out.below hbc)
  have HMc := Lib.hid (HM5.out.below hbc)
  have HNc := Lib.hid (And.intro (HN5.out.1.below hbc HN5.out.1.lt) (HN5.out.2.below hbc))
  have HGc := Lib.hid (HG5.out.below hbc HG5.out.lt)
  have hcl := (HGc.out).lt
  have hnl := (HNc.out.1).lt
  refine (C6.out ma (some ⟨w5.heap.size + 1, 0, none⟩) mc 3 _ HMc.out hrF (by simp) (by simp) (by decide) (HT.out.below HBc.out)).mono ?_
  rintro e w6 ⟨rfl, hb6⟩
  clear hbc hrF HB5 HR5 HM5 HN5 HG5 hs5 g0 g1 g2 hg5a
  have HB6 := Lib.hid (HBc.out.trans (hb6.mono HBc.out.size))
  have HR6 := Lib.hid (HRc.out.below hb6)
  have HM6 := Lib.hid (HMc.out.below hb6)
  have HN6 := Lib.hid (And.intro (HNc.out.1.below hb6 hnl) (HNc.out.2.below hb6))
  have HG6 := Lib.hid (HGc.out.below hb6 hcl)
  clear hb6 HBc HRc HMc HNc HGc hcl hnl
  go_wp2_with fail
  refine (C7.out _).mono ?_
  rintro e w7 ⟨v7, rfl, -, hb7⟩
  have HB7 := Lib.hid (HB6.out.trans (hb7.mono HB6.out.size))
  have HR7 := Lib.hid (HR6.out.below hb7)
  have HM7 := Lib.hid (HM6.out.below hb7)
  have HN7 := Lib.hid (And.intro (HN6.out.1.below hb7 HN6.out.1.lt) (HN6.out.2.below hb7))
  have HG7 := Lib.hid (HG6.out.below hb7 HG6.out.lt)
  clear hb7 HB6 HR6 HM6 HN6 HG6
  go_wp2_with fail
  have hbd := (Below.refl _ w7).alloc (Nat.le_refl _) (.cells #[.string ⟨#[97, 98]⟩, .string ⟨#[99, 100]⟩, .string ⟨#[101]⟩] 9)
  have hrT := strRow_made w7 [⟨#[97, 98]⟩, ⟨#[99, 100]⟩, ⟨#[101]⟩]
  refine (texts_same la (some ⟨w7.heap.size, 0, none⟩) lc 3 [⟨#[97, 98]⟩, ⟨#[99, 100]⟩, ⟨#[101]⟩] _ (HR7.out.below hbd) hrT (by decide)).mono ?_
  rintro e w8 ⟨rfl, n8, rfl⟩
  have hb8 := belowN hbd n8
  generalize (w7.alloc (.cells #[.string ⟨#[97, 98]⟩, .string ⟨#[99, 100]⟩, .string ⟨#[101]⟩] 9)).drewN n8 = w8 at *
  have HB8 := Lib.hid (HB7.out.trans (hb8.mono HB7.out.size))
  have HM8 := Lib.hid (HM7.out.below hb8)
  have HN8 := Lib.hid (And.intro (HN7.out.1.below hb8 HN7.out.1.lt) (HN7.out.2.below hb8))
  have HG8 := Lib.hid (HG7.out.below hb8 HG7.out.lt)
  clear hbd hrT hb8 HB7 HR7 HM7 HN7 HG7
  have g0 := HG8.out.c0
  have g1 := HG8.out.c1
  have g2 := HG8.out.c2
  have k0 := HN8.out.1.c0
  have k1 := HN8.out.1.c1
  have k2 := HN8.out.1.c2
  have hl3i : ((M.ids.length : Int) == 3) = true := by rw [HL3.out]; rfl
  go_wp2_with fail
  refine (sameR M na ma nc mc w8 HN8.out.2 HM8.out.row (by have := HL3.out; unfold maxLen; omega)).mono ?_
  rintro e w9 ⟨rfl, hb9⟩
  have HB9 := Lib.hid (HB8.out.trans (hb9.mono HB8.out.size))
  clear hb9 HB8 HM8 HN8 HG8 g0 g1 g2 k0 k1 k2
  have q1 := fun W => checkMC ⟨0, 0, []⟩ none 0 W ⟨.inl rfl, by simp, by simp⟩
  have q2 := fun W => checkMC ⟨1, 1, []⟩ none 0 W ⟨.inl rfl, by simp, by simp⟩
  rw [chk_none] at q1
  rw [chk_one] at q2
  have Q1 := Lib.hid q1
  have Q2 := Lib.hid q2
  clear q1 q2
  go_wp2_with fail
  refine (Q1.out _).mono ?_
  rintro e w10 ⟨rfl, hb10⟩
  have HB10 := Lib.hid (HB9.out.trans (hb10.mono HB9.out.size))
  clear hb10 HB9
  go_wp2_with fail
  refine (Q2.out _).mono ?_
  rintro e w11 ⟨rfl, hb11⟩
  have HB11 := Lib.hid (HB10.out.trans (hb11.mono HB10.out.size))
  clear hb11 HB10
  go_wp2_with fail
  go_ret
  exact ⟨rfl, HB11.out⟩
end Go.Proofs.YtiabbmdgddbgbaaDoor
