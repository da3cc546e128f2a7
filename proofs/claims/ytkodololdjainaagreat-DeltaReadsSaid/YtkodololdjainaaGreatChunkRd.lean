/-
  Read: the program's and the document's.
-/
import Derived.Test.YtkodololdjainaaGreatChunkChk
import Derived.Test.YtkodololdjainaaGreatGDelI
import Derived.Test.YtkodololdjainaaGreatGDelE
namespace Go.Proofs.YtkodololdjainaaGreat
open Go.RowKit Go.Sort

/-- what is read: the two numbers, the IDs, the reader's state behind them -/
def rSt (s : ByteArray) : ByteArray × Int := (sList (sNum (sNum (s, 0)).2).2).2
def rMan (s : ByteArray) : Man := ⟨(sNum (s, 0)).1, (sNum (sNum (s, 0)).2).1, (sList (sNum (sNum (s, 0)).2).2).1⟩
def readM (s : ByteArray) : Man × Int :=
  if doneS (rSt s) ≠ 0 then (⟨0, 0, []⟩, doneS (rSt s)) else if manE (rMan s) ≠ 0 then (⟨0, 0, []⟩, manE (rMan s)) else (rMan s, 0)

theorem sTexts_mem : ∀ (n : Nat) (st : ByteArray × Int) (acc : List ByteArray), ∀ x ∈ (sTexts n st acc).1, x ∈ acc ∨ x.size ≤ st.1.size := by
  intro n
  induction n with
  | zero => intro st acc x hx; exact .inl (by simpa [sTexts] using hx)
  | succ n ih =>
    intro st acc x hx
    have hz := sText_size st
    simp only [sTexts] at hx
    split at hx
    · simp at hx
    · rcases ih _ _ x hx with h | h
      · rcases List.mem_append.1 h with h | h
        · exact .inl h
        · right
          simp at h
          subst h
          unfold sText
          split
          · simp
          · split
            · simp
            · have h1 := sCount_size 65536 st
              have h2 := extract_size_le (sCount 65536 st).2.2.1 0 (sCount 65536 st).1
              simp only
              omega
      · exact .inr (by omega)

theorem sList_mem (st : ByteArray × Int) : ∀ x ∈ (sList st).1, x.size ≤ st.1.size := fun x hx => by
  have h := sCount_size 4096 st
  unfold sList at hx
  split at hx
  · simp at hx
  · rcases sTexts_mem _ _ _ x hx with h' | h'
    · simp at h'
    · omega

theorem rMan_short {s : ByteArray} (hs : s.size ≤ 5000) : ∀ x ∈ (rMan s).ids, x.size ≤ 5000 := fun x hx => by
  have h1 := sNum_size (s, 0)
  have h2 := sNum_size (sNum (s, 0)).2
  have h3 := sList_mem (sNum (sNum (s, 0)).2).2 x hx
  simp only at h1
  omega

set_option maxHeartbeats 4000000 in
set_option maxRecDepth 100000 in
theorem readMC (s : ByteArray) (hs : s.size ≤ 9223372036854775807) (hsh : ∀ x ∈ (rMan s).ids, x.size ≤ 5000) (w : World) :
    Calls Tryz.prog 99 #[.string s] w fun e w' => ∃ v, e = .returned (.tuple #[mv (readM s).1 v, .int .i64 (readM s).2]) ∧ OwnS w.heap.size v (readM s).1.ids w' ∧ Below w.heap.size w w' := by
  have r0 := MBox.new w ⟨0, 0, []⟩ (.slice none 0 0)
  have hb0 : Below w.heap.size w (w.alloc (.cells #[.int .i64 0, .int .i64 0, .slice none 0 0] 135)) := (Below.refl _ w).alloc (Nat.le_refl _) _
  have R0 := Lib.hid r0
  have HB0 := Lib.hid hb0
  have hlt0 := r0.lt
  clear r0 hb0
  go_enter Tryz.func99, Tryz.ntmps99
  go_wp2_with fail
  refine (new_any s _).mono ?_
  rintro e w1 ⟨rfl, hw1⟩
  have hrd : Rd (w.heap.size + 1) (s, 0) w1 := by
    rw [← hw1]
    have h := heap_alloc_new (w.alloc (.cells #[.int .i64 0, .int .i64 0, .slice none 0 0] 135)) (.cells #[.string s, .int .i64 0] 114)
    rw [World.size_alloc] at h
    exact h
  have r1 : MBox w1 w.heap.size ⟨0, 0, []⟩ (.slice none 0 0) := by rw [← hw1]; exact R0.out.alloc _
  have hB1 : Below w.heap.size w w1 := by rw [← hw1]; exact HB0.out.alloc HB0.out.size _
  have H1 := Lib.hid (And.intro r1 hB1)
  have HR1 := Lib.hid hrd
  clear hrd r1 hB1 R0 HB0 hw1
  simp only [World.size_alloc]
  go_wp2_with fail
  refine (rnum_any (w.heap.size + 1) (s, 0) w1 HR1.out hs).mono ?_
  rintro e w2 ⟨rfl, hrd2, hg2⟩
  have z1 : (sNum (s, 0)).2.1.size ≤ s.size := sNum_size (s, 0)
  have hsz1 := H1.out.2.size
  have H2 := Lib.hid (And.intro (H1.out.1.kept hg2 (fun e => by have : w.heap.size = w.heap.size + 1 := Option.some.inj e; omega)) (H1.out.2.grown hg2 hsz1 (fun k e => by have : w.heap.size + 1 = k := Option.some.inj e; omega)))
  have HR2 := Lib.hid hrd2
  clear hrd2 hg2 H1 HR1
  go_wp2_with fail
  refine (rnum_any (w.heap.size + 1) _ w2 HR2.out (by omega)).mono ?_
  rintro e w3 ⟨rfl, hrd3, hg3⟩
  have z2 := sNum_size (sNum (s, 0)).2
  have hsz2 := H2.out.2.size
  have H3 := Lib.hid (And.intro (H2.out.1.kept hg3 (fun e => by have : w.heap.size = w.heap.size + 1 := Option.some.inj e; omega)) (H2.out.2.grown hg3 hsz2 (fun k e => by have : w.heap.size + 1 = k := Option.some.inj e; omega)))
  have HR3 := Lib.hid hrd3
  clear hrd3 hg3 H2 HR2
  go_wp2_with fail
  refine (rlist_any (w.heap.size + 1) _ w3 HR3.out (by omega)).mono ?_
  rintro e w4 ⟨v, rfl, hown, hrd4, hg4⟩
  have hsz3 := H3.out.2.size
  have hlt3 := H3.out.1.lt
  have H4 := Lib.hid (And.intro (H3.out.1.kept hg4 (fun e => by have : w.heap.size = w.heap.size + 1 := Option.some.inj e; omega)) (H3.out.2.grown hg4 hsz3 (fun k e => by have : w.heap.size + 1 = k := Option.some.inj e; omega)))
  have HR4 := Lib.hid (show Rd (w.heap.size + 1) (rSt s) w4 from hrd4)
  have HO4 := Lib.hid (show OwnS w3.heap.size v (rMan s).ids w4 from hown)
  have hm0 : (((sNum (s, 0)).1 : Nat) : Int) = (rMan s).size := rfl
  have hm1 : (((sNum (sNum (s, 0)).2).1 : Nat) : Int) = (rMan s).chunk := rfl
  rw [hm0, hm1]
  have zR : (rSt s).1.size ≤ s.size := by
    have z3 := sList_size (sNum (sNum (s, 0)).2).2
    unfold rSt
    omega
  clear hrd4 hg4 H3 HR3 hown hm0 hm1
  have hRM : readM s = if doneS (rSt s) ≠ 0 then (⟨0, 0, []⟩, doneS (rSt s)) else if manE (rMan s) ≠ 0 then (⟨0, 0, []⟩, manE (rMan s)) else (rMan s, 0) := rfl
  have HRM := Lib.hid hRM
  clear hRM z1 z2
  generalize rMan s = M at *
  generalize rSt s = st at *
  obtain ⟨la, lc, rfl, hrow, hlm⟩ := ownS_row HO4.out
  have hdn := fun W (h : Rd (w.heap.size + 1) st W) => done_any (w.heap.size + 1) st W h (by omega)
  have hd2 : (if st.2 ≠ 0 then st.2 else if 0 < st.1.size then (5 : Int) else 0) = doneS st := rfl
  rw [hd2] at hdn
  generalize doneS st = D at *
  have hg := MBox.new w4 M (.slice la M.ids.length lc)
  have hg0 := hg.c0
  have hg1 := hg.c1
  have hg2 := hg.c2
  have hgl := hg.lt
  have hb5 : Below w4.heap.size w4 (w4.alloc (.cells #[.int .i64 M.size, .int .i64 M.chunk, .slice la M.ids.length lc] 135)) := (Below.refl _ w4).alloc (Nat.le_refl _) _
  have HR5 := Lib.hid (HR4.out.below hb5 HR4.out.lt)
  have hs4 := H4.out.2.size
  have r5 := H4.out.1.below hb5 H4.out.1.lt
  have hr5l := r5.lt
  have H5 := Lib.hid (And.intro r5 (H4.out.2.trans (hb5.mono hs4)))
  have HA5 := Lib.hid (show MArg _ M la from ⟨hrow.below hb5, by unfold maxLen at hlm; omega, hsh⟩)
  have HG5 := Lib.hid hg
  have HO5 := Lib.hid (row_below HO4.out hb5)
  clear hb5 hg r5 hrow HR4 HO4 H4 hd2
  go_wp2_with fail
  generalize w4.alloc (.cells #[.int .i64 M.size, .int .i64 M.chunk, .slice la M.ids.length lc] 135) = w5 at *
  refine (hdn w5 HR5.out).mono ?_
  rintro e w6 ⟨rfl, rfl⟩
  have f0 := H5.out.1.free 0
  have f1 := H5.out.1.free 1
  have f2 := H5.out.1.free 2
  have k0 := H5.out.1.c0
  have k1 := H5.out.1.c1
  have k2 := H5.out.1.c2
  by_cases hD : D = 0
  case neg =>
    have hj := HRM.out
    rw [if_pos hD] at hj
    have hne : (D != 0) = true := by simp [hD]
    have HJ := Lib.hid hj
    have hput := Lib.hid (H5.out.1.put ⟨0, 0, []⟩ (.slice none 0 0))
    clear hj hD
    go_wp2_with fail
    refine bodyPost_ret (results_man rfl _ _ w.heap.size 135 _ _ _ (0, 0) _ rfl hput.out Tryz.underlying135 rfl manInfo) rfl ?_
    rw [HJ.out]
    exact ⟨_, rfl, ownS_nil _ _, below_put3 H5.out.2 (Nat.le_refl _) _ _ _⟩
  case pos =>
    have hj := HRM.out
    rw [if_neg (fun hh => hh hD)] at hj
    have HJ := Lib.hid hj
    subst hD
    clear hj HRM
    have hck := fun W (hW : MArg W M la) => checkMC M la lc W hW
    go_wp2_with fail
    refine (hck _ HA5.out).mono ?_
    rintro e w6 ⟨rfl, hb6⟩
    have hs5 := H5.out.2.size
    have r6 := H5.out.1.below hb6 hr5l
    have g6 := HG5.out.below hb6 hgl
    have l0 := r6.c0
    have l1 := r6.c1
    have l2 := r6.c2
    have u0 := r6.free 0
    have u1 := r6.free 1
    have u2 := r6.free 2
    have n0 := g6.c0
    have n1 := g6.c1
    have n2 := g6.c2
    have HB6 := Lib.hid (H5.out.2.trans (hb6.mono hs5))
    by_cases hE : manE M = 0
    · have hj := HJ.out
      rw [if_neg (fun hh => hh hE)] at hj
      have HJ2 := Lib.hid hj
      have hput := Lib.hid (r6.put M (.slice la M.ids.length lc))
      have hO := Lib.hid (row_put3 (row_below HO5.out hb6) (G := w.heap.size) (by omega) (.int .i64 M.size) (.int .i64 M.chunk) (.slice la M.ids.length lc))
      clear hj HJ hb6 r6 g6 k0 k1 k2 f0 f1 f2 hg0 hg1 hg2
      go_wp2_with fail
      refine bodyPost_ret (results_man rfl _ _ w.heap.size 135 _ _ _ (0, 0) _ rfl hput.out Tryz.underlying135 rfl manInfo) rfl ?_
      rw [HJ2.out]
      exact ⟨_, rfl, row_mono hO.out (by omega), below_put3 HB6.out (Nat.le_refl _) _ _ _⟩
    · have hj := HJ.out
      rw [if_pos hE] at hj
      have hne : (manE M != 0) = true := by simp [hE]
      have HJ2 := Lib.hid hj
      have hput := Lib.hid (r6.put ⟨0, 0, []⟩ (.slice none 0 0))
      clear hj hE HJ hb6 r6 g6 k0 k1 k2 f0 f1 f2 hg0 hg1 hg2
      generalize manE M = E at *
      go_wp2_with fail
      refine bodyPost_ret (results_man rfl _ _ w.heap.size 135 _ _ _ (0, 0) _ rfl hput.out Tryz.underlying135 rfl manInfo) rfl ?_
      rw [HJ2.out]
      exact ⟨_, rfl, ownS_nil _ _, below_put3 HB6.out (Nat.le_refl _) _ _ _⟩
end Go.Proofs.YtkodololdjainaaGreat
