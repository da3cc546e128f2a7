/-
  Read: the program's and the document's.
  fact: whether a fact may be; Check.
  What is asked of an update, in three parts.
-/
import Derived.Test.YtmnblpjdiplioaaGreatGOp09
import Derived.Test.YtmnblpjdiplioaaGreatGOp10
import Derived.Test.YtmnblpjdiplioaaGreatGOp07
import Derived.Test.YtmnblpjdiplioaaGreatFactOrd
import Derived.Test.YtmnblpjdiplioaaGreatGOp05
namespace Go.Proofs.YtmnblpjdiplioaaGreat
open Go.RowKit Go.Sort

/-- what is read: the two numbers, the IDs, the reader's state behind them -/
def rSt (s : ByteArray) : ByteArray × Int := (sList (sNum (sNum (s, 0)).2).2).2
def rMan (s : ByteArray) : Man := ⟨(sNum (s, 0)).1, (sNum (sNum (s, 0)).2).1, (sList (sNum (sNum (s, 0)).2).2).1⟩
def readM (s : ByteArray) : Man × Int :=
  if doneS (rSt s) ≠ 0 then (⟨0, 0, []⟩, doneS (rSt s)) else if manE (rMan s) ≠ 0 then (⟨0, 0, []⟩, manE (rMan s)) else (rMan s, 0)

theorem sTexts_mem : ∀ (n : Nat) (st : ByteArray × Int) (acc : List ByteArray), ∀ x ∈ (sTexts n st acc).1, x ∈ acc ∨ x.size ≤ st.1.size := by
  intro n
  induction n with
  | zero => intro st acc x hx; exact .inl (by simpa [sTexts] using hx)
  | succ n ih =>
    intro st acc x hx
    have hz := sText_size st
    simp only [sTexts] at hx
    split at hx
    · simp at hx
    · rcases ih _ _ x hx with h | h
      · rcases List.mem_append.1 h with h | h
        · exact .inl h
        · right
          simp at h
          subst h
          unfold sText
          split
          · simp
          · split
            · simp
            · have h1 := sCount_size 65536 st
              have h2 := extract_size_le (sCount 65536 st).2.2.1 0 (sCount 65536 st).1
              simp only
              omega
      · exact .inr (by omega)

theorem sList_mem (st : ByteArray × Int) : ∀ x ∈ (sList st).1, x.size ≤ st.1.size := fun x hx => by
  have h := sCount_size 4096 st
  unfold sList at hx
  split at hx
  · simp at hx
  · rcases sTexts_mem _ _ _ x hx with h' | h'
    · simp at h'
    · omega

theorem rMan_short {s : ByteArray} (hs : s.size ≤ 5000) : ∀ x ∈ (rMan s).ids, x.size ≤ 5000 := fun x hx => by
  have h1 := sNum_size (s, 0)
  have h2 := sNum_size (sNum (s, 0)).2
  have h3 := sList_mem (sNum (sNum (s, 0)).2).2 x hx
  simp only at h1
  omega

set_option maxHeartbeats 4000000 in
set_option maxRecDepth 100000 in
theorem readMC (s : ByteArray) (hs : s.size ≤ 9223372036854775807) (hsh : ∀ x ∈ (rMan s).ids, x.size ≤ 5000) (w : World) :
    Calls Tryz.prog 150 #[.string s] w fun e w' => ∃ v, e = .returned (.tuple #[mv (readM s).1 v, .int .i64 (readM s).2]) ∧ OwnS w.heap.size v (readM s).1.ids w' ∧ Below w.heap.size w w' := by
  have r0 := MBox.new w ⟨0, 0, []⟩ (.slice none 0 0)
  have hb0 : Below w.heap.size w (w.alloc (.cells #[.int .i64 0, .int .i64 0, .slice none 0 0] 86)) := (Below.refl _ w).alloc (Nat.le_refl _) _
  have R0 := Lib.hid r0
  have HB0 := Lib.hid hb0
  have hlt0 := r0.lt
  clear r0 hb0
  go_enter Tryz.func150, Tryz.ntmps150
  go_wp2_with fail
  refine (new_any s _).mono ?_
  rintro e w1 ⟨rfl, hw1⟩
  have hrd : Rd (w.heap.size + 1) (s, 0) w1 := by
    rw [← hw1]
    have h := heap_alloc_new (w.alloc (.cells #[.int .i64 0, .int .i64 0, .slice none 0 0] 86)) (.cells #[.string s, .int .i64 0] 191)
    rw [World.size_alloc] at h
    exact h
  have r1 : MBox w1 w.heap.size ⟨0, 0, []⟩ (.slice none 0 0) := by rw [← hw1]; exact R0.out.alloc _
  have hB1 : Below w.heap.size w w1 := by rw [← hw1]; exact HB0.out.alloc HB0.out.size _
  have H1 := Lib.hid (And.intro r1 hB1)
  have HR1 := Lib.hid hrd
  clear hrd r1 hB1 R0 HB0 hw1
  simp only [World.size_alloc]
  go_wp2_with fail
  refine (rnum_any (w.heap.size + 1) (s, 0) w1 HR1.out hs).mono ?_
  rintro e w2 ⟨rfl, hrd2, hg2⟩
  have z1 : (sNum (s, 0)).2.1.size ≤ s.size := sNum_size (s, 0)
  have hsz1 := H1.out.2.size
  have H2 := Lib.hid (And.intro (H1.out.1.kept hg2 (fun e => by have : w.heap.size = w.heap.size + 1 := Option.some.inj e; omega)) (H1.out.2.grown hg2 hsz1 (fun k e => by have : w.heap.size + 1 = k := Option.some.inj e; omega)))
  have HR2 := Lib.hid hrd2
  clear hrd2 hg2 H1 HR1
  go_wp2_with fail
  refine (rnum_any (w.heap.size + 1) _ w2 HR2.out (by omega)).mono ?_
  rintro e w3 ⟨rfl, hrd3, hg3⟩
  have z2 := sNum_size (sNum (s, 0)).2
  have hsz2 := H2.out.2.size
  have H3 := Lib.hid (And.intro (H2.out.1.kept hg3 (fun e => by have : w.heap.size = w.heap.size + 1 := Option.some.inj e; omega)) (H2.out.2.grown hg3 hsz2 (fun k e => by have : w.heap.size + 1 = k := Option.some.inj e; omega)))
  have HR3 := Lib.hid hrd3
  clear hrd3 hg3 H2 HR2
  go_wp2_with fail
  refine (rlist_any (w.heap.size + 1) _ w3 HR3.out (by omega)).mono ?_
  rintro e w4 ⟨v, rfl, hown, hrd4, hg4⟩
  have hsz3 := H3.out.2.size
  have hlt3 := H3.out.1.lt
  have H4 := Lib.hid (And.intro (H3.out.1.kept hg4 (fun e => by have : w.heap.size = w.heap.size + 1 := Option.some.inj e; omega)) (H3.out.2.grown hg4 hsz3 (fun k e => by have : w.heap.size + 1 = k := Option.some.inj e; omega)))
  have HR4 := Lib.hid (show Rd (w.heap.size + 1) (rSt s) w4 from hrd4)
  have HO4 := Lib.hid (show OwnS w3.heap.size v (rMan s).ids w4 from hown)
  have hm0 : (((sNum (s, 0)).1 : Nat) : Int) = (rMan s).size := rfl
  have hm1 : (((sNum (sNum (s, 0)).2).1 : Nat) : Int) = (rMan s).chunk := rfl
  rw [hm0, hm1]
  have zR : (rSt s).1.size ≤ s.size := by
    have z3 := sList_size (sNum (sNum (s, 0)).2).2
    unfold rSt
    omega
  clear hrd4 hg4 H3 HR3 hown hm0 hm1
  have hRM : readM s = if doneS (rSt s) ≠ 0 then (⟨0, 0, []⟩, doneS (rSt s)) else if manE (rMan s) ≠ 0 then (⟨0, 0, []⟩, manE (rMan s)) else (rMan s, 0) := rfl
  have HRM := Lib.hid hRM
  clear hRM z1 z2
  generalize rMan s = M at *
  generalize rSt s = st at *
  obtain ⟨la, lc, rfl, hrow, hlm⟩ := ownS_row HO4.out
  have hdn := fun W (h : Rd (w.heap.size + 1) st W) => done_any (w.heap.size + 1) st W h (by omega)
  have hd2 : (if st.2 ≠ 0 then st.2 else if 0 < st.1.size then (5 : Int) else 0) = doneS st := rfl
  rw [hd2] at hdn
  generalize doneS st = D at *
  have hg := MBox.new w4 M (.slice la M.ids.length lc)
  have hg0 := hg.c0
  have hg1 := hg.c1
  have hg2 := hg.c2
  have hgl := hg.lt
  have hb5 : Below w4.heap.size w4 (w4.alloc (.cells #[.int .i64 M.size, .int .i64 M.chunk, .slice la M.ids.length lc] 86)) := (Below.refl _ w4).alloc (Nat.le_refl _) _
  have HR5 := Lib.hid (HR4.out.below hb5 HR4.out.lt)
  have hs4 := H4.out.2.size
  have r5 := H4.out.1.below hb5 H4.out.1.lt
  have hr5l := r5.lt
  have H5 := Lib.hid (And.intro r5 (H4.out.2.trans (hb5.mono hs4)))
  have HA5 := Lib.hid (show MArg _ M la from ⟨hrow.below hb5, by unfold maxLen at hlm; omega, hsh⟩)
  have HG5 := Lib.hid hg
  have HO5 := Lib.hid (row_below HO4.out hb5)
  clear hb5 hg r5 hrow HR4 HO4 H4 hd2
  go_wp2_with fail
  generalize w4.alloc (.cells #[.int .i64 M.size, .int .i64 M.chunk, .slice la M.ids.length lc] 86) = w5 at *
  refine (hdn w5 HR5.out).mono ?_
  rintro e w6 ⟨rfl, rfl⟩
  have f0 := H5.out.1.free 0
  have f1 := H5.out.1.free 1
  have f2 := H5.out.1.free 2
  have k0 := H5.out.1.c0
  have k1 := H5.out.1.c1
  have k2 := H5.out.1.c2
  by_cases hD : D = 0
  case neg =>
    have hj := HRM.out
    rw [if_pos hD] at hj
    have hne : (D != 0) = true := by simp [hD]
    have HJ := Lib.hid hj
    have hput := Lib.hid (H5.out.1.put ⟨0, 0, []⟩ (.slice none 0 0))
    clear hj hD
    go_wp2_with fail
    refine bodyPost_ret (results_man rfl _ _ w.heap.size 86 _ _ _ (0, 0) _ rfl hput.out Tryz.underlying86 rfl manInfo) rfl ?_
    rw [HJ.out]
    exact ⟨_, rfl, ownS_nil _ _, below_put3 H5.out.2 (Nat.le_refl _) _ _ _⟩
  case pos =>
    have hj := HRM.out
    rw [if_neg (fun hh => hh hD)] at hj
    have HJ := Lib.hid hj
    subst hD
    clear hj HRM
    have hck := fun W (hW : MArg W M la) => checkMC M la lc W hW
    go_wp2_with fail
    refine (hck _ HA5.out).mono ?_
    rintro e w6 ⟨rfl, hb6⟩
    have hs5 := H5.out.2.size
    have r6 := H5.out.1.below hb6 hr5l
    have g6 := HG5.out.below hb6 hgl
    have l0 := r6.c0
    have l1 := r6.c1
    have l2 := r6.c2
    have u0 := r6.free 0
    have u1 := r6.free 1
    have u2 := r6.free 2
    have n0 := g6.c0
    have n1 := g6.c1
    have n2 := g6.c2
    have HB6 := Lib.hid (H5.out.2.trans (hb6.mono hs5))
    by_cases hE : manE M = 0
    · have hj := HJ.out
      rw [if_neg (fun hh => hh hE)] at hj
      have HJ2 := Lib.hid hj
      have hput := Lib.hid (r6.put M (.slice la M.ids.length lc))
      have hO := Lib.hid (row_put3 (row_below HO5.out hb6) (G := w.heap.size) (by omega) (.int .i64 M.size) (.int .i64 M.chunk) (.slice la M.ids.length lc))
      clear hj HJ hb6 r6 g6 k0 k1 k2 f0 f1 f2 hg0 hg1 hg2
      go_wp2_with fail
      refine bodyPost_ret (results_man rfl _ _ w.heap.size 86 _ _ _ (0, 0) _ rfl hput.out Tryz.underlying86 rfl manInfo) rfl ?_
      rw [HJ2.out]
      exact ⟨_, rfl, row_mono hO.out (by omega), below_put3 HB6.out (Nat.le_refl _) _ _ _⟩
    · have hj := HJ.out
      rw [if_pos hE] at hj
      have hne : (manE M != 0) = true := by simp [hE]
      have HJ2 := Lib.hid hj
      have hput := Lib.hid (r6.put ⟨0, 0, []⟩ (.slice none 0 0))
      clear hj hE HJ hb6 r6 g6 k0 k1 k2 f0 f1 f2 hg0 hg1 hg2
      generalize manE M = E at *
      go_wp2_with fail
      refine bodyPost_ret (results_man rfl _ _ w.heap.size 86 _ _ _ (0, 0) _ rfl hput.out Tryz.underlying86 rfl manInfo) rfl ?_
      rw [HJ2.out]
      exact ⟨_, rfl, ownS_nil _ _, below_put3 HB6.out (Nat.le_refl _) _ _ _⟩
end Go.Proofs.YtmnblpjdiplioaaGreat

namespace Go.Proofs.YtmnblpjdiplioaaGreat
open Go.RowKit Go.Sort
set_option maxRecDepth 100000

/-- 9's Read's error of a text -/
def rdM (s : ByteArray) : Int := (readM s).2
/-- the document's answer on one -/
abbrev chkFm (f : Ft) : Int := chkF rdM f

theorem isNameC (s : ByteArray) (w : World) : Calls Tryz.prog 106 #[.string s] w fun e w' => e = .returned (.bool (decide (1 ≤ s.size ∧ s.size ≤ 64))) ∧ w = w' := by
  by_cases h1 : 1 ≤ s.size
  · have g1 : decide ((1 : Int) ≤ (s.size : Int)) = true := by simp; omega
    by_cases h2 : s.size ≤ 64
    · rw [decide_eq_true ⟨h1, h2⟩]
      have g2 : decide ((s.size : Int) ≤ 64) = true := by simp; omega
      clear h1 h2
      go_enter Tryz.func106, Tryz.ntmps106
      go_wp2
      go_ret
      exact ⟨rfl, rfl⟩
    · rw [decide_eq_false (fun h => h2 h.2)]
      have g2 : decide ((s.size : Int) ≤ 64) = false := by simp; omega
      clear h1 h2
      go_enter Tryz.func106, Tryz.ntmps106
      go_wp2
      go_ret
      exact ⟨rfl, rfl⟩
  · rw [decide_eq_false (fun h => h1 h.1)]
    have g1 : decide ((1 : Int) ≤ (s.size : Int)) = false := by simp; omega
    clear h1
    go_enter Tryz.func106, Tryz.ntmps106
    go_wp2
    go_ret
    exact ⟨rfl, rfl⟩

set_option maxHeartbeats 1000000 in
theorem chkManC (s : ByteArray) (hs : s.size ≤ 5000) (w : World) : Calls Tryz.prog 134 #[.string s] w fun e w' => e = .returned (.int .i64 (if 16384 < s.size then 3 else rdM s)) ∧ Below w.heap.size w w' := by
  have H := Lib.hid (fun W => readMC s (by omega) (rMan_short hs) W)
  rw [if_neg (by omega)]
  have hi : decide ((16384 : Int) < (s.size : Int)) = false := by simp; omega
  have e : rdM s = (readM s).2 := rfl
  rw [e]
  clear e hs
  generalize readM s = M at *
  obtain ⟨⟨z, c, ids⟩, x⟩ := M
  unfold mv at H
  simp only at H ⊢
  go_enter Tryz.func134, Tryz.ntmps134
  go_wp2_with fail
  refine (H.out _).mono ?_
  rintro e w1 ⟨v, rfl, hown, hb⟩
  obtain ⟨la, lc, rfl, -, -⟩ := ownS_row hown
  have HB := Lib.hid (And.intro hb (hb.alloc hb.size (.cells #[.int .i64 z, .int .i64 c, .slice la ids.length lc] 86)))
  clear hb hown
  go_wp2_with fail
  go_ret
  exact ⟨rfl, HB.out.2⟩

/-- what a value's error is -/
def valE (k : Int) (v : ByteArray) : Int :=
  if k = 1 then (if 16384 < v.size then 3 else rdM v)
  else if k = 2 then (if 256 < v.size then 3 else 0)
  else if k = 3 then (if v.size < 1 ∨ 64 < v.size then 14 else 0)
  else (if v.size ≠ 8 then 5 else 0)

set_option maxHeartbeats 2000000 in
theorem chkValC (k : Int) (v : ByteArray) (h1 : 1 ≤ k) (h4 : k ≤ 4) (hs : v.size ≤ 5000) (w : World) : Calls Tryz.prog 107 #[.int .i64 k, .string v] w fun e w' => e = .returned (.int .i64 (valE k v)) ∧ Below w.heap.size w w' := by
  have HM := Lib.hid (fun W => chkManC v hs W)
  have HN := Lib.hid (fun W => isNameC v W)
  obtain rfl | rfl | rfl | rfl : k = 1 ∨ k = 2 ∨ k = 3 ∨ k = 4 := by omega
  · have e : valE 1 v = if 16384 < v.size then 3 else rdM v := rfl
    rw [e]
    clear e HN
    generalize (if 16384 < v.size then 3 else rdM v) = x at *
    go_enter Tryz.func107, Tryz.ntmps107
    go_wp2_with fail
    refine (HM.out _).mono ?_
    rintro e w1 ⟨rfl, hb⟩
    have HB := Lib.hid hb
    clear hb
    go_wp2_with fail
    go_ret
    exact ⟨rfl, HB.out⟩
  · have e : valE 2 v = if 256 < v.size then 3 else 0 := rfl
    rw [e]
    clear e HN HM
    by_cases h : 256 < v.size
    · rw [if_pos h]
      have g : decide ((256 : Int) < (v.size : Int)) = true := by simp; omega
      clear h
      go_enter Tryz.func107, Tryz.ntmps107
      go_wp2_with fail
      go_ret
      exact ⟨rfl, Below.refl _ _⟩
    · rw [if_neg h]
      have g : decide ((256 : Int) < (v.size : Int)) = false := by simp; omega
      clear h
      go_enter Tryz.func107, Tryz.ntmps107
      go_wp2_with fail
      go_ret
      exact ⟨rfl, Below.refl _ _⟩
  · have e : valE 3 v = if v.size < 1 ∨ 64 < v.size then 14 else 0 := rfl
    rw [e]
    clear e HM
    by_cases h : 1 ≤ v.size ∧ v.size ≤ 64
    · rw [if_neg (by omega)]
      rw [decide_eq_true h] at HN
      clear h
      go_enter Tryz.func107, Tryz.ntmps107
      go_wp2_with (go_at_call 106; refine (HN.out _).mono ?_; rintro e w1 ⟨rfl, rfl⟩)
      go_ret
      exact ⟨rfl, Below.refl _ _⟩
    · rw [if_pos (by omega)]
      rw [decide_eq_false h] at HN
      clear h
      go_enter Tryz.func107, Tryz.ntmps107
      go_wp2_with (go_at_call 106; refine (HN.out _).mono ?_; rintro e w1 ⟨rfl, rfl⟩)
      go_ret
      exact ⟨rfl, Below.refl _ _⟩
  · have e : valE 4 v = if v.size ≠ 8 then 5 else 0 := rfl
    rw [e]
    clear e HM HN
    by_cases h : v.size = 8
    · rw [if_neg (by simp [h])]
      have g : ((v.size : Int) != 8) = false := by simp; omega
      clear h
      go_enter Tryz.func107, Tryz.ntmps107
      go_wp2_with fail
      go_ret
      exact ⟨rfl, Below.refl _ _⟩
    · rw [if_pos h]
      have g : ((v.size : Int) != 8) = true := by simp; omega
      clear h
      go_enter Tryz.func107, Tryz.ntmps107
      go_wp2_with fail
      go_ret
      exact ⟨rfl, Below.refl _ _⟩

set_option maxHeartbeats 4000000 in
/-- Check, the program's -/
theorem fchkC (f : Ft) (hs : f.v.size ≤ 5000) (w : World) : Calls Tryz.prog 88 #[.agg (fcs f).toArray] w fun e w' => e = .returned (.int .i64 (chkFm f)) ∧ Below w.heap.size w w' := by
  have hcd := fun W => checkC f.d W
  have hcs := fun W => tchkC f.s W
  have hval := fun (h1 : 1 ≤ f.k) (h2 : f.k ≤ 4) W => chkValC f.k f.v h1 h2 hs W
  have hnm := fun W => isNameC f.n W
  have hin := boxF_in w f
  have HB0 := Lib.hid (boxF_gr w f).below
  have HSZ := Lib.hid (boxF_size w f)
  have hch : chkFm f = if chkD f.d ≠ 0 then chkD f.d else if chkS f.s ≠ 0 then chkS f.s else if f.d.1 ≠ f.s.r then 5 else if f.k < 1 ∨ 4 < f.k then 1 else if f.n.size < 1 ∨ 64 < f.n.size then 14 else valE f.k f.v := rfl
  generalize chkFm f = R at *
  have HJ := Lib.hid hch
  clear hch
  have HVAL := Lib.hid hval
  obtain ⟨V, hV⟩ : ∃ V, valE f.k f.v = V := ⟨_, rfl⟩
  rw [hV] at HJ HVAL
  clear hV
  obtain ⟨D, hDD⟩ : ∃ D, chkD f.d = D := ⟨_, rfl⟩
  obtain ⟨E, hEE⟩ : ∃ E, chkS f.s = E := ⟨_, rfl⟩
  rw [hDD] at HJ hcd
  rw [hEE] at HJ hcs
  clear hDD hEE
  clear hval hs
  unfold boxD at hcd
  unfold boxS at hcs
  have HCD := Lib.hid hcd
  have HCS := Lib.hid hcs
  have HNM := Lib.hid hnm
  clear hcd hcs hnm
  have cells : ∀ U, Below (boxF w f).heap.size (boxF w f) U → ∀ j v, (fcs f)[j]? = some v → U.cell? ⟨w.heap.size, j, none⟩ = some v := fun U hU j v hv => by
    rw [hU.cell (p := ⟨w.heap.size, j, none⟩) (by show w.heap.size < _; rw [HSZ.out]; omega)]
    have := hin j v hv
    rwa [Nat.zero_add] at this
  have HC := Lib.hid cells
  have c0 := cells _ (Below.refl _ _) 0 _ rfl
  have c1 := cells _ (Below.refl _ _) 1 _ rfl
  clear cells hin
  unfold boxF at c0 c1 HC HB0
  go_enter Tryz.func88, Tryz.ntmps88
  go_wp2_with fail
  generalize w.alloc (.cells (fcs f).toArray 63) = W at *
  refine (HCD.out _).mono ?_
  rintro e w1 ⟨rfl, hw⟩
  have hb1 : Below W.heap.size W w1 := by rw [← hw]; exact (Below.refl _ _).alloc (Nat.le_refl _) _
  have HB1 := Lib.hid hb1
  clear hb1 hw c0 c1 HCD
  by_cases hD : D = 0
  case neg =>
    replace HJ := Lib.hid (HJ.out.trans (if_pos hD))
    have hne : (D != 0) = true := by simp [hD]
    clear hD
    go_wp2_with fail
    go_ret
    exact ⟨by rw [HJ.out]; rfl, HB0.out.trans (HB1.out.mono HB0.out.size)⟩
  replace HJ := Lib.hid (HJ.out.trans (if_neg (by simp [hD])))
  subst hD
  have c2 := HC.out w1 HB1.out 2 _ rfl
  have c3 := HC.out w1 HB1.out 3 _ rfl
  have c4 := HC.out w1 HB1.out 4 _ rfl
  go_wp2_with fail
  refine (HCS.out _).mono ?_
  rintro e w2 ⟨rfl, hw⟩
  have hb2 : Below w1.heap.size w1 w2 := by rw [← hw]; exact (Below.refl _ _).alloc (Nat.le_refl _) _
  have HB2 := Lib.hid (HB1.out.trans (hb2.mono HB1.out.size))
  clear hb2 hw c2 c3 c4 HCS
  by_cases hE : E = 0
  case neg =>
    replace HJ := Lib.hid (HJ.out.trans (if_pos hE))
    have hne : (E != 0) = true := by simp [hE]
    clear hE
    go_wp2_with fail
    go_ret
    exact ⟨by rw [HJ.out]; rfl, HB0.out.trans (HB2.out.mono HB0.out.size)⟩
  replace HJ := Lib.hid (HJ.out.trans (if_neg (by simp [hE])))
  subst hE
  have d0 := HC.out w2 HB2.out 0 _ rfl
  have d4 := HC.out w2 HB2.out 4 _ rfl
  have d5 := HC.out w2 HB2.out 5 _ rfl
  have d6 := HC.out w2 HB2.out 6 _ rfl
  have d7 := HC.out w2 HB2.out 7 _ rfl
  have HB3 := Lib.hid (HB0.out.trans (HB2.out.mono HB0.out.size))
  clear HC HB0 HB1 HB2 HSZ
  by_cases hR : f.d.1 = f.s.r
  case neg =>
    replace HJ := Lib.hid (HJ.out.trans (if_pos hR))
    have hne : (f.d.1 != f.s.r) = true := by simp [hR]
    clear hR
    go_wp2_with fail
    go_ret
    exact ⟨by rw [HJ.out]; rfl, HB3.out⟩
  replace HJ := Lib.hid (HJ.out.trans (if_neg (by simp [hR])))
  have hne : (f.d.1 != f.s.r) = false := by simp [hR]
  by_cases hK1 : f.k < 1
  · replace HJ := Lib.hid (HJ.out.trans (if_pos (.inl hK1)))
    have g : decide (f.k < 1) = true := by simp; omega
    clear hK1 hR
    go_wp2_with fail
    go_ret
    exact ⟨by rw [HJ.out]; rfl, HB3.out⟩
  have g1 : decide (f.k < 1) = false := by simp; omega
  by_cases hK2 : 4 < f.k
  · replace HJ := Lib.hid (HJ.out.trans (if_pos (.inr hK2)))
    have g : decide (4 < f.k) = true := by simp; omega
    clear hK1 hK2 hR
    go_wp2_with fail
    go_ret
    exact ⟨by rw [HJ.out]; rfl, HB3.out⟩
  have g2 : decide (4 < f.k) = false := by simp; omega
  replace HJ := Lib.hid (HJ.out.trans (if_neg (by omega)))
  have HV := Lib.hid (HVAL.out (by omega) (by omega))
  clear HVAL
  by_cases hN : 1 ≤ f.n.size ∧ f.n.size ≤ 64
  case neg =>
    replace HJ := Lib.hid (HJ.out.trans (if_pos (by omega)))
    rw [decide_eq_false hN] at HNM
    clear hN hK1 hK2 hR
    go_wp2_with (go_at_call 106; refine (HNM.out _).mono ?_; rintro e w3 ⟨rfl, rfl⟩)
    go_ret
    exact ⟨by rw [HJ.out]; rfl, HB3.out⟩
  replace HJ := Lib.hid (HJ.out.trans (if_neg (by omega)))
  rw [decide_eq_true hN] at HNM
  clear hN hK1 hK2 hR
  go_wp2_with (go_at_call 106; refine (HNM.out _).mono ?_; rintro e w3 ⟨rfl, rfl⟩)
  refine (HV.out _).mono ?_
  rintro e w3 ⟨rfl, hb3⟩
  have H4 := Lib.hid (HB3.out.trans (hb3.mono HB3.out.size))
  clear hb3
  go_wp2_with fail
  go_ret
  exact ⟨by rw [HJ.out]; rfl, H4.out⟩
end Go.Proofs.YtmnblpjdiplioaaGreat

namespace Go.Proofs.YtmnblpjdiplioaaGreat
set_option linter.unusedSimpArgs false
set_option linter.unusedVariables false
set_option maxRecDepth 100000

/-- all say the update's name and stamp -/
def OwnE (e : Dl) : Prop := ∀ f ∈ e.l, f.d = e.d ∧ f.s = e.s
instance (e : Dl) : Decidable (OwnE e) := inferInstanceAs (Decidable (∀ f ∈ e.l, _))
def hdE (e : Dl) : Int := if chkD e.d ≠ 0 then chkD e.d else if chkS e.s ≠ 0 then chkS e.s else if e.d.1 ≠ e.s.r then 5 else 0
def faE (e : Dl) : Int := if chkFs rdM e.l ≠ 0 then chkFs rdM e.l else if OwnE e then 0 else 5
def goE (e : Dl) : Int := if chkL e.g ≠ 0 then chkL e.g else if e.d ∈ e.g then 5 else 0
def chkDm (e : Dl) : Int := chkDl rdM e
def lastE (e : Dl) : Int := if 256 < e.l.length ∨ 256 < e.g.length then 3 else 0
theorem ownDl_iff (e : Dl) : OwnDl e ↔ OwnE e ∧ RiseF e.l := Iff.rfl
theorem faE_ref (e : Dl) : faE e = if firstF rdM e.l ≠ 0 then firstF rdM e.l else if OwnE e then chkFs rdM e.l else 5 := by
  unfold faE chkFs
  by_cases h1 : firstF rdM e.l = 0
  · by_cases h2 : RiseF e.l
    · simp [h1, h2]
    · simp [h1, h2]
  · simp [h1]
theorem faE_def (e : Dl) : faE e = if firstF rdM e.l ≠ 0 then firstF rdM e.l else if ¬ OwnDl e then 5 else 0 := by
  rw [faE_ref]
  by_cases h1 : firstF rdM e.l = 0
  · by_cases h2 : RiseF e.l
    · by_cases h3 : OwnE e
      · rw [chkFs_good h1 h2]; simp [h1, ownDl_iff, h2, h3]
      · simp [h1, ownDl_iff, h3]
    · by_cases h3 : OwnE e
      · rw [chkFs_flat h1 h2]; simp [h1, ownDl_iff, h2, h3]
      · simp [h1, ownDl_iff, h3]
  · simp [h1]
theorem chkDm_of (e : Dl) : chkDm e = if hdE e ≠ 0 then hdE e else if faE e ≠ 0 then faE e else if goE e ≠ 0 then goE e else lastE e := by
  unfold chkDm chkDl
  by_cases h1 : chkD e.d = 0
  · by_cases h2 : chkS e.s = 0
    · by_cases h3 : e.d.1 = e.s.r
      · have hh : hdE e = 0 := by simp [hdE, h1, h2, h3]
        by_cases h4 : firstF rdM e.l = 0
        · by_cases h5 : OwnDl e
          · have hf : faE e = 0 := by rw [faE_def]; simp [h4, h5]
            by_cases h6 : chkL e.g = 0
            · by_cases h7 : e.d ∈ e.g
              · have hg : goE e = 5 := by simp [goE, h6, h7]
                simp [h1, h2, h3, h4, h5, h6, h7, hh, hf, hg]
              · have hg : goE e = 0 := by simp [goE, h6, h7]
                simp [h1, h2, h3, h4, h5, h6, h7, hh, hf, hg, lastE]
            · have hg : goE e = chkL e.g := by simp [goE, h6]
              simp [h1, h2, h3, h4, h5, h6, hh, hf, hg]
          · have hf : faE e = 5 := by rw [faE_def]; simp [h4, h5]
            simp [h1, h2, h3, h4, h5, hh, hf]
        · have hf : faE e = firstF rdM e.l := by rw [faE_def]; simp [h4]
          simp [h1, h2, h3, h4, hh, hf]
      · have hh : hdE e = 5 := by simp [hdE, h1, h2, h3]
        simp [h1, h2, h3, hh]
    · have hh : hdE e = chkS e.s := by simp [hdE, h1, h2]
      simp [h1, h2, hh]
  · have hh : hdE e = chkD e.d := by simp [hdE, h1]
    simp [h1, hh]
end Go.Proofs.YtmnblpjdiplioaaGreat
