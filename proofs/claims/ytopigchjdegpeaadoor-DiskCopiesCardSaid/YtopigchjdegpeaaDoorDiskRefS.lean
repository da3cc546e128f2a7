/-
  almonryref06: Sync, Remove.
-/
import Derived.Test.YtopigchjdegpeaaDoorDiskRefP
import Derived.Test.YtopigchjdegpeaaDoorDiskRefN
import Derived.Test.YtopigchjdegpeaaDoorDiskRefV
namespace Go.Proofs.YtopigchjdegpeaaDoor
open Go.RowKit

/-- what an act of the document leaves -/
def RActs (p0 : Option Addr) (r : Int × DS) (w : World) (e : Ending) (w' : World) : Prop := ∃ p c, e = .returned (.tuple #[rv r.2 p c, .int .i64 r.1]) ∧ RRow w' p r.2.l ∧ Below w.heap.size w w' ∧ ∀ g off, p = some ⟨g, off, none⟩ → p = p0 ∨ (w.heap.size ≤ g ∧ g < w'.heap.size)

theorem four_set {w : World} {b : Nat} {z0 z1 z2 z3 : Value} {t : TypeId} {fr : Nat × Nat} (h : w.heap[b]? = some (.cells #[z0, z1, z2, z3] t fr)) (v0 v1 v2 v3 : Value) :
    ((((w.setCell ⟨b, 0, none⟩ v0).setCell ⟨b, 1, none⟩ v1).setCell ⟨b, 2, none⟩ v2).setCell ⟨b, 3, none⟩ v3).heap[b]? = some (.cells #[v0, v1, v2, v3] t fr) := by
  have h0 := Joins.block_setCell h (i := 0) v0
  have h1 := Joins.block_setCell h0 (i := 1) v1
  have h2 := Joins.block_setCell h1 (i := 2) v2
  have h3 := Joins.block_setCell h2 (i := 3) v3
  simpa using h3

/-- the two blocks that an act makes first: the disk that came in, and the answer's -/
def Two (b : Nat) (x0 x1 x2 x3 y0 y1 y2 y3 : Value) (w : World) : Prop :=
  w.heap[b]? = some (.cells #[x0, x1, x2, x3] 30 (0, 0)) ∧ w.heap[b + 1]? = some (.cells #[y0, y1, y2, y3] 30 (0, 0))
theorem two_made (w : World) (x0 x1 x2 x3 y0 y1 y2 y3 : Value) : Two w.heap.size x0 x1 x2 x3 y0 y1 y2 y3 ((w.alloc (.cells #[x0, x1, x2, x3] 30)).alloc (.cells #[y0, y1, y2, y3] 30)) := by
  refine ⟨?_, heap_alloc2_new _ _ _⟩
  rw [Below.heap_alloc _ _ _ (by simp)]; exact heap_alloc_new w _
theorem Two.below {b : Nat} {x0 x1 x2 x3 y0 y1 y2 y3 : Value} {w w' : World} (h : Two b x0 x1 x2 x3 y0 y1 y2 y3 w) (hb : Below w.heap.size w w') : Two b x0 x1 x2 x3 y0 y1 y2 y3 w' :=
  ⟨by rw [hb.block b (lt_of_block h.1)]; exact h.1, by rw [hb.block (b + 1) (lt_of_block h.2)]; exact h.2⟩
theorem Two.cells {b : Nat} {x0 x1 x2 x3 y0 y1 y2 y3 : Value} {w : World} (h : Two b x0 x1 x2 x3 y0 y1 y2 y3 w) :
    w.cell? ⟨b, 0, none⟩ = some x0 ∧ w.cell? ⟨b, 1, none⟩ = some x1 ∧ w.cell? ⟨b, 2, none⟩ = some x2 ∧ w.cell? ⟨b, 3, none⟩ = some x3 ∧
    w.cell? ⟨b + 1, 0, none⟩ = some y0 ∧ w.cell? ⟨b + 1, 1, none⟩ = some y1 ∧ w.cell? ⟨b + 1, 2, none⟩ = some y2 ∧ w.cell? ⟨b + 1, 3, none⟩ = some y3 ∧
    w.frozen? ⟨b, 0, none⟩ = false ∧ w.frozen? ⟨b, 1, none⟩ = false ∧ w.frozen? ⟨b, 2, none⟩ = false ∧ w.frozen? ⟨b, 3, none⟩ = false ∧
    w.frozen? ⟨b + 1, 0, none⟩ = false ∧ w.frozen? ⟨b + 1, 1, none⟩ = false ∧ w.frozen? ⟨b + 1, 2, none⟩ = false ∧ w.frozen? ⟨b + 1, 3, none⟩ = false ∧ b + 1 < w.heap.size :=
  ⟨by rw [Joins.cell_of_block h.1]; rfl, by rw [Joins.cell_of_block h.1]; rfl, by rw [Joins.cell_of_block h.1]; rfl, by rw [Joins.cell_of_block h.1]; rfl,
   by rw [Joins.cell_of_block h.2]; rfl, by rw [Joins.cell_of_block h.2]; rfl, by rw [Joins.cell_of_block h.2]; rfl, by rw [Joins.cell_of_block h.2]; rfl,
   Joins.unfrozen_of_block h.1 0, Joins.unfrozen_of_block h.1 1, Joins.unfrozen_of_block h.1 2, Joins.unfrozen_of_block h.1 3,
   Joins.unfrozen_of_block h.2 0, Joins.unfrozen_of_block h.2 1, Joins.unfrozen_of_block h.2 2, Joins.unfrozen_of_block h.2 3, lt_of_block h.2⟩

/-- the world behind an answer's store -/
def four (w : World) (b : Nat) (v0 v1 v2 v3 : Value) : World := (((w.setCell ⟨b, 0, none⟩ v0).setCell ⟨b, 1, none⟩ v1).setCell ⟨b, 2, none⟩ v2).setCell ⟨b, 3, none⟩ v3
theorem below_four {w0 w : World} (h : Below w0.heap.size w0 w) {b : Nat} (hb : w0.heap.size ≤ b) (v0 v1 v2 v3 : Value) : Below w0.heap.size w0 ((((w.setCell ⟨b, 0, none⟩ v0).setCell ⟨b, 1, none⟩ v1).setCell ⟨b, 2, none⟩ v2).setCell ⟨b, 3, none⟩ v3) :=
  (((h.setCell hb _).setCell hb _).setCell hb _).setCell hb _

theorem two_four {b : Nat} {x0 x1 x2 x3 y0 y1 y2 y3 : Value} {w : World} (h : Two b x0 x1 x2 x3 y0 y1 y2 y3 w) (v0 v1 v2 v3 : Value) :
    Two b v0 v1 v2 v3 y0 y1 y2 y3 ((((w.setCell ⟨b, 0, none⟩ v0).setCell ⟨b, 1, none⟩ v1).setCell ⟨b, 2, none⟩ v2).setCell ⟨b, 3, none⟩ v3) :=
  ⟨four_set h.1 _ _ _ _, by rw [Below.heap_setCell _ _ _ _ (show b + 1 ≠ b by omega), Below.heap_setCell _ _ _ _ (show b + 1 ≠ b by omega), Below.heap_setCell _ _ _ _ (show b + 1 ≠ b by omega), Below.heap_setCell _ _ _ _ (show b + 1 ≠ b by omega)]; exact h.2⟩
theorem Two.alloc {b : Nat} {x0 x1 x2 x3 y0 y1 y2 y3 : Value} {w : World} (h : Two b x0 x1 x2 x3 y0 y1 y2 y3 w) (o : Obj) : Two b x0 x1 x2 x3 y0 y1 y2 y3 (w.alloc o) := h.below ((Below.refl _ _).alloc (Nat.le_refl _) o)
theorem Two.other {b g i : Nat} {x0 x1 x2 x3 y0 y1 y2 y3 : Value} {w : World} (h : Two b x0 x1 x2 x3 y0 y1 y2 y3 w) (hg : b + 1 < g) (v : Value) : Two b x0 x1 x2 x3 y0 y1 y2 y3 (w.setCell ⟨g, i, none⟩ v) :=
  ⟨by rw [Below.heap_setCell _ _ _ _ (show b ≠ g by omega)]; exact h.1, by rw [Below.heap_setCell _ _ _ _ (show b + 1 ≠ g by omega)]; exact h.2⟩
theorem Two.list {b : Nat} {x0 x1 x2 x3 y0 y1 y2 y3 : Value} {w : World} (h : Two b x0 x1 x2 x3 y0 y1 y2 y3 w) (v : Value) : Two b x0 v x2 x3 y0 y1 y2 y3 (w.setCell ⟨b, 1, none⟩ v) :=
  ⟨by have := Joins.block_setCell h.1 (i := 1) v; simpa using this, by rw [Below.heap_setCell _ _ _ _ (show b + 1 ≠ b by omega)]; exact h.2⟩

theorem RRow.set {w : World} {p : Option Addr} {l : List FS} {b i : Nat} (h : RRow w p l) (hne : ∀ g off, p = some ⟨g, off, none⟩ → g ≠ b) (v : Value) : RRow (w.setCell ⟨b, i, none⟩ v) p l := by
  rcases h with h | ⟨g, off, rfl, hlt, hc⟩
  · exact .inl h
  · have hg := hne g off rfl
    refine .inr ⟨g, off, rfl, by simpa using hlt, fun j d hj => ?_⟩
    obtain ⟨h0, h1, h2⟩ := hc j d hj
    exact ⟨by rw [World.cell?_setCell_other _ _ _ _ (by simp [hg])]; exact h0, by rw [World.cell?_setCell_other _ _ _ _ (by simp [hg])]; exact h1, by rw [World.cell?_setCell_other _ _ _ _ (by simp [hg])]; exact h2⟩
theorem RRow.four {w : World} {p : Option Addr} {l : List FS} {b : Nat} (h : RRow w p l) (hne : ∀ g off, p = some ⟨g, off, none⟩ → g ≠ b) (v0 v1 v2 v3 : Value) : RRow ((((w.setCell ⟨b, 0, none⟩ v0).setCell ⟨b, 1, none⟩ v1).setCell ⟨b, 2, none⟩ v2).setCell ⟨b, 3, none⟩ v3) p l :=
  (((h.set hne _).set hne _).set hne _).set hne _
theorem OwnR.parts {B : Nat} {v : Value} {l : List FS} {w : World} (h : OwnR B v l w) : ∃ p c, v = .slice p l.length c ∧ RRow w p l ∧ ∀ g off, p = some ⟨g, off, none⟩ → B ≤ g ∧ g < w.heap.size := by
  obtain ⟨p, c, hv, hr, _, _, hp⟩ := h.row
  refine ⟨p, c, hv, hr, fun g off he => ?_⟩
  rcases hp with ⟨h, _⟩ | ⟨g', h', hg⟩
  · rw [h] at he; cases he
  · rw [h'] at he; cases he; exact ⟨hg, (World.ownsRow.lt h g (by rw [hv, h']; rfl)).2⟩

theorem fz_room (s : DS) : s.fz.room = s.room ∧ s.fz.l = s.l := by
  unfold DS.fz; split <;> exact ⟨rfl, rfl⟩
theorem fz_pay {s : DS} (h : s.out = false) : s.fz = s.pay := by unfold DS.fz; rw [h]; rfl
theorem fz_dark {s : DS} (h : s.out = true) : s.fz = s.dark := by unfold DS.fz; rw [h]; rfl
theorem act_pay {s : DS} {l : List FS} (h : s.out = false) : actS s l = (0, { s.fz with l := l }) := by unfold actS; rw [h, fz_pay h]; rfl
theorem act_dark {s : DS} {l : List FS} (h : s.out = true) : actS s l = (10, s.fz) := by unfold actS; rw [h, fz_dark h]; rfl

set_option maxHeartbeats 4000000 in
set_option maxRecDepth 100000 in
theorem refSync_any (s : DS) (hfit : Fit s) (n : ByteArray) (p : Option Addr) (c : Nat) (w : World) (hr : RRow w p s.l) :
    Calls Tryd.prog 44 #[rv s p c, .string n] w (RActs p (syncS s n) w) := by
  have hat : ∀ W, Below w.heap.size w W → Calls Tryd.prog 42 #[rv s p c, .string n] W fun e w' => e = .returned (.int .i64 (rAt s.l n)) ∧ Below W.heap.size W w' := fun W hb => refAt_any s n p c W (hr.below hb) hfit.len
  have hfu : ∀ W, Calls Tryd.prog 56 #[rv s p c] W fun e w' => e = .returned (.tuple #[rv s.fz p c, .int .i64 (if s.out then 10 else 0)]) ∧ Below W.heap.size W w' := fun W => refFuse_any s p c W hfit.left
  rw [rAt_pos hfit.rises] at hat
  have hl := hfit.len
  unfold rv at hat hfu ⊢
  rw [(fz_room s).1, (fz_room s).2] at hfu
  have HAT := Lib.hid hat
  have HFU := Lib.hid hfu
  have HR := Lib.hid hr
  have h2m := two_made w (.int .i64 (s.room : Int)) (.slice p s.l.length c) (.bool s.off) (.int .i64 (fz s)) (.int .i64 0) (.slice none 0 0) (.bool false) (.int .i64 0)
  have hbm := below2 w (.cells #[.int .i64 (s.room : Int), .slice p s.l.length c, .bool s.off, .int .i64 (fz s)] 30) (.cells #[.int .i64 0, .slice none 0 0, .bool false, .int .i64 0] 30)
  have HB := Lib.hid hbm
  have H2 := Lib.hid h2m
  clear hat hfu hr h2m hbm
  go_enter Tryd.func44, Tryd.ntmps44
  go_wp2_with fail
  refine (HAT.out _ HB.out).mono ?_
  rintro e w1 ⟨rfl, hb1⟩
  have h2 := H2.out.below hb1
  have HB1 := Lib.hid (HB.out.trans (hb1.mono HB.out.size))
  have H2' := Lib.hid h2
  obtain ⟨x0, x1, x2, x3, y0, y1, y2, y3, f0, f1, f2, f3, g0, g1, g2, g3, hlt⟩ := h2.cells
  clear h2 hb1 H2 HB HAT
  cases ho : s.off
  · rw [ho] at x2 HFU
    cases hth : sthere s.l n
    · have HRES := Lib.hid (show syncS s n = (7, s) by simp [syncS, ho, hth])
      have HO := Lib.hid ho
      rw [if_neg (by simp)]
      clear hth ho
      go_wp2_with fail
      (try simp only [Exit.inBlock, Exit.then])
      refine bodyPost_ret (results_D rfl _ _ (w.heap.size + 1) _ _ _ _ _ (0, 0) _ rfl (four_set H2'.out.2 _ _ _ _) rfl rfl refDInfo) rfl ?_
      rw [HRES.out]
      have hB := below_four HB1.out (b := w.heap.size + 1) (by omega) (.int .i64 (s.room : Int)) (.slice p s.l.length c) (.bool false) (.int .i64 (fz s))
      exact ⟨p, c, by simp only [rv, HO.out]; rfl, HR.out.below hB, hB, fun _ _ _ => .inl rfl⟩
    · obtain ⟨f, hf, hfn⟩ := sthere_at hth
      have HO := Lib.hid ho
      rw [if_pos rfl]
      cases hout : s.out
      · have HRES := Lib.hid (show syncS s n = (0, { s.fz with l := slay s.l { f with sure := f.body.length } }) by unfold syncS; rw [if_neg (by simp [ho]), if_neg (by simp [hth]), smod_slay _ hf hfn hfn, act_pay hout])
        rw [hout] at HFU
        have hki : spos s.l n < s.l.length := (List.getElem?_eq_some_iff.1 hf).1
        clear ho hth hout
        have HF := Lib.hid hf
        obtain ⟨k, hk⟩ : ∃ k, spos s.l n = k := ⟨_, rfl⟩
        rw [hk] at HF hki
        rw [hk]
        have HK := Lib.hid hk
        clear hf hk
        go_wp2_with fail
        refine (HFU.out _).mono ?_
        rintro e w2 ⟨rfl, hb2⟩
        have HB2 := Lib.hid (HB1.out.trans (hb2.mono HB1.out.size))
        have h2 := H2'.out.below hb2
        have H22 := Lib.hid h2
        clear x0 x1 x2 x3 y0 y1 y2 y3 f0 f1 f2 f3 g0 g1 g2 g3
        obtain ⟨x0, x1, x2, x3, y0, y1, y2, y3, f0, f1, f2, f3, g0, g1, g2, g3, hlt2⟩ := h2.cells
        clear h2 hb2
        obtain ⟨b, off, rfl, hbl, c0, c1, c2⟩ : ∃ b off, p = some ⟨b, off, none⟩ ∧ b < w.heap.size ∧ w2.cell? ⟨b, off + k * 3, none⟩ = some (.string f.name) ∧ w2.cell? ⟨b, off + k * 3 + 1, none⟩ = some (.string ⟨f.body.toArray⟩) ∧ w2.cell? ⟨b, off + k * 3 + 2, none⟩ = some (.int .i64 (f.sure : Int)) := by
          rcases HR.out with h | ⟨b, off, he, hb, hc⟩
          · have := HF.out; rw [h] at this; simp at this
          · obtain ⟨d0, d1, d2⟩ := hc k f HF.out
            exact ⟨b, off, he, hb, by rw [HB2.out.cell hb]; exact d0, by rw [HB2.out.cell hb]; exact d1, by rw [HB2.out.cell hb]; exact d2⟩
        have hwl2 : w.heap.size < w2.heap.size := by omega
        have hi0 : (0 : Int) ≤ (k : Int) := by omega
        have hi1 : (k : Int) < (s.l.length : Int) := by omega
        have hB3 := below_four HB2.out (b := w.heap.size) (Nat.le_refl _) (.int .i64 (s.room : Int)) (.slice (some ⟨b, off, none⟩) s.l.length c) (.bool s.fz.off) (.int .i64 (fz s.fz))
        have hB4 := hB3.alloc hB3.size (.cells #[.string n, .string ⟨f.body.toArray⟩, .int .i64 (f.body.length : Int)] 66)
        have hT4 := (two_four H22.out (.int .i64 (s.room : Int)) (.slice (some ⟨b, off, none⟩) s.l.length c) (.bool s.fz.off) (.int .i64 (fz s.fz))).alloc (.cells #[.string n, .string ⟨f.body.toArray⟩, .int .i64 (f.body.length : Int)] 66)
        have HWC := Lib.hid (with_any s.l ⟨n, f.body, f.body.length⟩ (some ⟨b, off, none⟩) c _ (HR.out.below hB4) hl)
        have HB4 := Lib.hid hB4
        have HT4 := Lib.hid hT4
        clear hB3 hB4 hT4
        go_wp2_with fail
        refine HWC.out.mono ?_
        rintro e w5 ⟨v, rfl, hown, hb5⟩
        obtain ⟨q, cq, rfl, hrow5, hq⟩ := hown.parts
        have hT5 := HT4.out.below hb5
        have HB5 := Lib.hid (HB4.out.trans (hb5.mono HB4.out.size))
        have hqn : ∀ g off, q = some ⟨g, off, none⟩ → g ≠ w.heap.size ∧ g ≠ w.heap.size + 1 ∧ w.heap.size ≤ g ∧ g < w5.heap.size := fun g off he => by
          have h1 := hq g off he
          have h2 := lt_of_block HT4.out.2
          omega
        have HT5 := Lib.hid hT5
        have HR5 := Lib.hid (And.intro hrow5 hqn)
        clear x0 x1 x2 x3 y0 y1 y2 y3 f0 f1 f2 f3 g0 g1 g2 g3 c0 c1 c2 HWC HT4 HB4
        obtain ⟨x0, x1, x2, x3, y0, y1, y2, y3, f0, f1, f2, f3, g0, g1, g2, g3, hlt5⟩ := hT5.cells
        clear hT5 hown hb5 hrow5 hqn hq
        rw [rwith_slay hfit.rises] at *
        have hfe : ({ f with sure := f.body.length } : FS) = ⟨n, f.body, f.body.length⟩ := by rw [← hfn]
        rw [hfe] at HRES
        generalize hL : slay s.l ⟨n, f.body, f.body.length⟩ = L at *
        clear hL hfe
        go_wp2_with fail
        (try simp only [Exit.inBlock, Exit.then])
        refine bodyPost_ret (results_D rfl _ _ (w.heap.size + 1) _ _ _ _ _ (0, 0) _ rfl (four_set (HT5.out.list _).2 _ _ _ _) rfl rfl refDInfo) rfl ?_
        rw [HRES.out]
        refine ⟨q, cq, by simp only [rv, (fz_room s).1]; rfl, ?_, ?_, ?_⟩
        · exact (HR5.out.1.set (fun g off he => (HR5.out.2 g off he).1) _).four (fun g off he => (HR5.out.2 g off he).2.1) _ _ _ _
        · exact below_four (HB5.out.setCell (Nat.le_refl _) _) (by omega) _ _ _ _
        · exact fun g off he => .inr ⟨(HR5.out.2 g off he).2.2.1, by simpa using (HR5.out.2 g off he).2.2.2⟩
      · have HRES := Lib.hid (show syncS s n = (10, s.fz) by unfold syncS; rw [if_neg (by simp [ho]), if_neg (by simp [hth]), act_dark hout])
        rw [hout] at HFU
        generalize spos s.l n = k at *
        clear ho hth hout hf
        go_wp2_with fail
        refine (HFU.out _).mono ?_
        rintro e w2 ⟨rfl, hb2⟩
        have HB2 := Lib.hid (HB1.out.trans (hb2.mono HB1.out.size))
        have h2 := H2'.out.below hb2
        have H22 := Lib.hid h2
        clear x0 x1 x2 x3 y0 y1 y2 y3 f0 f1 f2 f3 g0 g1 g2 g3
        obtain ⟨x0, x1, x2, x3, y0, y1, y2, y3, f0, f1, f2, f3, g0, g1, g2, g3, hlt2⟩ := h2.cells
        clear h2 hb2
        have hwl2 : w.heap.size < w2.heap.size := by omega
        go_wp2_with fail
        (try simp only [Exit.inBlock, Exit.then])
        refine bodyPost_ret (results_D rfl _ _ (w.heap.size + 1) _ _ _ _ _ (0, 0) _ rfl (four_set (two_four H22.out _ _ _ _).2 _ _ _ _) rfl rfl refDInfo) rfl ?_
        rw [HRES.out]
        have hB := below_four (below_four HB2.out (b := w.heap.size) (Nat.le_refl _) (.int .i64 (s.room : Int)) (.slice p s.l.length c) (.bool s.fz.off) (.int .i64 (fz s.fz))) (b := w.heap.size + 1) (by omega) (.int .i64 (s.room : Int)) (.slice p s.l.length c) (.bool s.fz.off) (.int .i64 (fz s.fz))
        exact ⟨p, c, by simp only [rv, (fz_room s).1, (fz_room s).2]; rfl, by simp only [(fz_room s).2]; exact HR.out.below hB, hB, fun _ _ _ => .inl rfl⟩
  · have HRES := Lib.hid (show syncS s n = (10, s) by simp [syncS, ho])
    have HO := Lib.hid ho
    rw [ho] at x2
    generalize (if sthere s.l n = true then (spos s.l n : Int) else -1) = i
    clear ho
    go_wp2_with fail
    (try simp only [Exit.inBlock, Exit.then])
    refine bodyPost_ret (results_D rfl _ _ (w.heap.size + 1) _ _ _ _ _ (0, 0) _ rfl (four_set H2'.out.2 _ _ _ _) rfl rfl refDInfo) rfl ?_
    rw [HRES.out]
    have hB := below_four HB1.out (b := w.heap.size + 1) (by omega) (.int .i64 (s.room : Int)) (.slice p s.l.length c) (.bool true) (.int .i64 (fz s))
    exact ⟨p, c, by simp only [rv, HO.out]; rfl, HR.out.below hB, hB, fun _ _ _ => .inl rfl⟩
end Go.Proofs.YtopigchjdegpeaaDoor
