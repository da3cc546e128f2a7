/-
  almonrylaw11: awake.
-/
import Derived.Test.YtoiafhbembhppaaDotSortR
import Derived.Test.YtoiafhbembhppaaDotRdR
namespace Go.Proofs.Ytoiafhbembhppaa
open Go.RowKit Go.Sort

theorem din_cells (w : World) (l : List Dt) : DIn (w.alloc (.cells (rowD l).toArray 31)) (some ⟨w.heap.size, 0, none⟩) l := by
  refine .inr ⟨w.heap.size, 0, rfl, by simp, fun j d hj => ?_⟩
  obtain ⟨h1, h2⟩ := rowD_at l j d hj
  refine ⟨?_, ?_⟩
  · rw [Joins.cell_of_block (heap_alloc_new w _)]; simpa using h1
  · rw [Joins.cell_of_block (heap_alloc_new w _)]; simpa using h2

def aL0 : List Dt := [(1, 2), (0, 3), (1, 2)]
def aL1 : List Dt := [(0, 3), (1, 2)]
def aL2 : List Dt := [(1, 2), (0, 3)]
theorem aw_sort : sortD aL0 = aL1 := by decide +kernel
theorem aw_put : putD aL1 = (⟨#[2, 0, 3, 1, 2]⟩, 0) := by decide +kernel
theorem aw_read : readD ⟨#[2, 0, 3, 1, 2]⟩ = (aL1, 0) := read_put aw_put
theorem aw_flat : putD aL2 = (⟨#[]⟩, 5) := by decide +kernel
theorem aw_bad : readD ⟨#[1, 16, 1]⟩ = ([], 2) := by decide +kernel

/-- two rows of one's own, told apart, or the same -/
theorem same_any (x y : List Dt) (n m : Nat) (hn : x.length = n) (hm : y.length = m) (a b : Option Addr) (ca cb : Nat) (w : World) (hx : DIn w a x) (hy : DIn w b y) (hlx : n ≤ maxLen) (hly : m ≤ maxLen) (t : Bool) (ht : decide (x = y) = t) :
    Calls Try.prog 14 #[.slice a n ca, .slice b m cb] w fun e w' => e = .returned (.bool t) ∧ Below w.heap.size w w' := by
  subst hn hm ht
  exact (sameR x y a b ca cb w hx hy hlx hly).mono fun e w' ⟨h1, k, h2⟩ => ⟨h1, by rw [h2]; exact belowN (Below.refl _ _) k⟩

set_option maxHeartbeats 4000000 in
set_option maxRecDepth 100000 in
theorem dotAwake (w : World) : Calls Try.prog 7 #[] w fun e w' => e = .returned (.bool true) ∧ Below w.heap.size w w' := by
  go_enter Try.func7, Try.ntmps7
  go_wp2_with fail
  have hd0 := din_cells w aL0
  have hb0 : Below w.heap.size w (w.alloc (.cells (rowD aL0).toArray 31)) := (Below.refl _ _).alloc (Nat.le_refl _) _
  refine (sortC aL0 (some ⟨w.heap.size, 0, none⟩) 3 _ hd0 (by decide)).mono ?_
  rintro e w1 ⟨v1, rfl, hown1, hb1⟩
  rw [aw_sort] at hown1
  have HB1 := Lib.hid (hb0.trans (hb1.mono hb0.size))
  obtain ⟨a1, c1, rfl, hdin1, -⟩ := hown1.din
  have HD1 := Lib.hid hdin1
  have hl1 : aL1.length = 2 := rfl
  rw [hl1]
  clear hd0 hb0 hb1 hown1 hdin1
  go_wp2_with fail
  refine (putDC aL1 a1 c1 w1 HD1.out (by decide)).mono ?_
  rw [aw_put]
  rintro e w2 ⟨rfl, hb2⟩
  have HB2 := Lib.hid (HB1.out.trans (hb2.mono HB1.out.size))
  have HD2 := Lib.hid (HD1.out.below hb2)
  clear hb2 HD1 HB1
  go_wp2_with fail
  refine (readDC ⟨#[2, 0, 3, 1, 2]⟩ (by decide) w2).mono ?_
  rw [aw_read]
  rintro e w3 ⟨v3, rfl, hown3, hb3⟩
  obtain ⟨a3, c3, rfl, hdin3, -⟩ := hown3.din
  have HB3 := Lib.hid (HB2.out.trans (hb3.mono HB2.out.size))
  have HD3 := Lib.hid (And.intro (HD2.out.below hb3) hdin3)
  rw [hl1]
  clear hb3 hown3 hdin3 HD2 HB2
  go_wp2_with fail
  have hd4 := din_cells w3 aL2
  have hb4 : Below w3.heap.size w3 (w3.alloc (.cells (rowD aL2).toArray 31)) := (Below.refl _ _).alloc (Nat.le_refl _) _
  have hput4 := putDC aL2 (some ⟨w3.heap.size, 0, none⟩) 2 _ hd4 (by decide)
  rw [aw_flat] at hput4
  refine Calls.mono hput4 ?_
  rintro e w4 ⟨rfl, hb4'⟩
  have hb4t := hb4.trans (hb4'.mono hb4.size)
  have HB4 := Lib.hid (HB3.out.trans (hb4t.mono HB3.out.size))
  have HD4 := Lib.hid (And.intro (HD3.out.1.below hb4t) (HD3.out.2.below hb4t))
  clear hd4 hb4 hput4 hb4' hb4t HD3 HB3
  go_wp2_with fail
  refine (readDC ⟨#[1, 16, 1]⟩ (by decide) w4).mono ?_
  rw [aw_bad]
  rintro e w5 ⟨v5, rfl, hown5, hb5⟩
  have HB5 := Lib.hid (HB4.out.trans (hb5.mono HB4.out.size))
  have HD5 := Lib.hid (And.intro (HD4.out.1.below hb5) (HD4.out.2.below hb5))
  obtain ⟨a5, c5, rfl, -, -⟩ := hown5.din
  clear hb5 HD4 HB4 hown5
  go_wp2_with fail
  have hd6 := din_cells w5 aL1
  have hb6 : Below w5.heap.size w5 (w5.alloc (.cells (rowD aL1).toArray 31)) := (Below.refl _ _).alloc (Nat.le_refl _) _
  have hsame6 := same_any aL1 aL1 2 2 rfl rfl a1 (some ⟨w5.heap.size, 0, none⟩) c1 2 _ (HD5.out.1.below hb6) hd6 (by decide) (by decide) true (by simp)
  refine Calls.mono hsame6 ?_
  rintro e w6 ⟨rfl, hb6'⟩
  have hb6t := hb6.trans (hb6'.mono hb6.size)
  have HB6 := Lib.hid (HB5.out.trans (hb6t.mono HB5.out.size))
  have HD6 := Lib.hid (And.intro (HD5.out.1.below hb6t) (HD5.out.2.below hb6t))
  have hl0 : ([] : List Dt).length = 0 := rfl
  clear hd6 hb6 hsame6 hb6' hb6t HD5 HB5
  go_wp2_with fail
  refine (same_any aL1 aL1 2 2 rfl rfl a3 a1 c3 c1 w6 HD6.out.2 HD6.out.1 (by decide) (by decide) true (by simp)).mono ?_
  rintro e w7 ⟨rfl, hb7⟩
  have HB7 := Lib.hid (HB6.out.trans (hb7.mono HB6.out.size))
  clear hb7 HD6 HB6
  go_wp2_with fail
  refine (lessCb (0, 9) (1, 1) w7).mono ?_
  have hlt : ltD (0, 9) (1, 1) = true := by decide
  rw [hlt]
  rintro e w8 ⟨rfl, hb8⟩
  have HB8 := Lib.hid (HB7.out.trans (hb8.mono HB7.out.size))
  clear hb8 HB7 hlt
  go_wp2_with fail
  go_ret
  exact ⟨rfl, HB8.out⟩
end Go.Proofs.Ytoiafhbembhppaa
