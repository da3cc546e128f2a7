/-
  almonryref01's reader R: Text, List, Done.
-/
import Derived.Test.YtmcabkoabecnnaaRefRead
import Derived.BigRegion
import Derived.RegionTactic
import Derived.ChangeAlike
namespace Go.Proofs.Ytmcabkoabecnnaa
open Go.RowKit

/-- the state that R hands on: on an error, what was left ahead -/
def qSt (st st' : ByteArray × Int) : ByteArray × Int := if st'.2 = 0 then st' else (st.1, st'.2)

theorem sText_e {st : ByteArray × Int} {n : Nat} {s1 : ByteArray} {e : Int} (h : sNum st = (n, (s1, e))) (he : e ≠ 0) : sText st = (ByteArray.empty, (s1, e)) := by
  have hc : sCount 65536 st = (0, false, (s1, e)) := by simp [sCount, h, he]
  simp [sText, hc]
theorem sText_l {st : ByteArray × Int} {n : Nat} {s1 : ByteArray} (h : sNum st = (n, (s1, 0))) (hn : 65536 < n) : sText st = (ByteArray.empty, (s1, 3)) := by
  have hc : sCount 65536 st = (0, false, (s1, 3)) := by simp [sCount, h, hn]
  simp [sText, hc]
theorem sText_c {st : ByteArray × Int} {n : Nat} {s1 : ByteArray} (h : sNum st = (n, (s1, 0))) (hn : ¬ 65536 < n) (hs : s1.size < n) : sText st = (ByteArray.empty, (s1, 4)) := by
  have hc : sCount 65536 st = (n, true, (s1, 0)) := by simp [sCount, h, hn]
  simp [sText, hc, hs]
theorem sText_k {st : ByteArray × Int} {n : Nat} {s1 : ByteArray} (h : sNum st = (n, (s1, 0))) (hn : ¬ 65536 < n) (hs : ¬ s1.size < n) : sText st = (s1.extract 0 n, (s1.extract n s1.size, 0)) := by
  have hc : sCount 65536 st = (n, true, (s1, 0)) := by simp [sCount, h, hn]
  simp [sText, hc, hs]

/-- two blocks of two cells, made ahead of a call that leaves them alone -/
theorem two_keep {w w1 : World} {T : TypeId} {x0 x1 y0 y1 : Value} (h : Below ((w.alloc (.cells #[x0, x1] T)).alloc (.cells #[y0, y1] T)).heap.size ((w.alloc (.cells #[x0, x1] T)).alloc (.cells #[y0, y1] T)) w1) :
    w1.cell? ⟨w.heap.size, 0, none⟩ = some x0 ∧ w1.cell? ⟨w.heap.size, 1, none⟩ = some x1 ∧ w1.cell? ⟨w.heap.size + 1, 0, none⟩ = some y0 ∧ w1.cell? ⟨w.heap.size + 1, 1, none⟩ = some y1 ∧
    w1.frozen? ⟨w.heap.size + 1, 0, none⟩ = false ∧ w1.frozen? ⟨w.heap.size + 1, 1, none⟩ = false ∧ w.heap.size + 1 < w1.heap.size ∧ Below w.heap.size w w1 := by
  have hz := h.size
  have e0 : ((w.alloc (.cells #[x0, x1] T)).alloc (.cells #[y0, y1] T)).heap[w.heap.size]? = some (.cells #[x0, x1] T (0, 0)) := by
    rw [Below.heap_alloc _ _ _ (by simp)]; simp [World.alloc, -World.alloc_eq]
  have e1 : ((w.alloc (.cells #[x0, x1] T)).alloc (.cells #[y0, y1] T)).heap[w.heap.size + 1]? = some (.cells #[y0, y1] T (0, 0)) := by
    show ((w.heap.push _).push _)[w.heap.size + 1]? = _
    have : w.heap.size + 1 = (w.heap.push (.cells #[x0, x1] T)).size := by simp
    rw [this, Array.getElem?_push_size]
  have h0 : w1.heap[w.heap.size]? = some (.cells #[x0, x1] T (0, 0)) := by rw [h.block _ (by simp; omega)]; exact e0
  have h1 : w1.heap[w.heap.size + 1]? = some (.cells #[y0, y1] T (0, 0)) := by rw [h.block _ (by simp)]; exact e1
  refine ⟨by rw [Joins.cell_of_block h0]; rfl, by rw [Joins.cell_of_block h0]; rfl, by rw [Joins.cell_of_block h1]; rfl, by rw [Joins.cell_of_block h1]; rfl, Joins.unfrozen_of_block h1 0, Joins.unfrozen_of_block h1 1, by simp at hz; omega, (below2 w _ _).trans (h.mono (by simp; omega))⟩

/-- a result of two cells, stored, and a block made behind it -/
theorem ends0 {w : World} {b : Nat} {y0 y1 : Value} (h0 : w.cell? ⟨b, 0, none⟩ = some y0) (h1 : w.cell? ⟨b, 1, none⟩ = some y1) (hlt : b < w.heap.size) (x0 x1 : Value) (o : Obj) :
    (((w.setCell ⟨b, 0, none⟩ x0).setCell ⟨b, 1, none⟩ x1).alloc o).cell? ⟨b, 0, none⟩ = some x0 := by
  rw [World.cell?_alloc_past _ _ _ (by simpa using hlt), World.cell?_setCell_other _ _ _ _ (by simp), World.cell?_setCell_same _ _ _ h0]
theorem ends1 {w : World} {b : Nat} {y0 y1 : Value} (h0 : w.cell? ⟨b, 0, none⟩ = some y0) (h1 : w.cell? ⟨b, 1, none⟩ = some y1) (hlt : b < w.heap.size) (x0 x1 : Value) (o : Obj) :
    (((w.setCell ⟨b, 0, none⟩ x0).setCell ⟨b, 1, none⟩ x1).alloc o).cell? ⟨b, 1, none⟩ = some x1 := by
  rw [World.cell?_alloc_past _ _ _ (by simpa using hlt), World.cell?_setCell_same _ _ _ ((World.cell?_setCell_other _ _ _ _ (by simp)).trans h1)]

set_option maxHeartbeats 4000000 in
set_option maxRecDepth 100000 in
theorem refR_text (s : ByteArray) (er : Int) (hs : s.size ≤ 9223372036854775807) (w : World) :
    Calls Try.prog 21 #[.agg #[.string s, .int .i64 er]] w fun e w' => e = .returned (.tuple #[rv (qSt (s, er) (sText (s, er)).2), .string (sText (s, er)).1]) ∧ Below w.heap.size w w' := by
  have hsz1 := sNum_size (s, er)
  go_enter Try.func21, Try.ntmps21
  go_wp2_with fail
  refine (refR_num s er hs _).mono ?_
  rintro e w1 ⟨rfl, hb1⟩
  generalize hr : sNum (s, er) = r at hsz1 ⊢
  obtain ⟨n, s1, e1⟩ := r
  simp only at hsz1
  have HR := Lib.hid hr
  clear hr
  obtain ⟨c10, c11, r0, r1, f0, f1, hz1, hB1⟩ := two_keep hb1
  clear hb1
  have hz0 : w.heap.size < w1.heap.size := by omega
  have hB1' : ∀ o v0 v1, Below w.heap.size w (((w1.setCell ⟨w.heap.size + 1, 0, none⟩ v0).setCell ⟨w.heap.size + 1, 1, none⟩ v1).alloc o) := fun o v0 v1 => ((hB1.setCell (by simp) _).setCell (by simp) _).alloc (by simp; omega) o
  have HE0 := Lib.hid (ends0 r0 r1 hz1)
  have HE1 := Lib.hid (ends1 r0 r1 hz1)
  have HB := Lib.hid hB1'
  clear hB1' hB1
  by_cases he : e1 = 0
  · subst he
    by_cases hn : 65536 < n
    · have hS := sText_l HR.out hn
      have HS := Lib.hid hS
      clear hS
      go_wp2
      refine bodyPost_ret (v := .tuple #[rv (s, 3), .string ⟨#[]⟩]) (by simp [results, Try.results21, go_sem, HE0.out, HE1.out]) rfl ?_
      rw [HS.out]
      exact ⟨rfl, HB.out _ _ _⟩
    · by_cases hc : s1.size < n
      · have hS := sText_c HR.out hn hc
        have HS := Lib.hid hS
        clear hS
        go_wp2
        refine bodyPost_ret (v := .tuple #[rv (s, 4), .string ⟨#[]⟩]) (by simp [results, Try.results21, go_sem, HE0.out, HE1.out]) rfl ?_
        rw [HS.out]
        exact ⟨rfl, HB.out _ _ _⟩
      · have hS := sText_k HR.out hn hc
        have HS := Lib.hid hS
        have hle : (n : Int) ≤ (s1.size : Int) := by omega
        clear hS
        go_wp2
        go_region
        go_wp2
        refine bodyPost_ret (v := .tuple #[rv (s1.extract n s1.size, 0), .string (s1.extract 0 n)]) (by simp [results, Try.results21, go_sem, HE0.out, HE1.out]) rfl ?_
        rw [HS.out]
        exact ⟨rfl, (HB.out _ _ _).drew⟩
  · have hb : (e1 != 0) = true := by simp [he]
    have hS := sText_e HR.out he
    have HS := Lib.hid hS
    clear hS
    go_wp2
    refine bodyPost_ret (v := .tuple #[rv (s, e1), .string ⟨#[]⟩]) (by simp [results, Try.results21, go_sem, HE0.out, HE1.out]) rfl ?_
    rw [HS.out]
    refine ⟨?_, HB.out _ _ _⟩
    simp [qSt, he]; rfl
end Go.Proofs.Ytmcabkoabecnnaa
