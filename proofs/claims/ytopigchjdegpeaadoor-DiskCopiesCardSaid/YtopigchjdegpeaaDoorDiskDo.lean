/-
  almonrylaw06: files, Do: a deed on both disks.
-/
import Derived.Test.YtopigchjdegpeaaDoorDiskFew
import Derived.Test.YtopigchjdegpeaaDoorDiskRefA
import Derived.Test.YtopigchjdegpeaaDoorDiskRefD
import Derived.Test.YtopigchjdegpeaaDoorDiskRefM
import Derived.Test.YtopigchjdegpeaaDoorDiskRefC
import Derived.Deep.RegionHeld3
namespace Go.Proofs.YtopigchjdegpeaaDoor
open Go.RowKit

theorem Fr.trans {b0 b1 b2 : List Nat} {w w1 w2 : World} (h : Fr b0 b1 w w1) (g : Fr b1 b2 w1 w2) : Fr b0 b2 w w2 := by
  refine ⟨g.os.trans h.os, g.tape.trans h.tape, g.output.trans h.output, Nat.le_trans h.size g.size, fun k hk hn => ?_, fun k hk => ?_⟩
  · rw [g.block k (Nat.lt_of_lt_of_le hk h.size) (fun h1 => by
      rcases h.fresh k h1 with h2 | h2
      · exact hn h2
      · omega), h.block k hk hn]
  · rcases g.fresh k hk with h1 | h1
    · exact h.fresh k h1
    · exact .inr (Nat.le_trans h.size h1)

/-- The document's files lie apart from the blocks bl. -/
def RowF (w : World) (p : Option Addr) (l : List FS) (bl : List Nat) : Prop := RRow w p l ∧ ∀ g off, p = some ⟨g, off, none⟩ → g ∉ bl ∧ g < w.heap.size

theorem RowF.fr {w w' : World} {p : Option Addr} {l : List FS} {bl bl' : List Nat} (h : RowF w p l bl) (hf : Fr bl bl' w w') : RowF w' p l bl' := by
  refine ⟨?_, fun g off he => ?_⟩
  · rcases h.1 with h0 | ⟨b, off, rfl, hlt, hc⟩
    · exact .inl h0
    · have hb := hf.block b hlt (h.2 b off rfl).1
      refine .inr ⟨b, off, rfl, Nat.lt_of_lt_of_le hlt hf.size, fun j d hj => ?_⟩
      obtain ⟨h0, h1, h2⟩ := hc j d hj
      exact ⟨(World.cell?_of_block hb).trans h0, (World.cell?_of_block hb).trans h1, (World.cell?_of_block hb).trans h2⟩
  · obtain ⟨h1, h2⟩ := h.2 g off he
    refine ⟨fun h3 => ?_, Nat.lt_of_lt_of_le h2 hf.size⟩
    rcases hf.fresh g h3 with h4 | h4
    · exact h1 h4
    · omega
theorem RowF.below {w w' : World} {p : Option Addr} {l : List FS} {bl : List Nat} (h : RowF w p l bl) (hb : Below w.heap.size w w') : RowF w' p l bl := h.fr (Fr.of_below hb)

def filesS (s : DS) (d : Dd) : Int × DS :=
  if d.kind = 0 then appendS s d.name d.body else if d.kind = 1 then syncS s d.name else if d.kind = 2 then renameS s d.name d.dest else removeS s d.name
/-- the disk behind a deed -/
def doS (s : DS) (d : Dd) : DS := if d.kind = 4 then s else if d.kind = 5 then fuseS s d.n else if d.kind = 6 then crashS s d.n else (filesS s d).2

/-- what a deed leaves -/
def DoPost (a : Addr) (w0 : World) (D : Nat) (bl : List Nat) (p0 : Option Addr) (s : DS) (w : World) (e : Ending) (w' : World) : Prop :=
  ∃ bl' p c, e = .returned (.tuple #[rv s p c, .bool true]) ∧ AW a w0 D s bl' w' ∧ RowF w' p s.l bl' ∧ Fr bl bl' w w' ∧ ∀ g off, p = some ⟨g, off, none⟩ → p = p0 ∨ w.heap.size ≤ g

/-- what lies in the blocks that files and Do make first -/
def Three (b : Nat) (x0 x1 x2 x3 k0 k1 k2 k3 k4 : Value) (w : World) : Prop :=
  w.heap[b]? = some (.cells #[x0, x1, x2, x3] 30 (0, 0)) ∧ w.heap[b + 1]? = some (.cells #[k0, k1, k2, k3, k4] 34 (0, 0)) ∧
  w.heap[b + 2]? = some (.cells #[.int .i64 0, .slice none 0 0, .bool false, .int .i64 0] 30 (0, 0))
theorem three_made (w : World) (x0 x1 x2 x3 k0 k1 k2 k3 k4 : Value) : Three w.heap.size x0 x1 x2 x3 k0 k1 k2 k3 k4 (((w.alloc (.cells #[x0, x1, x2, x3] 30)).alloc (.cells #[k0, k1, k2, k3, k4] 34)).alloc (.cells #[.int .i64 0, .slice none 0 0, .bool false, .int .i64 0] 30)) := by
  have h2 := heap_alloc2_new (w.alloc (.cells #[x0, x1, x2, x3] 30)) (.cells #[k0, k1, k2, k3, k4] 34) (.cells #[.int .i64 0, .slice none 0 0, .bool false, .int .i64 0] 30)
  have h1 := heap_alloc2_new w (.cells #[x0, x1, x2, x3] 30) (.cells #[k0, k1, k2, k3, k4] 34)
  have h0 := heap_alloc_new w (.cells #[x0, x1, x2, x3] 30)
  refine ⟨?_, ?_, by simpa using h2⟩
  · rw [Below.heap_alloc _ _ _ (by simp; omega), Below.heap_alloc _ _ _ (by simp)]; exact h0
  · rw [Below.heap_alloc _ _ _ (by simp)]; exact h1
theorem Three.keep {b : Nat} {x0 x1 x2 x3 k0 k1 k2 k3 k4 : Value} {w w' : World} (h : Three b x0 x1 x2 x3 k0 k1 k2 k3 k4 w) (hb : ∀ k, k = b ∨ k = b + 1 ∨ k = b + 2 → w'.heap[k]? = w.heap[k]?) : Three b x0 x1 x2 x3 k0 k1 k2 k3 k4 w' :=
  ⟨by rw [hb _ (.inl rfl)]; exact h.1, by rw [hb _ (.inr (.inl rfl))]; exact h.2.1, by rw [hb _ (.inr (.inr rfl))]; exact h.2.2⟩
theorem Three.lt {b : Nat} {x0 x1 x2 x3 k0 k1 k2 k3 k4 : Value} {w : World} (h : Three b x0 x1 x2 x3 k0 k1 k2 k3 k4 w) : b + 2 < w.heap.size := lt_of_block h.2.2
theorem Three.below {b : Nat} {x0 x1 x2 x3 k0 k1 k2 k3 k4 : Value} {w w' : World} (h : Three b x0 x1 x2 x3 k0 k1 k2 k3 k4 w) (hb : Below w.heap.size w w') : Three b x0 x1 x2 x3 k0 k1 k2 k3 k4 w' :=
  h.keep fun k hk => hb.block k (by have := h.lt; omega)
theorem Three.cells {b : Nat} {x0 x1 x2 x3 k0 k1 k2 k3 k4 : Value} {w : World} (h : Three b x0 x1 x2 x3 k0 k1 k2 k3 k4 w) :
    w.cell? ⟨b, 0, none⟩ = some x0 ∧ w.cell? ⟨b, 1, none⟩ = some x1 ∧ w.cell? ⟨b, 2, none⟩ = some x2 ∧ w.cell? ⟨b, 3, none⟩ = some x3 ∧
    w.cell? ⟨b + 1, 0, none⟩ = some k0 ∧ w.cell? ⟨b + 1, 1, none⟩ = some k1 ∧ w.cell? ⟨b + 1, 2, none⟩ = some k2 ∧ w.cell? ⟨b + 1, 3, none⟩ = some k3 ∧ w.cell? ⟨b + 1, 4, none⟩ = some k4 ∧
    w.cell? ⟨b + 2, 0, none⟩ = some (.int .i64 0) ∧ w.cell? ⟨b + 2, 1, none⟩ = some (.slice none 0 0) ∧ w.cell? ⟨b + 2, 2, none⟩ = some (.bool false) ∧ w.cell? ⟨b + 2, 3, none⟩ = some (.int .i64 0) ∧
    (∀ i, w.frozen? ⟨b, i, none⟩ = false) ∧ (∀ i, w.frozen? ⟨b + 2, i, none⟩ = false) :=
  ⟨by rw [Joins.cell_of_block h.1]; rfl, by rw [Joins.cell_of_block h.1]; rfl, by rw [Joins.cell_of_block h.1]; rfl, by rw [Joins.cell_of_block h.1]; rfl,
   by rw [Joins.cell_of_block h.2.1]; rfl, by rw [Joins.cell_of_block h.2.1]; rfl, by rw [Joins.cell_of_block h.2.1]; rfl, by rw [Joins.cell_of_block h.2.1]; rfl, by rw [Joins.cell_of_block h.2.1]; rfl,
   by rw [Joins.cell_of_block h.2.2]; rfl, by rw [Joins.cell_of_block h.2.2]; rfl, by rw [Joins.cell_of_block h.2.2]; rfl, by rw [Joins.cell_of_block h.2.2]; rfl,
   Joins.unfrozen_of_block h.1, Joins.unfrozen_of_block h.2.2⟩

/-- what holds in the midst of files -/
structure Mid (a : Addr) (w0 : World) (D : Nat) (s : DS) (bl : List Nat) (p : Option Addr) (w w' : World) : Prop where
  aw : AW a w0 D s bl w'
  row : RowF w' p s.l bl
  below : Below w.heap.size w w'

theorem Mid.keep {a : Addr} {w0 : World} {D : Nat} {s : DS} {bl : List Nat} {p : Option Addr} {w w1 w2 : World} (h : Mid a w0 D s bl p w w1) (hb : Below w1.heap.size w1 w2) : Mid a w0 D s bl p w w2 :=
  ⟨h.aw.keep hb, h.row.below hb, h.below.trans (hb.mono h.below.size)⟩

theorem row_of {w w1 w2 : World} {p0 p : Option Addr} {l0 l : List FS} {bl : List Nat} (h0 : RowF w p0 l0 bl) (hlt : ∀ k ∈ bl, k < w.heap.size) (hb : Below w.heap.size w w1) (hb2 : w.heap.size ≤ w1.heap.size) (hr : RRow w2 p l) (hs : w1.heap.size ≤ w2.heap.size) (hf : ∀ g off, p = some ⟨g, off, none⟩ → p = p0 ∨ (w1.heap.size ≤ g ∧ g < w2.heap.size)) : RowF w2 p l bl := by
  refine ⟨hr, fun g off he => ?_⟩
  rcases hf g off he with h | h
  · rw [h] at he
    obtain ⟨h1, h2⟩ := h0.2 g off he
    exact ⟨h1, by omega⟩
  · exact ⟨fun h3 => by have := hlt g h3; omega, h.2⟩
theorem fr_four (w : World) (b : Nat) (v0 v1 v2 v3 : Value) : Fr [b] [b] w ((((w.setCell ⟨b, 0, none⟩ v0).setCell ⟨b, 1, none⟩ v1).setCell ⟨b, 2, none⟩ v2).setCell ⟨b, 3, none⟩ v3) := by
  refine ⟨rfl, rfl, rfl, by simp, fun k _ hk => ?_, fun k hk => .inl hk⟩
  have hne : k ≠ b := by simpa using hk
  rw [Below.heap_setCell _ _ _ _ hne, Below.heap_setCell _ _ _ _ hne, Below.heap_setCell _ _ _ _ hne, Below.heap_setCell _ _ _ _ hne]
/-- a block that is none of the disk's is turned -/
theorem AW.turn {a : Addr} {w0 : World} {D : Nat} {s : DS} {bl : List Nat} {w w' : World} (h : AW a w0 D s bl w) {b : Nat} (hf : Fr [b] [b] w w') (hb : b ∉ bl) (hw : w0.heap.size ≤ b) : AW a w0 D s bl w' := by
  have hbel : Below w0.heap.size w w' := hf.below (fun k hk => by have : k = b := by simpa using hk
                                                                  omega) h.below.size
  exact ⟨h.below.trans hbel, h.pow.below hbel h.glob, (h.disk.other hf (fun k hk hk2 => hb (by have : k = b := by simpa using hk2
                                                                                               rw [← this]; exact hk))).1, h.glob⟩
theorem Fr.more {bl bl' : List Nat} {w w1 w2 : World} (h : Fr bl bl' w w1) {b : Nat} (hf : Fr [b] [b] w1 w2) (hb : w.heap.size ≤ b) : Fr bl bl' w w2 :=
  ⟨hf.os.trans h.os, hf.tape.trans h.tape, hf.output.trans h.output, Nat.le_trans h.size hf.size, fun k hk hn => by rw [hf.block k (Nat.lt_of_lt_of_le hk h.size) (by simp; omega)]; exact h.block k hk hn, h.fresh⟩
theorem RowF.four {w : World} {p : Option Addr} {l : List FS} {bl : List Nat} (h : RowF w p l bl) {b : Nat} (hn : ∀ g off, p = some ⟨g, off, none⟩ → g ≠ b) (v0 v1 v2 v3 : Value) : RowF ((((w.setCell ⟨b, 0, none⟩ v0).setCell ⟨b, 1, none⟩ v1).setCell ⟨b, 2, none⟩ v2).setCell ⟨b, 3, none⟩ v3) p l bl :=
  ⟨h.1.four hn _ _ _ _, fun g off he => by have := h.2 g off he; simpa using this⟩
theorem cell_four {w : World} {b c i : Nat} {v0 v1 v2 v3 v : Value} (h : w.cell? ⟨c, i, none⟩ = some v) (hne : c ≠ b) : ((((w.setCell ⟨b, 0, none⟩ v0).setCell ⟨b, 1, none⟩ v1).setCell ⟨b, 2, none⟩ v2).setCell ⟨b, 3, none⟩ v3).cell? ⟨c, i, none⟩ = some v := by
  rw [World.cell?_setCell_other _ _ _ _ (by simp [hne]), World.cell?_setCell_other _ _ _ _ (by simp [hne]), World.cell?_setCell_other _ _ _ _ (by simp [hne]), World.cell?_setCell_other _ _ _ _ (by simp [hne])]
  exact h
theorem Fr.drews {bl bl' : List Nat} {w w1 : World} (h : Fr bl bl' w.drew w1) : Fr bl bl' w w1 := ⟨h.os, h.tape, h.output, h.size, h.block, h.fresh⟩
theorem Fr.drew2 {bl bl' : List Nat} {w w1 : World} (h : Fr bl bl' w w1) : Fr bl bl' w w1.drew := ⟨h.os, h.tape, h.output, h.size, h.block, h.fresh⟩
theorem AW.drew {a : Addr} {w0 : World} {D : Nat} {s : DS} {bl : List Nat} {w : World} (h : AW a w0 D s bl w) : AW a w0 D s bl w.drew := h.keep (Below.refl _ _).drew
end Go.Proofs.YtopigchjdegpeaaDoor
