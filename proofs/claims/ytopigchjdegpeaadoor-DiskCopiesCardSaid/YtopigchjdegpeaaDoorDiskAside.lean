/-
  Two disks side by side, each with the document's in a box.
-/
import Derived.Test.YtopigchjdegpeaaDoorDiskPS
namespace Go.Proofs.YtopigchjdegpeaaDoor
open Go.RowKit

/-- What belongs to one disk lies apart from the other's blocks and box. -/
structure Aside (bl : List Nat) (bx : Nat) (p : Option Addr) (bl2 : List Nat) (yy : Nat) : Prop where
  d1 : ∀ k ∈ bl, k ∉ bl2
  d2 : bx ∉ bl2
  d3 : ∀ g off, p = some ⟨g, off, none⟩ → g ∉ bl2
  e1 : yy ∉ bl
  e2 : bx ≠ yy
  e3 : ∀ g off, p = some ⟨g, off, none⟩ → g ≠ yy

variable {a : Addr} {w0 : World} {D D2 : Nat} {s s3 : DS} {bl bl2 bl3 : List Nat} {bx yy : Nat} {p : Option Addr} {c : Nat} {w w' : World}

theorem PS.aside (h : PS a w0 D s bl bx p c w) (ha : Aside bl bx p bl2 yy) (h2 : AW a w0 D2 s3 bl2 w) (hf : Fr bl2 bl3 w w') : PS a w0 D s bl bx p c w' ∧ Aside bl bx p bl3 yy := by
  have hlt := h.lt
  obtain ⟨h3, h4⟩ := h.aw.other h2 hf ha.d1
  have hr := ((show RowF w p s.l bl2 from ⟨h.row.1, fun g off he => ⟨ha.d3 g off he, (h.row.2 g off he).2⟩⟩).fr hf).1
  refine ⟨⟨h3, ⟨hr, fun g off he => ⟨(h.row.2 g off he).1, Nat.lt_of_lt_of_le (h.row.2 g off he).2 hf.size⟩⟩, by rw [hf.block bx hlt ha.d2]; exact h.box, h.far, h.apart, h.base⟩, ⟨h4, fun hin => ?_, fun g off he hin => ?_, ha.e1, ha.e2, ha.e3⟩⟩
  · rcases hf.fresh _ hin with h5 | h5
    · exact ha.d2 h5
    · omega
  · rcases hf.fresh _ hin with h5 | h5
    · exact ha.d3 g off he h5
    · have := (h.row.2 g off he).2; omega
theorem PS.turned (h : PS a w0 D s bl bx p c w) {y : Nat} (e1 : y ∉ bl) (e2 : bx ≠ y) (e3 : ∀ g off, p = some ⟨g, off, none⟩ → g ≠ y) (eb : w0.heap.size ≤ y) (hf : Fr [y] [y] w w') : PS a w0 D s bl bx p c w' := by
  have hr := ((show RowF w p s.l [y] from ⟨h.row.1, fun g off he => ⟨by simpa using e3 g off he, (h.row.2 g off he).2⟩⟩).fr hf).1
  exact ⟨h.aw.turn hf e1 eb, ⟨hr, fun g off he => ⟨(h.row.2 g off he).1, Nat.lt_of_lt_of_le (h.row.2 g off he).2 hf.size⟩⟩, by rw [hf.block bx h.lt (by simpa using e2)]; exact h.box, h.far, h.apart, h.base⟩
theorem PS.copies (h : PS a w0 D s bl bx p c w) {w2 : World} (hm : Made s w D2 bl2 w2) (o : Obj) (ho : o = .cells #[.int .i64 (s.room : Int), .slice p s.l.length c, .bool s.off, .int .i64 (fz s)] 30) :
    PS a w0 D s bl bx p c (w2.alloc o) ∧ PS a w0 D2 s bl2 w2.heap.size p c (w2.alloc o) ∧ Aside bl bx p bl2 w2.heap.size := by
  subst ho
  have hb := Joins.below_alloc1 w2 (.cells #[.int .i64 (s.room : Int), .slice p s.l.length c, .bool s.off, .int .i64 (fz s)] 30)
  obtain ⟨_, h2, _⟩ := h.aw.copied hm
  have hlt := h.lt
  have hsz := hm.2.size
  have hge : ∀ k ∈ bl2, w.heap.size ≤ k ∧ k < w2.heap.size := fun k hk => hm.1.lt k hk
  have hbl : ∀ k ∈ bl, k < w.heap.size := fun k hk => (h.aw.disk.lt k hk).2
  have hpg : ∀ g off, p = some ⟨g, off, none⟩ → g < w.heap.size := fun g off he => (h.row.2 g off he).2
  refine ⟨(h.keep hm.2).keep hb, ⟨h2.keep hb, ⟨((h.row.1).below hm.2).below hb, fun g off he => ⟨fun hin => ?_, ?_⟩⟩, heap_alloc_new w2 _, fun hin => ?_, fun g off he => ?_, ?_⟩, ⟨fun k hk hk2 => ?_, fun hin => ?_, fun g off he hin => ?_, fun hin => ?_, ?_, fun g off he => ?_⟩⟩
  · have := (hge g hin).1; have := hpg g off he; omega
  · have := hpg g off he; simp; omega
  · have := (hge _ hin).2; omega
  · have := hpg g off he; omega
  · have := h.aw.below.size; omega
  · have := (hge k hk2).1; have := hbl k hk; omega
  · have := (hge _ hin).1; omega
  · have := (hge g hin).1; have := hpg g off he; omega
  · have := hbl _ hin; omega
  · omega
  · have := hpg g off he; omega
end Go.Proofs.YtopigchjdegpeaaDoor
