/-
  How a name, and names, that came in are opened.
-/
import Derived.Test.YtoiafhbembhppaaKit
import Derived.Test.YtoiafhbembhppaaDotRow
import Derived.Test.YtoiafhbembhppaaDotOpen
import Derived.Deep.Slices
import Derived.Lib.LaidU8
import Derived.LaidLaws
namespace Go.Proofs.Ytoiafhbembhppaa
set_option maxRecDepth 100000
open Go.ChangeShapes Go.WideShapes Go.ChangeAt Go.RowKit Go.Deep
open Go.ChangeMaps (open_string shut_string)

/-- Names that came in: they lie there, and are no more than can be. -/
def DotArg (w : World) (a : Option Addr) (len : Nat) (l : List Dt) : Prop := l.length = len ∧ len ≤ maxLen ∧ DIn w a l

theorem dots_of {H : Type} {enc : TypeId × Value → H} {W : World} {sp : Nat → Bool} {held : Bool} {a : Option Addr} {len cap : Nat} {d : DataW H} {p : List MemPlace}
    (h : DataW.Trod enc Try.prog W 0 sp held 22 (.slice a len cap) d p) : ∃ l, DotArg W a len l := by
  obtain ⟨fuel, hf⟩ := h
  have hc2 : Try.prog.cellsOf 31 = 2 := by kernel_rfl
  rcases open_slice Try.underlying22 hf with ⟨hcs, _⟩ | ⟨x, l, c, m, n, D, Pl, hcs, _, hl, hm, hmm, _, hi⟩
  · simp [Value.cells] at hcs
    obtain ⟨rfl, rfl, rfl⟩ := hcs
    exact ⟨[], rfl, by simp [maxLen], .inl rfl⟩
  · simp [Value.cells] at hcs
    obtain ⟨rfl, rfl, rfl⟩ := hcs
    rw [hc2] at hi
    have hlm : len ≤ m := by rw [hmm]; split <;> omega
    have hd : ∀ i, i < len → ∃ dd : Dt, ∀ j u, (dcs dd)[j]? = some u → W.cell? ((x.add (i * 2)).add j) = some u := fun i hil => by
      obtain ⟨cs', hcell, ht⟩ := hi i (by omega)
      obtain ⟨_, hlen, hat⟩ := World.cells?_some hcell
      obtain ⟨dd, rfl⟩ := dot_cells ht
      exact ⟨dd, fun j u hju => by rw [hat j (by have := (List.getElem?_eq_some_iff.1 hju).1; omega)]; exact hju⟩
    obtain ⟨g, hg⟩ : ∃ g : Nat → Dt, ∀ i, i < len → ∀ j u, (dcs (g i))[j]? = some u → W.cell? ((x.add (i * 2)).add j) = some u :=
      ⟨fun i => if h : i < len then (hd i h).choose else (0, 0), fun i h => by simp only [h, dif_pos]; exact (hd i h).choose_spec⟩
    refine ⟨(List.range len).map g, by simp, by omega, ?_⟩
    by_cases h0 : len = 0
    · subst h0; exact .inl (by simp)
    · obtain ⟨b, off, spot⟩ := x
      have hc0 := hg 0 (by omega) 0 _ rfl
      have hspot : spot = none := by simpa [Addr.add] using World.cell?_spot hc0
      subst hspot
      have add0 : ∀ k, (⟨b, off, none⟩ : Addr).add k = ⟨b, off + k, none⟩ := fun k => by cases k <;> simp [Addr.add]
      have add1 : ∀ o k, (⟨b, o, none⟩ : Addr).add k = ⟨b, o + k, none⟩ := fun o k => by cases k <;> simp [Addr.add]
      refine .inr ⟨b, off, rfl, by have := World.block_lt_of_cell? W _ hc0; rw [add0, add1] at this; exact this, fun j dd hj => ?_⟩
      have hjl : j < len := by have := (List.getElem?_eq_some_iff.1 hj).1; simpa using this
      have he : g j = dd := by simpa [hjl] using hj
      have hcell := hg j hjl
      rw [he] at hcell
      simp only [add0, add1] at hcell
      exact ⟨hcell 0 _ rfl, hcell 1 _ rfl⟩
end Go.Proofs.Ytoiafhbembhppaa
