/-
  How a name, and names, that came in are opened.
  How an update, and updates, that came in are opened.
-/
import Derived.Test.YtkodololdjainaaGreatKit
import Derived.Test.YtkodololdjainaaGreatGDelC
import Derived.Test.YtkodololdjainaaGreatGDelM
import Derived.Deep.Slices
import Derived.Lib.LaidU8
import Derived.LaidLaws
import Derived.Test.YtkodololdjainaaGreatGDelO
namespace Go.Proofs.YtkodololdjainaaGreat
set_option maxRecDepth 100000
open Go.ChangeShapes Go.WideShapes Go.ChangeAt Go.RowKit Go.Deep
open Go.ChangeMaps (open_string shut_string)

/-- Names that came in: they lie there, and are no more than can be. -/
def DotArg (w : World) (a : Option Addr) (len : Nat) (l : List Dt) : Prop := l.length = len ∧ len ≤ maxLen ∧ DIn w a l

theorem dots_of {H : Type} {enc : TypeId × Value → H} {W : World} {sp : Nat → Bool} {held : Bool} {a : Option Addr} {len cap : Nat} {d : DataW H} {p : List MemPlace}
    (h : DataW.Trod enc Tryz.prog W 0 sp held 27 (.slice a len cap) d p) : ∃ l, DotArg W a len l := by
  obtain ⟨fuel, hf⟩ := h
  have hc2 : Tryz.prog.cellsOf 23 = 2 := by kernel_rfl
  rcases open_slice Tryz.underlying27 hf with ⟨hcs, _⟩ | ⟨x, l, c, m, n, D, Pl, hcs, _, hl, hm, hmm, _, hi⟩
  · simp [Value.cells] at hcs
    obtain ⟨rfl, rfl, rfl⟩ := hcs
    exact ⟨[], rfl, by simp [maxLen], .inl rfl⟩
  · simp [Value.cells] at hcs
    obtain ⟨rfl, rfl, rfl⟩ := hcs
    rw [hc2] at hi
    have hlm : len ≤ m := by rw [hmm]; split <;> omega
    have hd : ∀ i, i < len → ∃ dd : Dt, ∀ j u, (dcs dd)[j]? = some u → W.cell? ((x.add (i * 2)).add j) = some u := fun i hil => by
      obtain ⟨cs', hcell, ht⟩ := hi i (by omega)
      obtain ⟨_, hlen, hat⟩ := World.cells?_some hcell
      obtain ⟨dd, rfl⟩ := dot_cells ht
      exact ⟨dd, fun j u hju => by rw [hat j (by have := (List.getElem?_eq_some_iff.1 hju).1; omega)]; exact hju⟩
    obtain ⟨g, hg⟩ : ∃ g : Nat → Dt, ∀ i, i < len → ∀ j u, (dcs (g i))[j]? = some u → W.cell? ((x.add (i * 2)).add j) = some u :=
      ⟨fun i => if h : i < len then (hd i h).choose else (0, 0), fun i h => by simp only [h, dif_pos]; exact (hd i h).choose_spec⟩
    refine ⟨(List.range len).map g, by simp, by omega, ?_⟩
    by_cases h0 : len = 0
    · subst h0; exact .inl (by simp)
    · obtain ⟨b, off, spot⟩ := x
      have hc0 := hg 0 (by omega) 0 _ rfl
      have hspot : spot = none := by simpa [Addr.add] using World.cell?_spot hc0
      subst hspot
      have add0 : ∀ k, (⟨b, off, none⟩ : Addr).add k = ⟨b, off + k, none⟩ := fun k => by cases k <;> simp [Addr.add]
      have add1 : ∀ o k, (⟨b, o, none⟩ : Addr).add k = ⟨b, o + k, none⟩ := fun o k => by cases k <;> simp [Addr.add]
      refine .inr ⟨b, off, rfl, by have := World.block_lt_of_cell? W _ hc0; rw [add0, add1] at this; exact this, fun j dd hj => ?_⟩
      have hjl : j < len := by have := (List.getElem?_eq_some_iff.1 hj).1; simpa using this
      have he : g j = dd := by simpa [hjl] using hj
      have hcell := hg j hjl
      rw [he] at hcell
      simp only [add0, add1] at hcell
      exact ⟨hcell 0 _ rfl, hcell 1 _ rfl⟩
end Go.Proofs.YtkodololdjainaaGreat

namespace Go.Proofs.YtkodololdjainaaGreat
set_option linter.unusedSimpArgs false
set_option linter.unusedVariables false
set_option maxRecDepth 100000
open Go.ChangeShapes Go.WideShapes Go.ChangeAt Go.RowKit Go.Deep
open Go.ChangeMaps (open_string shut_string)

theorem facts_cells {H : Type} {enc : TypeId × Value → H} {W : World} {sp : Nat → Bool} {held : Bool} {fuel : Nat} {cs : List Value} {x : DataW H × List MemPlace}
    (h : DataW.trod enc Tryz.prog W 0 sp held fuel 26 cs = some x) : ∃ (l : List Ft) (a : Option Addr) (cap : Nat), cs = [.slice a l.length cap] ∧ FactArg W a l.length l := by
  have hs : ∃ a len cap, cs = [Value.slice a len cap] := by
    rcases open_slice Tryz.underlying26 h with ⟨hcs, _⟩ | ⟨x, len, cap, _, _, _, _, hcs, _⟩
    · exact ⟨none, 0, 0, hcs⟩
    · exact ⟨some x, len, cap, hcs⟩
  obtain ⟨a, len, cap, rfl⟩ := hs
  have hT : DataW.Trod enc Tryz.prog W 0 sp held 26 (.slice a len cap) x.1 x.2 := ⟨_, h⟩
  obtain ⟨l, hl⟩ := facts_of hT
  obtain ⟨rfl, h1, h2, h3⟩ := hl
  exact ⟨l, a, cap, rfl, rfl, h1, h2, h3⟩
theorem dots_cells {H : Type} {enc : TypeId × Value → H} {W : World} {sp : Nat → Bool} {held : Bool} {fuel : Nat} {cs : List Value} {x : DataW H × List MemPlace}
    (h : DataW.trod enc Tryz.prog W 0 sp held fuel 27 cs = some x) : ∃ (l : List Dt) (a : Option Addr) (cap : Nat), cs = [.slice a l.length cap] ∧ DIn W a l ∧ l.length ≤ maxLen := by
  have hs : ∃ a len cap, cs = [Value.slice a len cap] := by
    rcases open_slice Tryz.underlying27 h with ⟨hcs, _⟩ | ⟨x, len, cap, _, _, _, _, hcs, _⟩
    · exact ⟨none, 0, 0, hcs⟩
    · exact ⟨some x, len, cap, hcs⟩
  obtain ⟨a, len, cap, rfl⟩ := hs
  have hT : DataW.Trod enc Tryz.prog W 0 sp held 27 (.slice a len cap) x.1 x.2 := ⟨_, h⟩
  obtain ⟨l, rfl, h1, h2⟩ := dots_of hT
  exact ⟨l, a, cap, rfl, h2, h1⟩

theorem seven_of {cs : List Value} {a b c d e f g : Value} (hl : cs.length = 7) (h0 : (cs.drop 0).take 2 = [a, b]) (h1 : (cs.drop 2).take 3 = [c, d, e]) (h2 : (cs.drop 5).take 1 = [f]) (h3 : (cs.drop 6).take 1 = [g]) : cs = [a, b, c, d, e, f, g] := by
  match cs, hl with
  | [_, _, _, _, _, _, _], _ => simp_all
structure DlC where
  e : Dl
  la : Option Addr
  lk : Nat
  ga : Option Addr
  gk : Nat
theorem delta_cells {H : Type} {enc : TypeId × Value → H} {W : World} {sp : Nat → Bool} {held : Bool} {fuel : Nat} {cs : List Value} {x : DataW H × List MemPlace}
    (h : DataW.trod enc Tryz.prog W 0 sp held fuel 29 cs = some x) : ∃ z : DlC, cs = (dlc z.e z.la z.lk z.ga z.gk).toList ∧ FactArg W z.la z.e.l.length z.e.l ∧ DIn W z.ga z.e.g ∧ z.e.g.length ≤ maxLen := by
  obtain ⟨xs, n, _, _, hlen, hxl, hf⟩ := DataW.trod_struct Tryz.underlying29 h
  have hc7 : Tryz.prog.cellsOf 29 = 7 := by kernel_rfl
  rw [hc7] at hlen
  have get : ∀ i, i < 4 → ∃ y, xs[i]? = some y := fun i hi => ⟨_, List.getElem?_eq_getElem (by rw [hxl]; simpa using hi)⟩
  obtain ⟨y0, g0⟩ := get 0 (by omega)
  obtain ⟨y1, g1⟩ := get 1 (by omega)
  obtain ⟨y2, g2⟩ := get 2 (by omega)
  obtain ⟨y3, g3⟩ := get 3 (by omega)
  have f0 := (hf 0 _ rfl).trans g0
  have f1 := (hf 1 _ rfl).trans g1
  have f2 := (hf 2 _ rfl).trans g2
  have f3 := (hf 3 _ rfl).trans g3
  obtain ⟨d, e0⟩ := dot_cells f0
  obtain ⟨s, e1⟩ := stamp_cells f1
  have hf2 : DataW.trod enc Tryz.prog W 0 sp held n 26 ((cs.drop 5).take 1) = some y2 := f2
  have hf3 : DataW.trod enc Tryz.prog W 0 sp held n 27 ((cs.drop 6).take 1) = some y3 := f3
  obtain ⟨l, la, lk, e2, hl⟩ := facts_cells hf2
  obtain ⟨g, ga, gk, e3, hg1, hg2⟩ := dots_cells hf3
  exact ⟨⟨⟨d, s, l, g⟩, la, lk, ga, gk⟩, seven_of hlen (by have := e0; unfold dcs at this; rw [← this]; rfl) (by have := e1; unfold scs at this; rw [← this]; rfl) (by rw [← e2]) (by rw [← e3]), hl, hg1, hg2⟩
/-- an update that came in -/
structure DeltaArg (w : World) (e : Dl) (la ga : Option Addr) : Prop where
  facts : FactArg w la e.l.length e.l
  din : DIn w ga e.g
  glen : e.g.length ≤ maxLen
theorem open_delta {H : Type} {enc : TypeId × Value → H} {W : World} {base : Nat} {v : Value} {d : DataW H} {p : List MemPlace}
    (hv : Value.okWide Tryz.prog W .any base 29 v) (h : DataW.Trod enc Tryz.prog W 0 (fun _ => true) true 29 v d p) :
    ∃ (e : Dl) (la : Option Addr) (lk : Nat) (ga : Option Addr) (gk : Nat), v = .agg (dlc e la lk ga gk) ∧ DeltaArg W e la ga := by
  obtain ⟨cs, rfl, _⟩ := okWide_struct Tryz.underlying29 hv
  obtain ⟨fuel, hf⟩ := h
  obtain ⟨z, hz, h1, h2, h3⟩ := delta_cells hf
  have hz' : cs.toList = (dlc z.e z.la z.lk z.ga z.gk).toList := hz
  exact ⟨z.e, z.la, z.lk, z.ga, z.gk, by rw [Array.toList_inj.1 hz'], h1, h2, h3⟩

end Go.Proofs.YtkodololdjainaaGreat
