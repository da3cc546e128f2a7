/-
  How a name that came in is opened.
  How a stamp, stamps and two numbers that came in are opened.
  How a fact and facts that came in are opened.
-/
import Derived.Test.YtkodololdjainaaGreatKit
import Derived.Test.YtkodololdjainaaGreatGDelC
import Derived.LaidLaws
import Derived.Deep.Slices
import Derived.Test.YtkodololdjainaaGreatFactRow
namespace Go.Proofs.YtkodololdjainaaGreat
set_option maxRecDepth 100000
open Go.ChangeShapes Go.WideShapes Go.ChangeAt Go.RowKit Go.Deep
open Go.ChangeMaps (open_string shut_string)

theorem pair_of {cs : List Value} {a b : Value} (h : cs.length = 2) (h0 : (cs.drop 0).take 1 = [a]) (h1 : (cs.drop 1).take 1 = [b]) : cs = [a, b] := by
  match cs, h with
  | [_, _], _ => simp_all

theorem dot_cells {H : Type} {enc : TypeId × Value → H} {W : World} {b0 : Nat} {sp : Nat → Bool} {held : Bool} {fuel : Nat} {cs : List Value} {x : DataW H × List MemPlace}
    (h : DataW.trod enc Tryz.prog W b0 sp held fuel 23 cs = some x) : ∃ d : Dt, cs = dcs d := by
  obtain ⟨xs, n, _, _, hlen, hxl, hf⟩ := DataW.trod_struct Tryz.underlying23 h
  have hc2 : Tryz.prog.cellsOf 23 = 2 := by kernel_rfl
  have hc1 : Tryz.prog.cellsOf 3 = 1 := by kernel_rfl
  rw [hc2] at hlen
  have get : ∀ i, i < 2 → ∃ y, xs[i]? = some y := fun i hi => ⟨_, List.getElem?_eq_getElem (by rw [hxl]; simpa using hi)⟩
  obtain ⟨y0, g0⟩ := get 0 (by omega)
  obtain ⟨y1, g1⟩ := get 1 (by omega)
  have f0 := (hf 0 _ rfl).trans g0
  have f1 := (hf 1 _ rfl).trans g1
  obtain ⟨k, e0, _, w0⟩ := DataW.trod_int Tryz.underlying3 f0
  obtain ⟨i, e1, _, w1⟩ := DataW.trod_int Tryz.underlying3 f1
  exact ⟨(k, i), pair_of hlen (by rw [← e0]; rfl) (by rw [← e1]; rfl)⟩

theorem open_dot {H : Type} {enc : TypeId × Value → H} {W : World} {base b0 : Nat} {sp : Nat → Bool} {held : Bool} {v : Value} {d : DataW H} {p : List MemPlace}
    (hv : Value.okWide Tryz.prog W .any base 23 v) (h : DataW.Trod enc Tryz.prog W b0 sp held 23 v d p) : ∃ x : Dt, v = dv x := by
  obtain ⟨cs, rfl, _⟩ := okWide_struct Tryz.underlying23 hv
  obtain ⟨fuel, hf⟩ := h
  obtain ⟨x, hx⟩ := dot_cells hf
  refine ⟨x, ?_⟩
  have hx' : cs.toList = dcs x := hx
  unfold dv
  congr 1
  exact Array.toList_inj.1 hx'
end Go.Proofs.YtkodololdjainaaGreat

namespace Go.Proofs.YtkodololdjainaaGreat
set_option maxRecDepth 100000
open Go.ChangeShapes Go.WideShapes Go.ChangeAt Go.RowKit Go.Deep
open Go.ChangeMaps (open_string shut_string)

theorem three_of {cs : List Value} {a b c : Value} (h : cs.length = 3) (h0 : (cs.drop 0).take 1 = [a]) (h1 : (cs.drop 1).take 1 = [b]) (h2 : (cs.drop 2).take 1 = [c]) : cs = [a, b, c] := by
  match cs, h with
  | [_, _, _], _ => simp_all

theorem stamp_cells {H : Type} {enc : TypeId × Value → H} {W : World} {b0 : Nat} {sp : Nat → Bool} {held : Bool} {fuel : Nat} {cs : List Value} {x : DataW H × List MemPlace}
    (h : DataW.trod enc Tryz.prog W b0 sp held fuel 25 cs = some x) : ∃ d : St, cs = scs d := by
  obtain ⟨xs, n, _, _, hlen, hxl, hf⟩ := DataW.trod_struct Tryz.underlying25 h
  have hc3 : Tryz.prog.cellsOf 25 = 3 := by kernel_rfl
  rw [hc3] at hlen
  have get : ∀ i, i < 3 → ∃ y, xs[i]? = some y := fun i hi => ⟨_, List.getElem?_eq_getElem (by rw [hxl]; simpa using hi)⟩
  obtain ⟨y0, g0⟩ := get 0 (by omega)
  obtain ⟨y1, g1⟩ := get 1 (by omega)
  obtain ⟨y2, g2⟩ := get 2 (by omega)
  have f0 := (hf 0 _ rfl).trans g0
  have f1 := (hf 1 _ rfl).trans g1
  have f2 := (hf 2 _ rfl).trans g2
  obtain ⟨k, e0, _, w0⟩ := DataW.trod_int Tryz.underlying3 f0
  obtain ⟨i, e1, _, w1⟩ := DataW.trod_int Tryz.underlying3 f1
  obtain ⟨j, e2, _, w2⟩ := DataW.trod_int Tryz.underlying3 f2
  exact ⟨⟨k, i, j⟩, three_of hlen (by rw [← e0]; rfl) (by rw [← e1]; rfl) (by rw [← e2]; rfl)⟩

theorem open_stamp {H : Type} {enc : TypeId × Value → H} {W : World} {base b0 : Nat} {sp : Nat → Bool} {held : Bool} {v : Value} {d : DataW H} {p : List MemPlace}
    (hv : Value.okWide Tryz.prog W .any base 25 v) (h : DataW.Trod enc Tryz.prog W b0 sp held 25 v d p) : ∃ x : St, v = stv x := by
  obtain ⟨cs, rfl, _⟩ := okWide_struct Tryz.underlying25 hv
  obtain ⟨fuel, hf⟩ := h
  obtain ⟨x, hx⟩ := stamp_cells hf
  refine ⟨x, ?_⟩
  have hx' : cs.toList = scs x := hx
  unfold stv
  congr 1
  exact Array.toList_inj.1 hx'

end Go.Proofs.YtkodololdjainaaGreat

namespace Go.Proofs.YtkodololdjainaaGreat
set_option maxRecDepth 100000
open Go.ChangeShapes Go.WideShapes Go.ChangeAt Go.RowKit Go.Deep
open Go.ChangeMaps (open_string shut_string)

theorem eight_of {cs : List Value} {a b c d e f g h : Value} (hl : cs.length = 8) (h0 : (cs.drop 0).take 2 = [a, b]) (h1 : (cs.drop 2).take 3 = [c, d, e]) (h2 : (cs.drop 5).take 1 = [f]) (h3 : (cs.drop 6).take 1 = [g]) (h4 : (cs.drop 7).take 1 = [h]) : cs = [a, b, c, d, e, f, g, h] := by
  match cs, hl with
  | [_, _, _, _, _, _, _, _], _ => simp_all

theorem fact_cells {H : Type} {enc : TypeId × Value → H} {W : World} {b0 : Nat} {sp : Nat → Bool} {held : Bool} {fuel : Nat} {cs : List Value} {x : DataW H × List MemPlace}
    (h : DataW.trod enc Tryz.prog W b0 sp held fuel 88 cs = some x) : ∃ f : Ft, cs = fcs f ∧ f.n.size ≤ maxLen ∧ f.v.size ≤ maxLen := by
  obtain ⟨xs, n, _, _, hlen, hxl, hf⟩ := DataW.trod_struct Tryz.underlying88 h
  have hc8 : Tryz.prog.cellsOf 88 = 8 := by kernel_rfl
  rw [hc8] at hlen
  have get : ∀ i, i < 5 → ∃ y, xs[i]? = some y := fun i hi => ⟨_, List.getElem?_eq_getElem (by rw [hxl]; simpa using hi)⟩
  obtain ⟨y0, g0⟩ := get 0 (by omega)
  obtain ⟨y1, g1⟩ := get 1 (by omega)
  obtain ⟨y2, g2⟩ := get 2 (by omega)
  obtain ⟨y3, g3⟩ := get 3 (by omega)
  obtain ⟨y4, g4⟩ := get 4 (by omega)
  have f0 := (hf 0 _ rfl).trans g0
  have f1 := (hf 1 _ rfl).trans g1
  have f2 := (hf 2 _ rfl).trans g2
  have f3 := (hf 3 _ rfl).trans g3
  have f4 := (hf 4 _ rfl).trans g4
  obtain ⟨d, e0⟩ := dot_cells f0
  obtain ⟨s, e1⟩ := stamp_cells f1
  obtain ⟨k, e2, _, w2⟩ := DataW.trod_int Tryz.underlying3 f2
  obtain ⟨nm, e3, _, w3⟩ := DataW.trod_string Tryz.underlying9 f3
  obtain ⟨v, e4, _, w4⟩ := DataW.trod_string Tryz.underlying9 f4
  exact ⟨⟨d, s, k, nm, v⟩, eight_of hlen (by have := e0; unfold dcs at this; rw [← this]; rfl) (by have := e1; unfold scs at this; rw [← this]; rfl) (by rw [← e2]; rfl) (by rw [← e3]; rfl) (by rw [← e4]; rfl), w3, w4⟩

abbrev fv (f : Ft) : Value := .agg (fcs f).toArray
theorem open_fact {H : Type} {enc : TypeId × Value → H} {W : World} {base b0 : Nat} {sp : Nat → Bool} {held : Bool} {v : Value} {d : DataW H} {p : List MemPlace}
    (hv : Value.okWide Tryz.prog W .any base 88 v) (h : DataW.Trod enc Tryz.prog W b0 sp held 88 v d p) : ∃ x : Ft, v = fv x ∧ x.n.size ≤ maxLen ∧ x.v.size ≤ maxLen := by
  obtain ⟨cs, rfl, _⟩ := okWide_struct Tryz.underlying88 hv
  obtain ⟨fuel, hf⟩ := h
  obtain ⟨x, hx, hs⟩ := fact_cells hf
  refine ⟨x, ?_, hs⟩
  have hx' : cs.toList = fcs x := hx
  unfold fv
  congr 1
  exact Array.toList_inj.1 hx'

/-- Facts that came in: they lie there, and are no more than can be, nor are their texts. -/
def FactArg (w : World) (a : Option Addr) (len : Nat) (l : List Ft) : Prop := l.length = len ∧ len ≤ maxLen ∧ FIn w a l ∧ ∀ f ∈ l, f.n.size ≤ maxLen ∧ f.v.size ≤ maxLen

theorem facts_of {H : Type} {enc : TypeId × Value → H} {W : World} {sp : Nat → Bool} {held : Bool} {a : Option Addr} {len cap : Nat} {d : DataW H} {p : List MemPlace}
    (h : DataW.Trod enc Tryz.prog W 0 sp held 26 (.slice a len cap) d p) : ∃ l, FactArg W a len l := by
  obtain ⟨fuel, hf⟩ := h
  have hc8 : Tryz.prog.cellsOf 88 = 8 := by kernel_rfl
  rcases open_slice Tryz.underlying26 hf with ⟨hcs, _⟩ | ⟨x, l, c, m, n, D, Pl, hcs, _, hl, hm, hmm, _, hi⟩
  · simp [Value.cells] at hcs
    obtain ⟨rfl, rfl, rfl⟩ := hcs
    exact ⟨[], rfl, by simp [maxLen], .inl rfl, fun f hf => by simp at hf⟩
  · simp [Value.cells] at hcs
    obtain ⟨rfl, rfl, rfl⟩ := hcs
    rw [hc8] at hi
    have hlm : len ≤ m := by rw [hmm]; split <;> omega
    have hd : ∀ i, i < len → ∃ dd : Ft, (dd.n.size ≤ maxLen ∧ dd.v.size ≤ maxLen) ∧ ∀ j u, (fcs dd)[j]? = some u → W.cell? ((x.add (i * 8)).add j) = some u := fun i hil => by
      obtain ⟨cs', hcell, ht⟩ := hi i (by omega)
      obtain ⟨_, hlen, hat⟩ := World.cells?_some hcell
      obtain ⟨dd, rfl, hs⟩ := fact_cells ht
      exact ⟨dd, hs, fun j u hju => by rw [hat j (by have := (List.getElem?_eq_some_iff.1 hju).1; rw [fcs_len] at this; omega)]; exact hju⟩
    let z : Ft := ⟨(0, 0), ⟨0, 0, 0⟩, 0, ⟨#[]⟩, ⟨#[]⟩⟩
    obtain ⟨g, hg⟩ : ∃ g : Nat → Ft, ∀ i, i < len → ((g i).n.size ≤ maxLen ∧ (g i).v.size ≤ maxLen) ∧ ∀ j u, (fcs (g i))[j]? = some u → W.cell? ((x.add (i * 8)).add j) = some u :=
      ⟨fun i => if h : i < len then (hd i h).choose else z, fun i h => by simp only [h, dif_pos]; exact (hd i h).choose_spec⟩
    refine ⟨(List.range len).map g, by simp, by omega, ?_, fun f hf => ?_⟩
    · by_cases h0 : len = 0
      · subst h0; exact .inl (by simp)
      · obtain ⟨b, off, spot⟩ := x
        have hc0 := (hg 0 (by omega)).2 0 _ rfl
        have hspot : spot = none := by simpa [Addr.add] using World.cell?_spot hc0
        subst hspot
        have add0 : ∀ k, (⟨b, off, none⟩ : Addr).add k = ⟨b, off + k, none⟩ := fun k => by cases k <;> simp [Addr.add]
        have add1 : ∀ o k, (⟨b, o, none⟩ : Addr).add k = ⟨b, o + k, none⟩ := fun o k => by cases k <;> simp [Addr.add]
        refine .inr ⟨b, off, rfl, by have := World.block_lt_of_cell? W _ hc0; rw [add0, add1] at this; exact this, fun j dd hj i u hu => ?_⟩
        have hjl : j < len := by have := (List.getElem?_eq_some_iff.1 hj).1; simpa using this
        have he : g j = dd := by simpa [hjl] using hj
        have hcell := (hg j hjl).2 i u (by rw [he]; exact hu)
        simp only [add0, add1] at hcell
        exact hcell
    · obtain ⟨i, hil, rfl⟩ := List.mem_map.1 hf
      exact (hg i (List.mem_range.1 hil)).1
end Go.Proofs.YtkodololdjainaaGreat
