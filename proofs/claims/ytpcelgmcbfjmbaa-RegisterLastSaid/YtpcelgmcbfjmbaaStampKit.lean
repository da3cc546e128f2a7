/-
  How a stamp, stamps and two numbers that came in are opened.
-/
import Derived.Test.YtpcelgmcbfjmbaaKit
import Derived.Test.YtpcelgmcbfjmbaaStampOne
import Derived.Deep.Slices
import Derived.LaidLaws
namespace Go.Proofs.Ytpcelgmcbfjmbaa
set_option maxRecDepth 100000
open Go.ChangeShapes Go.WideShapes Go.ChangeAt Go.RowKit Go.Deep
open Go.ChangeMaps (open_string shut_string)

theorem three_of {cs : List Value} {a b c : Value} (h : cs.length = 3) (h0 : (cs.drop 0).take 1 = [a]) (h1 : (cs.drop 1).take 1 = [b]) (h2 : (cs.drop 2).take 1 = [c]) : cs = [a, b, c] := by
  match cs, h with
  | [_, _, _], _ => simp_all

theorem stamp_cells {H : Type} {enc : TypeId × Value → H} {W : World} {b0 : Nat} {sp : Nat → Bool} {held : Bool} {fuel : Nat} {cs : List Value} {x : DataW H × List MemPlace}
    (h : DataW.trod enc Try.prog W b0 sp held fuel 37 cs = some x) : ∃ d : St, cs = scs d := by
  obtain ⟨xs, n, _, _, hlen, hxl, hf⟩ := DataW.trod_struct Try.underlying37 h
  have hc3 : Try.prog.cellsOf 37 = 3 := by kernel_rfl
  rw [hc3] at hlen
  have get : ∀ i, i < 3 → ∃ y, xs[i]? = some y := fun i hi => ⟨_, List.getElem?_eq_getElem (by rw [hxl]; simpa using hi)⟩
  obtain ⟨y0, g0⟩ := get 0 (by omega)
  obtain ⟨y1, g1⟩ := get 1 (by omega)
  obtain ⟨y2, g2⟩ := get 2 (by omega)
  have f0 := (hf 0 _ rfl).trans g0
  have f1 := (hf 1 _ rfl).trans g1
  have f2 := (hf 2 _ rfl).trans g2
  obtain ⟨k, e0, _, w0⟩ := DataW.trod_int Try.underlying3 f0
  obtain ⟨i, e1, _, w1⟩ := DataW.trod_int Try.underlying3 f1
  obtain ⟨j, e2, _, w2⟩ := DataW.trod_int Try.underlying3 f2
  exact ⟨⟨k, i, j⟩, three_of hlen (by rw [← e0]; rfl) (by rw [← e1]; rfl) (by rw [← e2]; rfl)⟩

theorem open_stamp {H : Type} {enc : TypeId × Value → H} {W : World} {base b0 : Nat} {sp : Nat → Bool} {held : Bool} {v : Value} {d : DataW H} {p : List MemPlace}
    (hv : Value.okWide Try.prog W .any base 37 v) (h : DataW.Trod enc Try.prog W b0 sp held 37 v d p) : ∃ x : St, v = stv x := by
  obtain ⟨cs, rfl, _⟩ := okWide_struct Try.underlying37 hv
  obtain ⟨fuel, hf⟩ := h
  obtain ⟨x, hx⟩ := stamp_cells hf
  refine ⟨x, ?_⟩
  have hx' : cs.toList = scs x := hx
  unfold stv
  congr 1
  exact Array.toList_inj.1 hx'

end Go.Proofs.Ytpcelgmcbfjmbaa
