/-
  How a vector that came in is opened.
-/
import Derived.Test.YtoiafhbembhppaaVecRow
import Derived.Test.YtoiafhbembhppaaDotOpen
namespace Go.Proofs.Ytoiafhbembhppaa
set_option maxRecDepth 100000
open Go.ChangeShapes Go.WideShapes Go.ChangeAt Go.RowKit Go.Deep
open Go.ChangeMaps (open_string shut_string)

theorem ics_of {cs : Array Value} {n : Nat} (hs : cs.size = n) (hc : ∀ i, i < n → ∃ x : Int, cs[i]? = some (.int .i64 x)) : ∃ l : Vc, l.length = n ∧ cs = ics l := by
  refine ⟨(List.range n).map fun i => if h : i < n then (hc i h).choose else 0, by simp, ?_⟩
  apply Array.ext_getElem?
  intro i
  by_cases hi : i < n
  · rw [(hc i hi).choose_spec]
    simp [ics, hi]
  · rw [Array.getElem?_eq_none (by omega), Array.getElem?_eq_none (by simp [ics]; omega)]

theorem open_vec {H : Type} {enc : TypeId × Value → H} {W : World} {base b0 : Nat} {sp : Nat → Bool} {held : Bool} {v : Value} {d : DataW H} {p : List MemPlace}
    (hv : Value.okWide Try.prog W .any base 39 v) (h : DataW.Trod enc Try.prog W b0 sp held 39 v d p) : ∃ l : Vc, l.length = 16 ∧ v = .agg (ics l) := by
  simp only [Value.okWide, Try.underlying39] at hv
  obtain ⟨cs, rfl, hsz, _⟩ := hv
  have hc16 : Try.prog.cellsOf 39 = 16 := by kernel_rfl
  have hc1 : Try.prog.cellsOf 3 = 1 := by kernel_rfl
  rw [hc16] at hsz
  obtain ⟨fuel, hf⟩ := h
  obtain ⟨xs, m, rfl, _, hl, hn, hel⟩ := DataW.trod_array Try.underlying39 hf
  have hcs : (Value.agg cs).cells.toList = cs.toList := rfl
  rw [hcs] at hel
  obtain ⟨l, hl16, rfl⟩ := ics_of hsz (fun i hi => by
    have h1 := hel i hi
    rw [hc1, Nat.mul_one] at h1
    obtain ⟨y, hy⟩ : ∃ y, xs[i]? = some y := ⟨_, List.getElem?_eq_getElem (by omega)⟩
    rw [hy] at h1
    obtain ⟨z, hz, _, hwf⟩ := DataW.trod_int Try.underlying3 h1
    refine ⟨z, ?_⟩
    have := congrArg (·[0]?) hz
    simpa [List.getElem?_take, List.getElem?_drop] using this)
  exact ⟨l, hl16, rfl⟩
end Go.Proofs.Ytoiafhbembhppaa
