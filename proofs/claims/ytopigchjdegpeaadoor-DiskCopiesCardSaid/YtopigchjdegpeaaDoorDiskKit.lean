/-
  How a deed, and deeds, that came in are opened.
-/
import Derived.Test.YtopigchjdegpeaaDoorKit
import Derived.Test.YtopigchjdegpeaaDoorDiskAwake
import Derived.Deep.Slices
import Derived.Lib.LaidU8
import Derived.LaidLaws
namespace Go.Proofs.YtopigchjdegpeaaDoor
open Go.ChangeShapes Go.WideShapes Go.ChangeAt Go.RowKit Go.Deep
open Go.ChangeMaps (open_string shut_string)

/-- a deed -/
structure Dd where
  kind : Int
  name : ByteArray
  body : ByteArray
  dest : ByteArray
  n : Int

def Dd.cells (d : Dd) : List Value := [.int .i64 d.kind, .string d.name, .string d.body, .string d.dest, .int .i64 d.n]
def Dd.ok (d : Dd) : Prop := d.name.size ≤ maxLen ∧ d.body.size ≤ maxLen ∧ d.dest.size ≤ maxLen ∧ (Lit.int .i64 d.kind).wf = true ∧ (Lit.int .i64 d.n).wf = true

theorem five {cs : List Value} {a b c d e : Value} (h : cs.length = 5) (h0 : (cs.drop 0).take 1 = [a]) (h1 : (cs.drop 1).take 1 = [b]) (h2 : (cs.drop 2).take 1 = [c]) (h3 : (cs.drop 3).take 1 = [d]) (h4 : (cs.drop 4).take 1 = [e]) : cs = [a, b, c, d, e] := by
  match cs, h with
  | [_, _, _, _, _], _ => simp_all

theorem deed_cells {H : Type} {enc : TypeId × Value → H} {W : World} {b0 : Nat} {sp : Nat → Bool} {held : Bool} {fuel : Nat} {cs : List Value} {x : DataW H × List MemPlace}
    (h : DataW.trod enc Tryd.prog W b0 sp held fuel 34 cs = some x) : ∃ d : Dd, cs = d.cells ∧ d.ok := by
  obtain ⟨xs, n, _, _, hlen, hxl, hf⟩ := DataW.trod_struct Tryd.underlying34 h
  have hc5 : Tryd.prog.cellsOf 34 = 5 := by kernel_rfl
  have hc1 : Tryd.prog.cellsOf 3 = 1 := by kernel_rfl
  have hc2 : Tryd.prog.cellsOf 9 = 1 := by kernel_rfl
  rw [hc5] at hlen
  have get : ∀ i, i < 5 → ∃ y, xs[i]? = some y := fun i hi => ⟨_, List.getElem?_eq_getElem (by rw [hxl]; simpa using hi)⟩
  obtain ⟨y0, g0⟩ := get 0 (by omega)
  obtain ⟨y1, g1⟩ := get 1 (by omega)
  obtain ⟨y2, g2⟩ := get 2 (by omega)
  obtain ⟨y3, g3⟩ := get 3 (by omega)
  obtain ⟨y4, g4⟩ := get 4 (by omega)
  have f0 := (hf 0 _ rfl).trans g0
  have f1 := (hf 1 _ rfl).trans g1
  have f2 := (hf 2 _ rfl).trans g2
  have f3 := (hf 3 _ rfl).trans g3
  have f4 := (hf 4 _ rfl).trans g4
  obtain ⟨k, e0, _, w0⟩ := DataW.trod_int Tryd.underlying3 f0
  obtain ⟨s1, e1, _, w1⟩ := DataW.trod_string Tryd.underlying9 f1
  obtain ⟨s2, e2, _, w2⟩ := DataW.trod_string Tryd.underlying9 f2
  obtain ⟨s3, e3, _, w3⟩ := DataW.trod_string Tryd.underlying9 f3
  obtain ⟨i, e4, _, w4⟩ := DataW.trod_int Tryd.underlying3 f4
  exact ⟨⟨k, s1, s2, s3, i⟩, five hlen (by rw [← e0]; rfl) (by rw [← e1]; rfl) (by rw [← e2]; rfl) (by rw [← e3]; rfl) (by rw [← e4]; rfl), w1, w2, w3, w0, w4⟩

theorem open_deed {H : Type} {enc : TypeId × Value → H} {W : World} {base b0 : Nat} {sp : Nat → Bool} {held : Bool} {v : Value} {d : DataW H} {p : List MemPlace}
    (hv : Value.okWide Tryd.prog W .any base 34 v) (h : DataW.Trod enc Tryd.prog W b0 sp held 34 v d p) :
    ∃ x : Dd, v = .agg #[.int .i64 x.kind, .string x.name, .string x.body, .string x.dest, .int .i64 x.n] ∧ x.ok := by
  obtain ⟨cs, rfl, _⟩ := okWide_struct Tryd.underlying34 hv
  obtain ⟨fuel, hf⟩ := h
  obtain ⟨x, hx, ho⟩ := deed_cells hf
  refine ⟨x, ?_, ho⟩
  have hx' : cs.toList = x.cells := hx
  congr 1
  exact Array.toList_inj.1 hx'

theorem int_range {n : Int} (h : (Lit.int .i64 n).wf = true) : -9223372036854775808 ≤ n ∧ n ≤ 9223372036854775807 := bounds_i64 h

theorem powType : (Tryd.prog.globals[0]?).map (·.type) = some 79 := by kernel_rfl
theorem powStar : "*" ++ "errors.errorString" = "*errors.errorString" := by decide
theorem powRow (u : TypeId) (h : Tryd.prog.typeName? 3 u = some "*errors.errorString") : u = 91 :=
  typeName_ptr_named (nm := "errors.errorString") (by rw [powStar]; kernel_rfl) (by kernel_rfl) (by decide) u (by rw [powStar]; exact h)

/-- Where the row's list is this one variable, it holds a pointer. -/
theorem pow_of {nm : String} {W : World} (h : laidMetH Tryd.prog [(nm, Rows.laid_almonry_disk_errPower)] W) (hn : Tryd.prog.globalNamed nm = some 0) : ∃ a, Pow a W := by
  rw [MakeChecks.laidMetH_plain _ _ _ (by rfl)] at h
  obtain ⟨ps, ⟨g0, t0, cs0, f0, p0, q0, hg0, ht0, hv0, hd0, hq0, e0⟩, hnd, hrows⟩ := h
  obtain rfl := Option.some.inj (hn.symm.trans hg0)
  obtain rfl := Option.some.inj (powType.symm.trans ht0)
  have hq : q0 = [] := hq0
  subst hq
  subst e0
  obtain ⟨l0⟩ := cs0
  have ok0 : ∀ u v, l0 = [.iface u v] → Value.okWide Tryd.prog W .any 0 u v := fun u v e => by
    subst e
    exact (hrows 0 0 (by simp [MemPlace.row])).2 u v (by simpa using World.var?_cell hg0 hv0 0)
  obtain ⟨a0, s0, rfl, _, _, _, rfl⟩ := errorString_of_trod Tryd.underlying79 powRow Tryd.underlying91 Tryd.underlying108 rfl rfl Tryd.underlying9 (by kernel_rfl) (by kernel_rfl) hd0 ok0
  exact ⟨a0, by simpa [Pow] using World.var?_cell hg0 hv0 0⟩
end Go.Proofs.YtopigchjdegpeaaDoor
