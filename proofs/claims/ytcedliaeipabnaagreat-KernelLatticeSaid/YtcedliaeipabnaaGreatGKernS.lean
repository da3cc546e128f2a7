/-
  How a vector that came in is opened.
  How a name, and names, that came in are opened.
  How a context that came in is opened.
-/
import Derived.Test.YtcedliaeipabnaaGreatGKernG
import Derived.Test.YtcedliaeipabnaaGreatGKernP
import Derived.Test.YtcedliaeipabnaaGreatGKernC
import Derived.Deep.Slices
import Derived.Lib.LaidU8
import Derived.LaidLaws
import Derived.Test.YtcedliaeipabnaaGreatGKernH
namespace Go.Proofs.YtcedliaeipabnaaGreat
set_option maxRecDepth 100000
open Go.ChangeShapes Go.WideShapes Go.ChangeAt Go.RowKit Go.Deep
open Go.ChangeMaps (open_string shut_string)

theorem ics_of {cs : Array Value} {n : Nat} (hs : cs.size = n) (hc : ∀ i, i < n → ∃ x : Int, cs[i]? = some (.int .i64 x)) : ∃ l : Vc, l.length = n ∧ cs = ics l := by
  refine ⟨(List.range n).map fun i => if h : i < n then (hc i h).choose else 0, by simp, ?_⟩
  apply Array.ext_getElem?
  intro i
  by_cases hi : i < n
  · rw [(hc i hi).choose_spec]
    simp [ics, hi]
  · rw [Array.getElem?_eq_none (by omega), Array.getElem?_eq_none (by simp [ics]; omega)]

theorem open_vec {H : Type} {enc : TypeId × Value → H} {W : World} {base b0 : Nat} {sp : Nat → Bool} {held : Bool} {v : Value} {d : DataW H} {p : List MemPlace}
    (hv : Value.okWide Tryz.prog W .any base 24 v) (h : DataW.Trod enc Tryz.prog W b0 sp held 24 v d p) : ∃ l : Vc, l.length = 16 ∧ v = .agg (ics l) := by
  simp only [Value.okWide, Tryz.underlying24] at hv
  obtain ⟨cs, rfl, hsz, _⟩ := hv
  have hc16 : Tryz.prog.cellsOf 24 = 16 := by kernel_rfl
  have hc1 : Tryz.prog.cellsOf 3 = 1 := by kernel_rfl
  rw [hc16] at hsz
  obtain ⟨fuel, hf⟩ := h
  obtain ⟨xs, m, rfl, _, hl, hn, hel⟩ := DataW.trod_array Tryz.underlying24 hf
  have hcs : (Value.agg cs).cells.toList = cs.toList := rfl
  rw [hcs] at hel
  obtain ⟨l, hl16, rfl⟩ := ics_of hsz (fun i hi => by
    have h1 := hel i hi
    rw [hc1, Nat.mul_one] at h1
    obtain ⟨y, hy⟩ : ∃ y, xs[i]? = some y := ⟨_, List.getElem?_eq_getElem (by omega)⟩
    rw [hy] at h1
    obtain ⟨z, hz, _, hwf⟩ := DataW.trod_int Tryz.underlying3 h1
    refine ⟨z, ?_⟩
    have := congrArg (·[0]?) hz
    simpa [List.getElem?_take, List.getElem?_drop] using this)
  exact ⟨l, hl16, rfl⟩
end Go.Proofs.YtcedliaeipabnaaGreat

namespace Go.Proofs.YtcedliaeipabnaaGreat
set_option maxRecDepth 100000
open Go.ChangeShapes Go.WideShapes Go.ChangeAt Go.RowKit Go.Deep
open Go.ChangeMaps (open_string shut_string)

/-- Names that came in: they lie there, and are no more than can be. -/
def DotArg (w : World) (a : Option Addr) (len : Nat) (l : List Dt) : Prop := l.length = len ∧ len ≤ maxLen ∧ DIn w a l

theorem dots_of {H : Type} {enc : TypeId × Value → H} {W : World} {sp : Nat → Bool} {held : Bool} {a : Option Addr} {len cap : Nat} {d : DataW H} {p : List MemPlace}
    (h : DataW.Trod enc Tryz.prog W 0 sp held 25 (.slice a len cap) d p) : ∃ l, DotArg W a len l := by
  obtain ⟨fuel, hf⟩ := h
  have hc2 : Tryz.prog.cellsOf 50 = 2 := by kernel_rfl
  rcases open_slice Tryz.underlying25 hf with ⟨hcs, _⟩ | ⟨x, l, c, m, n, D, Pl, hcs, _, hl, hm, hmm, _, hi⟩
  · simp [Value.cells] at hcs
    obtain ⟨rfl, rfl, rfl⟩ := hcs
    exact ⟨[], rfl, by simp [maxLen], .inl rfl⟩
  · simp [Value.cells] at hcs
    obtain ⟨rfl, rfl, rfl⟩ := hcs
    rw [hc2] at hi
    have hlm : len ≤ m := by rw [hmm]; split <;> omega
    have hd : ∀ i, i < len → ∃ dd : Dt, ∀ j u, (dcs dd)[j]? = some u → W.cell? ((x.add (i * 2)).add j) = some u := fun i hil => by
      obtain ⟨cs', hcell, ht⟩ := hi i (by omega)
      obtain ⟨_, hlen, hat⟩ := World.cells?_some hcell
      obtain ⟨dd, rfl⟩ := dot_cells ht
      exact ⟨dd, fun j u hju => by rw [hat j (by have := (List.getElem?_eq_some_iff.1 hju).1; omega)]; exact hju⟩
    obtain ⟨g, hg⟩ : ∃ g : Nat → Dt, ∀ i, i < len → ∀ j u, (dcs (g i))[j]? = some u → W.cell? ((x.add (i * 2)).add j) = some u :=
      ⟨fun i => if h : i < len then (hd i h).choose else (0, 0), fun i h => by simp only [h, dif_pos]; exact (hd i h).choose_spec⟩
    refine ⟨(List.range len).map g, by simp, by omega, ?_⟩
    by_cases h0 : len = 0
    · subst h0; exact .inl (by simp)
    · obtain ⟨b, off, spot⟩ := x
      have hc0 := hg 0 (by omega) 0 _ rfl
      have hspot : spot = none := by simpa [Addr.add] using World.cell?_spot hc0
      subst hspot
      have add0 : ∀ k, (⟨b, off, none⟩ : Addr).add k = ⟨b, off + k, none⟩ := fun k => by cases k <;> simp [Addr.add]
      have add1 : ∀ o k, (⟨b, o, none⟩ : Addr).add k = ⟨b, o + k, none⟩ := fun o k => by cases k <;> simp [Addr.add]
      refine .inr ⟨b, off, rfl, by have := World.block_lt_of_cell? W _ hc0; rw [add0, add1] at this; exact this, fun j dd hj => ?_⟩
      have hjl : j < len := by have := (List.getElem?_eq_some_iff.1 hj).1; simpa using this
      have he : g j = dd := by simpa [hjl] using hj
      have hcell := hg j hjl
      rw [he] at hcell
      simp only [add0, add1] at hcell
      exact ⟨hcell 0 _ rfl, hcell 1 _ rfl⟩
end Go.Proofs.YtcedliaeipabnaaGreat

namespace Go.Proofs.YtcedliaeipabnaaGreat
set_option maxRecDepth 100000
open Go.ChangeShapes Go.WideShapes Go.ChangeAt Go.RowKit Go.Deep
open Go.ChangeMaps (open_string shut_string)

/-- a context's vector and its cloud lie in memory -/
structure CtxArg (w : World) (c : Cx) (a : Option Addr) : Prop where
  v16 : c.v.length = 16
  din : DIn w a c.l
  len : c.l.length ≤ maxLen

theorem open_ctx {H : Type} {enc : TypeId × Value → H} {W : World} {base : Nat} {v : Value} {d : DataW H} {p : List MemPlace}
    (hv : Value.okWide Tryz.prog W .any base 27 v) (h : DataW.Trod enc Tryz.prog W 0 (fun _ => true) true 27 v d p) :
    ∃ (c : Cx) (a : Option Addr) (cap : Nat), v = .agg (ccs c.v (.slice a c.l.length cap)) ∧ CtxArg W c a := by
  obtain ⟨cs, rfl, _⟩ := okWide_struct Tryz.underlying27 hv
  obtain ⟨fuel, hf⟩ := h
  obtain ⟨y0, y1, n, _, hlen, f0, f1⟩ := trod_struct2 Tryz.underlying27 hf
  have hc17 : Tryz.prog.cellsOf 27 = 17 := by kernel_rfl
  have hc16 : Tryz.prog.cellsOf 24 = 16 := by kernel_rfl
  have hc1 : Tryz.prog.cellsOf 3 = 1 := by kernel_rfl
  rw [hc17] at hlen
  have hf0 : DataW.trod enc Tryz.prog W 0 (fun _ => true) true n 24 ((cs.toList.drop 0).take 16) = some y0 := f0
  have hf1 : DataW.trod enc Tryz.prog W 0 (fun _ => true) true n 25 ((cs.toList.drop 16).take 1) = some y1 := f1
  obtain ⟨xs, m, rfl, _, hl, hn, hel⟩ := DataW.trod_array Tryz.underlying24 hf0
  have hsz : ((cs.toList.drop 0).take 16).toArray.size = 16 := by simp; omega
  obtain ⟨l, hl16, hics⟩ := ics_of hsz (fun i hi => by
    have h1 := hel i hi
    rw [hc1, Nat.mul_one] at h1
    obtain ⟨y, hy⟩ : ∃ y, xs[i]? = some y := ⟨_, List.getElem?_eq_getElem (by omega)⟩
    rw [hy] at h1
    obtain ⟨z, hz, _, hwf⟩ := DataW.trod_int Tryz.underlying3 h1
    refine ⟨z, ?_⟩
    have := congrArg (·[0]?) hz
    simpa [List.getElem?_take, List.getElem?_drop] using this)
  have hs : ∃ a len cap, (cs.toList.drop 16).take 1 = [Value.slice a len cap] := by
    rcases open_slice Tryz.underlying25 hf1 with ⟨hcs, _⟩ | ⟨x, len, cap, _, _, _, _, hcs, _⟩
    · exact ⟨none, 0, 0, hcs⟩
    · exact ⟨some x, len, cap, hcs⟩
  obtain ⟨a, len, cap, e2⟩ := hs
  have hT : DataW.Trod enc Tryz.prog W 0 (fun _ => true) true 25 (.slice a len cap) y1.1 y1.2 := by
    rw [e2] at hf1
    exact ⟨_, hf1⟩
  obtain ⟨ds, rfl, hmx, hrow⟩ := dots_of hT
  refine ⟨⟨l, ds⟩, a, cap, ?_, hl16, hrow, hmx⟩
  congr 1
  apply Array.toList_inj.1
  have h1 : (cs.toList.drop 0).take 16 = (ics l).toList := by rw [← hics]
  have h3 : cs.toList = (cs.toList.drop 0).take 16 ++ (cs.toList.drop 16).take 1 := by
    rw [List.drop_zero, List.take_of_length_le (l := cs.toList.drop 16) (by simp; simp at hlen; omega), List.take_append_drop]
  rw [h3, h1, e2]
  simp [ccs]
end Go.Proofs.YtcedliaeipabnaaGreat
