/-
  How a stamp, stamps and two numbers that came in are opened.
-/
import Derived.Test.YtfmeoblbknhjpaaKit
import Derived.Test.YtfmeoblbknhjpaaStampOne
import Derived.Deep.Slices
import Derived.LaidLaws
namespace Go.Proofs.Ytfmeoblbknhjpaa
set_option maxRecDepth 100000
open Go.ChangeShapes Go.WideShapes Go.ChangeAt Go.RowKit Go.Deep
open Go.ChangeMaps (open_string shut_string)

theorem three_of {cs : List Value} {a b c : Value} (h : cs.length = 3) (h0 : (cs.drop 0).take 1 = [a]) (h1 : (cs.drop 1).take 1 = [b]) (h2 : (cs.drop 2).take 1 = [c]) : cs = [a, b, c] := by
  match cs, h with
  | [_, _, _], _ => simp_all

theorem stamp_cells {H : Type} {enc : TypeId × Value → H} {W : World} {b0 : Nat} {sp : Nat → Bool} {held : Bool} {fuel : Nat} {cs : List Value} {x : DataW H × List MemPlace}
    (h : DataW.trod enc Try.prog W b0 sp held fuel 23 cs = some x) : ∃ d : St, cs = scs d := by
  obtain ⟨xs, n, _, _, hlen, hxl, hf⟩ := DataW.trod_struct Try.underlying23 h
  have hc3 : Try.prog.cellsOf 23 = 3 := by kernel_rfl
  rw [hc3] at hlen
  have get : ∀ i, i < 3 → ∃ y, xs[i]? = some y := fun i hi => ⟨_, List.getElem?_eq_getElem (by rw [hxl]; simpa using hi)⟩
  obtain ⟨y0, g0⟩ := get 0 (by omega)
  obtain ⟨y1, g1⟩ := get 1 (by omega)
  obtain ⟨y2, g2⟩ := get 2 (by omega)
  have f0 := (hf 0 _ rfl).trans g0
  have f1 := (hf 1 _ rfl).trans g1
  have f2 := (hf 2 _ rfl).trans g2
  obtain ⟨k, e0, _, w0⟩ := DataW.trod_int Try.underlying3 f0
  obtain ⟨i, e1, _, w1⟩ := DataW.trod_int Try.underlying3 f1
  obtain ⟨j, e2, _, w2⟩ := DataW.trod_int Try.underlying3 f2
  exact ⟨⟨k, i, j⟩, three_of hlen (by rw [← e0]; rfl) (by rw [← e1]; rfl) (by rw [← e2]; rfl)⟩

theorem open_stamp {H : Type} {enc : TypeId × Value → H} {W : World} {base b0 : Nat} {sp : Nat → Bool} {held : Bool} {v : Value} {d : DataW H} {p : List MemPlace}
    (hv : Value.okWide Try.prog W .any base 23 v) (h : DataW.Trod enc Try.prog W b0 sp held 23 v d p) : ∃ x : St, v = sv x := by
  obtain ⟨cs, rfl, _⟩ := okWide_struct Try.underlying23 hv
  obtain ⟨fuel, hf⟩ := h
  obtain ⟨x, hx⟩ := stamp_cells hf
  refine ⟨x, ?_⟩
  have hx' : cs.toList = scs x := hx
  unfold sv
  congr 1
  exact Array.toList_inj.1 hx'

/-- Stamps lie there, to be read. -/
def SIn (w : World) (a : Option Addr) (l : List St) : Prop :=
  l = [] ∨ ∃ b off, a = some ⟨b, off, none⟩ ∧ b < w.heap.size ∧ ∀ j d, l[j]? = some d → ∀ i u, (scs d)[i]? = some u → w.cell? ⟨b, off + j * 3 + i, none⟩ = some u
theorem SIn.below {w w' : World} {a : Option Addr} {l : List St} (h : SIn w a l) (hb : Below w.heap.size w w') : SIn w' a l := by
  rcases h with h | ⟨b, off, rfl, hlt, hc⟩
  · exact .inl h
  · exact .inr ⟨b, off, rfl, Nat.lt_of_lt_of_le hlt hb.size, fun j d hj i u hu => by rw [hb.cell (p := ⟨b, off + j * 3 + i, none⟩) hlt]; exact hc j d hj i u hu⟩
theorem SIn.at {w : World} {a : Option Addr} {l : List St} (h : SIn w a l) {j : Nat} {d : St} (hj : l[j]? = some d) :
    ∃ b off, a = some ⟨b, off, none⟩ ∧ b < w.heap.size ∧ w.cell? ⟨b, off + j * 3, none⟩ = some (.int .i64 d.t) ∧ w.cell? ⟨b, off + j * 3 + 1, none⟩ = some (.int .i64 d.c) ∧ w.cell? ⟨b, off + j * 3 + 2, none⟩ = some (.int .i64 d.r) := by
  rcases h with rfl | ⟨b, off, rfl, hlt, hc⟩
  · simp at hj
  · exact ⟨b, off, rfl, hlt, hc j d hj 0 _ rfl, hc j d hj 1 _ rfl, hc j d hj 2 _ rfl⟩
/-- Stamps that came in: they lie there, and are no more than can be. -/
def StampArg (w : World) (a : Option Addr) (len : Nat) (l : List St) : Prop := l.length = len ∧ len ≤ maxLen ∧ SIn w a l

theorem stamps_of {H : Type} {enc : TypeId × Value → H} {W : World} {sp : Nat → Bool} {held : Bool} {a : Option Addr} {len cap : Nat} {d : DataW H} {p : List MemPlace}
    (h : DataW.Trod enc Try.prog W 0 sp held 37 (.slice a len cap) d p) : ∃ l, StampArg W a len l := by
  obtain ⟨fuel, hf⟩ := h
  have hc3 : Try.prog.cellsOf 23 = 3 := by kernel_rfl
  rcases open_slice Try.underlying37 hf with ⟨hcs, _⟩ | ⟨x, l, c, m, n, D, Pl, hcs, _, hl, hm, hmm, _, hi⟩
  · simp [Value.cells] at hcs
    obtain ⟨rfl, rfl, rfl⟩ := hcs
    exact ⟨[], rfl, by simp [maxLen], .inl rfl⟩
  · simp [Value.cells] at hcs
    obtain ⟨rfl, rfl, rfl⟩ := hcs
    rw [hc3] at hi
    have hlm : len ≤ m := by rw [hmm]; split <;> omega
    have hd : ∀ i, i < len → ∃ dd : St, ∀ j u, (scs dd)[j]? = some u → W.cell? ((x.add (i * 3)).add j) = some u := fun i hil => by
      obtain ⟨cs', hcell, ht⟩ := hi i (by omega)
      obtain ⟨_, hlen, hat⟩ := World.cells?_some hcell
      obtain ⟨dd, rfl⟩ := stamp_cells ht
      exact ⟨dd, fun j u hju => by rw [hat j (by have := (List.getElem?_eq_some_iff.1 hju).1; omega)]; exact hju⟩
    obtain ⟨g, hg⟩ : ∃ g : Nat → St, ∀ i, i < len → ∀ j u, (scs (g i))[j]? = some u → W.cell? ((x.add (i * 3)).add j) = some u :=
      ⟨fun i => if h : i < len then (hd i h).choose else zS, fun i h => by simp only [h, dif_pos]; exact (hd i h).choose_spec⟩
    refine ⟨(List.range len).map g, by simp, by omega, ?_⟩
    by_cases h0 : len = 0
    · subst h0; exact .inl (by simp)
    · obtain ⟨b, off, spot⟩ := x
      have hc0 := hg 0 (by omega) 0 _ rfl
      have hspot : spot = none := by simpa [Addr.add] using World.cell?_spot hc0
      subst hspot
      have add0 : ∀ k, (⟨b, off, none⟩ : Addr).add k = ⟨b, off + k, none⟩ := fun k => by cases k <;> simp [Addr.add]
      have add1 : ∀ o k, (⟨b, o, none⟩ : Addr).add k = ⟨b, o + k, none⟩ := fun o k => by cases k <;> simp [Addr.add]
      refine .inr ⟨b, off, rfl, by have := World.block_lt_of_cell? W _ hc0; rw [add0, add1] at this; exact this, fun j dd hj i u hu => ?_⟩
      have hjl : j < len := by have := (List.getElem?_eq_some_iff.1 hj).1; simpa using this
      have he : g j = dd := by simpa [hjl] using hj
      have hcell := hg j hjl i u (by rw [he]; exact hu)
      simp only [add0, add1] at hcell
      exact hcell

theorem arr2 {cs : Array Value} (hs : cs.size = 2) (h : ∀ i, i < 2 → ∃ n : Int, cs[i]? = some (.int .i64 n)) : ∃ a b : Int, cs = #[.int .i64 a, .int .i64 b] := by
  obtain ⟨a, h0⟩ := h 0 (by omega)
  obtain ⟨b, h1⟩ := h 1 (by omega)
  refine ⟨a, b, ?_⟩
  apply Array.ext_getElem?
  intro i
  have hi : i = 0 ∨ i = 1 ∨ 2 ≤ i := by omega
  rcases hi with rfl | rfl | hi
  · rw [h0]; rfl
  · rw [h1]; rfl
  · rw [Array.getElem?_eq_none (by omega), Array.getElem?_eq_none (by simpa using hi)]

theorem open_ints2 {H : Type} {enc : TypeId × Value → H} {W : World} {base b0 : Nat} {sp : Nat → Bool} {held : Bool} {v : Value} {d : DataW H} {p : List MemPlace}
    (hv : Value.okWide Try.prog W .any base 24 v) (h : DataW.Trod enc Try.prog W b0 sp held 24 v d p) : ∃ a b : Int, v = .agg #[.int .i64 a, .int .i64 b] := by
  simp only [Value.okWide, Try.underlying24] at hv
  obtain ⟨cs, rfl, hsz, _⟩ := hv
  have hc2 : Try.prog.cellsOf 24 = 2 := by kernel_rfl
  have hc1 : Try.prog.cellsOf 3 = 1 := by kernel_rfl
  rw [hc2] at hsz
  obtain ⟨fuel, hf⟩ := h
  obtain ⟨xs, m, rfl, _, hl, hn, hel⟩ := DataW.trod_array Try.underlying24 hf
  have hcs : (Value.agg cs).cells.toList = cs.toList := rfl
  rw [hcs] at hel
  obtain ⟨a, b, rfl⟩ := arr2 hsz (fun i hi => by
    have h1 := hel i hi
    rw [hc1, Nat.mul_one] at h1
    obtain ⟨y, hy⟩ : ∃ y, xs[i]? = some y := ⟨_, List.getElem?_eq_getElem (by omega)⟩
    rw [hy] at h1
    obtain ⟨z, hz, _, hwf⟩ := DataW.trod_int Try.underlying3 h1
    refine ⟨z, ?_⟩
    have := congrArg (·[0]?) hz
    simpa [List.getElem?_take, List.getElem?_drop] using this)
  exact ⟨a, b, rfl⟩
end Go.Proofs.Ytfmeoblbknhjpaa
