/-
  How a side, and deltas, that came in are opened.
-/
import Derived.Test.YtcedliaeipabnaaGreatKernApp
import Derived.Test.YtcedliaeipabnaaGreatGKernQ
import Derived.Test.YtcedliaeipabnaaGreatGKernS
namespace Go.Proofs.YtcedliaeipabnaaGreat
set_option linter.unusedSimpArgs false
set_option linter.unusedVariables false
set_option maxRecDepth 100000
open Go.ChangeShapes Go.WideShapes Go.ChangeAt Go.RowKit Go.Deep
open Go.ChangeMaps (open_string shut_string)

/-- a side's cells: its facts, its context -/
def sdc (l : List Ft) (la : Option Addr) (lk : Nat) (c : Cx) (pa : Option Addr) (ca : Nat) : Array Value := #[.slice la l.length lk] ++ ccs c.v (.slice pa c.l.length ca)
theorem sdc_size (l : List Ft) (la : Option Addr) (lk : Nat) (c : Cx) (pa : Option Addr) (ca : Nat) : (sdc l la lk c pa ca).size = c.v.length + 2 := by simp [sdc, ccs_size]; omega
theorem sdArr : (Tryz.prog.info? 29).map (·.size) = some 18 := by kernel_rfl
theorem infoSd {l : List Ft} {la : Option Addr} {lk : Nat} {c : Cx} {pa : Option Addr} {ca : Nat} (h : c.v.length = 16) : (Tryz.prog.info? 29).map (·.size) = some (sdc l la lk c pa ca).size := by rw [sdc_size, h]; exact sdArr
theorem sdc_one (l : List Ft) (la : Option Addr) (lk : Nat) (c : Cx) (pa : Option Addr) (ca : Nat) : (sdc l la lk c pa ca).all (·.oneCell') = true := by
  have h := Array.all_eq_true_iff_forall_mem.1 (ccs_one c.v pa c.l.length ca)
  refine Array.all_eq_true_iff_forall_mem.2 fun u hu => ?_
  unfold sdc at hu
  rw [Array.mem_append] at hu
  rcases hu with hu | hu
  · obtain rfl : u = .slice la l.length lk := by simpa using hu
    rfl
  · exact h u hu
theorem sd_facts {w : World} {b o : Nat} {l : List Ft} {la : Option Addr} {lk : Nat} {c : Cx} {pa : Option Addr} {ca : Nat} (h : w.rangeAt b o (sdc l la lk c pa ca).toList) : w.cell? ⟨b, o, none⟩ = some (.slice la l.length lk) := h 0 _ (by simp [sdc])
theorem sd_ctx {w : World} {b o : Nat} {l : List Ft} {la : Option Addr} {lk : Nat} {c : Cx} {pa : Option Addr} {ca : Nat} (h : w.rangeAt b o (sdc l la lk c pa ca).toList) : w.rangeAt b (o + 1) (ccs c.v (.slice pa c.l.length ca)).toList := fun j u hu => by
  rw [Nat.add_assoc]
  refine h (1 + j) u ?_
  unfold sdc
  rw [Array.getElem?_toList, Array.getElem?_append_right (by simp)]
  simpa using hu
/-- a side that came in -/
structure SideArg (w : World) (l : List Ft) (la : Option Addr) (c : Cx) (pa : Option Addr) : Prop where
  fin : FIn w la l
  flen : l.length ≤ maxLen
  txt : ∀ f ∈ l, f.n.size ≤ maxLen ∧ f.v.size ≤ maxLen
  ctx : CtxArg w c pa

theorem ctx_cells {H : Type} {enc : TypeId × Value → H} {W : World} {sp : Nat → Bool} {held : Bool} {fuel : Nat} {cs : List Value} {x : DataW H × List MemPlace}
    (h : DataW.trod enc Tryz.prog W 0 sp held fuel 27 cs = some x) : ∃ (c : Cx) (a : Option Addr) (cap : Nat), cs = (ccs c.v (.slice a c.l.length cap)).toList ∧ CtxArg W c a := by
  obtain ⟨y0, y1, n, _, hlen, f0, f1⟩ := trod_struct2 Tryz.underlying27 h
  have hc17 : Tryz.prog.cellsOf 27 = 17 := by kernel_rfl
  have hc1 : Tryz.prog.cellsOf 3 = 1 := by kernel_rfl
  rw [hc17] at hlen
  have hf0 : DataW.trod enc Tryz.prog W 0 sp held n 24 ((cs.drop 0).take 16) = some y0 := f0
  have hf1 : DataW.trod enc Tryz.prog W 0 sp held n 25 ((cs.drop 16).take 1) = some y1 := f1
  obtain ⟨xs, m, rfl, _, hl, hn, hel⟩ := DataW.trod_array Tryz.underlying24 hf0
  have hsz : ((cs.drop 0).take 16).toArray.size = 16 := by simp; omega
  obtain ⟨l, hl16, hics⟩ := ics_of hsz (fun i hi => by
    have h1 := hel i hi
    rw [hc1, Nat.mul_one] at h1
    obtain ⟨y, hy⟩ : ∃ y, xs[i]? = some y := ⟨_, List.getElem?_eq_getElem (by omega)⟩
    rw [hy] at h1
    obtain ⟨z, hz, _, hwf⟩ := DataW.trod_int Tryz.underlying3 h1
    refine ⟨z, ?_⟩
    have := congrArg (·[0]?) hz
    simpa [List.getElem?_take, List.getElem?_drop] using this)
  have hs : ∃ a len cap, (cs.drop 16).take 1 = [Value.slice a len cap] := by
    rcases open_slice Tryz.underlying25 hf1 with ⟨hcs, _⟩ | ⟨x, len, cap, _, _, _, _, hcs, _⟩
    · exact ⟨none, 0, 0, hcs⟩
    · exact ⟨some x, len, cap, hcs⟩
  obtain ⟨a, len, cap, e2⟩ := hs
  have hT : DataW.Trod enc Tryz.prog W 0 sp held 25 (.slice a len cap) y1.1 y1.2 := by
    rw [e2] at hf1
    exact ⟨_, hf1⟩
  obtain ⟨ds, rfl, hmx, hrow⟩ := dots_of hT
  refine ⟨⟨l, ds⟩, a, cap, ?_, hl16, hrow, hmx⟩
  have h1 : (cs.drop 0).take 16 = (ics l).toList := by rw [← hics]
  have h3 : cs = (cs.drop 0).take 16 ++ (cs.drop 16).take 1 := by
    rw [List.drop_zero, List.take_of_length_le (l := cs.drop 16) (by simp; omega), List.take_append_drop]
  rw [h3, h1, e2]
  simp [ccs]

theorem facts_cells {H : Type} {enc : TypeId × Value → H} {W : World} {sp : Nat → Bool} {held : Bool} {fuel : Nat} {cs : List Value} {x : DataW H × List MemPlace}
    (h : DataW.trod enc Tryz.prog W 0 sp held fuel 22 cs = some x) : ∃ (l : List Ft) (a : Option Addr) (cap : Nat), cs = [.slice a l.length cap] ∧ FactArg W a l.length l := by
  have hs : ∃ a len cap, cs = [Value.slice a len cap] := by
    rcases open_slice Tryz.underlying22 h with ⟨hcs, _⟩ | ⟨x, len, cap, _, _, _, _, hcs, _⟩
    · exact ⟨none, 0, 0, hcs⟩
    · exact ⟨some x, len, cap, hcs⟩
  obtain ⟨a, len, cap, rfl⟩ := hs
  have hT : DataW.Trod enc Tryz.prog W 0 sp held 22 (.slice a len cap) x.1 x.2 := ⟨_, h⟩
  obtain ⟨l, hl⟩ := facts_of hT
  obtain ⟨rfl, h1, h2, h3⟩ := hl
  exact ⟨l, a, cap, rfl, rfl, h1, h2, h3⟩
theorem dots_cells {H : Type} {enc : TypeId × Value → H} {W : World} {sp : Nat → Bool} {held : Bool} {fuel : Nat} {cs : List Value} {x : DataW H × List MemPlace}
    (h : DataW.trod enc Tryz.prog W 0 sp held fuel 25 cs = some x) : ∃ (l : List Dt) (a : Option Addr) (cap : Nat), cs = [.slice a l.length cap] ∧ DIn W a l ∧ l.length ≤ maxLen := by
  have hs : ∃ a len cap, cs = [Value.slice a len cap] := by
    rcases open_slice Tryz.underlying25 h with ⟨hcs, _⟩ | ⟨x, len, cap, _, _, _, _, hcs, _⟩
    · exact ⟨none, 0, 0, hcs⟩
    · exact ⟨some x, len, cap, hcs⟩
  obtain ⟨a, len, cap, rfl⟩ := hs
  have hT : DataW.Trod enc Tryz.prog W 0 sp held 25 (.slice a len cap) x.1 x.2 := ⟨_, h⟩
  obtain ⟨l, rfl, h1, h2⟩ := dots_of hT
  exact ⟨l, a, cap, rfl, h2, h1⟩

theorem open_side {H : Type} {enc : TypeId × Value → H} {W : World} {base : Nat} {v : Value} {d : DataW H} {p : List MemPlace}
    (hv : Value.okWide Tryz.prog W .any base 29 v) (h : DataW.Trod enc Tryz.prog W 0 (fun _ => true) true 29 v d p) :
    ∃ (l : List Ft) (la : Option Addr) (lk : Nat) (c : Cx) (pa : Option Addr) (ca : Nat), v = .agg (sdc l la lk c pa ca) ∧ SideArg W l la c pa := by
  obtain ⟨cs, rfl, _⟩ := okWide_struct Tryz.underlying29 hv
  obtain ⟨fuel, hf⟩ := h
  obtain ⟨y0, y1, n, _, hlen, f0, f1⟩ := trod_struct2 Tryz.underlying29 hf
  have hc18 : Tryz.prog.cellsOf 29 = 18 := by kernel_rfl
  rw [hc18] at hlen
  have hf0 : DataW.trod enc Tryz.prog W 0 (fun _ => true) true n 22 ((cs.toList.drop 0).take 1) = some y0 := f0
  have hf1 : DataW.trod enc Tryz.prog W 0 (fun _ => true) true n 27 ((cs.toList.drop 1).take 17) = some y1 := f1
  obtain ⟨l, la, lk, e0, -, h1, h2, h3⟩ := facts_cells hf0
  obtain ⟨c, pa, ca, e1, hc⟩ := ctx_cells hf1
  refine ⟨l, la, lk, c, pa, ca, ?_, h2, h1, h3, hc⟩
  congr 1
  apply Array.toList_inj.1
  have h3 : cs.toList = (cs.toList.drop 0).take 1 ++ (cs.toList.drop 1).take 17 := by
    rw [List.drop_zero, List.take_of_length_le (l := cs.toList.drop 1) (by simp; simp at hlen; omega), List.take_append_drop]
  rw [h3, e0, e1]
  simp [sdc]

/-! deltas -/
structure DlAt (w : World) (b o : Nat) (e : Dl) (la : Option Addr) (lk : Nat) (ga : Option Addr) (gk : Nat) : Prop where
  row : w.rangeAt b o (dlc e la lk ga gk).toList
  fin : FIn w la e.l
  flen : e.l.length ≤ maxLen
  txt : ∀ f ∈ e.l, f.n.size ≤ maxLen ∧ f.v.size ≤ maxLen
  din : DIn w ga e.g
  glen : e.g.length ≤ maxLen
def DlIn (w : World) (a : Option Addr) (D : List Dl) : Prop :=
  D = [] ∨ ∃ b off, a = some ⟨b, off, none⟩ ∧ b < w.heap.size ∧ ∀ j e, D[j]? = some e → ∃ la lk ga gk, DlAt w b (off + j * 7) e la lk ga gk
theorem DlAt.below {w w' : World} {b o : Nat} {e : Dl} {la : Option Addr} {lk : Nat} {ga : Option Addr} {gk : Nat} (h : DlAt w b o e la lk ga gk) (hb : Go.RowKit.Below w.heap.size w w') (hlt : b < w.heap.size) : DlAt w' b o e la lk ga gk :=
  ⟨range_below h.row hb hlt, h.fin.below hb, h.flen, h.txt, h.din.below hb, h.glen⟩
theorem DlIn.below {w w' : World} {a : Option Addr} {D : List Dl} (h : DlIn w a D) (hb : Go.RowKit.Below w.heap.size w w') : DlIn w' a D := by
  rcases h with h | ⟨b, off, rfl, hlt, hc⟩
  · exact .inl h
  · refine .inr ⟨b, off, rfl, Nat.lt_of_lt_of_le hlt hb.size, fun j e hj => ?_⟩
    obtain ⟨la, lk, ga, gk, hd⟩ := hc j e hj
    exact ⟨la, lk, ga, gk, hd.below hb hlt⟩
theorem DlIn.at {w : World} {a : Option Addr} {D : List Dl} (h : DlIn w a D) {j : Nat} {e : Dl} (hj : D[j]? = some e) : ∃ b off la lk ga gk, a = some ⟨b, off, none⟩ ∧ b < w.heap.size ∧ DlAt w b (off + j * 7) e la lk ga gk := by
  rcases h with rfl | ⟨b, off, rfl, hlt, hc⟩
  · simp at hj
  · obtain ⟨la, lk, ga, gk, hd⟩ := hc j e hj
    exact ⟨b, off, la, lk, ga, gk, rfl, hlt, hd⟩
theorem seven_of {cs : List Value} {a b c d e f g : Value} (hl : cs.length = 7) (h0 : (cs.drop 0).take 2 = [a, b]) (h1 : (cs.drop 2).take 3 = [c, d, e]) (h2 : (cs.drop 5).take 1 = [f]) (h3 : (cs.drop 6).take 1 = [g]) : cs = [a, b, c, d, e, f, g] := by
  match cs, hl with
  | [_, _, _, _, _, _, _], _ => simp_all
structure DlC where
  e : Dl
  la : Option Addr
  lk : Nat
  ga : Option Addr
  gk : Nat
theorem delta_cells {H : Type} {enc : TypeId × Value → H} {W : World} {sp : Nat → Bool} {held : Bool} {fuel : Nat} {cs : List Value} {x : DataW H × List MemPlace}
    (h : DataW.trod enc Tryz.prog W 0 sp held fuel 54 cs = some x) : ∃ z : DlC, cs = (dlc z.e z.la z.lk z.ga z.gk).toList ∧ FactArg W z.la z.e.l.length z.e.l ∧ DIn W z.ga z.e.g ∧ z.e.g.length ≤ maxLen := by
  obtain ⟨xs, n, _, _, hlen, hxl, hf⟩ := DataW.trod_struct Tryz.underlying54 h
  have hc7 : Tryz.prog.cellsOf 54 = 7 := by kernel_rfl
  rw [hc7] at hlen
  have get : ∀ i, i < 4 → ∃ y, xs[i]? = some y := fun i hi => ⟨_, List.getElem?_eq_getElem (by rw [hxl]; simpa using hi)⟩
  obtain ⟨y0, g0⟩ := get 0 (by omega)
  obtain ⟨y1, g1⟩ := get 1 (by omega)
  obtain ⟨y2, g2⟩ := get 2 (by omega)
  obtain ⟨y3, g3⟩ := get 3 (by omega)
  have f0 := (hf 0 _ rfl).trans g0
  have f1 := (hf 1 _ rfl).trans g1
  have f2 := (hf 2 _ rfl).trans g2
  have f3 := (hf 3 _ rfl).trans g3
  obtain ⟨d, e0⟩ := dot_cells f0
  obtain ⟨s, e1⟩ := stamp_cells f1
  have hf2 : DataW.trod enc Tryz.prog W 0 sp held n 22 ((cs.drop 5).take 1) = some y2 := f2
  have hf3 : DataW.trod enc Tryz.prog W 0 sp held n 25 ((cs.drop 6).take 1) = some y3 := f3
  obtain ⟨l, la, lk, e2, hl⟩ := facts_cells hf2
  obtain ⟨g, ga, gk, e3, hg1, hg2⟩ := dots_cells hf3
  exact ⟨⟨⟨d, s, l, g⟩, la, lk, ga, gk⟩, seven_of hlen (by have := e0; unfold dcs at this; rw [← this]; rfl) (by have := e1; unfold scs at this; rw [← this]; rfl) (by rw [← e2]) (by rw [← e3]), hl, hg1, hg2⟩
theorem deltas_of {H : Type} {enc : TypeId × Value → H} {W : World} {sp : Nat → Bool} {held : Bool} {a : Option Addr} {len cap : Nat} {d : DataW H} {p : List MemPlace}
    (h : DataW.Trod enc Tryz.prog W 0 sp held 43 (.slice a len cap) d p) : ∃ D : List Dl, D.length = len ∧ len ≤ maxLen ∧ DlIn W a D := by
  obtain ⟨fuel, hf⟩ := h
  have hc7 : Tryz.prog.cellsOf 54 = 7 := by kernel_rfl
  rcases open_slice Tryz.underlying43 hf with ⟨hcs, _⟩ | ⟨x, l, c, m, n, E, Pl, hcs, _, hl, hm, hmm, _, hi⟩
  · simp [Value.cells] at hcs
    obtain ⟨rfl, rfl, rfl⟩ := hcs
    exact ⟨[], rfl, by simp [maxLen], .inl rfl⟩
  · simp [Value.cells] at hcs
    obtain ⟨rfl, rfl, rfl⟩ := hcs
    rw [hc7] at hi
    have hlm : len ≤ m := by rw [hmm]; split <;> omega
    have hd : ∀ i, i < len → ∃ z : DlC, (FactArg W z.la z.e.l.length z.e.l ∧ DIn W z.ga z.e.g ∧ z.e.g.length ≤ maxLen) ∧ ∀ j u, (dlc z.e z.la z.lk z.ga z.gk).toList[j]? = some u → W.cell? ((x.add (i * 7)).add j) = some u := fun i hil => by
      obtain ⟨cs', hcell, ht⟩ := hi i (by omega)
      obtain ⟨_, hlen, hat⟩ := World.cells?_some hcell
      obtain ⟨z, rfl, hs⟩ := delta_cells ht
      exact ⟨z, hs, fun j u hju => by rw [hat j (by have := (List.getElem?_eq_some_iff.1 hju).1; have h7 : (dlc z.e z.la z.lk z.ga z.gk).toList.length = 7 := rfl; omega)]; exact hju⟩
    let z0 : DlC := ⟨⟨(0, 0), ⟨0, 0, 0⟩, [], []⟩, none, 0, none, 0⟩
    obtain ⟨g, hg⟩ : ∃ g : Nat → DlC, ∀ i, i < len → (FactArg W (g i).la (g i).e.l.length (g i).e.l ∧ DIn W (g i).ga (g i).e.g ∧ (g i).e.g.length ≤ maxLen) ∧ ∀ j u, (dlc (g i).e (g i).la (g i).lk (g i).ga (g i).gk).toList[j]? = some u → W.cell? ((x.add (i * 7)).add j) = some u :=
      ⟨fun i => if h : i < len then (hd i h).choose else z0, fun i h => by simp only [h, dif_pos]; exact (hd i h).choose_spec⟩
    refine ⟨(List.range len).map (fun i => (g i).e), by simp, by omega, ?_⟩
    by_cases h0 : len = 0
    · subst h0; exact .inl (by simp)
    · obtain ⟨b, off, spot⟩ := x
      have hc0 := (hg 0 (by omega)).2 0 _ rfl
      have hspot : spot = none := by simpa [Addr.add] using World.cell?_spot hc0
      subst hspot
      have add0 : ∀ k, (⟨b, off, none⟩ : Addr).add k = ⟨b, off + k, none⟩ := fun k => by cases k <;> simp [Addr.add]
      have add1 : ∀ o k, (⟨b, o, none⟩ : Addr).add k = ⟨b, o + k, none⟩ := fun o k => by cases k <;> simp [Addr.add]
      refine .inr ⟨b, off, rfl, by have := World.block_lt_of_cell? W _ hc0; rw [add0, add1] at this; exact this, fun j dd hj => ?_⟩
      have hjl : j < len := by have := (List.getElem?_eq_some_iff.1 hj).1; simpa using this
      have he : (g j).e = dd := by simpa [hjl] using hj
      obtain ⟨⟨⟨-, h1, h2, h3⟩, h4, h5⟩, h6⟩ := hg j hjl
      refine ⟨(g j).la, (g j).lk, (g j).ga, (g j).gk, ?_⟩
      rw [← he]
      exact ⟨fun i u hu => by have h7 := h6 i u hu; simp only [add0, add1] at h7; exact h7, h2, h1, h3, h4, h5⟩
end Go.Proofs.YtcedliaeipabnaaGreat
