/-
  How a deed, and deeds, that came in are opened.
  Rows of deeds; Few.
-/
import Derived.Test.YtjimgncefeldbaaGreatDoorKit
import Derived.Test.YtjimgncefeldbaaGreatDoorGDiskF
import Derived.Deep.Slices
import Derived.Lib.LaidU8
import Derived.LaidLaws
namespace Go.Proofs.YtjimgncefeldbaaGreatDoor
set_option maxRecDepth 100000
open Go.ChangeShapes Go.WideShapes Go.ChangeAt Go.RowKit Go.Deep
open Go.ChangeMaps (open_string shut_string)

/-- a deed -/
structure Dd where
  kind : Int
  name : ByteArray
  body : ByteArray
  dest : ByteArray
  n : Int

def Dd.cells (d : Dd) : List Value := [.int .i64 d.kind, .string d.name, .string d.body, .string d.dest, .int .i64 d.n]
def Dd.ok (d : Dd) : Prop := d.name.size ≤ maxLen ∧ d.body.size ≤ maxLen ∧ d.dest.size ≤ maxLen ∧ (Lit.int .i64 d.kind).wf = true ∧ (Lit.int .i64 d.n).wf = true

theorem five {cs : List Value} {a b c d e : Value} (h : cs.length = 5) (h0 : (cs.drop 0).take 1 = [a]) (h1 : (cs.drop 1).take 1 = [b]) (h2 : (cs.drop 2).take 1 = [c]) (h3 : (cs.drop 3).take 1 = [d]) (h4 : (cs.drop 4).take 1 = [e]) : cs = [a, b, c, d, e] := by
  match cs, h with
  | [_, _, _, _, _], _ => simp_all

theorem deed_cells {H : Type} {enc : TypeId × Value → H} {W : World} {b0 : Nat} {sp : Nat → Bool} {held : Bool} {fuel : Nat} {cs : List Value} {x : DataW H × List MemPlace}
    (h : DataW.trod enc Tryz.prog W b0 sp held fuel 33 cs = some x) : ∃ d : Dd, cs = d.cells ∧ d.ok := by
  obtain ⟨xs, n, _, _, hlen, hxl, hf⟩ := DataW.trod_struct Tryz.underlying33 h
  have hc5 : Tryz.prog.cellsOf 33 = 5 := by kernel_rfl
  have hc1 : Tryz.prog.cellsOf 3 = 1 := by kernel_rfl
  have hc2 : Tryz.prog.cellsOf 9 = 1 := by kernel_rfl
  rw [hc5] at hlen
  have get : ∀ i, i < 5 → ∃ y, xs[i]? = some y := fun i hi => ⟨_, List.getElem?_eq_getElem (by rw [hxl]; simpa using hi)⟩
  obtain ⟨y0, g0⟩ := get 0 (by omega)
  obtain ⟨y1, g1⟩ := get 1 (by omega)
  obtain ⟨y2, g2⟩ := get 2 (by omega)
  obtain ⟨y3, g3⟩ := get 3 (by omega)
  obtain ⟨y4, g4⟩ := get 4 (by omega)
  have f0 := (hf 0 _ rfl).trans g0
  have f1 := (hf 1 _ rfl).trans g1
  have f2 := (hf 2 _ rfl).trans g2
  have f3 := (hf 3 _ rfl).trans g3
  have f4 := (hf 4 _ rfl).trans g4
  obtain ⟨k, e0, _, w0⟩ := DataW.trod_int Tryz.underlying3 f0
  obtain ⟨s1, e1, _, w1⟩ := DataW.trod_string Tryz.underlying9 f1
  obtain ⟨s2, e2, _, w2⟩ := DataW.trod_string Tryz.underlying9 f2
  obtain ⟨s3, e3, _, w3⟩ := DataW.trod_string Tryz.underlying9 f3
  obtain ⟨i, e4, _, w4⟩ := DataW.trod_int Tryz.underlying3 f4
  exact ⟨⟨k, s1, s2, s3, i⟩, five hlen (by rw [← e0]; rfl) (by rw [← e1]; rfl) (by rw [← e2]; rfl) (by rw [← e3]; rfl) (by rw [← e4]; rfl), w1, w2, w3, w0, w4⟩

theorem open_deed {H : Type} {enc : TypeId × Value → H} {W : World} {base b0 : Nat} {sp : Nat → Bool} {held : Bool} {v : Value} {d : DataW H} {p : List MemPlace}
    (hv : Value.okWide Tryz.prog W .any base 33 v) (h : DataW.Trod enc Tryz.prog W b0 sp held 33 v d p) :
    ∃ x : Dd, v = .agg #[.int .i64 x.kind, .string x.name, .string x.body, .string x.dest, .int .i64 x.n] ∧ x.ok := by
  obtain ⟨cs, rfl, _⟩ := okWide_struct Tryz.underlying33 hv
  obtain ⟨fuel, hf⟩ := h
  obtain ⟨x, hx, ho⟩ := deed_cells hf
  refine ⟨x, ?_, ho⟩
  have hx' : cs.toList = x.cells := hx
  congr 1
  exact Array.toList_inj.1 hx'

theorem int_range {n : Int} (h : (Lit.int .i64 n).wf = true) : -9223372036854775808 ≤ n ∧ n ≤ 9223372036854775807 := bounds_i64 h

theorem powType : (Tryz.prog.globals[0]?).map (·.type) = some 97 := by kernel_rfl
theorem powStar : "*" ++ "errors.errorString" = "*errors.errorString" := by decide
theorem powRow (u : TypeId) (h : Tryz.prog.typeName? 3 u = some "*errors.errorString") : u = 194 :=
  typeName_ptr_named (nm := "errors.errorString") (by rw [powStar]; kernel_rfl) (by kernel_rfl) (by decide) u (by rw [powStar]; exact h)

/-- Where the row's list is this one variable, it holds a pointer. -/
theorem pow_of {nm : String} {W : World} (h : laidMetH Tryz.prog [(nm, Rows.laid_almonry_disk_errPower)] W) (hn : Tryz.prog.globalNamed nm = some 0) : ∃ a, Pow a W := by
  rw [MakeChecks.laidMetH_plain _ _ _ (by rfl)] at h
  obtain ⟨ps, ⟨g0, t0, cs0, f0, p0, q0, hg0, ht0, hv0, hd0, hq0, e0⟩, hnd, hrows⟩ := h
  obtain rfl := Option.some.inj (hn.symm.trans hg0)
  obtain rfl := Option.some.inj (powType.symm.trans ht0)
  have hq : q0 = [] := hq0
  subst hq
  subst e0
  obtain ⟨l0⟩ := cs0
  have ok0 : ∀ u v, l0 = [.iface u v] → Value.okWide Tryz.prog W .any 0 u v := fun u v e => by
    subst e
    exact (hrows 0 0 (by simp [MemPlace.row])).2 u v (by simpa using World.var?_cell hg0 hv0 0)
  obtain ⟨a0, s0, rfl, _, _, _, rfl⟩ := errorString_of_trod Tryz.underlying97 powRow Tryz.underlying194 Tryz.underlying196 rfl rfl Tryz.underlying9 (by kernel_rfl) (by kernel_rfl) hd0 ok0
  exact ⟨a0, by simpa [Pow] using World.var?_cell hg0 hv0 0⟩
end Go.Proofs.YtjimgncefeldbaaGreatDoor

namespace Go.Proofs.YtjimgncefeldbaaGreatDoor
set_option maxRecDepth 100000
open Go.ChangeShapes Go.WideShapes Go.ChangeAt Go.RowKit Go.Deep

/-- The slice's elements are the deeds ds. -/
def DdRow (w : World) (a : Option Addr) (ds : List Dd) : Prop :=
  ds = [] ∨ ∃ b off, a = some ⟨b, off, none⟩ ∧ b < w.heap.size ∧ ∀ j d, ds[j]? = some d →
    w.cell? ⟨b, off + j * 5, none⟩ = some (.int .i64 d.kind) ∧ w.cell? ⟨b, off + j * 5 + 1, none⟩ = some (.string d.name) ∧ w.cell? ⟨b, off + j * 5 + 2, none⟩ = some (.string d.body) ∧ w.cell? ⟨b, off + j * 5 + 3, none⟩ = some (.string d.dest) ∧ w.cell? ⟨b, off + j * 5 + 4, none⟩ = some (.int .i64 d.n)
def DdArg (w : World) (a : Option Addr) (len : Nat) (ds : List Dd) : Prop := ds.length = len ∧ len ≤ maxLen ∧ DdRow w a ds ∧ ∀ d ∈ ds, d.ok

theorem deeds_of {H : Type} {enc : TypeId × Value → H} {W : World} {sp : Nat → Bool} {held : Bool} {a : Option Addr} {len cap : Nat} {d : DataW H} {p : List MemPlace}
    (h : DataW.Trod enc Tryz.prog W 0 sp held 22 (.slice a len cap) d p) : ∃ ds, DdArg W a len ds := by
  obtain ⟨fuel, hf⟩ := h
  have hc5 : Tryz.prog.cellsOf 33 = 5 := by kernel_rfl
  rcases open_slice Tryz.underlying22 hf with ⟨hcs, _⟩ | ⟨x, l, c, m, n, D, Pl, hcs, _, hl, hm, hmm, _, hi⟩
  · simp [Value.cells] at hcs
    obtain ⟨rfl, rfl, rfl⟩ := hcs
    exact ⟨[], rfl, by simp [maxLen], .inl rfl, fun d hd => absurd hd (by simp)⟩
  · simp [Value.cells] at hcs
    obtain ⟨rfl, rfl, rfl⟩ := hcs
    rw [hc5] at hi
    have hlm : len ≤ m := by rw [hmm]; split <;> omega
    have hd : ∀ i, i < len → ∃ dd : Dd, dd.ok ∧ ∀ j u, dd.cells[j]? = some u → W.cell? ((x.add (i * 5)).add j) = some u := fun i hil => by
      obtain ⟨cs', hcell, ht⟩ := hi i (by omega)
      obtain ⟨_, hlen, hat⟩ := World.cells?_some hcell
      obtain ⟨dd, rfl, hok⟩ := deed_cells ht
      exact ⟨dd, hok, fun j u hju => by rw [hat j (by have := (List.getElem?_eq_some_iff.1 hju).1; omega)]; exact hju⟩
    obtain ⟨g, hg⟩ : ∃ g : Nat → Dd, ∀ i, i < len → (g i).ok ∧ ∀ j u, (g i).cells[j]? = some u → W.cell? ((x.add (i * 5)).add j) = some u :=
      ⟨fun i => if h : i < len then (hd i h).choose else ⟨0, ByteArray.empty, ByteArray.empty, ByteArray.empty, 0⟩, fun i h => by simp only [h, dif_pos]; exact (hd i h).choose_spec⟩
    refine ⟨(List.range len).map g, by simp, by omega, ?_, fun d hdm => by
      simp only [List.mem_map, List.mem_range] at hdm
      obtain ⟨i, hil, rfl⟩ := hdm
      exact (hg i hil).1⟩
    by_cases h0 : len = 0
    · subst h0; exact .inl (by simp)
    · obtain ⟨b, off, spot⟩ := x
      have hc0 := (hg 0 (by omega)).2 0 _ rfl
      have hspot : spot = none := by simpa [Addr.add] using World.cell?_spot hc0
      subst hspot
      have add0 : ∀ k, (⟨b, off, none⟩ : Addr).add k = ⟨b, off + k, none⟩ := fun k => by cases k <;> simp [Addr.add]
      have add1 : ∀ o k, (⟨b, o, none⟩ : Addr).add k = ⟨b, o + k, none⟩ := fun o k => by cases k <;> simp [Addr.add]
      refine .inr ⟨b, off, rfl, by have := World.block_lt_of_cell? W _ hc0; rw [add0, add1] at this; exact this, fun j dd hj => ?_⟩
      have hjl : j < len := by have := (List.getElem?_eq_some_iff.1 hj).1; simpa using this
      have he : g j = dd := by simpa [hjl] using hj
      have hcell := (hg j hjl).2
      rw [he] at hcell
      simp only [add0, add1] at hcell
      exact ⟨hcell 0 _ rfl, hcell 1 _ rfl, hcell 2 _ rfl, hcell 3 _ rfl, hcell 4 _ rfl⟩

theorem DdRow.below {w w' : World} {a : Option Addr} {ds : List Dd} (h : DdRow w a ds) (hb : Below w.heap.size w w') : DdRow w' a ds := by
  rcases h with h | ⟨b, off, rfl, hlt, hc⟩
  · exact .inl h
  · refine .inr ⟨b, off, rfl, Nat.lt_of_lt_of_le hlt hb.size, fun j d hj => ?_⟩
    obtain ⟨h0, h1, h2, h3, h4⟩ := hc j d hj
    exact ⟨by rw [hb.cell (p := ⟨b, off + j * 5, none⟩) hlt]; exact h0, by rw [hb.cell (p := ⟨b, off + j * 5 + 1, none⟩) hlt]; exact h1, by rw [hb.cell (p := ⟨b, off + j * 5 + 2, none⟩) hlt]; exact h2,
      by rw [hb.cell (p := ⟨b, off + j * 5 + 3, none⟩) hlt]; exact h3, by rw [hb.cell (p := ⟨b, off + j * 5 + 4, none⟩) hlt]; exact h4⟩

/-- is a deed not too great? -/
def fewB (d : Dd) : Bool := decide (d.name.size ≤ 100) && (decide (d.dest.size ≤ 100) && decide (d.body.size ≤ 500))

set_option maxHeartbeats 1000000 in
set_option maxRecDepth 100000 in
theorem few_any (d : Dd) (w : World) : Calls Tryz.prog 9 #[.agg #[.int .i64 d.kind, .string d.name, .string d.body, .string d.dest, .int .i64 d.n]] w fun e w' => e = .returned (.bool (fewB d)) ∧ w.alloc (.cells #[.int .i64 d.kind, .string d.name, .string d.body, .string d.dest, .int .i64 d.n] 33) = w' := by
  by_cases h1 : d.name.size ≤ 100
  · by_cases h2 : d.dest.size ≤ 100
    · by_cases h3 : d.body.size ≤ 500
      · have e : fewB d = true := by simp [fewB, h1, h2, h3]
        rw [e]; clear e
        have h3' : decide ((d.body.size : Int) ≤ 500) = true := by simp; omega
        go_enter Tryz.func9, Tryz.ntmps9
        go_wp2
        go_ret
        exact ⟨rfl, rfl⟩
      · have e : fewB d = false := by simp [fewB, h3]
        rw [e]; clear e
        have h3' : decide ((d.body.size : Int) ≤ 500) = false := by simp; omega
        clear h3
        go_enter Tryz.func9, Tryz.ntmps9
        go_wp2
        go_ret
        exact ⟨rfl, rfl⟩
    · have e : fewB d = false := by simp [fewB, h2]
      rw [e]; clear e
      have h2' : decide ((d.dest.size : Int) ≤ 100) = false := by simp; omega
      clear h2
      go_enter Tryz.func9, Tryz.ntmps9
      go_wp2
      go_ret
      exact ⟨rfl, rfl⟩
  · have e : fewB d = false := by simp [fewB, h1]
    rw [e]; clear e
    have h1' : decide ((d.name.size : Int) ≤ 100) = false := by simp; omega
    clear h1
    go_enter Tryz.func9, Tryz.ntmps9
    go_wp2
    go_ret
    exact ⟨rfl, rfl⟩

/-- the disk with one file a -/
def sL (body : List UInt8) (sure : Nat) : DS := ⟨1048576, [⟨⟨#[97]⟩, body, sure⟩], false, false, 0⟩
theorem cmp_aa (b : List UInt8) (s : Nat) : cmpS ⟨#[97]⟩ ⟨⟨#[97]⟩, b, s⟩ = 0 := by show Lib.compareBytes [97] [97] = 0; decide
theorem pos_a (b : List UInt8) (s : Nat) : spos [⟨⟨#[97]⟩, b, s⟩] ⟨#[97]⟩ = 0 := by simp [spos, List.findIdx_cons, cmp_aa]
theorem there_a (b : List UInt8) (s : Nat) : sthere [⟨⟨#[97]⟩, b, s⟩] ⟨#[97]⟩ = true := by simp [sthere, pos_a, cmp_aa]
theorem read_a (b : List UInt8) (s : Nat) : readD (sL b s) ⟨#[97]⟩ = (⟨b.toArray⟩, 0) := by simp [readD, sL, pos_a, cmp_aa]
theorem sync_a (b : List UInt8) (s : Nat) : syncS (sL b s) ⟨#[97]⟩ = (0, sL b b.length) := by simp [syncS, sL, pos_a, there_a, actS, DS.out, DS.pay, smod]
theorem nm_a : isNm ⟨#[97]⟩ = true := by decide +kernel
theorem append_a (b : List UInt8) (s : Nat) (t : ByteArray) : ∃ c b', appendS (sL b s) ⟨#[97]⟩ t = (c, sL b' s) ∧ ∃ t', b' = b ++ t' := by
  unfold appendS
  rw [if_neg (by simp [sL]), if_neg (by rw [nm_a]; simp)]
  by_cases hf : sfull (sL b s) ⟨#[97]⟩ t.size = true
  · rw [if_pos hf]; exact ⟨9, b, rfl, [], by simp⟩
  · rw [if_neg hf]
    exact ⟨0, b ++ t.data.toList, by simp [sL, pos_a, there_a, actS, DS.out, DS.pay, smod], _, rfl⟩
theorem crash_a (b : List UInt8) (s : Nat) (hs : s ≤ b.length) (keep : Int) : ∃ k, s ≤ k ∧ k ≤ b.length ∧ crashS (sL b s) keep = sL (b.take k) k := by
  refine ⟨s + (min (max keep 0) ((b.length : Int) - (s : Int))).toNat, by omega, by omega, ?_⟩
  simp [crashS, sL, keepS]
end Go.Proofs.YtjimgncefeldbaaGreatDoor
