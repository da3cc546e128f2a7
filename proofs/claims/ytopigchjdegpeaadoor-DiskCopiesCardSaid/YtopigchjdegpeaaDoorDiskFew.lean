/-
  Rows of deeds; Few.
-/
import Derived.Test.YtopigchjdegpeaaDoorDiskKit
namespace Go.Proofs.YtopigchjdegpeaaDoor
open Go.ChangeShapes Go.WideShapes Go.ChangeAt Go.RowKit Go.Deep

/-- The slice's elements are the deeds ds. -/
def DdRow (w : World) (a : Option Addr) (ds : List Dd) : Prop :=
  ds = [] ∨ ∃ b off, a = some ⟨b, off, none⟩ ∧ b < w.heap.size ∧ ∀ j d, ds[j]? = some d →
    w.cell? ⟨b, off + j * 5, none⟩ = some (.int .i64 d.kind) ∧ w.cell? ⟨b, off + j * 5 + 1, none⟩ = some (.string d.name) ∧ w.cell? ⟨b, off + j * 5 + 2, none⟩ = some (.string d.body) ∧ w.cell? ⟨b, off + j * 5 + 3, none⟩ = some (.string d.dest) ∧ w.cell? ⟨b, off + j * 5 + 4, none⟩ = some (.int .i64 d.n)
def DdArg (w : World) (a : Option Addr) (len : Nat) (ds : List Dd) : Prop := ds.length = len ∧ len ≤ maxLen ∧ DdRow w a ds ∧ ∀ d ∈ ds, d.ok

theorem deeds_of {H : Type} {enc : TypeId × Value → H} {W : World} {sp : Nat → Bool} {held : Bool} {a : Option Addr} {len cap : Nat} {d : DataW H} {p : List MemPlace}
    (h : DataW.Trod enc Tryd.prog W 0 sp held 22 (.slice a len cap) d p) : ∃ ds, DdArg W a len ds := by
  obtain ⟨fuel, hf⟩ := h
  have hc5 : Tryd.prog.cellsOf 34 = 5 := by kernel_rfl
  rcases open_slice Tryd.underlying22 hf with ⟨hcs, _⟩ | ⟨x, l, c, m, n, D, Pl, hcs, _, hl, hm, hmm, _, hi⟩
  · simp [Value.cells] at hcs
    obtain ⟨rfl, rfl, rfl⟩ := hcs
    exact ⟨[], rfl, by simp [maxLen], .inl rfl, fun d hd => absurd hd (by simp)⟩
  · simp [Value.cells] at hcs
    obtain ⟨rfl, rfl, rfl⟩ := hcs
    rw [hc5] at hi
    have hlm : len ≤ m := by rw [hmm]; split <;> omega
    have hd : ∀ i, i < len → ∃ dd : Dd, dd.ok ∧ ∀ j u, dd.cells[j]? = some u → W.cell? ((x.add (i * 5)).add j) = some u := fun i hil => by
      obtain ⟨cs', hcell, ht⟩ := hi i (by omega)
      obtain ⟨_, hlen, hat⟩ := World.cells?_some hcell
      obtain ⟨dd, rfl, hok⟩ := deed_cells ht
      exact ⟨dd, hok, fun j u hju => by rw [hat j (by have := (List.getElem?_eq_some_iff.1 hju).1; omega)]; exact hju⟩
    obtain ⟨g, hg⟩ : ∃ g : Nat → Dd, ∀ i, i < len → (g i).ok ∧ ∀ j u, (g i).cells[j]? = some u → W.cell? ((x.add (i * 5)).add j) = some u :=
      ⟨fun i => if h : i < len then (hd i h).choose else ⟨0, ByteArray.empty, ByteArray.empty, ByteArray.empty, 0⟩, fun i h => by simp only [h, dif_pos]; exact (hd i h).choose_spec⟩
    refine ⟨(List.range len).map g, by simp, by omega, ?_, fun d hdm => by
      simp only [List.mem_map, List.mem_range] at hdm
      obtain ⟨i, hil, rfl⟩ := hdm
      exact (hg i hil).1⟩
    by_cases h0 : len = 0
    · subst h0; exact .inl (by simp)
    · obtain ⟨b, off, spot⟩ := x
      have hc0 := (hg 0 (by omega)).2 0 _ rfl
      have hspot : spot = none := by simpa [Addr.add] using World.cell?_spot hc0
      subst hspot
      have add0 : ∀ k, (⟨b, off, none⟩ : Addr).add k = ⟨b, off + k, none⟩ := fun k => by cases k <;> simp [Addr.add]
      have add1 : ∀ o k, (⟨b, o, none⟩ : Addr).add k = ⟨b, o + k, none⟩ := fun o k => by cases k <;> simp [Addr.add]
      refine .inr ⟨b, off, rfl, by have := World.block_lt_of_cell? W _ hc0; rw [add0, add1] at this; exact this, fun j dd hj => ?_⟩
      have hjl : j < len := by have := (List.getElem?_eq_some_iff.1 hj).1; simpa using this
      have he : g j = dd := by simpa [hjl] using hj
      have hcell := (hg j hjl).2
      rw [he] at hcell
      simp only [add0, add1] at hcell
      exact ⟨hcell 0 _ rfl, hcell 1 _ rfl, hcell 2 _ rfl, hcell 3 _ rfl, hcell 4 _ rfl⟩

theorem DdRow.below {w w' : World} {a : Option Addr} {ds : List Dd} (h : DdRow w a ds) (hb : Below w.heap.size w w') : DdRow w' a ds := by
  rcases h with h | ⟨b, off, rfl, hlt, hc⟩
  · exact .inl h
  · refine .inr ⟨b, off, rfl, Nat.lt_of_lt_of_le hlt hb.size, fun j d hj => ?_⟩
    obtain ⟨h0, h1, h2, h3, h4⟩ := hc j d hj
    exact ⟨by rw [hb.cell (p := ⟨b, off + j * 5, none⟩) hlt]; exact h0, by rw [hb.cell (p := ⟨b, off + j * 5 + 1, none⟩) hlt]; exact h1, by rw [hb.cell (p := ⟨b, off + j * 5 + 2, none⟩) hlt]; exact h2,
      by rw [hb.cell (p := ⟨b, off + j * 5 + 3, none⟩) hlt]; exact h3, by rw [hb.cell (p := ⟨b, off + j * 5 + 4, none⟩) hlt]; exact h4⟩

/-- is a deed not too great? -/
def fewB (d : Dd) : Bool := decide (d.name.size ≤ 100) && (decide (d.dest.size ≤ 100) && decide (d.body.size ≤ 500))

set_option maxHeartbeats 1000000 in
set_option maxRecDepth 100000 in
theorem few_any (d : Dd) (w : World) : Calls Tryd.prog 8 #[.agg #[.int .i64 d.kind, .string d.name, .string d.body, .string d.dest, .int .i64 d.n]] w fun e w' => e = .returned (.bool (fewB d)) ∧ w.alloc (.cells #[.int .i64 d.kind, .string d.name, .string d.body, .string d.dest, .int .i64 d.n] 34) = w' := by
  by_cases h1 : d.name.size ≤ 100
  · by_cases h2 : d.dest.size ≤ 100
    · by_cases h3 : d.body.size ≤ 500
      · have e : fewB d = true := by simp [fewB, h1, h2, h3]
        rw [e]; clear e
        have h3' : decide ((d.body.size : Int) ≤ 500) = true := by simp; omega
        go_enter Tryd.func8, Tryd.ntmps8
        go_wp2
        go_ret
        exact ⟨rfl, rfl⟩
      · have e : fewB d = false := by simp [fewB, h3]
        rw [e]; clear e
        have h3' : decide ((d.body.size : Int) ≤ 500) = false := by simp; omega
        clear h3
        go_enter Tryd.func8, Tryd.ntmps8
        go_wp2
        go_ret
        exact ⟨rfl, rfl⟩
    · have e : fewB d = false := by simp [fewB, h2]
      rw [e]; clear e
      have h2' : decide ((d.dest.size : Int) ≤ 100) = false := by simp; omega
      clear h2
      go_enter Tryd.func8, Tryd.ntmps8
      go_wp2
      go_ret
      exact ⟨rfl, rfl⟩
  · have e : fewB d = false := by simp [fewB, h1]
    rw [e]; clear e
    have h1' : decide ((d.name.size : Int) ≤ 100) = false := by simp; omega
    clear h1
    go_enter Tryd.func8, Tryd.ntmps8
    go_wp2
    go_ret
    exact ⟨rfl, rfl⟩

/-- the disk with one file a -/
def sL (body : List UInt8) (sure : Nat) : DS := ⟨1048576, [⟨⟨#[97]⟩, body, sure⟩], false, false, 0⟩
theorem cmp_aa (b : List UInt8) (s : Nat) : cmpS ⟨#[97]⟩ ⟨⟨#[97]⟩, b, s⟩ = 0 := by show Lib.compareBytes [97] [97] = 0; decide
theorem pos_a (b : List UInt8) (s : Nat) : spos [⟨⟨#[97]⟩, b, s⟩] ⟨#[97]⟩ = 0 := by simp [spos, List.findIdx_cons, cmp_aa]
theorem there_a (b : List UInt8) (s : Nat) : sthere [⟨⟨#[97]⟩, b, s⟩] ⟨#[97]⟩ = true := by simp [sthere, pos_a, cmp_aa]
theorem read_a (b : List UInt8) (s : Nat) : readD (sL b s) ⟨#[97]⟩ = (⟨b.toArray⟩, 0) := by simp [readD, sL, pos_a, cmp_aa]
theorem sync_a (b : List UInt8) (s : Nat) : syncS (sL b s) ⟨#[97]⟩ = (0, sL b b.length) := by simp [syncS, sL, pos_a, there_a, actS, DS.out, DS.pay, smod]
theorem nm_a : isNm ⟨#[97]⟩ = true := by decide +kernel
theorem append_a (b : List UInt8) (s : Nat) (t : ByteArray) : ∃ c b', appendS (sL b s) ⟨#[97]⟩ t = (c, sL b' s) ∧ ∃ t', b' = b ++ t' := by
  unfold appendS
  rw [if_neg (by simp [sL]), if_neg (by rw [nm_a]; simp)]
  by_cases hf : sfull (sL b s) ⟨#[97]⟩ t.size = true
  · rw [if_pos hf]; exact ⟨9, b, rfl, [], by simp⟩
  · rw [if_neg hf]
    exact ⟨0, b ++ t.data.toList, by simp [sL, pos_a, there_a, actS, DS.out, DS.pay, smod], _, rfl⟩
theorem crash_a (b : List UInt8) (s : Nat) (hs : s ≤ b.length) (keep : Int) : ∃ k, s ≤ k ∧ k ≤ b.length ∧ crashS (sL b s) keep = sL (b.take k) k := by
  refine ⟨s + (min (max keep 0) ((b.length : Int) - (s : Int))).toNat, by omega, by omega, ?_⟩
  simp [crashS, sL, keepS]
end Go.Proofs.YtopigchjdegpeaaDoor
