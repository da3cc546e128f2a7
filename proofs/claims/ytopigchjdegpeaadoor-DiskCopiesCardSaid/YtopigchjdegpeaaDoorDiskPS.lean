/-
  Both disks side by side, the document's in a box: what holds between deeds.
-/
import Derived.Test.YtopigchjdegpeaaDoorDiskSame
namespace Go.Proofs.YtopigchjdegpeaaDoor
open Go.RowKit

/-- the cells of the document's disk -/
abbrev dbox (s : DS) (p : Option Addr) (c : Nat) : Obj := .cells #[.int .i64 (s.room : Int), .slice p s.l.length c, .bool s.off, .int .i64 (fz s)] 30 (0, 0)

/-- At D lies the program's disk in the state s, in the box bx the document's. -/
structure PS (a : Addr) (w0 : World) (D : Nat) (s : DS) (bl : List Nat) (bx : Nat) (p : Option Addr) (c : Nat) (w : World) : Prop where
  aw : AW a w0 D s bl w
  row : RowF w p s.l bl
  box : w.heap[bx]? = some (dbox s p c)
  far : bx ∉ bl
  apart : ∀ g off, p = some ⟨g, off, none⟩ → g ≠ bx
  base : w0.heap.size ≤ bx

variable {a : Addr} {w0 : World} {D : Nat} {s : DS} {bl : List Nat} {bx : Nat} {p : Option Addr} {c : Nat} {w : World}

theorem PS.lt (h : PS a w0 D s bl bx p c w) : bx < w.heap.size := (Array.getElem?_eq_some_iff.1 h.box).1
theorem PS.keep (h : PS a w0 D s bl bx p c w) {w' : World} (hb : Below w.heap.size w w') : PS a w0 D s bl bx p c w' :=
  ⟨h.aw.keep hb, h.row.below hb, by rw [hb.block bx h.lt]; exact h.box, h.far, h.apart, h.base⟩
theorem PS.cells (h : PS a w0 D s bl bx p c w) : w.cell? ⟨bx, 0, none⟩ = some (.int .i64 (s.room : Int)) ∧ w.cell? ⟨bx, 1, none⟩ = some (.slice p s.l.length c) ∧ w.cell? ⟨bx, 2, none⟩ = some (.bool s.off) ∧ w.cell? ⟨bx, 3, none⟩ = some (.int .i64 (fz s)) ∧
    w.frozen? ⟨bx, 0, none⟩ = false ∧ w.frozen? ⟨bx, 1, none⟩ = false ∧ w.frozen? ⟨bx, 2, none⟩ = false ∧ w.frozen? ⟨bx, 3, none⟩ = false :=
  ⟨by rw [Joins.cell_of_block h.box]; rfl, by rw [Joins.cell_of_block h.box]; rfl, by rw [Joins.cell_of_block h.box]; rfl, by rw [Joins.cell_of_block h.box]; rfl,
   Joins.unfrozen_of_block h.box 0, Joins.unfrozen_of_block h.box 1, Joins.unfrozen_of_block h.box 2, Joins.unfrozen_of_block h.box 3⟩
theorem PS.fresh (h : PS a w0 D s bl bx p c w) {bl2 : List Nat} {w2 : World} (hf : Fr bl bl2 w w2) : bx ∉ bl2 := fun hin => by
  rcases hf.fresh _ hin with h1 | h1
  · exact h.far h1
  · have := h.lt; omega
/-- the box is turned to what a deed left -/
theorem PS.did (h : PS a w0 D s bl bx p c w) {bl2 : List Nat} {q : Option Addr} {cq : Nat} {s2 : DS} {w2 w3 : World} (ha : AW a w0 D s2 bl2 w2) (hr : RowF w2 q s2.l bl2) (hf : Fr bl bl2 w w2) (hq : ∀ g off, q = some ⟨g, off, none⟩ → q = p ∨ w.heap.size ≤ g) (hb : Below w2.heap.size w2 w3) :
    PS a w0 D s2 bl2 bx q cq ((((w3.setCell ⟨bx, 0, none⟩ (.int .i64 (s2.room : Int))).setCell ⟨bx, 1, none⟩ (.slice q s2.l.length cq)).setCell ⟨bx, 2, none⟩ (.bool s2.off)).setCell ⟨bx, 3, none⟩ (.int .i64 (fz s2))) := by
  have hlt := h.lt
  have hap : ∀ g off, q = some ⟨g, off, none⟩ → g ≠ bx := fun g off he => by
    rcases hq g off he with h1 | h1
    · rw [h1] at he; exact h.apart g off he
    · omega
  have hbx : w3.heap[bx]? = some (dbox s p c) := by
    rw [hb.block bx (Nat.lt_of_lt_of_le hlt hf.size), hf.block bx hlt h.far]; exact h.box
  exact ⟨(ha.keep hb).turn (fr_four _ _ _ _ _ _) (h.fresh hf) h.base, (hr.below hb).four hap _ _ _ _, four_set hbx _ _ _ _, h.fresh hf, hap, h.base⟩
theorem PS.copied (h : PS a w0 D s bl bx p c w) {D2 : Nat} {bl2 : List Nat} {w2 : World} (hm : Made s w D2 bl2 w2) : PS a w0 D2 s bl2 bx p c w2 := by
  obtain ⟨_, h2, _⟩ := h.aw.copied hm
  have hge : ∀ k ∈ bl2, w.heap.size ≤ k := fun k hk => (hm.1.lt k hk).1
  refine ⟨h2, ⟨(h.row.1).below hm.2, fun g off he => ⟨fun hin => by have := hge g hin; have := (h.row.2 g off he).2; omega, Nat.lt_of_lt_of_le (h.row.2 g off he).2 hm.2.size⟩⟩, by rw [hm.2.block bx h.lt]; exact h.box, fun hin => by have := hge bx hin; have := h.lt; omega, h.apart, h.base⟩
theorem PS.start {room : Nat} (ha : AW a w0 D (newS room) bl w) : PS a w0 D (newS room) bl w.heap.size none 0 (w.alloc (.cells #[.int .i64 (room : Int), .slice none 0 0, .bool false, .int .i64 (-1)] 30)) :=
  have hb := Joins.below_alloc1 w (.cells #[.int .i64 (room : Int), .slice none 0 0, .bool false, .int .i64 (-1)] 30)
  ⟨ha.keep hb, ⟨.inl rfl, fun g off he => (by cases he)⟩, heap_alloc_new w _, fun hin => by have := (ha.disk.lt _ hin).2; omega, fun g off he => (by cases he), ha.below.size⟩

theorem PS.drew0 (_h : PS a w0 D s bl bx p c w) : Below w.heap.size w w.drew := (Below.refl _ _).drew
theorem PS.onBelow (h : PS a w0 D s bl bx p c w) {U : World} (hb : Below w.heap.size w U) : Below w0.heap.size w0 U := h.aw.below.trans (hb.mono h.aw.below.size)
theorem PS.used (h : PS a w0 D s bl bx p c w) : ∀ U, Below w.heap.size w U → Calls Tryd.prog 11 #[.pointer (some ⟨D, 0, none⟩), .agg #[.int .i64 (s.room : Int), .slice p s.l.length c, .bool s.off, .int .i64 (fz s)]] U fun e w' => e = .returned (.bool true) ∧ Below U.heap.size U w' :=
  fun _ hb => same_any (h.aw.keep hb) p c (h.row.1.below hb)
theorem PS.rlist (h : PS a w0 D s bl bx p c w) (t : ByteArray) : ∀ U, Below w.heap.size w U → Calls Tryd.prog 14 #[.agg #[.int .i64 (s.room : Int), .slice p s.l.length c, .bool s.off, .int .i64 (fz s)], .string t] U (ListPost (listD s t) U) :=
  fun U hb => refList_any s h.aw.disk.fit t p c U (h.row.1.below hb)
theorem PS.dlist (h : PS a w0 D s bl bx p c w) (t : ByteArray) : ∀ U, Below w.heap.size w U → Calls Tryd.prog 13 #[.pointer (some ⟨D, 0, none⟩), .string t] U (ListPost (listD s t) U) :=
  fun _ hb => dList (h.aw.keep hb).disk t
theorem PS.boxAt (h : PS a w0 D s bl bx p c w) : ∀ U, Below w.heap.size w U → U.cell? ⟨bx, 0, none⟩ = some (.int .i64 (s.room : Int)) ∧ U.cell? ⟨bx, 1, none⟩ = some (.slice p s.l.length c) ∧ U.cell? ⟨bx, 2, none⟩ = some (.bool s.off) ∧ U.cell? ⟨bx, 3, none⟩ = some (.int .i64 (fz s)) :=
  fun _ hb => ⟨(hb.cell h.lt).trans h.cells.1, (hb.cell h.lt).trans h.cells.2.1, (hb.cell h.lt).trans h.cells.2.2.1, (hb.cell h.lt).trans h.cells.2.2.2.1⟩
theorem list_max (h : Fit s) (t : ByteArray) : (listD s t).length ≤ maxLen := by
  unfold listD maxLen
  split
  · simp
  · have := List.length_filter_le (hasP t) (s.l.map (·.name)); rw [List.length_map] at this; have := h.len; omega
/-- the box and the deeds behind a deed on the disk -/
theorem PS.kept (h : PS a w0 D s bl bx p c w) {bl2 : List Nat} {U : World} (hf : Fr bl bl2 w U) : U.heap[bx]? = some (dbox s p c) := by
  rw [hf.block bx h.lt h.far]; exact h.box
theorem PS.old (h : PS a w0 D s bl bx p c w) {bl2 : List Nat} {U : World} (hf : Fr bl bl2 w U) : Below w0.heap.size w0 U :=
  h.aw.below.trans (hf.below (fun k hk => (h.aw.disk.lt k hk).1) h.aw.below.size)
theorem PS.do (h : PS a w0 D s bl bx p c w) (d : Dd) (hnm : d.name.size ≤ 9223372036854775807) (hbd : d.body.size ≤ 9223372036854775807) (hds : d.dest.size ≤ 9223372036854775807) (hn0 : -9223372036854775808 ≤ d.n) (hn : d.n ≤ 9223372036854775807) :
    Calls Tryd.prog 10 #[.pointer (some ⟨D, 0, none⟩), .agg #[.int .i64 (s.room : Int), .slice p s.l.length c, .bool s.off, .int .i64 (fz s)], .agg #[.int .i64 d.kind, .string d.name, .string d.body, .string d.dest, .int .i64 d.n]] w.drew (DoPost a w0 D bl p (doS s d) w.drew) :=
  do_any h.aw.drew p c (h.row.below h.drew0) d hnm hbd hds hn0 hn

theorem PS.doAt (h : PS a w0 D s bl bx p c w) (d : Dd) (hnm : d.name.size ≤ 9223372036854775807) (hbd : d.body.size ≤ 9223372036854775807) (hds : d.dest.size ≤ 9223372036854775807) (hn0 : -9223372036854775808 ≤ d.n) (hn : d.n ≤ 9223372036854775807) :
    ∀ U, Below w.heap.size w U → Calls Tryd.prog 10 #[.pointer (some ⟨D, 0, none⟩), .agg #[.int .i64 (s.room : Int), .slice p s.l.length c, .bool s.off, .int .i64 (fz s)], .agg #[.int .i64 d.kind, .string d.name, .string d.body, .string d.dest, .int .i64 d.n]] U (DoPost a w0 D bl p (doS s d) U) :=
  fun _ hb => do_any (h.aw.keep hb) p c (h.row.below hb) d hnm hbd hds hn0 hn

/-- behind a deed: the disks, and the box that is not turned yet -/
structure AF (a : Addr) (w0 : World) (D : Nat) (s2 : DS) (bl2 : List Nat) (q : Option Addr) (bx : Nat) (s : DS) (p : Option Addr) (c : Nat) (w : World) : Prop where
  aw : AW a w0 D s2 bl2 w
  row : RowF w q s2.l bl2
  box : w.heap[bx]? = some (dbox s p c)
  far : bx ∉ bl2
  apart : ∀ g off, q = some ⟨g, off, none⟩ → g ≠ bx
  base : w0.heap.size ≤ bx

theorem PS.af (h : PS a w0 D s bl bx p c w) {bl2 : List Nat} {q : Option Addr} {s2 : DS} {w2 : World} (ha : AW a w0 D s2 bl2 w2) (hr : RowF w2 q s2.l bl2) (hf : Fr bl bl2 w w2) (hq : ∀ g off, q = some ⟨g, off, none⟩ → q = p ∨ w.heap.size ≤ g) : AF a w0 D s2 bl2 q bx s p c w2 := by
  have hlt := h.lt
  exact ⟨ha, hr, h.kept hf, h.fresh hf, fun g off he => by
    rcases hq g off he with h1 | h1
    · rw [h1] at he; exact h.apart g off he
    · omega, h.base⟩
variable {s2 : DS} {bl2 : List Nat} {q : Option Addr}
theorem AF.lt (h : AF a w0 D s2 bl2 q bx s p c w) : bx < w.heap.size := (Array.getElem?_eq_some_iff.1 h.box).1
theorem AF.alloc (h : AF a w0 D s2 bl2 q bx s p c w) (o : Obj) : AF a w0 D s2 bl2 q bx s p c (w.alloc o) :=
  have hb := Joins.below_alloc1 w o
  ⟨h.aw.keep hb, h.row.below hb, by rw [hb.block bx h.lt]; exact h.box, h.far, h.apart, h.base⟩
theorem AF.four (h : AF a w0 D s2 bl2 q bx s p c w) {y : Nat} (hy : y ∉ bl2) (hyx : bx ≠ y) (hyb : w0.heap.size ≤ y) (hyq : ∀ g off, q = some ⟨g, off, none⟩ → g ≠ y) (v0 v1 v2 v3 : Value) :
    AF a w0 D s2 bl2 q bx s p c ((((w.setCell ⟨y, 0, none⟩ v0).setCell ⟨y, 1, none⟩ v1).setCell ⟨y, 2, none⟩ v2).setCell ⟨y, 3, none⟩ v3) :=
  ⟨h.aw.turn (fr_four _ _ _ _ _ _) hy hyb, h.row.four hyq _ _ _ _, by rw [Below.heap_setCell _ _ _ _ hyx, Below.heap_setCell _ _ _ _ hyx, Below.heap_setCell _ _ _ _ hyx, Below.heap_setCell _ _ _ _ hyx]; exact h.box, h.far, h.apart, h.base⟩
theorem AF.cells (h : AF a w0 D s2 bl2 q bx s p c w) : w.cell? ⟨bx, 0, none⟩ = some (.int .i64 (s.room : Int)) ∧ w.cell? ⟨bx, 1, none⟩ = some (.slice p s.l.length c) ∧ w.cell? ⟨bx, 2, none⟩ = some (.bool s.off) ∧ w.cell? ⟨bx, 3, none⟩ = some (.int .i64 (fz s)) ∧
    w.frozen? ⟨bx, 0, none⟩ = false ∧ w.frozen? ⟨bx, 1, none⟩ = false ∧ w.frozen? ⟨bx, 2, none⟩ = false ∧ w.frozen? ⟨bx, 3, none⟩ = false :=
  ⟨by rw [Joins.cell_of_block h.box]; rfl, by rw [Joins.cell_of_block h.box]; rfl, by rw [Joins.cell_of_block h.box]; rfl, by rw [Joins.cell_of_block h.box]; rfl,
   Joins.unfrozen_of_block h.box 0, Joins.unfrozen_of_block h.box 1, Joins.unfrozen_of_block h.box 2, Joins.unfrozen_of_block h.box 3⟩
/-- the box is turned -/
theorem AF.ps (h : AF a w0 D s2 bl2 q bx s p c w) (cq : Nat) : PS a w0 D s2 bl2 bx q cq ((((w.setCell ⟨bx, 0, none⟩ (.int .i64 (s2.room : Int))).setCell ⟨bx, 1, none⟩ (.slice q s2.l.length cq)).setCell ⟨bx, 2, none⟩ (.bool s2.off)).setCell ⟨bx, 3, none⟩ (.int .i64 (fz s2))) :=
  ⟨h.aw.turn (fr_four _ _ _ _ _ _) h.far h.base, h.row.four h.apart _ _ _ _, four_set h.box _ _ _ _, h.far, h.apart, h.base⟩
/-- the box and all old blocks as they were -/
def KO (w0 : World) (bx : Nat) (s : DS) (p : Option Addr) (c : Nat) (w : World) : Prop := w.heap[bx]? = some (dbox s p c) ∧ Below w0.heap.size w0 w
theorem PS.ko (h : PS a w0 D s bl bx p c w) : KO w0 bx s p c w := ⟨h.box, h.aw.below⟩
theorem PS.koF (h : PS a w0 D s bl bx p c w) {bl2 : List Nat} {U : World} (hf : Fr bl bl2 w U) : KO w0 bx s p c U := ⟨h.kept hf, h.old hf⟩
theorem KO.drew (h : KO w0 bx s p c w) : KO w0 bx s p c w.drew := ⟨h.1, h.2.drew⟩
theorem KO.alloc (h : KO w0 bx s p c w) (o : Obj) : KO w0 bx s p c (w.alloc o) :=
  ⟨by rw [Below.heap_alloc _ _ _ (Array.getElem?_eq_some_iff.1 h.1).1]; exact h.1, h.2.alloc h.2.size o⟩
theorem KO.four (h : KO w0 bx s p c w) {y : Nat} (hyx : bx ≠ y) (hyb : w0.heap.size ≤ y) (v0 v1 v2 v3 : Value) : KO w0 bx s p c ((((w.setCell ⟨y, 0, none⟩ v0).setCell ⟨y, 1, none⟩ v1).setCell ⟨y, 2, none⟩ v2).setCell ⟨y, 3, none⟩ v3) :=
  ⟨by rw [Below.heap_setCell _ _ _ _ hyx, Below.heap_setCell _ _ _ _ hyx, Below.heap_setCell _ _ _ _ hyx, Below.heap_setCell _ _ _ _ hyx]; exact h.1, (((h.2.setCell hyb _).setCell hyb _).setCell hyb _).setCell hyb _⟩
theorem KO.cells (h : KO w0 bx s p c w) : w.cell? ⟨bx, 0, none⟩ = some (.int .i64 (s.room : Int)) ∧ w.cell? ⟨bx, 1, none⟩ = some (.slice p s.l.length c) ∧ w.cell? ⟨bx, 2, none⟩ = some (.bool s.off) ∧ w.cell? ⟨bx, 3, none⟩ = some (.int .i64 (fz s)) :=
  ⟨by rw [Joins.cell_of_block h.1]; rfl, by rw [Joins.cell_of_block h.1]; rfl, by rw [Joins.cell_of_block h.1]; rfl, by rw [Joins.cell_of_block h.1]; rfl⟩
end Go.Proofs.YtopigchjdegpeaaDoor
