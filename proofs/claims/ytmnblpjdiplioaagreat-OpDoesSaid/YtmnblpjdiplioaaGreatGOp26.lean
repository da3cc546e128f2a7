/-
  Contexts by value and in memory: whole rows boxed, loaded, stored; their vector, their cloud, one place.
  Rows of names that lie between two blocks, and stay as they are while others are written; slices.Equal, slices.Concat, slices.Grow.
  Contexts in memory: three blocks in a row; a context's parts taken where a region draws.
  Has: the program's, and the document's.
-/
import Derived.Test.YtmnblpjdiplioaaGreatGOp12
import Derived.Test.YtmnblpjdiplioaaGreatGOp25
import Derived.Test.YtmnblpjdiplioaaGreatGOp02
import Derived.Deep.MidRow
import Derived.Test.YtmnblpjdiplioaaGreatGOp21
import Derived.Deep.RegionHeld3
import Derived.Lib.QuietBelow
import Derived.Deep.Cut
namespace Go.Proofs.YtmnblpjdiplioaaGreat
set_option linter.unusedSimpArgs false
set_option linter.unusedVariables false
set_option maxRecDepth 100000
open Go.RowKit Go.Sort

def ccs (v : Vc) (s : Value) : Array Value := (ics v).push s
theorem ccs_size (v : Vc) (s : Value) : (ccs v s).size = v.length + 1 := by simp [ccs, ics_size]
theorem ccs_get (v : Vc) (s : Value) (j : Nat) (h : j < v.length) : (ccs v s)[j]? = some (.int .i64 (v.getD j 0)) := by
  unfold ccs
  rw [Array.getElem?_push, ics_size, if_neg (by omega)]
  exact ics_get v j h
theorem ccs_last (v : Vc) (s : Value) (h : v.length = 16) : (ccs v s)[16]? = some s := by
  unfold ccs
  rw [Array.getElem?_push, ics_size, if_pos h.symm]
theorem ccs_set (v : Vc) (s : Value) (j : Nat) (x : Int) (h : j < v.length) : (ccs v s).setIfInBounds j (.int .i64 x) = ccs (v.set j x) s := by
  unfold ccs ics
  apply Array.ext'
  simp [List.map_set, List.set_append, h]
theorem ccs_put (v : Vc) (s t : Value) (h : v.length = 16) : (ccs v s).setIfInBounds 16 t = ccs v t := by
  unfold ccs ics
  apply Array.ext'
  simp [List.set_append, h]
theorem ccs_one (v : Vc) (a : Option Addr) (n c : Nat) : (ccs v (.slice a n c)).all (·.oneCell') = true := by
  unfold ccs
  rw [Array.all_push, ics_one]
  rfl
theorem ctxArr : (Tryz.prog.info? 56).map (·.size) = some 17 := by kernel_rfl
theorem infoC {v : Vc} (s : Value) (h : v.length = 16) : (Tryz.prog.info? 56).map (·.size) = some (ccs v s).size := by rw [ccs_size, h]; exact ctxArr

/-- a block of a context -/
def CRow (w : World) (b : Nat) (v : Vc) (s : Value) : Prop := w.heap[b]? = some (.cells (ccs v s) 56 (0, 0))
theorem CRow.cell {w : World} {b : Nat} {v : Vc} {s : Value} (h : CRow w b v s) (j : Nat) (hj : j < v.length) : w.cell? ⟨b, j, none⟩ = some (.int .i64 (v.getD j 0)) := by
  rw [Joins.cell_of_block h, ccs_get v s j hj]
theorem CRow.cloud {w : World} {b : Nat} {v : Vc} {s : Value} (h : CRow w b v s) (hv : v.length = 16) : w.cell? ⟨b, 16, none⟩ = some s := by
  rw [Joins.cell_of_block h, ccs_last v s hv]
theorem CRow.free {w : World} {b : Nat} {v : Vc} {s : Value} (h : CRow w b v s) (j : Nat) : w.frozen? ⟨b, j, none⟩ = false := Joins.unfrozen_of_block h j
theorem CRow.lt {w : World} {b : Nat} {v : Vc} {s : Value} (h : CRow w b v s) : b < w.heap.size := (Array.getElem?_eq_some_iff.1 h).1
theorem CRow.set {w : World} {b : Nat} {v : Vc} {s : Value} (h : CRow w b v s) (j : Nat) (x : Int) (hj : j < v.length) : CRow (w.setCell ⟨b, j, none⟩ (.int .i64 x)) b (v.set j x) s := by
  have := Joins.block_setCell (i := j) h (.int .i64 x)
  rw [ccs_set v s j x hj] at this
  exact this
theorem CRow.setS {w : World} {b : Nat} {v : Vc} {s : Value} (h : CRow w b v s) (t : Value) (hv : v.length = 16) : CRow (w.setCell ⟨b, 16, none⟩ t) b v t := by
  have := Joins.block_setCell (i := 16) h t
  rw [ccs_put v s t hv] at this
  exact this
theorem CRow.other {w : World} {b c : Nat} {v : Vc} {s : Value} (h : CRow w b v s) (hc : b ≠ c) (j : Nat) (x : Value) : CRow (w.setCell ⟨c, j, none⟩ x) b v s := by
  unfold CRow; rw [Below.heap_setCell _ _ _ _ hc]; exact h
theorem CRow.drew {w : World} {b : Nat} {v : Vc} {s : Value} (h : CRow w b v s) : CRow w.drew b v s := h
theorem CRow.below {w w' : World} {b B : Nat} {v : Vc} {s : Value} (h : CRow w b v s) (hb : Go.RowKit.Below B w w') (hB : b < B) : CRow w' b v s := by
  unfold CRow; rw [hb.block b hB]; exact h
theorem CRow.keep {w w' : World} {b : Nat} {v : Vc} {s : Value} (h : CRow w b v s) (hb : Go.RowKit.Below w.heap.size w w') : CRow w' b v s := h.below hb h.lt
theorem CRow.alloc {w : World} {b : Nat} {v : Vc} {s : Value} (h : CRow w b v s) (o : Obj) : CRow (w.alloc o) b v s := by
  unfold CRow; rw [Below.heap_alloc _ _ _ h.lt]; exact h
theorem CRow.of_set {w : World} {b c : Nat} {v : Vc} {s : Value} (h : CRow w b v s) (hc : b ≠ c) (C : Array Value) : CRow (w.setRow c C) b v s := by
  unfold CRow; rw [setRow_other _ _ _ _ hc]; exact h
theorem CRow.of_put {w : World} {b : Nat} {old : Array Value} (h : w.heap[b]? = some (.cells old 56 (0, 0))) (v : Vc) (s : Value) : CRow (w.setRow b (ccs v s)) b v s := setRow_heap _ _ _ _ _ _ h
theorem CRow.new (w : World) (v : Vc) (s : Value) : CRow (w.alloc (.cells (ccs v s) 56)) w.heap.size v s := heap_alloc_new w _
theorem CRow.grown {w w' : World} {b : Nat} {row : Option Nat} {v : Vc} {s : Value} (h : CRow w b v s) (hg : w.grownBy w' row) (hne : row ≠ some b) : CRow w' b v s := by
  unfold CRow; rw [hg.block b h.lt (fun j => hne j.symm)]; exact h

def boxC (w : World) (v : Vc) (s : Value) : World := w.alloc (.cells (ccs v s) 56)
theorem boxC_below (w : World) (v : Vc) (s : Value) : Go.RowKit.Below w.heap.size w (boxC w v s) := (Below.refl _ _).alloc (Nat.le_refl _) _
theorem boxC_size (w : World) (v : Vc) (s : Value) : (boxC w v s).heap.size = w.heap.size + 1 := by simp [boxC]

/-- a whole row stored, loaded; its vector loaded -/
theorem cl_store {ops : Array Oper} {rest : List Oper} {o : Oper} {a : Act} {w : World} {Q : Exit → Act → World → Prop} (hgd : o.guard = none) (x y : Operand) (ho : o.op = .store 56 x y) (g : Nat) (v : Vc) (p : Option Addr) (n c : Nat)
    (hx : a.eval x = .pointer (some ⟨g, 0, none⟩)) (hy : a.eval y = .agg (ccs v (.slice p n c))) (hg : ∃ (old : Vc) (so : Value), CRow w g old so ∧ old.length = 16) (hl : v.length = 16)
    (h : wpList Tryz.prog ops Q rest (a.put o.dst undef) (w.setRow g (ccs v (.slice p n c)))) : wpList Tryz.prog ops Q (o :: rest) a w := by
  obtain ⟨old, so, hg, ho2⟩ := hg
  exact wpList_store_row hgd 56 x y ho g (ccs v (.slice p n c)) hx hy 56 (ccs old so) hg (infoC _ hl) (by rw [ccs_size, ccs_size, hl, ho2]) (ccs_one _ _ _ _) h
theorem cl_load {ops : Array Oper} {rest : List Oper} {o : Oper} {a : Act} {w : World} {Q : Exit → Act → World → Prop} (hw : Region.wanted o (yielded ops a.tmps) = true) (x : Operand) (ho : o.op = .load 56 x) (g : Nat) (v : Vc) (s : Value)
    (hx : a.eval x = .pointer (some ⟨g, 0, none⟩)) (hg : CRow w g v s) (hl : v.length = 16)
    (h : wpList Tryz.prog ops Q rest (a.put o.dst (.agg (ccs v s))) w) : wpList Tryz.prog ops Q (o :: rest) a w := by
  unfold wpList
  rw [if_pos hw]
  exact .inl (wp_load_row 56 x ho g hx 56 (ccs v s) (0, 0) _ hg Tryz.underlying56 rfl (infoC s hl) h)
theorem CRow.range {w : World} {b : Nat} {v : Vc} {s : Value} (h : CRow w b v s) : w.rangeAt b 0 (v.map (Value.int .i64)) := fun j u hu => by
  have hj : j < v.length := by have := (List.getElem?_eq_some_iff.1 hu).1; simpa using this
  rw [Nat.zero_add, h.cell j hj]
  rw [List.getElem?_map, List.getElem?_eq_getElem hj] at hu
  rw [List.getD_eq_getElem?_getD, List.getElem?_eq_getElem hj]
  exact hu
theorem infoVm {v : Vc} (h : v.length = 16) : (Tryz.prog.info? 54).map (·.size) = some (v.map (Value.int .i64)).length := by rw [List.length_map, h]; exact vecArr
theorem cl_loadV {ops : Array Oper} {rest : List Oper} {o : Oper} {a : Act} {w : World} {Q : Exit → Act → World → Prop} (hw : Region.wanted o (yielded ops a.tmps) = true) (x : Operand) (ho : o.op = .load 54 x) (g : Nat) (v : Vc) (s : Value)
    (hx : a.eval x = .pointer (some ⟨g, 0, none⟩)) (hg : CRow w g v s) (hl : v.length = 16)
    (h : wpList Tryz.prog ops Q rest (a.put o.dst (.agg (ics v))) w) : wpList Tryz.prog ops Q (o :: rest) a w := by
  unfold wpList
  rw [if_pos hw]
  exact .inl (wp_load_mid 54 x ho g 0 hx (v.map (Value.int .i64)) _ hg.range Tryz.underlying54 rfl (infoVm hl) h)

/-- in a region that draws: in any world -/
theorem CRow.loadAt {w : World} {b : Nat} {v : Vc} {s : Value} (h : CRow w b v s) (hl : v.length = 16) : (Instr.loadAt 56 (.pointer (some ⟨b, 0, none⟩))).run Tryz.prog w = .ok (.agg (ccs v s)) w := by
  simp only [Instr.loadAt, Instr.sureAddr, Sem.run_bind, Sem.run_pure, Result.andThen_ok, run_loadVar_row w b 56 56 (ccs v s) (0, 0) _ h Tryz.underlying56 rfl (infoC s hl)]
theorem CRow.loadV {w : World} {b : Nat} {v : Vc} {s : Value} (h : CRow w b v s) (hl : v.length = 16) : (Instr.loadAt 54 (.pointer (some ⟨b, 0, none⟩))).run Tryz.prog w = .ok (.agg (ics v)) w :=
  run_loadAt_mid w b 0 54 (v.map (Value.int .i64)) _ h.range Tryz.underlying54 rfl (infoVm hl)
theorem cq_load {ops : Array Oper} {C : World → Prop} {Q : Act → Prop} {rest : List Oper} {o : Oper} {a : Act} (hw : Region.wanted o (yielded ops a.tmps) = true) (x : Operand) (ho : o.op = .load 56 x) (g : Nat) (v : Vc) (s : Value)
    (hx : a.eval x = .pointer (some ⟨g, 0, none⟩)) (hg : ∀ w, C w → CRow w g v s) (hl : v.length = 16)
    (h : wpQuiet Tryz.prog ops C Q rest (a.put o.dst (.agg (ccs v s)))) : wpQuiet Tryz.prog ops C Q (o :: rest) a := by
  refine wpQuiet_step fun K hK => ?_
  rw [if_pos hw]
  refine ⟨_, fun w hC => ?_, hK _ h⟩
  unfold Oper.quietAt execOp
  simp only [ho, hx, Sem.run_bind, Sem.run_pure, Result.andThen_ok, (hg w hC).loadAt hl]
  exact ⟨rfl, rfl⟩
theorem cq_loadV {ops : Array Oper} {C : World → Prop} {Q : Act → Prop} {rest : List Oper} {o : Oper} {a : Act} (hw : Region.wanted o (yielded ops a.tmps) = true) (x : Operand) (ho : o.op = .load 54 x) (g : Nat) (v : Vc) (s : Value)
    (hx : a.eval x = .pointer (some ⟨g, 0, none⟩)) (hg : ∀ w, C w → CRow w g v s) (hl : v.length = 16)
    (h : wpQuiet Tryz.prog ops C Q rest (a.put o.dst (.agg (ics v)))) : wpQuiet Tryz.prog ops C Q (o :: rest) a := by
  refine wpQuiet_step fun K hK => ?_
  rw [if_pos hw]
  refine ⟨_, fun w hC => ?_, hK _ h⟩
  unfold Oper.quietAt execOp
  simp only [ho, hx, Sem.run_bind, Sem.run_pure, Result.andThen_ok, (hg w hC).loadV hl]
  exact ⟨rfl, rfl⟩
theorem CRow.regrown {W : World} {b : Nat} {v : Vc} {s : Value} (h : CRow W b v s) : ∀ w, (∃ p : Regrown, w = grow (redrawn W p.d) p.os) → CRow w b v s := by
  rintro w ⟨p, rfl⟩
  exact h.keep (below_regrown W p.d p.os)

/-- sixteen numbers written out -/
theorem list16 {v : Vc} (h : v.length = 16) : ∃ a b c d e f g h i j k l m n o p : Int, v = [a, b, c, d, e, f, g, h, i, j, k, l, m, n, o, p] := by
  match v, h with
  | [a, b, c, d, e, f, g, h, i, j, k, l, m, n, o, p], _ => exact ⟨a, b, c, d, e, f, g, h, i, j, k, l, m, n, o, p, rfl⟩
set_option maxRecDepth 100000 in
theorem builtC {v : Vc} (h : v.length = 16) (p : Option Addr) (n c : Nat) : Tryz.prog.built 56 [(0, .agg (ics v)), (1, .slice p n c)] = some (ccs v (.slice p n c)) := by
  obtain ⟨x0, x1, x2, x3, x4, x5, x6, x7, x8, x9, x10, x11, x12, x13, x14, x15, rfl⟩ := list16 h
  kernel_rfl
theorem buildC {v : Vc} (h : v.length = 16) (p : Option Addr) (n c : Nat) (W : World) : (Instr.build 56 #[(0, .agg (ics v)), (1, .slice p n c)]).run Tryz.prog W = .ok (.agg (ccs v (.slice p n c))) W :=
  run_build W 56 _ _ (builtC h p n c)
theorem cl_build {ops : Array Oper} {rest : List Oper} {o : Oper} {a : Act} {w : World} {Q : Exit → Act → World → Prop} (hw : Region.wanted o (yielded ops a.tmps) = true) (x y : Operand) (ho : o.op = .build 56 #[(0, x), (1, y)]) (v : Vc) (p : Option Addr) (n c : Nat)
    (hx : a.eval x = .agg (ics v)) (hy : a.eval y = .slice p n c) (hl : v.length = 16)
    (h : wpList Tryz.prog ops Q rest (a.put o.dst (.agg (ccs v (.slice p n c)))) w) : wpList Tryz.prog ops Q (o :: rest) a w :=
  vl_build hw 56 _ ho (ccs v (.slice p n c)) (by simp [hx, hy, builtC hl]) h

/-- a context with its cloud, to be read -/
structure CIn (w : World) (c : Cx) (p : Option Addr) : Prop where
  v16 : c.v.length = 16
  din : DIn w p c.l
  len : c.l.length ≤ 32768
theorem CIn.below {w w' : World} {c : Cx} {p : Option Addr} (h : CIn w c p) (hb : Go.RowKit.Below w.heap.size w w') : CIn w' c p := ⟨h.v16, h.din.below hb, h.len⟩
theorem CIn.alloc {w : World} {c : Cx} {p : Option Addr} (h : CIn w c p) (o : Obj) : CIn (w.alloc o) c p := ⟨h.v16, h.din.alloc o, h.len⟩
/-- by value -/
def cv (c : Cx) (p : Option Addr) (k : Nat) : Value := .agg (ccs c.v (.slice p c.l.length k))
theorem retC {fn : Func} {p : Tmp} (h : fn.results = #[.cell p 56]) (tmps : Array Value) (w : World) (g : Nat) (v : Vc) (s : Value)
    (hp : tmps.getD p undef = .pointer (some ⟨g, 0, none⟩)) (hg : CRow w g v s) (hl : v.length = 16) :
    (results fn tmps).run Tryz.prog w = .ok (.agg (ccs v s)) w :=
  results_cell_row h tmps w g 56 (ccs v s) (0, 0) _ hp hg Tryz.underlying56 rfl (infoC s hl)
end Go.Proofs.YtmnblpjdiplioaaGreat

namespace Go.Proofs.YtmnblpjdiplioaaGreat
set_option maxRecDepth 100000
open Go.RowKit Go.Sort

/-- names in a block from lo on -/
def DFrom (w : World) (lo : Nat) (a : Option Addr) (l : List Dt) : Prop :=
  l = [] ∨ ∃ b off, a = some ⟨b, off, none⟩ ∧ lo ≤ b ∧ b < w.heap.size ∧ ∀ j d, l[j]? = some d → w.cell? ⟨b, off + j * 2, none⟩ = some (.int .i64 d.1) ∧ w.cell? ⟨b, off + j * 2 + 1, none⟩ = some (.int .i64 d.2)
theorem DFrom.din {w : World} {lo : Nat} {a : Option Addr} {l : List Dt} (h : DFrom w lo a l) : DIn w a l := by
  rcases h with h | ⟨b, off, h1, h2, h3, h4⟩
  · exact .inl h
  · exact .inr ⟨b, off, h1, h3, h4⟩
/-- from lo to hi all is as it was -/
structure Mid (lo hi : Nat) (w w' : World) : Prop where
  size : w.heap.size ≤ w'.heap.size
  block : ∀ b, lo ≤ b → b < hi → w'.heap[b]? = w.heap[b]?
theorem Mid.refl (lo hi : Nat) (w : World) : Mid lo hi w w := ⟨Nat.le_refl _, fun _ _ _ => rfl⟩
theorem Mid.below {lo hi B : Nat} {w w1 w2 : World} (h : Mid lo hi w w1) (hb : Go.RowKit.Below B w1 w2) (hB : hi ≤ B) : Mid lo hi w w2 :=
  ⟨Nat.le_trans h.size hb.size, fun b h1 h2 => (hb.block b (by omega)).trans (h.block b h1 h2)⟩
theorem Mid.set {lo hi : Nat} {w w1 : World} (h : Mid lo hi w w1) {g : Nat} (hg : g < lo ∨ hi ≤ g) (j : Nat) (v : Value) : Mid lo hi w (w1.setCell ⟨g, j, none⟩ v) :=
  ⟨by simpa using h.size, fun b h1 h2 => by rw [Below.heap_setCell _ _ _ _ (show b ≠ g by omega)]; exact h.block b h1 h2⟩
theorem Mid.setRow {lo hi : Nat} {w w1 : World} (h : Mid lo hi w w1) {g : Nat} (hg : g < lo ∨ hi ≤ g) (C : Array Value) : Mid lo hi w (w1.setRow g C) :=
  ⟨by simpa using h.size, fun b h1 h2 => by rw [setRow_other _ _ _ _ (show b ≠ g by omega)]; exact h.block b h1 h2⟩
theorem DFrom.mid {w w' : World} {lo hi : Nat} {a : Option Addr} {l : List Dt} (h : DFrom w lo a l) (hm : Mid lo hi w w') (hh : w.heap.size ≤ hi) : DFrom w' lo a l := by
  rcases h with h | ⟨b, off, h1, h2, h3, h4⟩
  · exact .inl h
  · have hb := hm.block b h2 (by omega)
    refine .inr ⟨b, off, h1, h2, Nat.lt_of_lt_of_le h3 hm.size, fun j d hj => ?_⟩
    obtain ⟨c0, c1⟩ := h4 j d hj
    exact ⟨(World.cell?_of_block (a := ⟨b, off + j * 2, none⟩) hb).trans c0, (World.cell?_of_block (a := ⟨b, off + j * 2 + 1, none⟩) hb).trans c1⟩
theorem DFrom.below {w w' : World} {lo : Nat} {a : Option Addr} {l : List Dt} (h : DFrom w lo a l) (hb : Go.RowKit.Below w.heap.size w w') : DFrom w' lo a l :=
  h.mid (hi := w.heap.size) ⟨hb.size, fun b _ h2 => hb.block b h2⟩ (Nat.le_refl _)
theorem DFrom.mono {w : World} {lo lo' : Nat} {a : Option Addr} {l : List Dt} (h : DFrom w lo a l) (hl : lo' ≤ lo) : DFrom w lo' a l := by
  rcases h with h | ⟨b, off, h1, h2, h3, h4⟩
  · exact .inl h
  · exact .inr ⟨b, off, h1, by omega, h3, h4⟩
theorem DFrom.set {w : World} {lo : Nat} {a : Option Addr} {l : List Dt} (h : DFrom w lo a l) {g : Nat} (hg : g < lo) (j : Nat) (v : Value) : DFrom (w.setCell ⟨g, j, none⟩ v) lo a l :=
  h.mid (hi := w.heap.size) ((Mid.refl _ _ _).set (.inl hg) j v) (Nat.le_refl _)
theorem DFrom.setRow {w : World} {lo : Nat} {a : Option Addr} {l : List Dt} (h : DFrom w lo a l) {g : Nat} (hg : g < lo) (C : Array Value) : DFrom (w.setRow g C) lo a l :=
  h.mid (hi := w.heap.size) ((Mid.refl _ _ _).setRow (.inl hg) C) (Nat.le_refl _)
/-- a context whose cloud is new -/
structure Made (B : Nat) (w : World) (c : Cx) (p : Option Addr) : Prop where
  v16 : c.v.length = 16
  new : DFrom w B p c.l
  len : c.l.length ≤ 32768
theorem Made.cin {B : Nat} {w : World} {c : Cx} {p : Option Addr} (h : Made B w c p) : CIn w c p := ⟨h.v16, h.new.din, h.len⟩
theorem Made.below {B : Nat} {w w' : World} {c : Cx} {p : Option Addr} (h : Made B w c p) (hb : Go.RowKit.Below w.heap.size w w') : Made B w' c p := ⟨h.v16, h.new.below hb, h.len⟩
theorem Made.setRow {B : Nat} {w : World} {c : Cx} {p : Option Addr} (h : Made B w c p) {g : Nat} (hg : g < B) (C : Array Value) : Made B (w.setRow g C) c p := ⟨h.v16, h.new.setRow hg C, h.len⟩
theorem Made.mono {B B' : Nat} {w : World} {c : Cx} {p : Option Addr} (h : Made B w c p) (hB : B' ≤ B) : Made B' w c p := ⟨h.v16, h.new.mono hB, h.len⟩
theorem OwnD.from {B : Nat} {v : Value} {l : List Dt} {w : World} (h : OwnD B v l w) : ∃ a cap, v = .slice a l.length cap ∧ DFrom w B a l ∧ l.length ≤ cap ∧ cap ≤ maxLen := by
  obtain ⟨a, cap, hv, hd, hc, hm⟩ := h.din2
  refine ⟨a, cap, hv, ?_, hc, hm⟩
  rcases h.2 with ⟨he, h0⟩ | ⟨g, cap', cur, he, hB, hg, -⟩
  · exact .inl (List.length_eq_zero_iff.1 h0)
  · rcases hd with h | ⟨b, off, ha, hlt, hcc⟩
    · exact .inl h
    · rw [hv, ha] at he
      injection he with h1 h2 h3
      injection h1 with h1
      injection h1 with h4 h5
      exact .inr ⟨b, off, ha, by omega, hlt, hcc⟩
theorem OwnD.setc {B : Nat} {v : Value} {l : List Dt} {w : World} (h : OwnD B v l w) {g : Nat} (hg : g < B) (j : Nat) (x : Value) : OwnD B v l (w.setCell ⟨g, j, none⟩ x) := by
  unfold OwnD at *
  refine ⟨h.1, ?_⟩
  rcases h.2 with hn | ⟨g', cap, cur, hv, hB, hgg, rest⟩
  · exact .inl hn
  · exact .inr ⟨g', cap, cur, hv, hB, by rw [Below.heap_setCell _ _ _ _ (show g' ≠ g by omega)]; exact hgg, rest⟩

end Go.Proofs.YtmnblpjdiplioaaGreat

namespace Go.Proofs.YtmnblpjdiplioaaGreat
set_option linter.unusedSimpArgs false
set_option linter.unusedVariables false
set_option maxRecDepth 100000
open Go.RowKit Go.Sort Go.Shelf

abbrev nilS : Value := .slice none 0 0
/-- three contexts' blocks: one that came in, the answer's, one that is built -/
theorem three_ctx (w : World) (v : Vc) (s : Value) : CRow (boxC (boxC (boxC w v s) zV nilS) zV nilS) w.heap.size v s ∧ CRow (boxC (boxC (boxC w v s) zV nilS) zV nilS) (w.heap.size + 1) zV nilS ∧
    CRow (boxC (boxC (boxC w v s) zV nilS) zV nilS) (w.heap.size + 2) zV nilS ∧ Go.RowKit.Below w.heap.size w (boxC (boxC (boxC w v s) zV nilS) zV nilS) ∧ (boxC (boxC (boxC w v s) zV nilS) zV nilS).heap.size = w.heap.size + 3 := by
  have e1 := boxC_size w v s
  have e2 := boxC_size (boxC w v s) zV nilS
  have h0 := CRow.new w v s
  have h1 := CRow.new (boxC w v s) zV nilS
  have h2 := CRow.new (boxC (boxC w v s) zV nilS) zV nilS
  rw [e1] at h1
  rw [e2, e1] at h2
  exact ⟨(h0.alloc _).alloc _, h1.alloc _, h2, ((boxC_below w v s).alloc (by rw [e1]; omega) _).alloc (by rw [World.size_alloc, e1]; omega) _, by rw [boxC_size, e2, e1]⟩

/-- in a region that draws: a whole context, its vector, may be taken first -/
theorem yield_C {ops : Array Oper} {S : World → Prop} {o : Oper} {a : Act} (hw : Region.wanted o (yielded ops a.tmps) = true) (x : Operand) (ho : o.op = .load 56 x) (g : Nat) (v : Vc) (s : Value) (hx : a.eval x = .pointer (some ⟨g, 0, none⟩))
    (hg : ∀ w, S w → CRow w g v s) (hl : v.length = 16) : YieldsIf Tryz.prog ops S o (.agg (ccs v s)) a := by
  refine .inl ⟨hw, fun w hS => ?_⟩
  unfold execOp
  simp only [ho, hx, Sem.run_bind, Sem.run_pure, Result.andThen_ok, (hg w hS).loadAt hl]
theorem yield_V {ops : Array Oper} {S : World → Prop} {o : Oper} {a : Act} (hw : Region.wanted o (yielded ops a.tmps) = true) (x : Operand) (ho : o.op = .load 54 x) (g : Nat) (v : Vc) (s : Value) (hx : a.eval x = .pointer (some ⟨g, 0, none⟩))
    (hg : ∀ w, S w → CRow w g v s) (hl : v.length = 16) : YieldsIf Tryz.prog ops S o (.agg (ics v)) a := by
  refine .inl ⟨hw, fun w hS => ?_⟩
  unfold execOp
  simp only [ho, hx, Sem.run_bind, Sem.run_pure, Result.andThen_ok, (hg w hS).loadV hl]
theorem yield_S {ops : Array Oper} {S : World → Prop} {o : Oper} {a : Act} (hw : Region.wanted o (yielded ops a.tmps) = true) (x : Operand) (ho : o.op = .load 41 x) (g : Nat) (v : Vc) (s : Value) (hx : a.eval x = .pointer (some ⟨g, 16, none⟩))
    (hg : ∀ w, S w → CRow w g v s) (hl : v.length = 16) : YieldsIf Tryz.prog ops S o s a := by
  refine .inl ⟨hw, fun w hS => ?_⟩
  have hc := (hg w hS).cloud hl
  unfold execOp
  simp only [ho, hx]
  go_simp
theorem yield_D {ops : Array Oper} {S : World → Prop} {o : Oper} {a : Act} (hw : Region.wanted o (yielded ops a.tmps) = true) (x : Operand) (ho : o.op = .load 36 x) (g off : Nat) (d : Dt) (hx : a.eval x = .pointer (some ⟨g, off, none⟩))
    (hg : ∀ w, S w → w.cell? ⟨g, off, none⟩ = some (.int .i64 d.1) ∧ w.cell? ⟨g, off + 1, none⟩ = some (.int .i64 d.2)) : YieldsIf Tryz.prog ops S o (.agg #[.int .i64 d.1, .int .i64 d.2]) a := by
  refine .inl ⟨hw, fun w hS => ?_⟩
  obtain ⟨h0, h1⟩ := hg w hS
  unfold execOp
  simp only [ho, hx]
  go_simp
end Go.Proofs.YtmnblpjdiplioaaGreat

namespace Go.Proofs.YtmnblpjdiplioaaGreat
set_option maxRecDepth 100000
open Go.RowKit Go.Sort

theorem dotBox (w : World) (v : Vc) (d : Dt) : VRow (boxD (w.alloc (.cells (ics v) 54)) d) w.heap.size v ∧
    (boxD (w.alloc (.cells (ics v) 54)) d).cell? ⟨w.heap.size + 1, 0, none⟩ = some (.int .i64 d.1) ∧
    (boxD (w.alloc (.cells (ics v) 54)) d).cell? ⟨w.heap.size + 1, 1, none⟩ = some (.int .i64 d.2) ∧
    Below w.heap.size w (boxD (w.alloc (.cells (ics v) 54)) d) ∧ w.heap.size + 1 < (boxD (w.alloc (.cells (ics v) 54)) d).heap.size := by
  have e1 : (w.alloc (.cells (ics v) 54)).heap.size = w.heap.size + 1 := by simp
  have h0 := VRow.new w v
  have hn : (boxD (w.alloc (.cells (ics v) 54)) d).heap[(w.alloc (.cells (ics v) 54)).heap.size]? = some (.cells #[.int .i64 d.1, .int .i64 d.2] 36) := heap_alloc_new _ _
  rw [e1] at hn
  refine ⟨h0.alloc _, ?_, ?_, ((Below.refl _ _).alloc (Nat.le_refl _) _).alloc (by simp) _, by simp [boxD]⟩
  · rw [Joins.cell_of_block hn]; rfl
  · rw [Joins.cell_of_block hn]; rfl
theorem chkD_boxed {f : FuncId} {d : Dt} (h : ∀ w, Calls Tryz.prog f #[.agg #[.int .i64 d.1, .int .i64 d.2]] w fun e w' => e = .returned (.int .i64 (chkD d)) ∧ boxD w d = w') (w : World) :
    Calls Tryz.prog f #[.agg #[.int .i64 d.1, .int .i64 d.2]] w fun e w' => e = .returned (.int .i64 (chkD d)) ∧ Below w.heap.size w w' :=
  (h w).mono fun e w' ⟨h1, h2⟩ => ⟨h1, by rw [← h2]; exact boxD_below w d⟩

set_option maxHeartbeats 4000000 in
set_option maxRecDepth 100000 in
theorem vhasR (v : Vc) (d : Dt) (hv : v.length = 16) (w : World) : Calls Tryz.prog 113 #[.agg (ics v), .agg #[.int .i64 d.1, .int .i64 d.2]] w fun e w' => e = .returned (.bool (hasV v d)) ∧ Below w.heap.size w w' := by
  have hh : hasV v d = (decide (chkD d = 0) && decide (d.2 ≤ v.getD d.1.toNat 0)) := rfl
  have hW := dotBox w v d
  have HCK := Lib.hid (fun W => chkD_boxed (fun W => checkR d W) W)
  have hok : chkD d = 0 → 0 ≤ d.1 ∧ d.1 ≤ 15 := fun h => by have := chkD_ok h; omega
  obtain ⟨r, n⟩ := d
  unfold boxD at hW
  simp only at hh hW HCK hok ⊢
  go_enter Tryz.func113, Tryz.ntmps113
  go_upto_region 1 with fail
  generalize (w.alloc (.cells (ics v) 54)).alloc (.cells #[.int .i64 r, .int .i64 n] 36) = w2 at *
  obtain ⟨r0, c0, c1, rB, hs⟩ := hW
  have RB := Lib.hid rB
  have d0 := fun q os => cell_regrown c0 q os
  have d1 := fun q os => cell_regrown c1 q os
  have HC2 := Lib.hid (fun q os => Calls.regrown_of (HCK.out (grow (redrawn w2 q) os)))
  clear rB HCK c0 c1
  by_cases h : chkD (r, n) = 0
  · obtain ⟨h0, h15⟩ := hok h
    obtain ⟨k, rfl⟩ := Int.eq_ofNat_of_zero_le h0
    have hk : k < 16 := by omega
    rw [h] at hh HC2
    have hcell := r0.cell k (by rw [hv]; exact hk)
    have e0 := fun q os => cell_regrown hcell q os
    have hh2 : hasV v ((k : Int), n) = decide (n ≤ v.getD k 0) := by rw [hh]; simp
    have hb : ((0 : Int) == 0) = true := rfl
    have HH := Lib.hid hh2
    clear hh hh2 hok h hcell r0 hv h0 h15
    generalize v.getD k 0 = x at *
    refine wp_region_quiet_below (by kernel_rfl) (by kernel_rfl) ?_
    repeat (first | go_big_quiet_step ((go_at_call 40; with_reducible exact HC2.out _ _)) | quiet_step ((go_at_call 40; with_reducible exact HC2.out _ _)))
    refine wpQuiet_nil ?_
    intro _ hw'
    obtain ⟨⟨dq, osq⟩, hw''⟩ := hw'
    subst hw''
    have HB9 := Lib.hid (RB.out.trans ((below_regrown w2 dq osq).mono (by omega)))
    clear d0 d1 e0 HC2
    generalize grow (redrawn w2 dq) osq = W at *
    go_wp2_with fail
    go_ret
    exact ⟨by rw [HH.out]; rfl, HB9.out⟩
  · have h2 : chkD (r, n) = 2 := (chkD_cases _).resolve_left h
    rw [h2] at hh HC2
    have hh2 : hasV v (r, n) = false := by rw [hh]; rfl
    have hb : ((2 : Int) == 0) = false := rfl
    have HH := Lib.hid hh2
    clear hh hh2 hok h h2 r0 hv
    refine wp_region_quiet_below (by kernel_rfl) (by kernel_rfl) ?_
    repeat (first | go_big_quiet_step ((go_at_call 40; with_reducible exact HC2.out _ _)) | quiet_step ((go_at_call 40; with_reducible exact HC2.out _ _)))
    refine wpQuiet_nil ?_
    intro _ hw'
    obtain ⟨⟨dq, osq⟩, hw''⟩ := hw'
    subst hw''
    have HB9 := Lib.hid (RB.out.trans ((below_regrown w2 dq osq).mono (by omega)))
    clear d0 d1 HC2
    generalize grow (redrawn w2 dq) osq = W at *
    go_wp2_with fail
    go_ret
    exact ⟨by rw [HH.out]; rfl, HB9.out⟩
end Go.Proofs.YtmnblpjdiplioaaGreat
