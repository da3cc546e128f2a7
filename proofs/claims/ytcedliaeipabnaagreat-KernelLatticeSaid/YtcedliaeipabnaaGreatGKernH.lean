/-
  Contexts by value and in memory: whole rows boxed, loaded, stored; their vector, their cloud, one place.
  Whether names may be, and rise: checkList of the program, Checks of the document.
  slices.SortFunc at []api.Dot: its bodies are those that the library's contract was proved of.
  slices.Clone and slices.SortFunc of names; Sort, the program's.
-/
import Derived.Test.YtcedliaeipabnaaGreatGKernG
import Derived.Test.YtcedliaeipabnaaGreatGKernC
import Derived.Deep.MidRow
import Derived.Test.YtcedliaeipabnaaGreatGKernE
import Derived.Lib.QuietBelow
import Derived.BigQuiet
import Derived.Shelf.SlSortCmp.NoneTotal
namespace Go.Proofs.YtcedliaeipabnaaGreat
set_option linter.unusedSimpArgs false
set_option linter.unusedVariables false
set_option maxRecDepth 100000
open Go.RowKit Go.Sort

def ccs (v : Vc) (s : Value) : Array Value := (ics v).push s
theorem ccs_size (v : Vc) (s : Value) : (ccs v s).size = v.length + 1 := by simp [ccs, ics_size]
theorem ccs_get (v : Vc) (s : Value) (j : Nat) (h : j < v.length) : (ccs v s)[j]? = some (.int .i64 (v.getD j 0)) := by
  unfold ccs
  rw [Array.getElem?_push, ics_size, if_neg (by omega)]
  exact ics_get v j h
theorem ccs_last (v : Vc) (s : Value) (h : v.length = 16) : (ccs v s)[16]? = some s := by
  unfold ccs
  rw [Array.getElem?_push, ics_size, if_pos h.symm]
theorem ccs_set (v : Vc) (s : Value) (j : Nat) (x : Int) (h : j < v.length) : (ccs v s).setIfInBounds j (.int .i64 x) = ccs (v.set j x) s := by
  unfold ccs ics
  apply Array.ext'
  simp [List.map_set, List.set_append, h]
theorem ccs_put (v : Vc) (s t : Value) (h : v.length = 16) : (ccs v s).setIfInBounds 16 t = ccs v t := by
  unfold ccs ics
  apply Array.ext'
  simp [List.set_append, h]
theorem ccs_one (v : Vc) (a : Option Addr) (n c : Nat) : (ccs v (.slice a n c)).all (·.oneCell') = true := by
  unfold ccs
  rw [Array.all_push, ics_one]
  rfl
theorem ctxArr : (Tryz.prog.info? 27).map (·.size) = some 17 := by kernel_rfl
theorem infoC {v : Vc} (s : Value) (h : v.length = 16) : (Tryz.prog.info? 27).map (·.size) = some (ccs v s).size := by rw [ccs_size, h]; exact ctxArr

/-- a block of a context -/
def CRow (w : World) (b : Nat) (v : Vc) (s : Value) : Prop := w.heap[b]? = some (.cells (ccs v s) 27 (0, 0))
theorem CRow.cell {w : World} {b : Nat} {v : Vc} {s : Value} (h : CRow w b v s) (j : Nat) (hj : j < v.length) : w.cell? ⟨b, j, none⟩ = some (.int .i64 (v.getD j 0)) := by
  rw [Joins.cell_of_block h, ccs_get v s j hj]
theorem CRow.cloud {w : World} {b : Nat} {v : Vc} {s : Value} (h : CRow w b v s) (hv : v.length = 16) : w.cell? ⟨b, 16, none⟩ = some s := by
  rw [Joins.cell_of_block h, ccs_last v s hv]
theorem CRow.free {w : World} {b : Nat} {v : Vc} {s : Value} (h : CRow w b v s) (j : Nat) : w.frozen? ⟨b, j, none⟩ = false := Joins.unfrozen_of_block h j
theorem CRow.lt {w : World} {b : Nat} {v : Vc} {s : Value} (h : CRow w b v s) : b < w.heap.size := (Array.getElem?_eq_some_iff.1 h).1
theorem CRow.set {w : World} {b : Nat} {v : Vc} {s : Value} (h : CRow w b v s) (j : Nat) (x : Int) (hj : j < v.length) : CRow (w.setCell ⟨b, j, none⟩ (.int .i64 x)) b (v.set j x) s := by
  have := Joins.block_setCell (i := j) h (.int .i64 x)
  rw [ccs_set v s j x hj] at this
  exact this
theorem CRow.setS {w : World} {b : Nat} {v : Vc} {s : Value} (h : CRow w b v s) (t : Value) (hv : v.length = 16) : CRow (w.setCell ⟨b, 16, none⟩ t) b v t := by
  have := Joins.block_setCell (i := 16) h t
  rw [ccs_put v s t hv] at this
  exact this
theorem CRow.other {w : World} {b c : Nat} {v : Vc} {s : Value} (h : CRow w b v s) (hc : b ≠ c) (j : Nat) (x : Value) : CRow (w.setCell ⟨c, j, none⟩ x) b v s := by
  unfold CRow; rw [Below.heap_setCell _ _ _ _ hc]; exact h
theorem CRow.drew {w : World} {b : Nat} {v : Vc} {s : Value} (h : CRow w b v s) : CRow w.drew b v s := h
theorem CRow.below {w w' : World} {b B : Nat} {v : Vc} {s : Value} (h : CRow w b v s) (hb : Go.RowKit.Below B w w') (hB : b < B) : CRow w' b v s := by
  unfold CRow; rw [hb.block b hB]; exact h
theorem CRow.keep {w w' : World} {b : Nat} {v : Vc} {s : Value} (h : CRow w b v s) (hb : Go.RowKit.Below w.heap.size w w') : CRow w' b v s := h.below hb h.lt
theorem CRow.alloc {w : World} {b : Nat} {v : Vc} {s : Value} (h : CRow w b v s) (o : Obj) : CRow (w.alloc o) b v s := by
  unfold CRow; rw [Below.heap_alloc _ _ _ h.lt]; exact h
theorem CRow.of_set {w : World} {b c : Nat} {v : Vc} {s : Value} (h : CRow w b v s) (hc : b ≠ c) (C : Array Value) : CRow (w.setRow c C) b v s := by
  unfold CRow; rw [setRow_other _ _ _ _ hc]; exact h
theorem CRow.of_put {w : World} {b : Nat} {old : Array Value} (h : w.heap[b]? = some (.cells old 27 (0, 0))) (v : Vc) (s : Value) : CRow (w.setRow b (ccs v s)) b v s := setRow_heap _ _ _ _ _ _ h
theorem CRow.new (w : World) (v : Vc) (s : Value) : CRow (w.alloc (.cells (ccs v s) 27)) w.heap.size v s := heap_alloc_new w _
theorem CRow.grown {w w' : World} {b : Nat} {row : Option Nat} {v : Vc} {s : Value} (h : CRow w b v s) (hg : w.grownBy w' row) (hne : row ≠ some b) : CRow w' b v s := by
  unfold CRow; rw [hg.block b h.lt (fun j => hne j.symm)]; exact h

def boxC (w : World) (v : Vc) (s : Value) : World := w.alloc (.cells (ccs v s) 27)
theorem boxC_below (w : World) (v : Vc) (s : Value) : Go.RowKit.Below w.heap.size w (boxC w v s) := (Below.refl _ _).alloc (Nat.le_refl _) _
theorem boxC_size (w : World) (v : Vc) (s : Value) : (boxC w v s).heap.size = w.heap.size + 1 := by simp [boxC]

/-- a whole row stored, loaded; its vector loaded -/
theorem cl_store {ops : Array Oper} {rest : List Oper} {o : Oper} {a : Act} {w : World} {Q : Exit → Act → World → Prop} (hgd : o.guard = none) (x y : Operand) (ho : o.op = .store 27 x y) (g : Nat) (v : Vc) (p : Option Addr) (n c : Nat)
    (hx : a.eval x = .pointer (some ⟨g, 0, none⟩)) (hy : a.eval y = .agg (ccs v (.slice p n c))) (hg : ∃ (old : Vc) (so : Value), CRow w g old so ∧ old.length = 16) (hl : v.length = 16)
    (h : wpList Tryz.prog ops Q rest (a.put o.dst undef) (w.setRow g (ccs v (.slice p n c)))) : wpList Tryz.prog ops Q (o :: rest) a w := by
  obtain ⟨old, so, hg, ho2⟩ := hg
  exact wpList_store_row hgd 27 x y ho g (ccs v (.slice p n c)) hx hy 27 (ccs old so) hg (infoC _ hl) (by rw [ccs_size, ccs_size, hl, ho2]) (ccs_one _ _ _ _) h
theorem cl_load {ops : Array Oper} {rest : List Oper} {o : Oper} {a : Act} {w : World} {Q : Exit → Act → World → Prop} (hw : Region.wanted o (yielded ops a.tmps) = true) (x : Operand) (ho : o.op = .load 27 x) (g : Nat) (v : Vc) (s : Value)
    (hx : a.eval x = .pointer (some ⟨g, 0, none⟩)) (hg : CRow w g v s) (hl : v.length = 16)
    (h : wpList Tryz.prog ops Q rest (a.put o.dst (.agg (ccs v s))) w) : wpList Tryz.prog ops Q (o :: rest) a w := by
  unfold wpList
  rw [if_pos hw]
  exact .inl (wp_load_row 27 x ho g hx 27 (ccs v s) (0, 0) _ hg Tryz.underlying27 rfl (infoC s hl) h)
theorem CRow.range {w : World} {b : Nat} {v : Vc} {s : Value} (h : CRow w b v s) : w.rangeAt b 0 (v.map (Value.int .i64)) := fun j u hu => by
  have hj : j < v.length := by have := (List.getElem?_eq_some_iff.1 hu).1; simpa using this
  rw [Nat.zero_add, h.cell j hj]
  rw [List.getElem?_map, List.getElem?_eq_getElem hj] at hu
  rw [List.getD_eq_getElem?_getD, List.getElem?_eq_getElem hj]
  exact hu
theorem ics_list (v : Vc) : (v.map (Value.int .i64)).toArray = ics v := rfl
theorem infoVm {v : Vc} (h : v.length = 16) : (Tryz.prog.info? 24).map (·.size) = some (v.map (Value.int .i64)).length := by rw [List.length_map, h]; exact vecArr
theorem cl_loadV {ops : Array Oper} {rest : List Oper} {o : Oper} {a : Act} {w : World} {Q : Exit → Act → World → Prop} (hw : Region.wanted o (yielded ops a.tmps) = true) (x : Operand) (ho : o.op = .load 24 x) (g : Nat) (v : Vc) (s : Value)
    (hx : a.eval x = .pointer (some ⟨g, 0, none⟩)) (hg : CRow w g v s) (hl : v.length = 16)
    (h : wpList Tryz.prog ops Q rest (a.put o.dst (.agg (ics v))) w) : wpList Tryz.prog ops Q (o :: rest) a w := by
  unfold wpList
  rw [if_pos hw]
  exact .inl (wp_load_mid 24 x ho g 0 hx (v.map (Value.int .i64)) _ hg.range Tryz.underlying24 rfl (infoVm hl) h)

/-- in a region that draws: in any world -/
theorem CRow.loadAt {w : World} {b : Nat} {v : Vc} {s : Value} (h : CRow w b v s) (hl : v.length = 16) : (Instr.loadAt 27 (.pointer (some ⟨b, 0, none⟩))).run Tryz.prog w = .ok (.agg (ccs v s)) w := by
  simp only [Instr.loadAt, Instr.sureAddr, Sem.run_bind, Sem.run_pure, Result.andThen_ok, run_loadVar_row w b 27 27 (ccs v s) (0, 0) _ h Tryz.underlying27 rfl (infoC s hl)]
theorem CRow.loadV {w : World} {b : Nat} {v : Vc} {s : Value} (h : CRow w b v s) (hl : v.length = 16) : (Instr.loadAt 24 (.pointer (some ⟨b, 0, none⟩))).run Tryz.prog w = .ok (.agg (ics v)) w :=
  run_loadAt_mid w b 0 24 (v.map (Value.int .i64)) _ h.range Tryz.underlying24 rfl (infoVm hl)
theorem cq_load {ops : Array Oper} {C : World → Prop} {Q : Act → Prop} {rest : List Oper} {o : Oper} {a : Act} (hw : Region.wanted o (yielded ops a.tmps) = true) (x : Operand) (ho : o.op = .load 27 x) (g : Nat) (v : Vc) (s : Value)
    (hx : a.eval x = .pointer (some ⟨g, 0, none⟩)) (hg : ∀ w, C w → CRow w g v s) (hl : v.length = 16)
    (h : wpQuiet Tryz.prog ops C Q rest (a.put o.dst (.agg (ccs v s)))) : wpQuiet Tryz.prog ops C Q (o :: rest) a := by
  refine wpQuiet_step fun K hK => ?_
  rw [if_pos hw]
  refine ⟨_, fun w hC => ?_, hK _ h⟩
  unfold Oper.quietAt execOp
  simp only [ho, hx, Sem.run_bind, Sem.run_pure, Result.andThen_ok, (hg w hC).loadAt hl]
  exact ⟨rfl, rfl⟩
theorem cq_loadV {ops : Array Oper} {C : World → Prop} {Q : Act → Prop} {rest : List Oper} {o : Oper} {a : Act} (hw : Region.wanted o (yielded ops a.tmps) = true) (x : Operand) (ho : o.op = .load 24 x) (g : Nat) (v : Vc) (s : Value)
    (hx : a.eval x = .pointer (some ⟨g, 0, none⟩)) (hg : ∀ w, C w → CRow w g v s) (hl : v.length = 16)
    (h : wpQuiet Tryz.prog ops C Q rest (a.put o.dst (.agg (ics v)))) : wpQuiet Tryz.prog ops C Q (o :: rest) a := by
  refine wpQuiet_step fun K hK => ?_
  rw [if_pos hw]
  refine ⟨_, fun w hC => ?_, hK _ h⟩
  unfold Oper.quietAt execOp
  simp only [ho, hx, Sem.run_bind, Sem.run_pure, Result.andThen_ok, (hg w hC).loadV hl]
  exact ⟨rfl, rfl⟩
theorem CRow.regrown {W : World} {b : Nat} {v : Vc} {s : Value} (h : CRow W b v s) : ∀ w, (∃ p : Regrown, w = grow (redrawn W p.d) p.os) → CRow w b v s := by
  rintro w ⟨p, rfl⟩
  exact h.keep (below_regrown W p.d p.os)

/-- sixteen numbers written out -/
theorem list16 {v : Vc} (h : v.length = 16) : ∃ a b c d e f g h i j k l m n o p : Int, v = [a, b, c, d, e, f, g, h, i, j, k, l, m, n, o, p] := by
  match v, h with
  | [a, b, c, d, e, f, g, h, i, j, k, l, m, n, o, p], _ => exact ⟨a, b, c, d, e, f, g, h, i, j, k, l, m, n, o, p, rfl⟩
set_option maxRecDepth 100000 in
theorem builtC {v : Vc} (h : v.length = 16) (p : Option Addr) (n c : Nat) : Tryz.prog.built 27 [(0, .agg (ics v)), (1, .slice p n c)] = some (ccs v (.slice p n c)) := by
  obtain ⟨x0, x1, x2, x3, x4, x5, x6, x7, x8, x9, x10, x11, x12, x13, x14, x15, rfl⟩ := list16 h
  kernel_rfl
theorem buildC {v : Vc} (h : v.length = 16) (p : Option Addr) (n c : Nat) (W : World) : (Instr.build 27 #[(0, .agg (ics v)), (1, .slice p n c)]).run Tryz.prog W = .ok (.agg (ccs v (.slice p n c))) W :=
  run_build W 27 _ _ (builtC h p n c)
theorem buildZ (W : World) : (Instr.build 27 #[]).run Tryz.prog W = .ok (.agg (ccs zV (.slice none 0 0))) W := run_build W 27 #[] _ (by kernel_rfl)
theorem cl_build {ops : Array Oper} {rest : List Oper} {o : Oper} {a : Act} {w : World} {Q : Exit → Act → World → Prop} (hw : Region.wanted o (yielded ops a.tmps) = true) (x y : Operand) (ho : o.op = .build 27 #[(0, x), (1, y)]) (v : Vc) (p : Option Addr) (n c : Nat)
    (hx : a.eval x = .agg (ics v)) (hy : a.eval y = .slice p n c) (hl : v.length = 16)
    (h : wpList Tryz.prog ops Q rest (a.put o.dst (.agg (ccs v (.slice p n c)))) w) : wpList Tryz.prog ops Q (o :: rest) a w :=
  vl_build hw 27 _ ho (ccs v (.slice p n c)) (by simp [hx, hy, builtC hl]) h

/-- a context with its cloud, to be read -/
structure CIn (w : World) (c : Cx) (p : Option Addr) : Prop where
  v16 : c.v.length = 16
  din : DIn w p c.l
  len : c.l.length ≤ 32768
theorem CIn.below {w w' : World} {c : Cx} {p : Option Addr} (h : CIn w c p) (hb : Go.RowKit.Below w.heap.size w w') : CIn w' c p := ⟨h.v16, h.din.below hb, h.len⟩
theorem CIn.alloc {w : World} {c : Cx} {p : Option Addr} (h : CIn w c p) (o : Obj) : CIn (w.alloc o) c p := ⟨h.v16, h.din.alloc o, h.len⟩
/-- by value -/
def cv (c : Cx) (p : Option Addr) (k : Nat) : Value := .agg (ccs c.v (.slice p c.l.length k))
theorem retC {fn : Func} {p : Tmp} (h : fn.results = #[.cell p 27]) (tmps : Array Value) (w : World) (g : Nat) (v : Vc) (s : Value)
    (hp : tmps.getD p undef = .pointer (some ⟨g, 0, none⟩)) (hg : CRow w g v s) (hl : v.length = 16) :
    (results fn tmps).run Tryz.prog w = .ok (.agg (ccs v s)) w :=
  results_cell_row h tmps w g 27 (ccs v s) (0, 0) _ hp hg Tryz.underlying27 rfl (infoC s hl)
theorem retCx {fn : Func} {p u : Tmp} (h : fn.results = #[.cell p 27, .tmp u]) (tmps : Array Value) (w : World) (g : Nat) (v : Vc) (s x : Value)
    (hp : tmps.getD p undef = .pointer (some ⟨g, 0, none⟩)) (hx : tmps.getD u undef = x) (hg : CRow w g v s) (hl : v.length = 16) :
    (results fn tmps).run Tryz.prog w = .ok (.tuple #[.agg (ccs v s), x]) w := by
  rw [results_cell_tmp h, hp, hx]
  simp [asAddr, run_loadVar_row w g 27 27 (ccs v s) (0, 0) _ hg Tryz.underlying27 rfl (infoC s hl)]
end Go.Proofs.YtcedliaeipabnaaGreat

namespace Go.Proofs.YtcedliaeipabnaaGreat
set_option maxRecDepth 100000
open Go.RowKit Go.Sort

theorem lessCb (a b : Dt) (w : World) : Calls Tryz.prog 75 #[.agg #[.int .i64 a.1, .int .i64 a.2], .agg #[.int .i64 b.1, .int .i64 b.2]] w fun e w' => e = .returned (.bool (ltD a b)) ∧ Go.RowKit.Below w.heap.size w w' :=
  (lessC a b w).mono fun _ _ ⟨he, hw⟩ => ⟨he, by rw [← hw]; exact boxD2_below w a b⟩
theorem lessRb (a b : Dt) (w : World) : Calls Tryz.prog 68 #[.agg #[.int .i64 a.1, .int .i64 a.2], .agg #[.int .i64 b.1, .int .i64 b.2]] w fun e w' => e = .returned (.bool (ltD a b)) ∧ Go.RowKit.Below w.heap.size w w' :=
  (lessR a b w).mono fun _ _ ⟨he, hw⟩ => ⟨he, by rw [← hw]; exact boxD2_below w a b⟩
theorem checkCb (a : Dt) (w : World) : Calls Tryz.prog 58 #[.agg #[.int .i64 a.1, .int .i64 a.2]] w fun e w' => e = .returned (.int .i64 (chkD a)) ∧ Go.RowKit.Below w.heap.size w w' :=
  (checkC a w).mono fun _ _ ⟨he, hw⟩ => ⟨he, by rw [← hw]; exact boxD_below w a⟩
theorem checkRb (a : Dt) (w : World) : Calls Tryz.prog 53 #[.agg #[.int .i64 a.1, .int .i64 a.2]] w fun e w' => e = .returned (.int .i64 (chkD a)) ∧ Go.RowKit.Below w.heap.size w w' :=
  (checkR a w).mono fun _ _ ⟨he, hw⟩ => ⟨he, by rw [← hw]; exact boxD_below w a⟩

end Go.Proofs.YtcedliaeipabnaaGreat

namespace Go.Proofs.YtcedliaeipabnaaGreat
set_option maxRecDepth 100000
open Go.Shelf

def sortDl_ren : Go.Shelf.Ren := ⟨fun | 6 => 94 | 15 => 80 | 14 => 120 | 28 => 107 | 29 => 108 | 20 => 137 | 21 => 138 | 22 => 139 | 23 => 140 | 24 => 141 | 25 => 142 | 26 => 143 | 27 => 144 | 46 => 154 | 47 => 125 | 48 => 126 | 49 => 155 | 50 => 156 | 57 => 159 | n => n, fun | 22 => 25 | 24 => 50 | 25 => 125 | 3 => 3 | 39 => 107 | 0 => 0 | 53 => 136 | 55 => 138 | 4 => 4 | 46 => 130 | 45 => 129 | 50 => 102 | 5 => 5 | 9 => 9 | 66 => 156 | 70 => 160 | 76 => 176 | 77 => 177 | n => n, fun | n => n⟩
theorem sortDl : SlLaysF0.n6 Tryz.prog sortDl_ren := {
  mixed := by kernel_rfl
  f6 := ⟨Tryz.f94.name, by decide, Tryz.func94.trans (congrArg some (by kernel_rfl))⟩
  f14 := ⟨Tryz.f120.name, by decide, Tryz.func120.trans (congrArg some (by kernel_rfl))⟩
  f15 := Tryz.func80.trans (congrArg some (by kernel_rfl))
  f20 := ⟨Tryz.f137.name, by decide, Tryz.func137.trans (congrArg some (by kernel_rfl))⟩
  f21 := ⟨Tryz.f138.name, by decide, Tryz.func138.trans (congrArg some (by kernel_rfl))⟩
  f22 := ⟨Tryz.f139.name, by decide, Tryz.func139.trans (congrArg some (by kernel_rfl))⟩
  f23 := ⟨Tryz.f140.name, by decide, Tryz.func140.trans (congrArg some (by kernel_rfl))⟩
  f24 := ⟨Tryz.f141.name, by decide, Tryz.func141.trans (congrArg some (by kernel_rfl))⟩
  f25 := ⟨Tryz.f142.name, by decide, Tryz.func142.trans (congrArg some (by kernel_rfl))⟩
  f26 := ⟨Tryz.f143.name, by decide, Tryz.func143.trans (congrArg some (by kernel_rfl))⟩
  f27 := ⟨Tryz.f144.name, by decide, Tryz.func144.trans (congrArg some (by kernel_rfl))⟩
  f28 := Tryz.func107.trans (congrArg some (by kernel_rfl))
  f29 := Tryz.func108.trans (congrArg some (by kernel_rfl))
  f46 := ⟨Tryz.f154.name, by decide, Tryz.func154.trans (congrArg some (by kernel_rfl))⟩
  f47 := Tryz.func125.trans (congrArg some (by kernel_rfl))
  f48 := Tryz.func126.trans (congrArg some (by kernel_rfl))
  f49 := ⟨Tryz.f155.name, by decide, Tryz.func155.trans (congrArg some (by kernel_rfl))⟩
  f50 := ⟨Tryz.f156.name, by decide, Tryz.func156.trans (congrArg some (by kernel_rfl))⟩
  f57 := ⟨Tryz.f159.name, by decide, Tryz.func159.trans (congrArg some (by kernel_rfl))⟩
  t0 := Tryz.underlying0
  a0 := Tryz.isAgg0
  z0 := Tryz.sizeOf0
  v0 := Tryz.zeroValue0
  t3 := Tryz.underlying3
  a3 := Tryz.isAgg3
  z3 := Tryz.sizeOf3
  v3 := Tryz.zeroValue3
  t4 := Tryz.underlying4
  a4 := Tryz.isAgg4
  z4 := Tryz.sizeOf4
  v4 := Tryz.zeroValue4
  t5 := Tryz.underlying5
  a5 := Tryz.isAgg5
  z5 := Tryz.sizeOf5
  v5 := Tryz.zeroValue5
  t9 := Tryz.underlying9
  a9 := Tryz.isAgg9
  z9 := Tryz.sizeOf9
  v9 := Tryz.zeroValue9
  t22 := Tryz.underlying25
  a22 := Tryz.isAgg25
  z22 := Tryz.sizeOf25
  v22 := Tryz.zeroValue25
  t25 := Tryz.underlying125
  a25 := Tryz.isAgg125
  z25 := Tryz.sizeOf125
  v25 := Tryz.zeroValue125
  t39 := Tryz.underlying107
  a39 := Tryz.isAgg107
  z39 := Tryz.sizeOf107
  v39 := Tryz.zeroValue107
  t45 := Tryz.underlying129
  a45 := Tryz.isAgg129
  z45 := Tryz.sizeOf129
  v45 := Tryz.zeroValue129
  t46 := Tryz.underlying130
  a46 := Tryz.isAgg130
  z46 := Tryz.sizeOf130
  v46 := Tryz.zeroValue130
  t50 := Tryz.underlying102
  a50 := Tryz.isAgg102
  z50 := Tryz.sizeOf102
  v50 := Tryz.zeroValue102
  t53 := Tryz.underlying136
  a53 := Tryz.isAgg136
  z53 := Tryz.sizeOf136
  v53 := Tryz.zeroValue136
  t55 := Tryz.underlying138
  a55 := Tryz.isAgg138
  z55 := Tryz.sizeOf138
  v55 := Tryz.zeroValue138
  t66 := Tryz.underlying156
  a66 := Tryz.isAgg156
  z66 := Tryz.sizeOf156
  v66 := Tryz.zeroValue156
  t70 := Tryz.underlying160
  a70 := Tryz.isAgg160
  z70 := Tryz.sizeOf160
  v70 := Tryz.zeroValue160
  t76 := Tryz.underlying176
  a76 := Tryz.isAgg176
  z76 := Tryz.sizeOf176
  v76 := Tryz.zeroValue176
  t77 := Tryz.underlying177
  a77 := Tryz.isAgg177
  z77 := Tryz.sizeOf177
  v77 := Tryz.zeroValue177 }
end Go.Proofs.YtcedliaeipabnaaGreat

namespace Go.Proofs.YtcedliaeipabnaaGreat
set_option maxRecDepth 100000
open Go.RowKit Go.Shelf Go.Lib Go.Sort

theorem rowD_get : ∀ (l : List Dt) (j : Nat) (u : Value), (rowD l)[j]? = some u → ∃ i d, l[i]? = some d ∧ ((j = i * 2 ∧ u = .int .i64 d.1) ∨ (j = i * 2 + 1 ∧ u = .int .i64 d.2)) := by
  intro l j u h
  have hl : j < l.length * 2 := by rw [← rowD_len]; exact (List.getElem?_eq_some_iff.1 h).1
  obtain ⟨i, hi⟩ : ∃ i, j = i * 2 ∨ j = i * 2 + 1 := ⟨j / 2, by omega⟩
  have hil : i < l.length := by omega
  obtain ⟨h1, h2⟩ := rowD_at l i l[i] (List.getElem?_eq_getElem hil)
  refine ⟨i, l[i], List.getElem?_eq_getElem hil, ?_⟩
  rcases hi with rfl | rfl
  · rw [h1] at h; exact .inl ⟨rfl, (Option.some.inj h).symm⟩
  · rw [h2] at h; exact .inr ⟨rfl, (Option.some.inj h).symm⟩

theorem DIn.cells {w : World} {a : Option Addr} {l : List Dt} (h : DIn w a l) {x : Addr} (hx : a = some x) : ∀ j u, (rowD l)[j]? = some u → w.cell? (x.add j) = some u := by
  intro j u hj
  rcases h with rfl | ⟨b, off, ha, hlt, hc⟩
  · simp [rowD] at hj
  · obtain rfl := Option.some.inj (hx.symm.trans ha)
    have e1 : ∀ k, (⟨b, off, none⟩ : Addr).add k = ⟨b, off + k, none⟩ := fun k => by cases k <;> simp [Addr.add]
    rw [e1]
    obtain ⟨i, d, hi, h⟩ := rowD_get l j u hj
    obtain ⟨h1, h2⟩ := hc i d hi
    rcases h with ⟨rfl, rfl⟩ | ⟨rfl, rfl⟩
    · exact h1
    · rw [← Nat.add_assoc]; exact h2

theorem own_empty0 (w : World) (e : TypeId) (sz : Nat) : (w.alloc (.cells #[] e)).ownsRow w.heap.size e sz (.slice (some ⟨w.heap.size, 0, none⟩) 0 0) 0 [] :=
  ⟨by simp, .inr ⟨w.heap.size, 0, #[], rfl, Nat.le_refl _, heap_alloc_new w _, Nat.le_refl _, by simp [maxLen], by simp, by simp⟩⟩

set_option maxHeartbeats 1000000 in
set_option maxRecDepth 100000 in
theorem cloneD (l : List Dt) (a : Option Addr) (cap : Nat) (w : World) (h : DIn w a l) (hl : l.length ≤ 65536) :
    Calls Tryz.prog 93 #[.slice a l.length cap] w fun e w' => ∃ v', e = .returned v' ∧ OwnD w.heap.size v' l w' ∧ Below w.heap.size w w' := by
  obtain ⟨i0, hi, hz0, hz1, hz2⟩ := info_parts dotInfo
  have hq := fun (w : World) (a : Option Addr) (n c : Nat) => Lib.run_eql_slice_nil (P := Tryz.prog) w 25 50 a n c 0 0 Tryz.underlying25
  cases a with
  | none =>
    have hl0 : l = [] := by
      rcases h with h | ⟨b, off, ha, _⟩
      · exact h
      · cases ha
    subst hl0
    clear h
    go_enter Tryz.func93, Tryz.ntmps93
    go_wp2_with fail
    go_ret
    exact ⟨_, rfl, ownD_nil _ _, Below.refl _ _⟩
  | some x =>
    have hcells := (h.alloc (.cells #[] 50)).cells rfl
    obtain ⟨v', W', hr, ho, hgr, hsf, hform⟩ := run_append_sf (P := Tryz.prog) (w.alloc (.cells #[] 50)) w.heap.size 25 25 25 50 i0 _ 2 16 Tryz.underlying25 hi hz0 hz1 hz2 rfl _ 0 [] (own_empty0 w _ _)
      (.slice (some x) l.length cap) l.length (rowD l) (Src.ofSlice _ Tryz.underlying25 x l.length cap _ (rowD_len l) hcells (rowD_cell l)) (by unfold maxLen; omega) (by omega) (by simp)
    simp only [Nat.zero_add, List.nil_append] at ho
    have hbel : Below w.heap.size w W' := (Joins.below_alloc1 w _).grown hgr (by simp) (fun k hk => by simp [Value.ownBlock] at hk; omega)
    have HF := Lib.hid (show OwnD w.heap.size v' l W' ∧ Below w.heap.size w W' from ⟨ho, hbel⟩)
    clear h hcells ho hgr hsf hform hbel hi hz0 hz1 hz2
    generalize l.length = n at *
    go_enter Tryz.func93, Tryz.ntmps93
    go_wp2_with (at_builtin; refine wpList_append_run rfl _ _ 25 25 rfl (.slice (some ⟨w.heap.size, 0, none⟩) 0 0) (.slice (some x) n cap) _ W' rfl rfl hr ?_)
    go_ret
    exact ⟨_, rfl, HF.out.1, HF.out.2⟩

/-! the order, as sorting asks for it -/
theorem lt_cmpD (a b : Dt) : ltOf cmpD a b = ltD a b := by
  unfold ltOf cmpD
  by_cases h : a = b
  · subst h; simp [ltD_irr]
  · rw [if_neg h]
    by_cases h2 : ltD a b = true
    · simp [h2]
    · simp [h2]
theorem swoD : SWO (ltOf cmpD) := {
  irrefl := fun x => by rw [lt_cmpD]; exact ltD_irr x
  trans := fun x y z h1 h2 => by rw [lt_cmpD] at *; exact ltD_trans h1 h2
  ntrans := fun x y z h1 h2 => by
    rw [lt_cmpD] at *
    rw [ltD_no] at *
    omega }
theorem cmpLaysD (blk off size : Nat) (w : World) : CmpLays Tryz.prog 95 #[] dcs 2 cmpD blk off size w := fun _ _ _ _ x y => orderC x y _

theorem below_sortedK (w : World) (B blk off n : Nat) (d : Array Dt) (os : Array Obj) (hB : B ≤ blk) (hblk : blk < w.heap.size) : Go.RowKit.Below B w (sortWorldK dcs 2 w blk off n d os) := by
  refine ⟨rfl, rfl, rfl, ?_, fun k hk => ?_⟩
  · unfold sortWorldK putRowK; rw [size_grow, Sort.size_putRow]; exact Nat.le_add_right _ _
  · unfold sortWorldK putRowK
    rw [heap_grow_old _ _ (by rw [Sort.size_putRow]; show k < w.heap.size; omega)]
    unfold putRow mapBlock
    rw [Array.getElem?_modify, if_neg (by omega)]
    rfl

theorem holds_own {w : World} {B g cap : Nat} {l : List Dt} (h : OwnD B (.slice (some ⟨g, 0, none⟩) l.length cap) l w) : HoldsK dcs 2 w g 0 l.toArray := by
  intro t ht
  have ht2 : t < l.length * 2 := by rw [size_flatK] at ht; simpa using ht
  have hil : t / 2 < l.length := by omega
  rw [get_flatK _ _ _ _ (by simpa using ht2)]
  have hg : l.toArray[t / 2]! = l[t / 2] := by rw [getElem!_pos l.toArray (t / 2) (by simpa using hil)]; simp
  rw [hg]
  unfold OwnD at h
  refine ⟨?_, World.ownsRow.frozenAt h _⟩
  rw [Nat.zero_add, World.ownsRow.cellAt h t ht2]
  obtain ⟨h1, h2⟩ := rowD_at l (t / 2) l[t / 2] (List.getElem?_eq_getElem hil)
  rcases Nat.mod_two_eq_zero_or_one t with hm | hm
  · have e : t / 2 * 2 = t := by omega
    rw [e] at h1
    rw [h1, hm]; rfl
  · have e : t / 2 * 2 + 1 = t := by omega
    rw [e] at h2
    rw [h2, hm]; rfl

theorem sortCallD (l : List Dt) (v : Value) (B : Nat) (w : World) (hlen : l.length ≤ 65536) (hown : OwnD B v l w) (hB : B ≤ w.heap.size) :
    Calls Tryz.prog 94 #[v, .func (.func 95) #[] #[]] w fun e w' =>
      e = .returned (.tuple #[]) ∧ ∃ (s : List Dt) (a : Option Addr) (cap : Nat), v = .slice a s.length cap ∧ s.length = l.length ∧ s.Perm l ∧ s.Pairwise (fun a b => ltD b a = false) ∧ DIn w' a s ∧ Go.RowKit.Below B w w' := by
  obtain ⟨hl, hv⟩ := id hown
  rcases hv with ⟨rfl, h0⟩ | ⟨g, cap, cur, rfl, hBg, hg, hn, hm, hs, htk⟩
  · have hl0 : l = [] := List.length_eq_zero_iff.1 h0
    subst hl0
    have hcon := AnyF.slices_SortFunc_none (P := Tryz.prog) (ρ := sortDl_ren) sortDl none 0 (.func (.func 95) #[] #[]) w
    exact Calls.mono (f := 94) hcon fun e w' h => by
      obtain ⟨he, hw⟩ := h
      subst hw
      exact ⟨he, [], none, 0, rfl, rfl, List.Perm.refl _, .nil, .inl rfl, Go.RowKit.Below.refl _ _⟩
  · have hH := holds_own hown
    have hlt : g < w.heap.size := lt_of_block hg
    have eg : ∀ args w, (callFunc 95 args).run Tryz.prog w = .ok (.enter 95 args) w := enters_of Tryz.func95 (by kernel_rfl) rfl
    have hsz : l.toArray.size = l.length := by simp
    have hcon := AnyQ.slices_SortFunc sortDl 2 Tryz.isAgg50 Tryz.sizeOf50 dcs (fun _ => rfl) (fun x u hu => by simp [dcs] at hu; rcases hu with rfl | rfl <;> rfl) cmpD swoD 95 #[] g 0 cap l.toArray w eg (cmpLaysD g 0 _ w) hH hlt (by omega)
    rw [hsz] at hcon
    refine Calls.mono (f := 94) hcon ?_
    rintro e w' ⟨rfl, d', n, os, hp, hsd, rfl⟩
    obtain ⟨hp1, _, hp2⟩ := hp
    have e1 : d'.extract 0 l.length = d' := by rw [← hsz, ← hp1]; exact Array.extract_size
    have e2 : l.toArray.extract 0 l.length = l.toArray := by rw [← hsz]; exact Array.extract_size
    rw [e1, e2] at hp2
    have hdl : d'.toList.length = l.length := by simp; omega
    refine ⟨rfl, d'.toList, some ⟨g, 0, none⟩, cap, by rw [hdl], hdl, by simpa using hp2, ?_, .inr ⟨g, 0, rfl, lt_sortWorldK dcs 2 w g 0 n d' os hlt, fun j d hj => ?_⟩, below_sortedK w B g 0 n d' os hBg hlt⟩
    · rw [List.pairwise_iff_getElem]
      intro i j hi hj hij
      have h := hsd i j (Nat.zero_le _) hij (by omega)
      rw [lt_cmpD] at h
      rw [getElem!_pos d' j (by simpa using hj), getElem!_pos d' i (by simpa using hi)] at h
      simpa using h
    · have hjl : j < d'.size := by have := (List.getElem?_eq_some_iff.1 hj).1; simpa using this
      have hK := holdsK_sortWorldK dcs 2 w g 0 n l.toArray d' os hlt hH (by omega)
      have c0 := (hK.cell (i := j) (c := 0) hjl (by omega)).1
      have c1 := (hK.cell (i := j) (c := 1) hjl (by omega)).1
      have hd : d'[j]! = d := by
        rw [getElem!_pos d' j hjl]
        have := hj
        rw [Array.getElem?_toList, Array.getElem?_eq_getElem hjl] at this
        exact Option.some.inj this
      rw [hd] at c0 c1
      exact ⟨c0, c1⟩

set_option maxHeartbeats 4000000 in
set_option maxRecDepth 100000 in
theorem sortC (l : List Dt) (a : Option Addr) (cap : Nat) (w : World) (h : DIn w a l) (hl : l.length ≤ 65536) :
    Calls Tryz.prog 71 #[.slice a l.length cap] w fun e w' => ∃ v', e = .returned v' ∧ OwnD w.heap.size v' (sortD l) w' ∧ Below w.heap.size w w' := by
  obtain ⟨i0, hi, hz0, hz1, hz2⟩ := info_parts dotInfo
  have H := Lib.hid h
  clear h
  go_enter Tryz.func71, Tryz.ntmps71
  go_wp2_with fail
  refine (cloneD l a cap w H.out hl).mono ?_
  rintro e w1 ⟨v1, rfl, hown1, hb1⟩
  have hs1 := hb1.size
  have HO1 := Lib.hid hown1
  have HB1 := Lib.hid hb1
  clear hown1 hb1
  go_wp2_with fail
  refine (sortCallD l v1 w.heap.size w1 hl HO1.out hs1).mono ?_
  rintro e w2 ⟨rfl, s, sa, sc, rfl, hsl, hperm, hsort, hdin, hb2⟩
  have hs2 := hb2.size
  have hsl' : s.length ≤ 65536 := by omega
  have HB2 := Lib.hid (HB1.out.trans hb2)
  have HP := Lib.hid hperm
  have HS := Lib.hid hsort
  have HD := Lib.hid hdin
  clear hsl hperm hsort hdin hb2 HO1 HB1 H
  go_wp2_with fail
  go_loopw [4, 13] (fun v i wr => ∃ (k : Nat) (out : List Dt), k ≤ s.length ∧ i = .int .i64 k ∧ Kept s k out ∧ OwnD w2.heap.size v out wr ∧ Below w2.heap.size w2 wr) (fun _ i _ => s.length - (intOf i).toNat)
  case atStart => exact ⟨0, [], Nat.zero_le _, rfl, Kept.start s, ownD_nil _ _, Below.refl _ _⟩
  case round =>
    obtain ⟨k, out, hk, rfl, hkept, hown, hb⟩ := hrel
    have hol := hkept.len
    have HK := Lib.hid hkept
    have HOWN := Lib.hid hown
    have HB := Lib.hid hb
    have hbs := hb.size
    clear hkept hown hb
    by_cases hlt : k < s.length
    · obtain ⟨d, hd⟩ : ∃ d, s[k]? = some d := ⟨_, List.getElem?_eq_getElem hlt⟩
      obtain ⟨b, off, rfl, hbl, c0, c1⟩ := (HD.out.below HB.out).at hd
      have hde : s[k] = d := by rw [List.getElem?_eq_getElem hlt] at hd; exact Option.some.inj hd
      have HDE := Lib.hid hde
      obtain ⟨r, q⟩ := d
      simp only at c0 c1
      have hi1 : (k : Int) < (s.length : Int) := by omega
      clear hd hde
      by_cases hk0 : k = 0
      · have hk2 : Kept s (k + 1) (out ++ [(r, q)]) := by rw [← HDE.out]; exact HK.out.more HS.out hlt (fun j hj => by omega)
        have HK2 := Lib.hid hk2
        have hg : ((k : Int) == 0) = true := by simp; omega
        clear hk2 hk0
        go_wp2_with fail
        go_quiet (fail)
        go_wp2_with (at_builtin; refine wpList_append_own _ rfl _ _ 25 rfl w2.heap.size 50 i0 (.agg #[.int .i64 0, .int .i64 0]) 2 16 Tryz.underlying25 hi hz0 hz1 hz2 rfl (by decide) _ _ _ rfl ((World.ownsRow.alloc (HOWN.out) _).alloc _) ⟨wr.heap.size + 1, 0, none⟩ 1 1 [Value.int .i64 r, Value.int .i64 q] rfl rfl ?c1 ?c2 ?c3 ?c4 ?c5 ?_)
        case c1 =>
          intro j u hj
          match j, hj with
          | 0, hj => simp at hj; subst hj; simp [Addr.add, go_sem]
          | 1, hj => simp at hj; subst hj; simp [Addr.add, go_sem]
        case c2 => intro u hu; simp at hu; rcases hu with rfl | rfl <;> rfl
        case c3 => unfold maxLen; omega
        case c4 => omega
        case c5 => simp; omega
        intro v' w3 hown4 hg3 _
        have hB3 : Below w2.heap.size w2 w3 := ((belowN (HB.out.alloc hbs _) _).alloc (by simp; omega) _).grown hg3 (by simp; omega) (fun j hj => (World.ownsRow.lt HOWN.out j hj).1)
        have hown5 : OwnD w2.heap.size v' (out ++ [(r, q)]) w3 := by unfold OwnD; rw [List.length_append, rowD_append]; exact hown4
        have HOWN5 := Lib.hid hown5
        have HB3 := Lib.hid hB3
        clear hown4 hg3 hown5 hB3
        go_wp2_with fail
        go_roundw
        case rel => exact ⟨k + 1, _, by omega, by go_num, HK2.out, HOWN5.out, HB3.out⟩
        case measure => simp [intOf]; omega
      · obtain ⟨m, rfl⟩ : ∃ m, k = m + 1 := ⟨k - 1, by omega⟩
        obtain ⟨d', hd'⟩ : ∃ d, s[m]? = some d := ⟨_, List.getElem?_eq_getElem (by omega)⟩
        obtain ⟨b', off', hbe, hbl', p0, p1⟩ := (HD.out.below HB.out).at hd'
        have hbe2 := Option.some.inj hbe
        obtain ⟨rfl, rfl⟩ : b = b' ∧ off = off' := by injection hbe2 with h1 h2; exact ⟨h1, h2⟩
        have hde' : s[m]'(by omega) = d' := by rw [List.getElem?_eq_getElem (by omega)] at hd'; exact Option.some.inj hd'
        have HDE' := Lib.hid hde'
        obtain ⟨r', q'⟩ := d'
        simp only at p0 p1
        have hg : ((m : Int) + 1 == 0) = false := by simp; omega
        have hm0 : (0 : Int) ≤ (m : Int) := by omega
        have hm1 : (m : Int) < (s.length : Int) := by omega
        have hm2 : IntKind.i64.wrap (m : Int) = m := by simp [IntKind.wrap, IntKind.bits, IntKind.signed]; omega
        clear hbe hbe2 hbl' hd' hde'
        by_cases he : (r, q) = (r', q')
        · have hnq := fun W => neqD (r, q) (r', q') W
          rw [decide_eq_true he] at hnq
          have hk2 : Kept s (m + 1 + 1) out := HK.out.same hlt (by rw [HDE.out, HDE'.out, he])
          have HK2 := Lib.hid hk2
          have HE := Lib.hid he
          clear hk2 he
          go_wp2_with fail
          go_quiet (fail)
          go_wp2_with fail
          go_roundw
          case rel => exact ⟨m + 1 + 1, _, by omega, by go_num, HK2.out, HOWN.out.alloc _, belowN (HB.out.alloc hbs _) _⟩
          case measure => simp [intOf]; omega
        · have hnq := fun W => neqD (r, q) (r', q') W
          rw [decide_eq_false he] at hnq
          have hk2 : Kept s (m + 1 + 1) (out ++ [(r, q)]) := by rw [← HDE.out]; exact HK.out.more HS.out hlt (fun j hj => by
            obtain rfl : j = m := by omega
            rw [HDE.out, HDE'.out]; exact he)
          have HK2 := Lib.hid hk2
          clear hk2 he
          go_wp2_with fail
          go_quiet (fail)
          go_wp2_with (at_builtin; refine wpList_append_own _ rfl _ _ 25 rfl w2.heap.size 50 i0 (.agg #[.int .i64 0, .int .i64 0]) 2 16 Tryz.underlying25 hi hz0 hz1 hz2 rfl (by decide) _ _ _ rfl ((World.ownsRow.alloc (HOWN.out) _).alloc _) ⟨wr.heap.size + 1, 0, none⟩ 1 1 [Value.int .i64 r, Value.int .i64 q] rfl rfl ?c1 ?c2 ?c3 ?c4 ?c5 ?_)
          case c1 =>
            intro j u hj
            match j, hj with
            | 0, hj => simp at hj; subst hj; simp [Addr.add, go_sem]
            | 1, hj => simp at hj; subst hj; simp [Addr.add, go_sem]
          case c2 => intro u hu; simp at hu; rcases hu with rfl | rfl <;> rfl
          case c3 => unfold maxLen; omega
          case c4 => omega
          case c5 => simp; omega
          intro v' w3 hown4 hg3 _
          have hB3 : Below w2.heap.size w2 w3 := ((belowN (HB.out.alloc hbs _) _).alloc (by simp; omega) _).grown hg3 (by simp; omega) (fun j hj => (World.ownsRow.lt HOWN.out j hj).1)
          have hown5 : OwnD w2.heap.size v' (out ++ [(r, q)]) w3 := by unfold OwnD; rw [List.length_append, rowD_append]; exact hown4
          have HOWN5 := Lib.hid hown5
          have HB3 := Lib.hid hB3
          clear hown4 hg3 hown5 hB3
          go_wp2_with fail
          go_roundw
          case rel => exact ⟨m + 1 + 1, _, by omega, by go_num, HK2.out, HOWN5.out, HB3.out⟩
          case measure => simp [intOf]; omega
    · have hk' : s.length ≤ k := by omega
      have hfin : out = sortD l := HK.out.all hk' (fun z => HP.out.mem_iff)
      have hown' := HOWN.out.mono (show w.heap.size ≤ w2.heap.size by omega)
      rw [hfin] at hown'
      have HF := Lib.hid (And.intro hown' (HB2.out.trans (HB.out.mono (by omega))))
      clear hfin hown'
      go_wp2_with fail
      go_ret
      exact ⟨_, rfl, HF.out.1, HF.out.2⟩
end Go.Proofs.YtcedliaeipabnaaGreat
