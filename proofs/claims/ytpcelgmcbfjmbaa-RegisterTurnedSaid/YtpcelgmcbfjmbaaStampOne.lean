/-
  A stamp by value: Check, of the program and of the document; the document's Less; stamps compared, two of them by '=='.
-/
import Derived.Test.YtpcelgmcbfjmbaaStampPlain
import Derived.Laws.StructEq
namespace Go.Proofs.Ytpcelgmcbfjmbaa
open Go.RowKit
set_option maxRecDepth 100000

def scs (d : St) : List Value := [.int .i64 d.t, .int .i64 d.c, .int .i64 d.r]
def stv (d : St) : Value := .agg #[.int .i64 d.t, .int .i64 d.c, .int .i64 d.r]

def boxS (w : World) (d : St) : World := w.alloc (.cells #[.int .i64 d.t, .int .i64 d.c, .int .i64 d.r] 37)
theorem boxS_below (w : World) (d : St) : Below w.heap.size w (boxS w d) := (Below.refl _ _).alloc (Nat.le_refl _) _
theorem boxS_size (w : World) (d : St) : (boxS w d).heap.size = w.heap.size + 1 := by simp [boxS]
theorem boxS2_below (w : World) (a b : St) : Below w.heap.size w (boxS (boxS w a) b) := (boxS_below w a).trans ((boxS_below _ b).mono (by rw [boxS_size]; omega))

def isT (n : Int) : Bool := decide (0 ≤ n) && decide (n ≤ 1099511627776)

theorem chkS_isT (d : St) : chkS d = if isT d.t = true ∧ isT d.c = true ∧ 0 ≤ d.r ∧ d.r < 16 then 0 else 2 := by
  unfold chkS isT
  by_cases h : d.t < 0 ∨ 1099511627776 < d.t ∨ d.c < 0 ∨ 1099511627776 < d.c ∨ d.r < 0 ∨ 15 < d.r
  · rw [if_pos h, if_neg]
    simp only [Bool.and_eq_true, decide_eq_true_eq]
    omega
  · rw [if_neg h, if_pos]
    simp only [Bool.and_eq_true, decide_eq_true_eq]
    omega

set_option maxHeartbeats 1000000 in
theorem tlessR (a b : St) (w : World) : Calls Try.prog 42 #[.agg #[.int .i64 a.t, .int .i64 a.c, .int .i64 a.r], .agg #[.int .i64 b.t, .int .i64 b.c, .int .i64 b.r]] w fun e w' => e = .returned (.bool (ltS a b)) ∧ boxS (boxS w a) b = w' := by
  obtain ⟨at', ac, ar⟩ := a
  obtain ⟨bt, bc, br⟩ := b
  have hl : ltS ⟨at', ac, ar⟩ ⟨bt, bc, br⟩ = if at' ≠ bt then decide (at' < bt) else if ac ≠ bc then decide (ac < bc) else decide (ar < br) := rfl
  unfold boxS
  simp only at *
  by_cases h : at' = bt
  · rw [if_neg (by omega)] at hl
    have g : (at' != bt) = false := by simp [h]
    by_cases k : ac = bc
    · rw [if_neg (by omega)] at hl
      have g1 : (ac != bc) = false := by simp [k]
      rw [hl]
      clear hl h k
      go_enter Try.func42, Try.ntmps42
      go_wp2
      go_ret
      exact ⟨rfl, rfl⟩
    · rw [if_pos k] at hl
      have g1 : (ac != bc) = true := by simp [k]
      rw [hl]
      clear hl h k
      go_enter Try.func42, Try.ntmps42
      go_wp2
      go_ret
      exact ⟨rfl, rfl⟩
  · rw [if_pos h] at hl
    have g : (at' != bt) = true := by simp [h]
    rw [hl]
    clear hl h
    go_enter Try.func42, Try.ntmps42
    go_wp2
    go_ret
    exact ⟨rfl, rfl⟩

theorem eqS_in (d : Nat) (a b : St) (W : World) : (Op.equalIn (d + 2) 37 (.agg #[.int .i64 a.t, .int .i64 a.c, .int .i64 a.r]) (.agg #[.int .i64 b.t, .int .i64 b.c, .int .i64 b.r])).run Try.prog W = .ok (decide (a = b)) W := by
  rw [run_equalIn_agg (P := Try.prog) W (d + 1) _ _ _ (by kernel_rfl) (by kernel_rfl)]
  have hf : (Try.prog.fieldsOf 37).toList.map (fun f => (f.name != "_", f.type, f.offset)) = [(true, 3, 0), (true, 3, 1), (true, 3, 2)] := by kernel_rfl
  generalize (Try.prog.fieldsOf 37).toList = fs at hf
  have hfl : fs.length = 3 := by have := congrArg List.length hf; simpa using this
  match fs, hfl with
  | [f0, f1, f2], _ =>
    simp only [List.map_cons, List.map_nil, List.cons.injEq, Prod.mk.injEq, and_true] at hf
    obtain ⟨⟨n0, t0, o0⟩, ⟨n1, t1, o1⟩, n2, t2, o2⟩ := hf
    have m0 : f0.name ≠ "_" := by simpa using n0
    have m1 : f1.name ≠ "_" := by simpa using n1
    have m2 : f2.name ≠ "_" := by simpa using n2
    have p0 : ∀ (x y z : Value) (W : World), (part 3 #[x, y, z] 0).run Try.prog W = .ok x W := fun x y z W => by rfl
    have p1 : ∀ (x y z : Value) (W : World), (part 3 #[x, y, z] 1).run Try.prog W = .ok y W := fun x y z W => by rfl
    have p2 : ∀ (x y z : Value) (W : World), (part 3 #[x, y, z] 2).run Try.prog W = .ok z W := fun x y z W => by rfl
    have q : ∀ (x y : Int) (W : World), (Op.equalIn (d + 1) 3 (.int .i64 x) (.int .i64 y)).run Try.prog W = .ok (x == y) W := fun x y W => run_equalIn_int (P := Try.prog) W d 3 .i64 .i64 _ _ Try.underlying3
    simp only [Op.eqFields, m0, m1, m2, ne_eq, not_false_eq_true, if_true, t0, t1, t2, o0, o1, o2, Sem.run_bind, p0, q, Result.andThen_ok]
    by_cases h1 : a.t = b.t
    · by_cases h2 : a.c = b.c
      · by_cases h3 : a.r = b.r
        · have e : a = b := by cases a; cases b; simp_all
          simp [e, p1, p2, q]
        · have e : a ≠ b := fun e => h3 (by rw [e])
          simp [h1, h2, h3, e, p1, p2, q]
      · have e : a ≠ b := fun e => h2 (by rw [e])
        simp [h1, h2, e, p1, q]
    · have e : a ≠ b := fun e => h1 (by rw [e])
      simp [h1, e]
theorem eqS (a b : St) (W : World) : (Op.equalIn 10000 37 (.agg #[.int .i64 a.t, .int .i64 a.c, .int .i64 a.r]) (.agg #[.int .i64 b.t, .int .i64 b.c, .int .i64 b.r])).run Try.prog W = .ok (decide (a = b)) W := eqS_in 9998 a b W
theorem eqlS (a b : St) (W : World) : (binOp .eql 37 (.agg #[.int .i64 a.t, .int .i64 a.c, .int .i64 a.r]) (.agg #[.int .i64 b.t, .int .i64 b.c, .int .i64 b.r])).run Try.prog W = .ok (.bool (decide (a = b))) W := by
  rw [run_eql_struct, eqS]; rfl

/-- a block of a stamp -/
def SRow (w : World) (b : Nat) (d : St) : Prop := w.heap[b]? = some (.cells #[.int .i64 d.t, .int .i64 d.c, .int .i64 d.r] 37 (0, 0))
theorem SRow.lt {w : World} {b : Nat} {d : St} (h : SRow w b d) : b < w.heap.size := (Array.getElem?_eq_some_iff.1 h).1
theorem SRow.alloc {w : World} {b : Nat} {d : St} (h : SRow w b d) (o : Obj) : SRow (w.alloc o) b d := by
  have hl := h.lt
  unfold SRow at *
  rw [Go.heap_alloc_old w o hl]; exact h
theorem SRow.new (w : World) (d : St) : SRow (boxS w d) w.heap.size d := heap_alloc_new w _
theorem SRow.keep {w w' : World} {b : Nat} {d : St} (h : SRow w b d) (hb : Below w.heap.size w w') : SRow w' b d := by
  unfold SRow; rw [hb.block b h.lt]; exact h
theorem SRow.cell {w : World} {b : Nat} {d : St} (h : SRow w b d) (j : Nat) (u : Value) (hu : (scs d)[j]? = some u) : w.cell? ⟨b, j, none⟩ = some u := by
  rw [Joins.cell_of_block h]; simpa [scs] using hu
theorem SRow.free {w : World} {b : Nat} {d : St} (h : SRow w b d) (j : Nat) : w.frozen? ⟨b, j, none⟩ = false := Joins.unfrozen_of_block h j

theorem stampInfo : (Try.prog.info? 37).map (·.size) = some 3 := by kernel_rfl
theorem retS {fn : Func} {p u : Tmp} (h : fn.results = #[.cell p 37, .tmp u]) (tmps : Array Value) (w : World) (g : Nat) (d : St) (x : Value)
    (hp : tmps.getD p undef = .pointer (some ⟨g, 0, none⟩)) (hx : tmps.getD u undef = x) (hg : SRow w g d) :
    (results fn tmps).run Try.prog w = .ok (.tuple #[.agg #[.int .i64 d.t, .int .i64 d.c, .int .i64 d.r], x]) w := by
  rw [results_cell_tmp h, hp, hx]
  simp [asAddr, run_loadVar_row w g 37 37 #[.int .i64 d.t, .int .i64 d.c, .int .i64 d.r] (0, 0) _ hg Try.underlying37 rfl stampInfo]
/-- what a function of two results answers -/
def two (x : St × Int) : Value := .tuple #[.agg #[.int .i64 x.1.t, .int .i64 x.1.c, .int .i64 x.1.r], .int .i64 x.2]
theorem belowOne (w : World) (o : Obj) : Below w.heap.size w (w.alloc o) := (Below.refl _ _).alloc (Nat.le_refl _) _
theorem belowMore {w v : World} (h : Below w.heap.size w v) (o : Obj) : Below w.heap.size w (v.alloc o) := h.trans ((belowOne v o).mono h.size)
theorem belowDrew {B : Nat} {w v : World} (h : Below B w v) : Below B w v.drew := ⟨h.os, h.tape, h.output, h.size, h.block⟩
theorem SRow.drew {w : World} {b : Nat} {d : St} (h : SRow w b d) : SRow w.drew b d := h
theorem SRow.second (w : World) (o : Obj) (d : St) : SRow ((w.alloc o).alloc (.cells #[.int .i64 d.t, .int .i64 d.c, .int .i64 d.r] 37)) (w.heap.size + 1) d := heap_alloc2_new w o _
end Go.Proofs.Ytpcelgmcbfjmbaa
