/-
  Blocks of any cells; a side of a store as the program lays it out (19 cells), two of them in a row.
-/
import Derived.Test.YtcedliaeipabnaaGreatGKernF
import Derived.Test.YtcedliaeipabnaaGreatGKernK
import Derived.Test.YtcedliaeipabnaaGreatGKernP
import Derived.Test.YtcedliaeipabnaaGreatGKernQ
namespace Go.Proofs.YtcedliaeipabnaaGreat
set_option linter.unusedSimpArgs false
set_option linter.unusedVariables false
set_option maxRecDepth 100000
open Go.RowKit Go.Sort

theorem lowA (w : World) (o : Obj) : Go.RowKit.Below w.heap.size w (w.alloc o) := (Below.refl _ _).alloc (Nat.le_refl _) _
/-! a block of these cells -/
def Blk (w : World) (b : Nat) (T : TypeId) (A : Array Value) : Prop := w.heap[b]? = some (.cells A T (0, 0))
theorem Blk.lt {w : World} {b : Nat} {T : TypeId} {A : Array Value} (h : Blk w b T A) : b < w.heap.size := lt_of_block h
theorem Blk.below {w w' : World} {b B : Nat} {T : TypeId} {A : Array Value} (h : Blk w b T A) (hb : Go.RowKit.Below B w w') (hB : b < B) : Blk w' b T A := by unfold Blk; rw [hb.block b hB]; exact h
theorem Blk.keep {w w' : World} {b : Nat} {T : TypeId} {A : Array Value} (h : Blk w b T A) (hb : Go.RowKit.Below w.heap.size w w') : Blk w' b T A := h.below hb h.lt
theorem Blk.new (w : World) (T : TypeId) (A : Array Value) : Blk (w.alloc (.cells A T)) w.heap.size T A := heap_alloc_new w _
theorem Blk.alloc {w : World} {b : Nat} {T : TypeId} {A : Array Value} (h : Blk w b T A) (o : Obj) : Blk (w.alloc o) b T A := h.keep ((Below.refl _ _).alloc (Nat.le_refl _) o)
theorem Blk.cell {w : World} {b j : Nat} {T : TypeId} {A : Array Value} {u : Value} (h : Blk w b T A) (hj : A[j]? = some u) : w.cell? ⟨b, j, none⟩ = some u := by
  rw [Joins.cell_of_block h]; exact hj
theorem Blk.range {w : World} {b : Nat} {T : TypeId} {A : Array Value} (h : Blk w b T A) (o : Nat) (cs : List Value) (hs : ∀ j v, cs[j]? = some v → A[o + j]? = some v) : w.rangeAt b o cs := fun j v hv => h.cell (hs j v hv)
theorem Blk.all {w : World} {b : Nat} {T : TypeId} {A : Array Value} (h : Blk w b T A) : w.rangeAt b 0 A.toList := h.range 0 _ fun j v hv => by rw [Nat.zero_add]; simpa using hv
theorem Blk.other {w : World} {b c : Nat} {T : TypeId} {A : Array Value} (h : Blk w b T A) (hc : b ≠ c) (C : Array Value) : Blk (w.setRow c C) b T A := by unfold Blk; rw [setRow_other _ _ _ _ hc]; exact h
theorem Blk.put {w : World} {b : Nat} {T : TypeId} {old : Array Value} (h : Blk w b T old) (A : Array Value) : Blk (w.setRow b A) b T A := setRow_heap _ _ _ _ _ _ h
theorem Blk.set {w : World} {b c j : Nat} {T : TypeId} {A : Array Value} (h : Blk w b T A) (hc : b ≠ c) (u : Value) : Blk (w.setCell ⟨c, j, none⟩ u) b T A := by
  unfold Blk; rw [Below.heap_setCell _ _ _ _ (show b ≠ c from hc)]; exact h
theorem CRow.blk {w : World} {b : Nat} {v : Vc} {s : Value} (h : CRow w b v s) : Blk w b 27 (ccs v s) := h
theorem Blk.crow {w : World} {b : Nat} {v : Vc} {s : Value} (h : Blk w b 27 (ccs v s)) : CRow w b v s := h
theorem FRow.blk {w : World} {b : Nat} {f : Ft} (h : FRow w b f) : Blk w b 61 (fcs f).toArray := h

/-- a whole row loaded, from wherever it lies -/
theorem bl_load {ops : Array Oper} {rest : List Oper} {o : Oper} {a : Act} {w : World} {Q : Exit → Act → World → Prop} (hw : Region.wanted o (yielded ops a.tmps) = true) (T : TypeId) (x : Operand) (ho : o.op = .load T x) (g off : Nat) (A : Array Value) {d : TypeDesc}
    (hx : a.eval x = .pointer (some ⟨g, off, none⟩)) (hg : w.rangeAt g off A.toList) (hu : Tryz.prog.underlying T = some d) (hd : d.isRow = true) (hi : (Tryz.prog.info? T).map (·.size) = some A.size)
    (h : wpList Tryz.prog ops Q rest (a.put o.dst (.agg A)) w) : wpList Tryz.prog ops Q (o :: rest) a w := by
  unfold wpList
  rw [if_pos hw]
  exact .inl (wp_load_mid T x ho g off hx A.toList d hg hu hd (by simpa using hi) h)
/-- .. in a region that draws -/
theorem b_yield {ops : Array Oper} {S : World → Prop} {o : Oper} {a : Act} (hw : Region.wanted o (yielded ops a.tmps) = true) (T : TypeId) (x : Operand) (ho : o.op = .load T x) (g off : Nat) (A : Array Value) {d : TypeDesc}
    (hx : a.eval x = .pointer (some ⟨g, off, none⟩)) (hg : ∀ w, S w → w.rangeAt g off A.toList) (hu : Tryz.prog.underlying T = some d) (hd : d.isRow = true) (hi : (Tryz.prog.info? T).map (·.size) = some A.size) : YieldsIf Tryz.prog ops S o (.agg A) a :=
  yieldsIf_load_mid hw T x ho g off hx A.toList d hg hu hd (by simpa using hi)
/-- .. in one that only reads -/
theorem bq_load {ops : Array Oper} {C : World → Prop} {Q : Act → Prop} {rest : List Oper} {o : Oper} {a : Act} (hw : Region.wanted o (yielded ops a.tmps) = true) (T : TypeId) (x : Operand) (ho : o.op = .load T x) (g off : Nat) (A : Array Value) {d : TypeDesc}
    (hx : a.eval x = .pointer (some ⟨g, off, none⟩)) (hg : ∀ w, C w → w.rangeAt g off A.toList) (hu : Tryz.prog.underlying T = some d) (hd : d.isRow = true) (hi : (Tryz.prog.info? T).map (·.size) = some A.size)
    (h : wpQuiet Tryz.prog ops C Q rest (a.put o.dst (.agg A))) : wpQuiet Tryz.prog ops C Q (o :: rest) a := by
  refine wpQuiet_step fun K hK => ?_
  rw [if_pos hw]
  refine ⟨_, fun w hC => ?_, hK _ h⟩
  unfold Oper.quietAt execOp
  simp only [ho, hx, Sem.run_bind, Sem.run_pure, Result.andThen_ok, run_loadAt_mid w g off T A.toList d (hg w hC) hu hd (by simpa using hi)]
  exact ⟨rfl, rfl⟩
/-- one cell, in a region that draws -/
theorem c_yield {ops : Array Oper} {S : World → Prop} {o : Oper} {a : Act} (hw : Region.wanted o (yielded ops a.tmps) = true) (T : TypeId) (x : Operand) (ho : o.op = .load T x) (p : Addr) (v : Value) (hx : a.eval x = .pointer (some p))
    (hr : ∀ w, S w → (Instr.loadAt T (.pointer (some p))).run Tryz.prog w = .ok v w) : YieldsIf Tryz.prog ops S o v a := by
  refine .inl ⟨hw, fun w hS => ?_⟩
  unfold execOp
  simp only [ho, hx, Sem.run_bind, Sem.run_pure, Result.andThen_ok, hr w hS]
/-- a whole row stored over an elder one -/
theorem bl_store {ops : Array Oper} {rest : List Oper} {o : Oper} {a : Act} {w : World} {Q : Exit → Act → World → Prop} (hgd : o.guard = none) (T : TypeId) (x y : Operand) (ho : o.op = .store T x y) (g : Nat) (A : Array Value)
    (hx : a.eval x = .pointer (some ⟨g, 0, none⟩)) (hy : a.eval y = .agg A) (hg : ∃ old, Blk w g T old ∧ old.size = A.size) (hi : (Tryz.prog.info? T).map (·.size) = some A.size) (h1 : A.all (·.oneCell') = true)
    (h : wpList Tryz.prog ops Q rest (a.put o.dst undef) (w.setRow g A)) : wpList Tryz.prog ops Q (o :: rest) a w := by
  obtain ⟨old, hg, ho2⟩ := hg
  exact wpList_store_row hgd T x y ho g A hx hy T old hg hi ho2 h1 h
theorem draw_storeB {ops : Array Oper} {o : Oper} {a : Act} {w : World} {K : Act → World → Prop} {Q : Exit → Act → World → Prop} (hgd : o.guard = none) (T : TypeId) (x y : Operand) (ho : o.op = .store T x y)
    (g : Nat) (A : Array Value) (hx : a.eval x = .pointer (some ⟨g, 0, none⟩)) (hy : a.eval y = .agg A) (hi : (Tryz.prog.info? T).map (·.size) = some A.size) (h1 : A.all (·.oneCell') = true) (hg : ∃ old, Blk w g T old ∧ old.size = A.size) (h : K (a.put o.dst undef) (w.setRow g A)) :
    if Region.wanted o (yielded ops a.tmps) = true then Oper.wp Tryz.prog o a w K Q else K (a.put o.dst undef) w := by
  obtain ⟨old, hg, ho2⟩ := hg
  have hl' := run_storeVar_row (P := Tryz.prog) w g T T old A hg hi ho2 h1
  simp only [Region.wanted, hgd, if_true]
  unfold Oper.wp execOp
  simp only [ho, hx, hy, Instr.storeAt, Instr.sureAddr, Sem.run_bind, Sem.run_pure, Result.andThen_ok, hl']
  exact h

/-! a side -/
def kcs (f : Value) (v : Vc) (s : Value) : Array Value := (#[f] ++ ccs v nilS).push s
theorem kcs_size (f : Value) (v : Vc) (s : Value) : (kcs f v s).size = v.length + 3 := by simp [kcs, ccs_size]; omega
theorem kcs_0 (f : Value) (v : Vc) (s : Value) : (kcs f v s)[0]? = some f := by
  unfold kcs
  rw [Array.getElem?_push_lt (by simp; omega), Array.getElem_append_left (by simp)]; rfl
theorem kcs_mid (f : Value) (v : Vc) (s : Value) (j : Nat) (u : Value) (h : (ccs v nilS)[j]? = some u) : (kcs f v s)[1 + j]? = some u := by
  have hj : j < (ccs v nilS).size := (Array.getElem?_eq_some_iff.1 h).1
  unfold kcs
  rw [Array.getElem?_push, if_neg (by simp; omega), Array.getElem?_append_right (by simp)]
  simpa using h
theorem kcs_18 (f : Value) (v : Vc) (s : Value) (hv : v.length = 16) : (kcs f v s)[18]? = some s := by
  unfold kcs
  have : (#[f] ++ ccs v nilS).size = 18 := by simp [ccs_size, hv]
  rw [Array.getElem?_push, if_pos (by rw [this])]
theorem kcs_one (v : Vc) (a b : Option Addr) (n c m k : Nat) : (kcs (.slice a n c) v (.slice b m k)).all (·.oneCell') = true := by
  have h := Array.all_eq_true_iff_forall_mem.1 (ccs_one v none 0 0)
  refine Array.all_eq_true_iff_forall_mem.2 fun u hu => ?_
  unfold kcs at hu
  rw [Array.mem_push, Array.mem_append] at hu
  rcases hu with (hu | hu) | rfl
  · obtain rfl : u = .slice a n c := by simpa using hu
    rfl
  · exact h u hu
  · rfl
theorem sideArr : (Tryz.prog.info? 64).map (·.size) = some 19 := by kernel_rfl
theorem infoK {v : Vc} (f s : Value) (h : v.length = 16) : (Tryz.prog.info? 64).map (·.size) = some (kcs f v s).size := by rw [kcs_size, h]; exact sideArr
theorem builtV {v : Vc} (h : v.length = 16) : Tryz.prog.built 27 [(0, .agg (ics v))] = some (ccs v nilS) := by
  obtain ⟨x0, x1, x2, x3, x4, x5, x6, x7, x8, x9, x10, x11, x12, x13, x14, x15, rfl⟩ := list16 h
  kernel_rfl
theorem builtK {v : Vc} (h : v.length = 16) (a b : Option Addr) (n c m k : Nat) : Tryz.prog.built 64 [(0, .slice a n c), (1, .agg (ccs v nilS)), (2, .slice b m k)] = some (kcs (.slice a n c) v (.slice b m k)) := by
  obtain ⟨x0, x1, x2, x3, x4, x5, x6, x7, x8, x9, x10, x11, x12, x13, x14, x15, rfl⟩ := list16 h
  kernel_rfl
theorem yield_BV {ops : Array Oper} {S : World → Prop} {o : Oper} {a : Act} (hw : Region.wanted o (yielded ops a.tmps) = true) (x : Operand) (ho : o.op = .build 27 #[(0, x)]) (v : Vc)
    (hx : a.eval x = .agg (ics v)) (hl : v.length = 16) : YieldsIf Tryz.prog ops S o (.agg (ccs v nilS)) a := by
  refine .inl ⟨hw, fun w _ => ?_⟩
  have h := run_build (P := Tryz.prog) w 27 #[(0, .agg (ics v))] _ (builtV hl)
  unfold execOp
  simp only [ho, List.map_toArray, List.map_cons, List.map_nil, hx, Sem.run_bind, Sem.run_pure, Result.andThen_ok, h]
theorem yield_BK {ops : Array Oper} {S : World → Prop} {o : Oper} {a : Act} (hw : Region.wanted o (yielded ops a.tmps) = true) (x y z : Operand) (ho : o.op = .build 64 #[(0, x), (1, y), (2, z)]) (v : Vc) (p q : Option Addr) (n c m k : Nat)
    (hx : a.eval x = .slice p n c) (hy : a.eval y = .agg (ccs v nilS)) (hz : a.eval z = .slice q m k) (hl : v.length = 16) : YieldsIf Tryz.prog ops S o (.agg (kcs (.slice p n c) v (.slice q m k))) a := by
  refine .inl ⟨hw, fun w _ => ?_⟩
  have h := run_build (P := Tryz.prog) w 64 #[(0, .slice p n c), (1, .agg (ccs v nilS)), (2, .slice q m k)] _ (builtK hl p q n c m k)
  unfold execOp
  simp only [ho, List.map_toArray, List.map_cons, List.map_nil, hx, hy, hz, Sem.run_bind, Sem.run_pure, Result.andThen_ok, h]
/-- two in a row -/
theorem twoArr : (Tryz.prog.info? 66).map (·.size) = some 38 := by kernel_rfl
def kk (f g : Value) (v u : Vc) (s t : Value) : Array Value := kcs f v s ++ kcs g u t
theorem kk_size (f g : Value) {v u : Vc} (s t : Value) (hv : v.length = 16) (hu : u.length = 16) : (kk f g v u s t).size = 38 := by unfold kk; rw [Array.size_append, kcs_size, kcs_size, hv, hu]
theorem kk_fst (f g : Value) {v : Vc} (u : Vc) (s t : Value) (hv : v.length = 16) (j : Nat) (x : Value) (h : (kcs f v s)[j]? = some x) : (kk f g v u s t)[j]? = some x := by
  have hj : j < (kcs f v s).size := (Array.getElem?_eq_some_iff.1 h).1
  unfold kk
  rw [Array.getElem?_append_left hj]; exact h
theorem kk_snd (f g : Value) {v : Vc} (u : Vc) (s t : Value) (hv : v.length = 16) (j : Nat) (x : Value) (h : (kcs g u t)[j]? = some x) : (kk f g v u s t)[19 + j]? = some x := by
  have e : (kcs f v s).size = 19 := by rw [kcs_size, hv]
  unfold kk
  rw [Array.getElem?_append_right (by rw [e]; omega), e, show 19 + j - 19 = j by omega]; exact h
theorem kk_one (v u : Vc) (a b p q : Option Addr) (n c m k n2 c2 m2 k2 : Nat) : (kk (.slice a n c) (.slice p n2 c2) v u (.slice b m k) (.slice q m2 k2)).all (·.oneCell') = true := by
  have h := Array.all_eq_true_iff_forall_mem.1 (kcs_one v a b n c m k)
  have h2 := Array.all_eq_true_iff_forall_mem.1 (kcs_one u p q n2 c2 m2 k2)
  refine Array.all_eq_true_iff_forall_mem.2 fun x hx => ?_
  unfold kk at hx
  rw [Array.mem_append] at hx
  exact hx.elim (h x) (h2 x)
theorem infoKK {v u : Vc} (f g s t : Value) (h : v.length = 16) (hu : u.length = 16) : (Tryz.prog.info? 66).map (·.size) = some (kk f g v u s t).size := by rw [kk_size _ _ _ _ h hu]; exact twoArr
theorem builtKK {v u : Vc} (h : v.length = 16) (hu : u.length = 16) (a b p q : Option Addr) (n c m k n2 c2 m2 k2 : Nat) :
    Tryz.prog.built 66 [(0, .agg (kcs (.slice a n c) v (.slice b m k))), (1, .agg (kcs (.slice p n2 c2) u (.slice q m2 k2)))] = some (kk (.slice a n c) (.slice p n2 c2) v u (.slice b m k) (.slice q m2 k2)) := by
  obtain ⟨x0, x1, x2, x3, x4, x5, x6, x7, x8, x9, x10, x11, x12, x13, x14, x15, rfl⟩ := list16 h
  obtain ⟨y0, y1, y2, y3, y4, y5, y6, y7, y8, y9, y10, y11, y12, y13, y14, y15, rfl⟩ := list16 hu
  kernel_rfl
theorem yield_BKK {ops : Array Oper} {S : World → Prop} {o : Oper} {a : Act} (hw : Region.wanted o (yielded ops a.tmps) = true) (x y : Operand) (ho : o.op = .build 66 #[(0, x), (1, y)]) {v u : Vc} (p q r s : Option Addr) (n c m k n2 c2 m2 k2 : Nat)
    (hx : a.eval x = .agg (kcs (.slice p n c) v (.slice q m k))) (hy : a.eval y = .agg (kcs (.slice r n2 c2) u (.slice s m2 k2))) (hl : v.length = 16) (hl2 : u.length = 16) : YieldsIf Tryz.prog ops S o (.agg (kk (.slice p n c) (.slice r n2 c2) v u (.slice q m k) (.slice s m2 k2))) a := by
  refine .inl ⟨hw, fun w _ => ?_⟩
  have h := run_build (P := Tryz.prog) w 66 #[(0, .agg (kcs (.slice p n c) v (.slice q m k))), (1, .agg (kcs (.slice r n2 c2) u (.slice s m2 k2)))] _ (builtKK hl hl2 p q r s n c m k n2 c2 m2 k2)
  unfold execOp
  simp only [ho, List.map_toArray, List.map_cons, List.map_nil, hx, hy, Sem.run_bind, Sem.run_pure, Result.andThen_ok, h]
/-- a side's parts in memory -/
theorem side_ctx {w : World} {b o : Nat} {f s : Value} {v : Vc} (h : w.rangeAt b o (kcs f v s).toList) : w.rangeAt b (o + 1) (ccs v nilS).toList := fun j u hu => by
  rw [Nat.add_assoc]
  exact h (1 + j) u (by simpa using kcs_mid f v s j u (by simpa using hu))
theorem side_facts {w : World} {b o : Nat} {f s : Value} {v : Vc} (h : w.rangeAt b o (kcs f v s).toList) : w.cell? ⟨b, o, none⟩ = some f := h 0 f (by simpa using kcs_0 f v s)
theorem side_beyond {w : World} {b o : Nat} {f s : Value} {v : Vc} (h : w.rangeAt b o (kcs f v s).toList) (hv : v.length = 16) : w.cell? ⟨b, o + 18, none⟩ = some s := h 18 s (by simpa using kcs_18 f v s hv)
/-! appending: what lies in blocks of other cells stays -/
theorem OwnF.notype {B : Nat} {v : Value} {l : List Ft} {w : World} (h : OwnF B v l w) {b : Nat} {T : TypeId} {A : Array Value} {fr : Nat × Nat} (hb : w.heap[b]? = some (.cells A T fr)) (hT : T ≠ 61) : some b ≠ v.ownBlock := by
  rcases h.2 with ⟨rfl, _⟩ | ⟨g, cap, cur, rfl, _, hg, _⟩
  · simp [Value.ownBlock]
  · intro e
    obtain rfl : b = g := by simpa [Value.ownBlock] using e
    rw [hb] at hg
    injection hg with h1
    injection h1 with h2 h3
    exact hT h3
theorem OwnD.notype {B : Nat} {v : Value} {l : List Dt} {w : World} (h : OwnD B v l w) {b : Nat} {T : TypeId} {A : Array Value} {fr : Nat × Nat} (hb : w.heap[b]? = some (.cells A T fr)) (hT : T ≠ 50) : some b ≠ v.ownBlock := by
  rcases h.2 with ⟨rfl, _⟩ | ⟨g, cap, cur, rfl, _, hg, _⟩
  · simp [Value.ownBlock]
  · intro e
    obtain rfl : b = g := by simpa [Value.ownBlock] using e
    rw [hb] at hg
    injection hg with h1
    injection h1 with h2 h3
    exact hT h3
theorem Blk.grown {w w' : World} {b : Nat} {T : TypeId} {A : Array Value} {row : Option Nat} (h : Blk w b T A) (hg : w.grownBy w' row) (hn : some b ≠ row) : Blk w' b T A := by
  unfold Blk; rw [hg.block b h.lt hn]; exact h
theorem appF3 {w : World} {B c : Nat} {v : Value} {xs ys : List Ft} {p : Option Addr} (h : OwnF B v xs w) (hp : FIn w p ys) (hb : B ≤ w.heap.size) (n : Nat) (hn : xs.length + ys.length = n) (hl : n ≤ 200000) :
    ∃ p' c' w', (Builtin.append_ #[22, 22] 22 #[v, .slice p ys.length c]).run Tryz.prog w = .ok (.slice p' n c') w' ∧ OwnF B (.slice p' n c') (xs ++ ys) w' ∧ Go.RowKit.Below B w w' ∧ w.grownBy w' v.ownBlock := by
  obtain ⟨i0, hi, hz0, hz1, hz2⟩ := info_parts factInfo
  have hsrc : Src Tryz.prog 8 22 (.slice p ys.length c) ys.length (rowF ys) w := by
    cases p with
    | none =>
      have : ys = [] := by
        rcases hp with h | ⟨_, _, h, _⟩
        · exact h
        · cases h
      subst this
      exact Src.ofNil _ Tryz.underlying22 c
    | some x => exact Src.ofSlice _ Tryz.underlying22 x ys.length c _ (rowF_len ys) (hp.cells rfl) (rowF_cell ys)
  obtain ⟨v', w', hr, ho, hg, -, -⟩ := run_append_sf (P := Tryz.prog) w B 22 22 22 61 i0 _ 8 80 Tryz.underlying22 hi hz0 hz1 hz2 rfl v xs.length (rowF xs) h _ ys.length (rowF ys) hsrc (by unfold maxLen; omega) (by omega) hb
  have ho' : OwnF B v' (xs ++ ys) w' := by
    unfold OwnF
    rw [List.length_append, rowF_append]
    exact ho
  obtain ⟨p', c', rfl, -, -⟩ := ho'.fin
  rw [List.length_append, hn] at ho' hr
  exact ⟨p', c', w', hr, ho', (Below.refl _ _).grown hg hb (fun j hj => (World.ownsRow.lt h j hj).1), hg⟩
theorem OwnF.from {B : Nat} {v : Value} {l : List Ft} {w : World} (h : OwnF B v l w) : ∃ a cap, v = .slice a l.length cap ∧ FFrom w B a l ∧ l.length ≤ maxLen := by
  obtain ⟨a, cap, he, hf, hl⟩ := h.fin
  refine ⟨a, cap, he, ?_, hl⟩
  rcases h.2 with ⟨e, h0⟩ | ⟨g, c2, cur, e, hB, hg, _⟩
  · exact .inl (List.length_eq_zero_iff.1 h0)
  · rw [he] at e
    injection e with e1 e2 e3
    subst e1
    exact FFrom.of hf hB
/-- what is new stays where a block of another time is written -/
theorem FFrom.cross {w U : World} {lo gs : Nat} {a : Option Addr} {l : List Ft} (h : FFrom w lo a l) (hb : Go.RowKit.Below w.heap.size w U) (hg : gs < lo ∨ w.heap.size ≤ gs) (C : Array Value) : FIn (U.setRow gs C) a l := by
  rcases hg with hg | hg
  · exact ((h.below hb).setRow hg C).fin
  · exact h.fin.below (belowRow hb hg C)
theorem Made.cross {w U : World} {lo gs : Nat} {c : Cx} {p : Option Addr} (h : Made lo w c p) (hb : Go.RowKit.Below w.heap.size w U) (hg : gs < lo ∨ w.heap.size ≤ gs) (C : Array Value) : CIn (U.setRow gs C) c p := by
  rcases hg with hg | hg
  · exact ((h.below hb).setRow hg C).cin
  · exact h.cin.below (belowRow hb hg C)
theorem results_tmp_cell {fn : Func} {p u : Tmp} {ty : TypeId} (h : fn.results = #[.tmp u, .cell p ty]) (tmps : Array Value) (P : Program) (w : World) :
    (results fn tmps).run P w =
      ((asAddr (tmps.getD p undef)).run P w).andThen fun a w₁ => ((loadVar ty a).run P w₁).andThen fun v w₂ => .ok (.tuple #[tmps.getD u undef, v]) w₂ := by
  simp only [results, h]
  simp [Sem.run_bind, Result.andThen]
theorem retxC {fn : Func} {p u : Tmp} (h : fn.results = #[.tmp u, .cell p 27]) (tmps : Array Value) (w : World) (g : Nat) (v : Vc) (s x : Value)
    (hp : tmps.getD p undef = .pointer (some ⟨g, 0, none⟩)) (hx : tmps.getD u undef = x) (hg : CRow w g v s) (hl : v.length = 16) :
    (results fn tmps).run Tryz.prog w = .ok (.tuple #[x, .agg (ccs v s)]) w := by
  rw [results_tmp_cell h, hp, hx]
  simp [asAddr, run_loadVar_row w g 27 27 (ccs v s) (0, 0) _ hg Tryz.underlying27 rfl (infoC s hl)]
end Go.Proofs.YtcedliaeipabnaaGreat
