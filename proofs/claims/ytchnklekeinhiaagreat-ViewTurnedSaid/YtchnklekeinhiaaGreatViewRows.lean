/-
  view, the program's: five rows of facts side by side, one for each kind.
-/
import Derived.Test.YtchnklekeinhiaaGreatGV23
import Derived.Lib.AppendZeros
namespace Go.Proofs.YtchnklekeinhiaaGreat
set_option linter.unusedSimpArgs false
set_option linter.unusedVariables false
set_option maxRecDepth 100000
open Go.RowKit Go.Sort

def encFt : EncG Ft := {
  enc := fcs, n := 8, T := 48, S := 22, z := zeroF, by' := 80
  len := fun _ => rfl, cell := fcs_cell, pos := by omega, info := by kernel_rfl, und := Tryz.underlying22, zs := rfl, lim := by omega }
theorem OwnF.g {B : Nat} {v : Value} {l : List Ft} {w : World} (h : OwnF B v l w) : OwnG encFt B v l w := h
theorem OwnG.f {B : Nat} {v : Value} {l : List Ft} {w : World} (h : OwnG encFt B v l w) : OwnF B v l w := h
theorem FIn.g {w : World} {a : Option Addr} {l : List Ft} (h : FIn w a l) : GIn encFt w a l := h
theorem OwnF.grown {B : Nat} {v : Value} {l : List Ft} {w w' : World} {row : Option Nat} (h : OwnF B v l w) (hg : w.grownBy w' row) (hn : ∀ g, v.ownBlock = some g → row ≠ some g) : OwnF B v l w' := by
  unfold OwnF at *
  refine ⟨h.1, ?_⟩
  rcases h.2 with hz | ⟨g, cap, cur, rfl, hB, hg0, rest⟩
  · exact .inl hz
  · exact .inr ⟨g, cap, cur, rfl, hB, by rw [hg.block g (lt_of_block hg0) (fun e => hn g rfl e.symm)]; exact hg0, rest⟩
theorem OwnF.block_lt {B : Nat} {v : Value} {l : List Ft} {w : World} (h : OwnF B v l w) {g : Nat} (hg : v.ownBlock = some g) : B ≤ g ∧ g < w.heap.size := World.ownsRow.lt h g hg
/-- rows of the call's own, in blocks of their own -/
structure Rows5 (B : Nat) (r : Nat → List Ft) (vs : Nat → Value) (w : World) : Prop where
  own : ∀ i, OwnF B (vs i) (r i) w
  off : ∀ i j g, i ≠ j → (vs i).ownBlock = some g → (vs j).ownBlock ≠ some g
theorem Rows5.nil (B : Nat) (w : World) : Rows5 B (fun _ => []) (fun _ => .slice none 0 0) w := ⟨fun _ => ownF_nil _ _, fun i j g _ h => by cases h⟩
theorem Rows5.below {B C : Nat} {r : Nat → List Ft} {vs : Nat → Value} {w w' : World} (h : Rows5 B r vs w) (hb : Below C w w') (hC : w.heap.size ≤ C) : Rows5 B r vs w' := ⟨fun i => (h.own i).below hb hC, h.off⟩
theorem Rows5.set {B b i : Nat} {r : Nat → List Ft} {vs : Nat → Value} {w : World} (h : Rows5 B r vs w) (hb : b < B) (u : Value) : Rows5 B r vs (w.setCell ⟨b, i, none⟩ u) := ⟨fun j => (h.own j).set hb u, h.off⟩
theorem grownBy_setRow' (w : World) (g : Nat) (C : Array Value) : w.grownBy (w.setRow g C) (some g) := ⟨rfl, rfl, rfl, by simp, fun k _ hn => setRow_other _ _ _ _ (fun e => hn (by rw [e]))⟩
theorem Rows5.row {B g : Nat} {r : Nat → List Ft} {vs : Nat → Value} {w : World} (h : Rows5 B r vs w) (hg : g < B) (C : Array Value) : Rows5 B r vs (w.setRow g C) := ⟨fun j => (h.own j).keep (grownBy_setRow' w g C) hg, h.off⟩
theorem Rows5.push {w : World} {B c k : Nat} {r : Nat → List Ft} {vs : Nat → Value} {f : Ft} {p : Option Addr} (h : Rows5 B r vs w) (hp : FIn w p [f]) (hb : B ≤ w.heap.size) (hl : (r k).length ≤ 100000) :
    ∃ a' c' w', (Builtin.append_ #[22, 22] 22 #[vs k, .slice p 1 c]).run Tryz.prog w = .ok (.slice a' ((r k).length + 1) c') w' ∧ Rows5 B (fun i => if i = k then r k ++ [f] else r i) (fun i => if i = k then .slice a' ((r k).length + 1) c' else vs i) w' ∧ Below B w w' ∧ w.grownBy w' (vs k).ownBlock := by
  obtain ⟨p', c', w', hrun, ho, hbel, hg, hsf⟩ := appG (E := encFt) (c := c) (h.own k).g hp.g hb ((r k).length + 1) (by simp) (by omega)
  refine ⟨p', c', w', hrun, ⟨fun i => ?_, fun i j g hij hi => ?_⟩, hbel, hg⟩
  · by_cases e : i = k
    · subst e; simp only [if_true]; exact ho.f
    · simp only [if_neg e]
      exact (h.own i).grown hg fun g hgi hgk => h.off i k g e hgi hgk
  · by_cases e : i = k
    · subst e
      simp only [if_true] at hi
      simp only [if_neg (fun e => hij e.symm : ¬ j = i)]
      rcases hsf with hs | ⟨g', hs, hge⟩
      · rw [hs] at hi; exact h.off i j g hij hi
      · rw [hs] at hi
        obtain rfl := Option.some.inj hi
        intro hj
        have := ((h.own j).block_lt hj).2
        omega
    · simp only [if_neg e] at hi
      by_cases e2 : j = k
      · subst e2
        simp only [if_true]
        rcases hsf with hs | ⟨g', hs, hge⟩
        · rw [hs]; exact h.off i j g hij hi
        · rw [hs]
          intro hj
          obtain rfl := Option.some.inj hj
          have := ((h.own i).block_lt hi).2
          omega
      · simp only [if_neg e2]; exact h.off i j g hij hi
/-- the five slices as they stand in an array -/
def k5 (vs : Nat → Value) : Array Value := #[vs 0, vs 1, vs 2, vs 3, vs 4]
theorem k5_size (vs : Nat → Value) : (k5 vs).size = 5 := rfl
theorem k5_at (vs : Nat → Value) (k : Nat) (hk : k < 5) : (k5 vs)[k]? = some (vs k) := by
  match k, hk with
  | 0, _ => rfl
  | 1, _ => rfl
  | 2, _ => rfl
  | 3, _ => rfl
  | 4, _ => rfl
theorem k5_set (vs : Nat → Value) (k : Nat) (hk : k < 5) (u : Value) : (k5 vs).setIfInBounds k u = k5 (fun i => if i = k then u else vs i) := by
  match k, hk with
  | 0, _ => rfl
  | 1, _ => rfl
  | 2, _ => rfl
  | 3, _ => rfl
  | 4, _ => rfl
theorem Rows5.one {B : Nat} {r : Nat → List Ft} {vs : Nat → Value} {w : World} (h : Rows5 B r vs w) : (k5 vs).all (·.oneCell') = true := by
  have : ∀ i, (vs i).oneCell' = true := fun i => by
    obtain ⟨a, c, e, -, -⟩ := (h.own i).fin
    rw [e]; rfl
  simp [k5, this]
theorem infoK (vs : Nat → Value) : (Tryz.prog.info? 57).map (·.size) = some (k5 vs).size := by
  rw [k5_size]; kernel_rfl
abbrev KBlk (w : World) (b : Nat) (vs : Nat → Value) : Prop := Blk w b 57 (k5 vs)
theorem KBlk.set {w : World} {b : Nat} {vs : Nat → Value} (h : KBlk w b vs) (k : Nat) (hk : k < 5) (u : Value) : KBlk (w.setCell ⟨b, k, none⟩ u) b (fun i => if i = k then u else vs i) := by
  have h2 := Joins.block_setCell (i := k) h u
  rw [k5_set vs k hk] at h2
  exact h2
/-- the rows of a list of facts, by their kinds -/
def kindsR (l : List Ft) : Nat → List Ft := fun i => if i = 0 ∨ 5 ≤ i then [] else kindR i l
theorem kindsR_nil : kindsR [] = fun _ => [] := by funext i; unfold kindsR kindR; split <;> rfl
theorem kindsR_at (l : List Ft) (k : Nat) (h0 : k ≠ 0) (h5 : k < 5) : kindsR l k = kindR k l := by unfold kindsR; rw [if_neg (by omega)]
theorem kindsR_in (l : List Ft) (f : Ft) (k : Nat) (hf : f.k = k) (h0 : k ≠ 0) (h5 : k < 5) : kindsR (l ++ [f]) = fun i => if i = k then kindsR l k ++ [f] else kindsR l i := by
  funext i
  unfold kindsR
  by_cases e : i = k
  · subst e
    rw [if_neg (by omega), if_pos rfl, if_neg (by omega), kindR_snoc, if_pos hf]
  · rw [if_neg e]
    by_cases h : i = 0 ∨ 5 ≤ i
    · rw [if_pos h, if_pos h]
    · rw [if_neg h, if_neg h, kindR_snoc, if_neg (by rw [hf]; omega), List.append_nil]
theorem kindsR_out (l : List Ft) (f : Ft) (hf : f.k < 1 ∨ 5 ≤ f.k) : kindsR (l ++ [f]) = kindsR l := by
  funext i
  unfold kindsR
  by_cases h : i = 0 ∨ 5 ≤ i
  · rw [if_pos h, if_pos h]
  · rw [if_neg h, if_neg h, kindR_snoc, if_neg (by omega), List.append_nil]
theorem kindsR_len (l : List Ft) (k : Nat) : (kindsR l k).length ≤ l.length := by
  unfold kindsR
  split
  · simp
  · exact kindR_len _ _
/-- a row of this kind, as it is read -/
theorem Rows5.at {B : Nat} {l : List Ft} {vs : Nat → Value} {w : World} (h : Rows5 B (kindsR l) vs w) (k : Nat) (h0 : k ≠ 0) (h5 : k < 5) : ∃ a c, vs k = .slice a (kindR k l).length c ∧ FFrom w B a (kindR k l) := by
  have := h.own k
  rw [kindsR_at l k h0 h5] at this
  obtain ⟨a, c, e, hf, -⟩ := this.from
  exact ⟨a, c, e, hf⟩
/-! in a region that draws -/
theorem draw_appendF {ops : Array Oper} {o : Oper} {a : Act} {w : World} {K : Act → World → Prop} {Q : Exit → Act → World → Prop} (hgd : o.guard = none) (x y : Operand) (ho : o.op = .call { callee := .builtin .append, args := #[x, y], argTypes := #[22, 22] }) (ht : o.type = 22)
    (vs vx : Value) (hx : a.eval x = vs) (hy : a.eval y = vx) (v' : Value) (w' : World) (hr : (Builtin.append_ #[22, 22] 22 #[vs, vx]).run Tryz.prog w = .ok v' w') (h : K (a.put o.dst v') w') :
    if Region.wanted o (yielded ops a.tmps) = true then Oper.wp Tryz.prog o a w K Q else K (a.put o.dst undef) w := by
  simp only [Region.wanted, hgd, if_true]
  have hr' : (Builtin.append_ #[22, 22] o.type #[vs, vx]).run Tryz.prog w = .ok v' w' := by rw [ht]; exact hr
  exact Lib.wp_append_run w x y _ _ ho vs vx hx hy v' w' hr' h
theorem draw_build1F {ops : Array Oper} {o : Oper} {a : Act} {w : World} {K : Act → World → Prop} {Q : Exit → Act → World → Prop} (hgd : o.guard = none) (x : Operand) (ho : o.op = .buildSlice 22 1 #[(0, x)]) (f : Ft)
    (hx : a.eval x = .agg (fcs f).toArray) (h : K (a.put o.dst (.slice (some ⟨w.heap.size, 0, none⟩) 1 1)) (w.alloc (.cells (fcs f).toArray 48))) :
    if Region.wanted o (yielded ops a.tmps) = true then Oper.wp Tryz.prog o a w K Q else K (a.put o.dst undef) w := by
  simp only [Region.wanted, hgd, if_true]
  have e : (#[(0, x)] : Array (Nat × Operand)).map (fun (i, x) => (i, a.eval x)) = #[(0, .agg (fcs f).toArray)] := by simp [hx]
  have hb : (Instr.buildSlice 22 1 #[(0, .agg (fcs f).toArray)]).run Tryz.prog w = .ok (.slice (some ⟨w.heap.size, 0, none⟩) 1 1) (w.alloc (.cells (fcs f).toArray 48)) := by
    obtain ⟨i0, hi, hz0, hz1, hz2⟩ := info_parts factInfo
    refine run_buildSlice w 22 48 1 _ (fcs f).toArray i0 zeroF Tryz.underlying22 hi hz0 (by rw [hz1]; decide) (by rw [hz1]; decide) ?_
    rw [hz1]
    kernel_rfl
  unfold Oper.wp execOp
  simp only [ho, Sem.run_bind]
  rw [e, hb]
  exact h
theorem f_yield {ops : Array Oper} {S : World → Prop} {o : Oper} {a : Act} (hw : Region.wanted o (yielded ops a.tmps) = true) (x : Operand) (ho : o.op = .load 48 x) (g : Nat) (f : Ft) (hx : a.eval x = .pointer (some ⟨g, 0, none⟩)) (hg : ∀ w, S w → FRow w g f) : YieldsIf Tryz.prog ops S o (.agg (fcs f).toArray) a :=
  b_yield hw 48 x ho g 0 (fcs f).toArray hx (fun w hS => (hg w hS).range) Tryz.underlying48 rfl factSize
theorem draw_load1 {ops : Array Oper} {o : Oper} {a : Act} {w : World} {K : Act → World → Prop} {Q : Exit → Act → World → Prop} (hgd : o.guard = none) (T : TypeId) (x : Operand) (ho : o.op = .load T x) (p : Addr) (v : Value) (hx : a.eval x = .pointer (some p))
    (hr : (Instr.loadAt T (.pointer (some p))).run Tryz.prog w = .ok v w) (h : K (a.put o.dst v) w) :
    if Region.wanted o (yielded ops a.tmps) = true then Oper.wp Tryz.prog o a w K Q else K (a.put o.dst undef) w := by
  simp only [Region.wanted, hgd, if_true]
  unfold Oper.wp execOp
  simp only [ho, hx, Sem.run_bind, Sem.run_pure, Result.andThen_ok, hr]
  exact h
theorem draw_storeS {ops : Array Oper} {o : Oper} {a : Act} {w : World} {K : Act → World → Prop} {Q : Exit → Act → World → Prop} (hgd : o.guard = none) (x y : Operand) (ho : o.op = .store 22 x y) (p : Addr) (q : Option Addr) (n c : Nat) (old : Value)
    (hx : a.eval x = .pointer (some p)) (hy : a.eval y = .slice q n c) (hc : w.cell? p = some old) (hf : w.frozen? p = false) (h : K (a.put o.dst undef) (w.setCell p (.slice q n c))) :
    if Region.wanted o (yielded ops a.tmps) = true then Oper.wp Tryz.prog o a w K Q else K (a.put o.dst undef) w := by
  simp only [Region.wanted, hgd, if_true]
  have hr : (Instr.storeAt 22 (.pointer (some p)) (.slice q n c)).run Tryz.prog w = .ok () (w.setCell p (.slice q n c)) := by go_simp
  unfold Oper.wp execOp
  simp only [ho, hx, hy, Sem.run_bind, Sem.run_pure, Result.andThen_ok, hr]
  exact h
theorem run_loadS (w : World) (p : Addr) (v : Value) (h : w.cell? p = some v) : (Instr.loadAt 22 (.pointer (some p))).run Tryz.prog w = .ok v w := by go_simp
theorem KBlk.free {w : World} {b : Nat} {vs : Nat → Value} (h : KBlk w b vs) (k : Nat) : w.frozen? ⟨b, k, none⟩ = false := Joins.unfrozen_of_block h k
end Go.Proofs.YtchnklekeinhiaaGreat
