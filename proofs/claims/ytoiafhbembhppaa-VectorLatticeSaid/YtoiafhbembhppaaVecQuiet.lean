/-
  Whole vectors loaded where an operation is guarded, and in regions that draw and only read.
-/
import Derived.Test.YtoiafhbembhppaaVecRow
import Derived.Lib.QuietBelow
namespace Go.Proofs.Ytoiafhbembhppaa
set_option maxRecDepth 100000
open Go.RowKit Go.Sort

theorem vl_loadg {ops : Array Oper} {rest : List Oper} {o : Oper} {a : Act} {w : World} {Q : Exit → Act → World → Prop} (hw : Region.wanted o (yielded ops a.tmps) = true) (x : Operand) (ho : o.op = .load 39 x) (g : Nat) (l : Vc)
    (hx : a.eval x = .pointer (some ⟨g, 0, none⟩)) (hg : VRow w g l) (hl : l.length = 16)
    (h : wpList Try.prog ops Q rest (a.put o.dst (.agg (ics l))) w) : wpList Try.prog ops Q (o :: rest) a w := by
  unfold wpList
  rw [if_pos hw]
  exact .inl (wp_load_row 39 x ho g hx 39 (ics l) (0, 0) _ hg Try.underlying39 rfl (infoV hl) h)
theorem vl_build {ops : Array Oper} {rest : List Oper} {o : Oper} {a : Act} {w : World} {Q : Exit → Act → World → Prop} (hw : Region.wanted o (yielded ops a.tmps) = true) (t : TypeId) (parts : Array (Nat × Operand)) (ho : o.op = .build t parts) (cs : Array Value)
    (hb : Try.prog.built t (parts.map fun (i, x) => (i, a.eval x)).toList = some cs)
    (h : wpList Try.prog ops Q rest (a.put o.dst (.agg cs)) w) : wpList Try.prog ops Q (o :: rest) a w := by
  unfold wpList
  rw [if_pos hw]
  refine .inl ?_
  refine wp_build t parts ho (by rw [hb]; rfl) ?_
  rw [hb]
  exact h
theorem VRow.load {w : World} {b : Nat} {l : Vc} (h : VRow w b l) (hl : l.length = 16) : (loadVar 39 ⟨b, 0, none⟩).run Try.prog w = .ok (.agg (ics l)) w :=
  run_loadVar_row w b 39 39 (ics l) (0, 0) _ h Try.underlying39 rfl (infoV hl)
theorem VRow.store {w : World} {b : Nat} {l m : Vc} (h : VRow w b l) (hl : l.length = 16) (hm : m.length = 16) : (storeVar 39 ⟨b, 0, none⟩ (.agg (ics m))).run Try.prog w = .ok () (w.setRow b (ics m)) :=
  run_storeVar_row w b 39 39 (ics l) (ics m) h (infoV hm) (by rw [ics_size, ics_size, hl, hm]) (ics_one _)
theorem vq_load {ops : Array Oper} {C : World → Prop} {Q : Act → Prop} {rest : List Oper} {o : Oper} {a : Act} (hw : Region.wanted o (yielded ops a.tmps) = true) (x : Operand) (ho : o.op = .load 39 x) (g : Nat) (l : Vc)
    (hx : a.eval x = .pointer (some ⟨g, 0, none⟩)) (hg : ∀ w, C w → VRow w g l) (hl : l.length = 16)
    (h : wpQuiet Try.prog ops C Q rest (a.put o.dst (.agg (ics l)))) : wpQuiet Try.prog ops C Q (o :: rest) a := by
  refine wpQuiet_step fun K hK => ?_
  rw [if_pos hw]
  refine ⟨_, fun w hC => ?_, hK _ h⟩
  unfold Oper.quietAt execOp
  simp only [ho, hx, Instr.loadAt, Instr.sureAddr, Sem.run_bind, Sem.run_pure, Result.andThen_ok, (hg w hC).load hl]
  exact ⟨rfl, rfl⟩
theorem VRow.regrown {W : World} {b : Nat} {l : Vc} (h : VRow W b l) : ∀ w, (∃ p : Regrown, w = grow (redrawn W p.d) p.os) → VRow w b l := by
  rintro w ⟨p, rfl⟩
  exact h.keep (below_regrown W p.d p.os)
end Go.Proofs.Ytoiafhbembhppaa
