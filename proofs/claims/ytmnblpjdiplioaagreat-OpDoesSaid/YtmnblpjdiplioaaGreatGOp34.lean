/-
  What a join of two stores answers.
  What is left, as the program reckons it: each side sorted, and gone over; two facts that say the same, told by a list that gets shorter; deltas that may be, as the statement asks.
  What lies there while a context is made of others.
  Join, Meet: the program's, and the document's.
  The document's Check, Add, Join.
-/
import Derived.Test.YtmnblpjdiplioaaGreatGOp12
import Derived.Test.YtmnblpjdiplioaaGreatGOp19
import Derived.Test.YtmnblpjdiplioaaGreatGOp26
import Derived.Test.YtmnblpjdiplioaaGreatGOp25
import Derived.RegionTactic
import Derived.BigRegion
import Derived.Test.YtmnblpjdiplioaaGreatGOp27
namespace Go.Proofs.YtmnblpjdiplioaaGreat
set_option linter.unusedSimpArgs false
set_option linter.unusedVariables false
set_option maxRecDepth 100000
open Go.RowKit Go.Sort

/-- what Join answers -/
def JoinAns (a b : List Ft) (ac bc : Cx) (lo : Nat) (e : Ending) (w' : World) : Prop :=
  ∃ (o : Cx) (la pa : Option Addr) (lk pk : Nat), e = .returned (.tuple #[.slice la (joinK a ac b bc).length lk, .agg (ccs o.v (.slice pa o.l.length pk))]) ∧ JoinOf ac bc o ∧ FFrom w' lo la (joinK a ac b bc) ∧ Made lo w' o pa ∧ o.l.length ≤ ac.l.length + bc.l.length
theorem results_tmp_cell {fn : Func} {p u : Tmp} {ty : TypeId} (h : fn.results = #[.tmp u, .cell p ty]) (tmps : Array Value) (P : Program) (w : World) :
    (results fn tmps).run P w =
      ((asAddr (tmps.getD p undef)).run P w).andThen fun a w₁ => ((loadVar ty a).run P w₁).andThen fun v w₂ => .ok (.tuple #[tmps.getD u undef, v]) w₂ := by
  simp only [results, h]
  simp [Sem.run_bind, Result.andThen]
theorem retxC {fn : Func} {p u : Tmp} (h : fn.results = #[.tmp u, .cell p 56]) (tmps : Array Value) (w : World) (g : Nat) (v : Vc) (s x : Value)
    (hp : tmps.getD p undef = .pointer (some ⟨g, 0, none⟩)) (hx : tmps.getD u undef = x) (hg : CRow w g v s) (hl : v.length = 16) :
    (results fn tmps).run Tryz.prog w = .ok (.tuple #[x, .agg (ccs v s)]) w := by
  rw [results_tmp_cell h, hp, hx]
  simp [asAddr, run_loadVar_row w g 56 56 (ccs v s) (0, 0) _ hg Tryz.underlying56 rfl (infoC s hl)]
end Go.Proofs.YtmnblpjdiplioaaGreat

namespace Go.Proofs.YtmnblpjdiplioaaGreat
set_option linter.unusedSimpArgs false
set_option linter.unusedVariables false

/-! Join -/
theorem filter_take {α : Type} (p : α → Bool) (l : List α) (k : Nat) (x : α) (h : l[k]? = some x) : (l.take (k + 1)).filter p = (l.take k).filter p ++ (if p x = true then [x] else []) := by
  obtain ⟨hk, e⟩ := List.getElem?_eq_some_iff.1 h
  rw [List.take_succ_eq_append_getElem hk, List.filter_append, e]
  congr 1
  by_cases hp : p x = true
  · rw [if_pos hp, List.filter_cons_of_pos hp]; rfl
  · rw [if_neg hp, List.filter_cons_of_neg hp]; rfl

/-! Check -/
/-! deltas -/
end Go.Proofs.YtmnblpjdiplioaaGreat

namespace Go.Proofs.YtmnblpjdiplioaaGreat
set_option linter.unusedSimpArgs false
set_option linter.unusedVariables false
set_option maxRecDepth 100000
open Go.RowKit Go.Sort

/-- what lies there while a context is made of others -/
structure Hold1 (w : World) (v : Vc) (s : Value) (U : World) : Prop where
  row : CRow U w.heap.size v s
  res : ∃ (old : Vc) (so : Value), CRow U (w.heap.size + 1) old so ∧ old.length = 16
  low : Go.RowKit.Below w.heap.size w U
theorem Hold1.below {w U U' : World} {v : Vc} {s : Value} (h : Hold1 w v s U) (hb : Go.RowKit.Below U.heap.size U U') : Hold1 w v s U' :=
  ⟨h.row.keep hb, by obtain ⟨o, so, h1, h2⟩ := h.res; exact ⟨o, so, h1.keep hb, h2⟩, h.low.trans (hb.mono h.low.size)⟩
theorem Hold1.alloc {w U : World} {v : Vc} {s : Value} (h : Hold1 w v s U) (o : Obj) : Hold1 w v s (U.alloc o) := h.below ((Below.refl _ _).alloc (Nat.le_refl _) o)
theorem Hold1.put {w U : World} {v x : Vc} {s t : Value} (h : Hold1 w v s U) (hx : x.length = 16) : Hold1 w v s (U.setRow (w.heap.size + 1) (ccs x t)) ∧ CRow (U.setRow (w.heap.size + 1) (ccs x t)) (w.heap.size + 1) x t := by
  obtain ⟨o, so, h1, h2⟩ := h.res
  have h3 := CRow.of_put h1 x t
  exact ⟨⟨h.row.of_set (by omega) _, ⟨x, t, h3, hx⟩, belowRow h.low (by omega) _⟩, h3⟩
structure Hold2 (w : World) (v : Vc) (s : Value) (v2 : Vc) (s2 : Value) (U : World) : Prop where
  row : CRow U w.heap.size v s
  row2 : CRow U (w.heap.size + 1) v2 s2
  res : ∃ (old : Vc) (so : Value), CRow U (w.heap.size + 2) old so ∧ old.length = 16
  low : Go.RowKit.Below w.heap.size w U
theorem Hold2.below {w U U' : World} {v v2 : Vc} {s s2 : Value} (h : Hold2 w v s v2 s2 U) (hb : Go.RowKit.Below U.heap.size U U') : Hold2 w v s v2 s2 U' :=
  ⟨h.row.keep hb, h.row2.keep hb, by obtain ⟨o, so, h1, h2⟩ := h.res; exact ⟨o, so, h1.keep hb, h2⟩, h.low.trans (hb.mono h.low.size)⟩
theorem Hold2.put {w U : World} {v v2 x : Vc} {s s2 t : Value} (h : Hold2 w v s v2 s2 U) (hx : x.length = 16) : Hold2 w v s v2 s2 (U.setRow (w.heap.size + 2) (ccs x t)) ∧ CRow (U.setRow (w.heap.size + 2) (ccs x t)) (w.heap.size + 2) x t := by
  obtain ⟨o, so, h1, h2⟩ := h.res
  have h3 := CRow.of_put h1 x t
  exact ⟨⟨h.row.of_set (by omega) _, h.row2.of_set (by omega) _, ⟨x, t, h3, hx⟩, belowRow h.low (by omega) _⟩, h3⟩
/-- a context's cloud stays where a block above it is written -/
theorem CIn.setRow {w : World} {o : Cx} {p : Option Addr} {lo g : Nat} (h : CIn w o p) (hf : DFrom w lo p o.l) (hg : g < lo) (C : Array Value) : CIn (w.setRow g C) o p := ⟨h.v16, (hf.setRow hg C).din, h.len⟩
theorem three_two (w : World) (v v2 : Vc) (s s2 : Value) : CRow (boxC (boxC (boxC w v s) v2 s2) zV nilS) w.heap.size v s ∧ CRow (boxC (boxC (boxC w v s) v2 s2) zV nilS) (w.heap.size + 1) v2 s2 ∧
    CRow (boxC (boxC (boxC w v s) v2 s2) zV nilS) (w.heap.size + 2) zV nilS ∧ Go.RowKit.Below w.heap.size w (boxC (boxC (boxC w v s) v2 s2) zV nilS) := by
  have e1 := boxC_size w v s
  have e2 := boxC_size (boxC w v s) v2 s2
  have h0 := CRow.new w v s
  have h1 := CRow.new (boxC w v s) v2 s2
  have h2 := CRow.new (boxC (boxC w v s) v2 s2) zV nilS
  rw [e1] at h1
  rw [e2, e1] at h2
  exact ⟨(h0.alloc _).alloc _, h1.alloc _, h2, ((boxC_below w v s).alloc (by rw [e1]; omega) _).alloc (by rw [World.size_alloc, e1]; omega) _⟩
theorem yield_B {ops : Array Oper} {S : World → Prop} {o : Oper} {a : Act} (hw : Region.wanted o (yielded ops a.tmps) = true) (x y : Operand) (ho : o.op = .build 56 #[(0, x), (1, y)]) (v : Vc) (p : Option Addr) (n c : Nat)
    (hx : a.eval x = .agg (ics v)) (hy : a.eval y = .slice p n c) (hl : v.length = 16) : YieldsIf Tryz.prog ops S o (.agg (ccs v (.slice p n c))) a := by
  refine .inl ⟨hw, fun w _ => ?_⟩
  have h := buildC hl p n c w
  unfold execOp
  simp only [ho, List.map_toArray, List.map_cons, List.map_nil, hx, hy, Sem.run_bind, Sem.run_pure, Result.andThen_ok, h]
/-- a whole context stored, in a region that draws -/
theorem draw_storeC {ops : Array Oper} {o : Oper} {a : Act} {w : World} {K : Act → World → Prop} {Q : Exit → Act → World → Prop} (hgd : o.guard = none) (x y : Operand) (ho : o.op = .store 56 x y)
    (g : Nat) (hx : a.eval x = .pointer (some ⟨g, 0, none⟩)) (v : Vc) (p : Option Addr) (n c : Nat) (hy : a.eval y = .agg (ccs v (.slice p n c))) (hl : v.length = 16) (hg : ∃ (old : Vc) (so : Value), CRow w g old so ∧ old.length = 16) (h : K (a.put o.dst undef) (w.setRow g (ccs v (.slice p n c)))) :
    if Region.wanted o (yielded ops a.tmps) = true then Oper.wp Tryz.prog o a w K Q else K (a.put o.dst undef) w := by
  obtain ⟨old, so, hg, ho2⟩ := hg
  have hl' := run_storeVar_row (P := Tryz.prog) w g 56 56 (ccs old so) (ccs v (.slice p n c)) hg (infoC _ hl) (by rw [ccs_size, ccs_size, hl, ho2]) (ccs_one _ _ _ _)
  simp only [Region.wanted, hgd, if_true]
  unfold Oper.wp execOp
  simp only [ho, hx, hy, Instr.storeAt, Instr.sureAddr, Sem.run_bind, Sem.run_pure, Result.andThen_ok, hl']
  exact h
end Go.Proofs.YtmnblpjdiplioaaGreat

namespace Go.Proofs.YtmnblpjdiplioaaGreat
set_option maxRecDepth 100000
open Go.RowKit

theorem three_rows (w : World) (a b : Vc) : VRow (((w.alloc (.cells (ics a) 54)).alloc (.cells (ics b) 54)).alloc (.cells (ics zV) 54)) w.heap.size a ∧
    VRow (((w.alloc (.cells (ics a) 54)).alloc (.cells (ics b) 54)).alloc (.cells (ics zV) 54)) (w.heap.size + 1) b ∧
    VRow (((w.alloc (.cells (ics a) 54)).alloc (.cells (ics b) 54)).alloc (.cells (ics zV) 54)) (w.heap.size + 2) zV ∧
    Below w.heap.size w (((w.alloc (.cells (ics a) 54)).alloc (.cells (ics b) 54)).alloc (.cells (ics zV) 54)) := by
  have e1 : (w.alloc (.cells (ics a) 54)).heap.size = w.heap.size + 1 := by simp
  have e2 : ((w.alloc (.cells (ics a) 54)).alloc (.cells (ics b) 54)).heap.size = w.heap.size + 2 := by simp
  have h0 := VRow.new w a
  have h1 := VRow.new (w.alloc (.cells (ics a) 54)) b
  have h2 := VRow.new ((w.alloc (.cells (ics a) 54)).alloc (.cells (ics b) 54)) zV
  rw [e1] at h1
  rw [e2] at h2
  exact ⟨(h0.alloc _).alloc _, h1.alloc _, h2, (((Below.refl _ _).alloc (Nat.le_refl _) _).alloc (by simp) _).alloc (by simp; omega) _⟩

set_option maxHeartbeats 4000000 in
set_option maxRecDepth 100000 in
theorem vjoinR (a b : Vc) (ha : a.length = 16) (hb : b.length = 16) (w : World) : Calls Tryz.prog 97 #[.agg (ics a), .agg (ics b)] w fun e w' => e = .returned (.agg (ics (joinV a b))) ∧ Below w.heap.size w w' := by
  have HA := Lib.hid ha
  have HB := Lib.hid hb
  have HW := Lib.hid (three_rows w a b)
  clear ha hb
  go_enter Tryz.func97, Tryz.ntmps97
  go_wp2_with fail
  go_loopw [5] (fun i wr => ∃ k : Nat, i = .int .i64 k ∧ k ≤ 16 ∧ VRow wr w.heap.size (mixJ a b k) ∧ VRow wr (w.heap.size + 1) b ∧ VRow wr (w.heap.size + 2) zV ∧ Below w.heap.size w wr) (fun i _ => 16 - (intOf i).toNat)
  case atStart => exact ⟨0, rfl, by omega, by rw [mixJ_zero]; exact HW.out.1, HW.out.2.1, HW.out.2.2.1, HW.out.2.2.2⟩
  case round =>
    rename_i wr
    obtain ⟨k, rfl, hk, r0, r1, r2, rB⟩ := hrel
    by_cases hlt : k < 16
    · have hcell := r0.cell k (by rw [mixJ_len HA.out HB.out]; exact hlt)
      rw [mixJ_at HA.out HB.out hlt] at hcell
      have hcellb := r1.cell k (by rw [HB.out]; exact hlt)
      have hfree := r0.free k
      have hz := r0.lt
      have hz1 := r1.lt
      have HS := Lib.hid (mixJ_succ HA.out HB.out hlt)
      have R0 := Lib.hid r0
      have R1 := Lib.hid r1
      have R2 := Lib.hid r2
      have RB := Lib.hid rB
      clear r0 r1 r2 rB
      generalize a.getD k 0 = x at *
      generalize b.getD k 0 = y at *
      go_wp2_with fail
      go_region
      go_wp2_with fail
      go_roundw
      case rel => exact ⟨k + 1, by go_num, by omega, by rw [HS.out]; exact (R0.out.set k _).drew, (R1.out.other (by omega) _ _).drew, (R2.out.other (by omega) _ _).drew, (RB.out.setCell (Nat.le_refl _) _).drew⟩
      case measure => simp [intOf]; omega
    · obtain rfl : k = 16 := by omega
      rw [mixJ_all HA.out HB.out] at r0
      have hj := joinV_len HA.out HB.out
      generalize hjj : joinV a b = j at *
      have HJJ := Lib.hid hjj
      have HJ := Lib.hid hj
      clear hjj
      have R0 := Lib.hid r0
      have R2 := Lib.hid r2
      have RB := Lib.hid rB
      clear r0 r1 r2 rB hj
      go_wp2_with (first
        | ((with_reducible refine vl_load ?_ (.tmp 2) ?_ w.heap.size j ?_ ?_ ?_ ?_); rfl; rfl; rfl; exact R0.out; exact HJ.out)
        | ((with_reducible refine vl_store ?_ (.tmp 4) (.tmp 19) ?_ (w.heap.size + 2) j ?_ ?_ ?_ ?_ ?_); rfl; rfl; rfl; rfl; exact ⟨_, R2.out, by rw [HJ.out]; rfl⟩; exact HJ.out))
      exact bodyPost_ret (results_cell_row rfl _ _ _ _ _ (0, 0) (.array 16 3) rfl (setRow_heap _ _ _ _ _ _ R2.out) Tryz.underlying54 rfl (infoV HJ.out)) rfl ⟨by rw [HJJ.out], belowRow RB.out (by omega) _⟩

end Go.Proofs.YtmnblpjdiplioaaGreat

namespace Go.Proofs.YtmnblpjdiplioaaGreat
set_option linter.unusedSimpArgs false
set_option linter.unusedVariables false
set_option maxRecDepth 100000
open Go.RowKit Go.Sort

set_option maxHeartbeats 4000000 in
theorem addRC (c : Cx) (m : List Dt) (a b : Option Addr) (cap capb : Nat) (w : World) (h : CIn w c a) (hm : DIn w b m) (hl : c.l.length + m.length ≤ 32768) :
    Calls Tryz.prog 70 #[.agg (ccs c.v (.slice a c.l.length cap)), .slice b m.length capb] w fun e w' => (∃ (o : Cx) (a' : Option Addr) (cap' : Nat), e = .returned (.agg (ccs o.v (.slice a' o.l.length cap'))) ∧ AddOf c m o ∧ Made w.heap.size w' o a' ∧ o.l.length ≤ c.l.length + m.length) ∧ Go.RowKit.Below w.heap.size w w' := by
  have HV := Lib.hid h.v16
  have HI := Lib.hid (And.intro h hm)
  obtain ⟨L, hL⟩ : ∃ L, L = c.l ++ m := ⟨_, rfl⟩
  have HLl : Hid (L.length = c.l.length + m.length) := Lib.hid (by rw [hL, List.length_append])
  have HL := Lib.hid hL
  have H0 : Hid (Hold1 w c.v (.slice a c.l.length cap) (boxC (boxC w c.v (.slice a c.l.length cap)) zV nilS)) := Lib.hid ⟨(CRow.new w _ _).alloc _, ⟨zV, nilS, by have := CRow.new (boxC w c.v (.slice a c.l.length cap)) zV nilS; rw [boxC_size] at this; exact this, rfl⟩, (boxC_below _ _ _).trans ((boxC_below _ _ _).mono (by rw [boxC_size]; omega))⟩
  unfold boxC at H0
  clear h hm hL
  go_enter Tryz.func70, Tryz.ntmps70
  go_upto_region 1 with fail
  change Code.wp _ _ _ _ ((w.alloc (.cells (ccs c.v (.slice a c.l.length cap)) 56)).alloc (.cells (ccs zV nilS) 56))
  generalize (w.alloc (.cells (ccs c.v (.slice a c.l.length cap)) 56)).alloc (.cells (ccs zV nilS) 56) = W at *
  have c16 := H0.out.row.cloud HV.out
  have hzW : w.heap.size + 2 ≤ W.heap.size := by obtain ⟨_, _, h1, _⟩ := H0.out.res; have := h1.lt; omega
  obtain ⟨q1, d1, w1, hr1, ho1, hb1⟩ := appD (c := cap) (ownD_nil W.heap.size W) (HI.out.1.din.below H0.out.low) (Nat.le_refl _) c.l.length (by simp) (by omega)
  rw [List.nil_append] at ho1
  have HR1 := Lib.hid hr1
  have H1 := Lib.hid (H0.out.below hb1)
  have hs1 := hb1.size
  obtain ⟨q2, d2, w2, hr2, ho2, hb2⟩ := appD (c := capb) ho1 (HI.out.2.below H1.out.low) hs1 L.length (by rw [HLl.out]) (by have := HLl.out; omega)
  rw [← HL.out] at ho2
  have HR2 := Lib.hid hr2
  have hb12 := hb1.trans hb2
  have H2 := Lib.hid (H0.out.below hb12)
  have HO2 := Lib.hid ho2.from
  have hs2 := hb12.size
  clear hr1 hr2 ho1 ho2 hb1 hb2 hb12
  have hcl := cleanRC ⟨c.v, L⟩ q2 d2 w2 ⟨HV.out, by obtain ⟨a', c', he, hf, -⟩ := HO2.out; injection he with h1 h2 h3; subst h1; exact hf.din, by show L.length ≤ 32768; rw [HLl.out]; exact hl⟩
  have HCL := Lib.hid hcl
  clear hcl
  go_wp2_with (first
    | (at_builtin; refine wpList_append_run rfl _ _ 41 41 rfl (.slice none 0 0) (.slice a c.l.length cap) _ w1 rfl rfl HR1.out ?_)
    | (at_builtin; refine wpList_append_run rfl _ _ 41 41 rfl (.slice q1 c.l.length d1) (.slice b m.length capb) _ w2 rfl rfl HR2.out ?_)
    | ((with_reducible refine cl_loadV ?_ (.tmp 13) ?_ w.heap.size c.v (.slice a c.l.length cap) ?_ ?_ ?_ ?_); rfl; rfl; rfl; exact H2.out.row; exact HV.out)
    | ((with_reducible refine cl_build ?_ (.tmp 14) (.tmp 15) ?_ c.v q2 L.length d2 ?_ ?_ ?_ ?_); rfl; rfl; rfl; rfl; exact HV.out))
  refine HCL.out.mono ?_
  rintro e w3 ⟨⟨o, oa, oc, rfl, hof, hom, hol⟩, hb3⟩
  have H3 := Lib.hid (H2.out.below hb3)
  have HO := Lib.hid (And.intro (addOf_cloud (by rw [← HL.out]; exact hof)) (And.intro hom (show o.l.length ≤ c.l.length + m.length by rw [← HLl.out]; exact hol)))
  clear hof hom hol hb3 HCL
  have HP := Lib.hid (H3.out.put (x := o.v) (t := .slice oa o.l.length oc) HO.out.2.1.v16)
  have HF := Lib.hid ((HO.out.2.1.mono (show w.heap.size + 2 ≤ w2.heap.size by omega)).setRow (show w.heap.size + 1 < w.heap.size + 2 by omega) (ccs o.v (.slice oa o.l.length oc)))
  go_wp2_with ((with_reducible refine cl_store ?_ (.tmp 4) (.tmp 17) ?_ (w.heap.size + 1) o.v oa o.l.length oc ?_ ?_ ?_ ?_ ?_); rfl; rfl; rfl; rfl; exact H3.out.res; exact HO.out.2.1.v16)
  refine bodyPost_ret (retC rfl _ _ (w.heap.size + 1) o.v (.slice oa o.l.length oc) rfl HP.out.2 HO.out.2.1.v16) rfl ?_
  first
    | exact ⟨⟨o, oa, oc, rfl, HO.out.1, HF.out.mono (by omega), HO.out.2.2⟩, HP.out.1.low⟩
    | exact ⟨⟨o, oa, ⟨oc, rfl⟩, HO.out.1, HF.out.mono (by omega), HO.out.2.2⟩, HP.out.1.low⟩

set_option maxHeartbeats 4000000 in
theorem joinRC (a b : Cx) (pa pb : Option Addr) (ca cb : Nat) (w : World) (h : CIn w a pa) (hm : CIn w b pb) (hl : a.l.length + b.l.length ≤ 32768) :
    Calls Tryz.prog 69 #[.agg (ccs a.v (.slice pa a.l.length ca)), .agg (ccs b.v (.slice pb b.l.length cb))] w fun e w' => (∃ (o : Cx) (a' : Option Addr) (cap' : Nat), e = .returned (.agg (ccs o.v (.slice a' o.l.length cap'))) ∧ JoinOf a b o ∧ Made w.heap.size w' o a' ∧ o.l.length ≤ a.l.length + b.l.length) ∧ Go.RowKit.Below w.heap.size w w' := by
  have HV := Lib.hid h.v16
  have HV2 := Lib.hid hm.v16
  have HI := Lib.hid (And.intro h hm)
  have HC := Lib.hid (three_two w a.v b.v (.slice pa a.l.length ca) (.slice pb b.l.length cb))
  unfold boxC at HC
  clear h hm
  go_enter Tryz.func69, Tryz.ntmps69
  go_upto_region 1 with fail
  change Code.wp _ _ _ _ (((w.alloc (.cells (ccs a.v (.slice pa a.l.length ca)) 56)).alloc (.cells (ccs b.v (.slice pb b.l.length cb)) 56)).alloc (.cells (ccs zV nilS) 56))
  generalize ((w.alloc (.cells (ccs a.v (.slice pa a.l.length ca)) 56)).alloc (.cells (ccs b.v (.slice pb b.l.length cb)) 56)).alloc (.cells (ccs zV nilS) 56) = W0 at *
  go_wp2_with ((with_reducible refine cl_load ?_ (.tmp 2) ?_ w.heap.size a.v (.slice pa a.l.length ca) ?_ ?_ ?_ ?_); rfl; rfl; rfl; exact HC.out.1; exact HV.out)
  refine (cleanRC a pa ca W0 (HI.out.1.below HC.out.2.2.2)).mono ?_
  rintro e w1 ⟨⟨o1, p1, c1, rfl, hof1, hom1, hol1⟩, hb1⟩
  have hzW : w.heap.size + 3 ≤ W0.heap.size := by have := HC.out.2.2.1.lt; omega
  have X1 := Lib.hid (And.intro (HC.out.1.keep hb1) (And.intro (HC.out.2.1.keep hb1) (And.intro (HC.out.2.2.1.keep hb1) (HC.out.2.2.2.trans (hb1.mono HC.out.2.2.2.size)))))
  have HO1 := Lib.hid (And.intro hof1 (And.intro (hom1.mono hzW) hol1))
  have X2 := Lib.hid (And.intro (CRow.of_put X1.out.1 o1.v (.slice p1 o1.l.length c1)) (And.intro (X1.out.2.1.of_set (show w.heap.size + 1 ≠ w.heap.size by omega) (ccs o1.v (.slice p1 o1.l.length c1))) (And.intro (X1.out.2.2.1.of_set (show w.heap.size + 2 ≠ w.heap.size by omega) (ccs o1.v (.slice p1 o1.l.length c1))) (And.intro (belowRow X1.out.2.2.2 (Nat.le_refl _) (ccs o1.v (.slice p1 o1.l.length c1))) (HO1.out.2.1.setRow (show w.heap.size < w.heap.size + 3 by omega) (ccs o1.v (.slice p1 o1.l.length c1)))))))
  have hs1 := hb1.size
  clear hof1 hom1 hol1 hb1 HC
  go_upto_region 2 with ((with_reducible refine cl_store ?_ (.tmp 2) (.tmp 6) ?_ w.heap.size o1.v p1 o1.l.length c1 ?_ ?_ ?_ ?_ ?_); rfl; rfl; rfl; rfl; exact ⟨_, _, X1.out.1, HV.out⟩; exact HO1.out.2.1.v16)
  have hsz2 : (w1.setRow w.heap.size (ccs o1.v (.slice p1 o1.l.length c1))).heap.size = w1.heap.size := by simp
  generalize w1.setRow w.heap.size (ccs o1.v (.slice p1 o1.l.length c1)) = w2 at *
  go_wp2_with ((with_reducible refine cl_load ?_ (.tmp 3) ?_ (w.heap.size + 1) b.v (.slice pb b.l.length cb) ?_ ?_ ?_ ?_); rfl; rfl; rfl; exact X2.out.2.1; exact HV2.out)
  refine (cleanRC b pb cb w2 (HI.out.2.below X2.out.2.2.2.1)).mono ?_
  rintro e w3 ⟨⟨o2, p2, c2, rfl, hof2, hom2, hol2⟩, hb3⟩
  have HO2 := Lib.hid (And.intro hof2 (And.intro (hom2.mono (show w.heap.size + 3 ≤ w2.heap.size by omega)) hol2))
  have X3 := Lib.hid (And.intro (X2.out.1.keep hb3) (And.intro (X2.out.2.1.keep hb3) (And.intro (X2.out.2.2.1.keep hb3) (And.intro (X2.out.2.2.2.1.trans (hb3.mono X2.out.2.2.2.1.size)) (X2.out.2.2.2.2.below hb3)))))
  have hs3 := hb3.size
  clear hof2 hom2 hol2 hb3 X2 X1
  have H0 : Hid (Hold2 w o1.v (.slice p1 o1.l.length c1) o2.v (.slice p2 o2.l.length c2) (w3.setRow (w.heap.size + 1) (ccs o2.v (.slice p2 o2.l.length c2)))) := Lib.hid ⟨X3.out.1.of_set (by omega) _, CRow.of_put X3.out.2.1 _ _, ⟨_, _, X3.out.2.2.1.of_set (by omega) _, rfl⟩, belowRow X3.out.2.2.2.1 (Nat.le_succ _) _⟩
  have HM1 := Lib.hid (X3.out.2.2.2.2.setRow (show w.heap.size + 1 < w.heap.size + 3 by omega) (ccs o2.v (.slice p2 o2.l.length c2)))
  have HM2 := Lib.hid (HO2.out.2.1.setRow (show w.heap.size + 1 < w.heap.size + 3 by omega) (ccs o2.v (.slice p2 o2.l.length c2)))
  go_upto_region 3 with ((with_reducible refine cl_store ?_ (.tmp 3) (.tmp 8) ?_ (w.heap.size + 1) o2.v p2 o2.l.length c2 ?_ ?_ ?_ ?_ ?_); rfl; rfl; rfl; rfl; exact ⟨_, _, X3.out.2.1, HV2.out⟩; exact HO2.out.2.1.v16)
  have hsz4 : (w3.setRow (w.heap.size + 1) (ccs o2.v (.slice p2 o2.l.length c2))).heap.size = w3.heap.size := by simp
  generalize w3.setRow (w.heap.size + 1) (ccs o2.v (.slice p2 o2.l.length c2)) = W at *
  have HV3 := Lib.hid HO1.out.2.1.v16
  have HV4 := Lib.hid HO2.out.2.1.v16
  have hvj := fun W => vjoinR o1.v o2.v HV3.out HV4.out W
  have HJL := Lib.hid (joinV_len HV3.out HV4.out)
  obtain ⟨J, hJ⟩ : ∃ J, J = joinV o1.v o2.v := ⟨_, rfl⟩
  rw [← hJ] at hvj HJL
  have HJ := Lib.hid hJ
  have HVJ := Lib.hid hvj
  have hlen2 : o1.l.length + o2.l.length ≤ 32768 := by have := HO1.out.2.2; have := HO2.out.2.2; omega
  clear hvj hJ X3
  refine wp_region_held (S := fun U => Hold2 w o1.v (.slice p1 o1.l.length c1) o2.v (.slice p2 o2.l.length c2) U) (by kernel_rfl) ?_
  change wpAnyH _ _ _ _ _ _ _ _ W.drew
  have K0 : (fun U => Hold2 w o1.v (.slice p1 o1.l.length c1) o2.v (.slice p2 o2.l.length c2) U) W.drew := H0.out.below (Below.refl _ _).drew
  refine wpAnyH_take (i := 0) (oi := { dst := some 9, op := _, type := _, pos := _, after := _, guard := _ }) (v := ?v4) rfl (by kernel_rfl) (by kernel_rfl) (by kernel_rfl) (fun _ _ _ h => h) (Or.inl ⟨by rfl, ?hy4⟩) K0 ?rest4
  case hy4 => (intro w hSw; (try dsimp only at hSw); first | (go_simp; done) | (go_simp; with_reducible rfl))
  try simp only [Act.put, List.setIfInBounds_toArray, List.set_cons_zero, List.set_cons_succ]
  refine wpAnyH_take (i := 1) (oi := { dst := some 10, op := _, type := _, pos := _, after := _, guard := _ }) rfl (by kernel_rfl) (by kernel_rfl) (by kernel_rfl) (fun _ _ _ h => h) (yield_V (by rfl) (.tmp 9) rfl w.heap.size o1.v (.slice p1 o1.l.length c1) rfl (fun U hU => hU.row) HV3.out) K0 ?_
  try simp only [Act.put, List.setIfInBounds_toArray, List.set_cons_zero, List.set_cons_succ]
  refine wpAnyH_take (i := 2) (oi := { dst := some 11, op := _, type := _, pos := _, after := _, guard := _ }) (v := ?v6) rfl (by kernel_rfl) (by kernel_rfl) (by kernel_rfl) (fun _ _ _ h => h) (Or.inl ⟨by rfl, ?hy6⟩) K0 ?rest6
  case hy6 => (intro w hSw; (try dsimp only at hSw); first | (go_simp; done) | (go_simp; with_reducible rfl))
  try simp only [Act.put, List.setIfInBounds_toArray, List.set_cons_zero, List.set_cons_succ]
  refine wpAnyH_take (i := 3) (oi := { dst := some 12, op := _, type := _, pos := _, after := _, guard := _ }) rfl (by kernel_rfl) (by kernel_rfl) (by kernel_rfl) (fun _ _ _ h => h) (yield_V (by rfl) (.tmp 11) rfl (w.heap.size + 1) o2.v (.slice p2 o2.l.length c2) rfl (fun U hU => hU.row2) HV4.out) K0 ?_
  try simp only [Act.put, List.setIfInBounds_toArray, List.set_cons_zero, List.set_cons_succ]
  refine wpAnyH_take (i := 5) (oi := { dst := some 14, op := _, type := _, pos := _, after := _, guard := _ }) (v := ?v8) rfl (by kernel_rfl) (by kernel_rfl) (by kernel_rfl) (fun _ _ _ h => h) (Or.inl ⟨by rfl, ?hy8⟩) K0 ?rest8
  case hy8 => (intro w hSw; (try dsimp only at hSw); first | (go_simp; done) | (go_simp; with_reducible rfl))
  try simp only [Act.put, List.setIfInBounds_toArray, List.set_cons_zero, List.set_cons_succ]
  refine wpAnyH_take (i := 6) (oi := { dst := some 15, op := _, type := _, pos := _, after := _, guard := _ }) rfl (by kernel_rfl) (by kernel_rfl) (by kernel_rfl) (fun _ _ _ h => h) (yield_S (by rfl) (.tmp 14) rfl w.heap.size o1.v (.slice p1 o1.l.length c1) rfl (fun U hU => hU.row) HV3.out) K0 ?_
  try simp only [Act.put, List.setIfInBounds_toArray, List.set_cons_zero, List.set_cons_succ]
  refine wpAnyH_take (i := 8) (oi := { dst := some 17, op := _, type := _, pos := _, after := _, guard := _ }) (v := ?v10) rfl (by kernel_rfl) (by kernel_rfl) (by kernel_rfl) (fun _ _ _ h => h) (Or.inl ⟨by rfl, ?hy10⟩) K0 ?rest10
  case hy10 => (intro w hSw; (try dsimp only at hSw); first | (go_simp; done) | (go_simp; with_reducible rfl))
  try simp only [Act.put, List.setIfInBounds_toArray, List.set_cons_zero, List.set_cons_succ]
  refine wpAnyH_take (i := 9) (oi := { dst := some 18, op := _, type := _, pos := _, after := _, guard := _ }) rfl (by kernel_rfl) (by kernel_rfl) (by kernel_rfl) (fun _ _ _ h => h) (yield_S (by rfl) (.tmp 17) rfl (w.heap.size + 1) o2.v (.slice p2 o2.l.length c2) rfl (fun U hU => hU.row2) HV4.out) K0 ?_
  try simp only [Act.put, List.setIfInBounds_toArray, List.set_cons_zero, List.set_cons_succ]
  refine wpAnyH_ready (rs := [4]) (by kernel_rfl) (by simp) ?_
  refine AllReadyH.cons (o := { dst := some 13, op := _, type := _, pos := _, after := _, guard := _ }) rfl (fun K hK => ?_) AllReadyH.nil
  go_simp
  refine (HVJ.out _).mono ?_
  rintro e w4 ⟨rfl, hb4⟩
  have K4 := K0.below hb4
  have hbW := ((Below.refl W.heap.size W).drew).trans hb4
  clear hb4
  refine hK.out _ _ K4 (fun _ => ?_)
  clear hK K
  try simp only [Act.put, List.setIfInBounds_toArray, List.set_cons_zero, List.set_cons_succ]
  refine wpAnyH_take (i := 7) (oi := { dst := some 16, op := _, type := _, pos := _, after := _, guard := _ }) rfl (by kernel_rfl) (by kernel_rfl) (by kernel_rfl) (fun _ _ _ h => h) (yield_B (by rfl) (.tmp 13) (.tmp 15) rfl J p1 o1.l.length c1 rfl rfl HJL.out) K4 ?_
  try simp only [Act.put, List.setIfInBounds_toArray, List.set_cons_zero, List.set_cons_succ]
  refine wpAnyH_ready (rs := [10]) (by kernel_rfl) (by simp) ?_
  refine AllReadyH.cons (o := { dst := some 19, op := _, type := _, pos := _, after := _, guard := _ }) rfl (fun K hK => ?_) AllReadyH.nil
  go_simp
  have hcl := addRC ⟨J, o1.l⟩ o2.l p1 p2 c1 c2 w4 ⟨HJL.out, (HM1.out.below hbW).new.din, HM1.out.len⟩ (HM2.out.below hbW).new.din hlen2
  refine hcl.mono ?_
  rintro e w8 ⟨⟨o, oa, oc, rfl, hof, hoi, hol⟩, hb8⟩
  have K10 := K4.below hb8
  have HO := Lib.hid (And.intro (joinOf_clean HO1.out.1 HO2.out.1 (joinOf_add HV3.out HV4.out (by rw [← HJ.out]; exact hof))) (And.intro hoi (And.intro hb8 (show o.l.length ≤ a.l.length + b.l.length from Nat.le_trans hol (Nat.add_le_add HO1.out.2.2 HO2.out.2.2)))))
  have hs4 : w.heap.size + 3 ≤ w4.heap.size := by obtain ⟨_, _, h1, _⟩ := K4.res; have := h1.lt; omega
  clear hcl hof hoi hol hb8
  refine hK.out _ _ K10 (fun _ => ?_)
  clear hK K
  try simp only [Act.put, List.setIfInBounds_toArray, List.set_cons_zero, List.set_cons_succ]
  refine wpAnyH_ready (rs := [11]) (by kernel_rfl) (by simp) ?_
  refine AllReadyH.cons (o := { dst := none, op := _, type := _, pos := _, after := _, guard := _ }) rfl (fun K hK => ?_) AllReadyH.nil
  refine draw_storeC rfl (.tmp 4) (.tmp 19) rfl (w.heap.size + 2) rfl o.v oa o.l.length oc rfl HO.out.2.1.v16 K10.res ?_
  have K11 := (K10.put (x := o.v) (t := .slice oa o.l.length oc) HO.out.2.1.v16).1
  have HR := Lib.hid (K10.put (x := o.v) (t := .slice oa o.l.length oc) HO.out.2.1.v16).2
  refine hK.out _ _ K11 (fun _ => ?_)
  clear hK K
  try simp only [Act.put, List.setIfInBounds_toArray, List.set_cons_zero, List.set_cons_succ]
  refine wpAnyH_done (by kernel_rfl) ?_ _
  try simp only [Act.put, List.setIfInBounds_toArray, List.set_cons_zero, List.set_cons_succ]
  have HF := Lib.hid (And.intro K11.low ((HO.out.2.1.mono hs4).setRow (show w.heap.size + 2 < w.heap.size + 3 by omega) (ccs o.v (.slice oa o.l.length oc))))
  clear K0 K4 K10 K11
  go_wp2_with fail
  refine bodyPost_ret (retC rfl _ _ (w.heap.size + 2) o.v (.slice oa o.l.length oc) rfl HR.out HO.out.2.1.v16) rfl ?_
  first
    | exact ⟨⟨o, oa, oc, rfl, HO.out.1, HF.out.2.mono (by omega), HO.out.2.2.2⟩, HF.out.1⟩
    | exact ⟨⟨o, oa, ⟨oc, rfl⟩, HO.out.1, HF.out.2.mono (by omega), HO.out.2.2.2⟩, HF.out.1⟩
end Go.Proofs.YtmnblpjdiplioaaGreat
