/-
  The document's context of an update, and what is left behind one.
-/
import Derived.Test.YtmnblpjdiplioaaGreatKernRef
import Derived.Test.YtmnblpjdiplioaaGreatGOp22
import Derived.Test.YtmnblpjdiplioaaGreatGOp30
import Derived.Test.YtmnblpjdiplioaaGreatGOp25
namespace Go.Proofs.YtmnblpjdiplioaaGreat
set_option linter.unusedSimpArgs false
set_option linter.unusedVariables false
set_option maxRecDepth 100000
open Go.RowKit Go.Sort

theorem CRow.blk1 {w : World} {b : Nat} {v : Vc} {s : Value} (h : CRow w b v s) : b < w.heap.size := lt_of_block h
theorem builtC0 : Tryz.prog.built 56 [] = some (ccs zV nilS) := by kernel_rfl
theorem wpList_build0C {ops : Array Oper} {rest : List Oper} {o : Oper} {a : Act} {w : World} {Q : Exit → Act → World → Prop} (hgd : o.guard = none) (ho : o.op = .build 56 #[])
    (hk : wpList Tryz.prog ops Q rest (a.put o.dst (.agg (ccs zV nilS))) w) : wpList Tryz.prog ops Q (o :: rest) a w := by
  refine wpList_plain hgd fun K hK => ?_
  have h := run_build (P := Tryz.prog) w 56 #[] _ builtC0
  unfold Oper.wp execOp
  simp only [ho, List.map_toArray, List.map_nil, Sem.run_bind, Sem.run_pure, Result.andThen_ok, h]
  exact hK _ _ hk

set_option maxHeartbeats 8000000 in
theorem ofKR (e : Dl) (la : Option Addr) (lk : Nat) (ga : Option Addr) (gk : Nat) (w : World) (h : DIn w ga e.g) (hl : e.g.length ≤ 20000) :
    Calls Tryz.prog 46 #[.agg (dlc e la lk ga gk)] w fun v w' => (∃ (o : Cx) (p : Option Addr) (k : Nat), v = .returned (.agg (ccs o.v (.slice p o.l.length k))) ∧ OfK e o ∧ Made w.heap.size w' o p ∧ o.l.length ≤ e.g.length + 1) ∧ Go.RowKit.Below w.heap.size w w' := by
  have e1 : (w.alloc (.cells (dlc e la lk ga gk) 43)).heap.size = w.heap.size + 1 := World.size_alloc _ _
  have r0 := (Blk.new w 43 (dlc e la lk ga gk)).alloc (.cells (ccs zV nilS) 56)
  have r1 := CRow.new (w.alloc (.cells (dlc e la lk ga gk) 43)) zV nilS
  rw [e1] at r1
  have b0 : Go.RowKit.Below w.heap.size w ((w.alloc (.cells (dlc e la lk ga gk) 43)).alloc (.cells (ccs zV nilS) 56)) := (lowA w _).alloc (by rw [e1]; omega) _
  have R0 := Lib.hid (And.intro r0 (And.intro r1 b0))
  have HI := Lib.hid (h.below b0)
  clear h r0 r1 b0 e1
  go_enter Tryz.func46, Tryz.ntmps46
  go_upto_region 1 with fail
  change Code.wp _ _ _ _ ((w.alloc (.cells (dlc e la lk ga gk) 43)).alloc (.cells (ccs zV nilS) 56))
  generalize (w.alloc (.cells (dlc e la lk ga gk) 43)).alloc (.cells (ccs zV nilS) 56) = W at *
  have c6 : W.cell? ⟨w.heap.size, 6, none⟩ = some (.slice ga e.g.length gk) := R0.out.1.cell rfl
  obtain ⟨q1, d1, w1, hr1, ho1, hb1⟩ := appD (c := gk) (ownD_nil W.heap.size W) HI.out (Nat.le_refl _) e.g.length (by simp) (by omega)
  have HR1 := Lib.hid hr1
  have HO1 := Lib.hid (show OwnD W.heap.size (.slice q1 e.g.length d1) e.g w1 from ho1)
  have K1 := Lib.hid (And.intro (R0.out.1.keep hb1) (And.intro (R0.out.2.1.keep hb1) (R0.out.2.2.trans (hb1.mono R0.out.2.2.size))))
  have HS1 := Lib.hid hb1.size
  have HW0 := Lib.hid (show w.heap.size < W.heap.size ∧ w.heap.size + 1 < W.heap.size from ⟨R0.out.1.lt, lt_of_block R0.out.2.1⟩)
  clear hr1 ho1 hb1
  go_upto_region 3 with (at_builtin; refine wpList_append_run rfl _ _ 41 41 rfl (.slice none 0 0) (.slice ga e.g.length gk) _ w1 rfl rfl HR1.out ?_)
  clear c6 HR1 R0 HI
  have c0 : w1.cell? ⟨w.heap.size, 0, none⟩ = some (.int .i64 e.d.1) := K1.out.1.cell rfl
  have c1 : w1.cell? ⟨w.heap.size, 1, none⟩ = some (.int .i64 e.d.2) := K1.out.1.cell rfl
  have hone := din_new w1 e.d
  obtain ⟨q2, d2, w2, hr2, ho2, hb2⟩ := appD (c := 1) (HO1.out.alloc (.cells #[.int .i64 e.d.1, .int .i64 e.d.2] 36)) hone (by have := HS1.out; simp; omega) (e.g.length + 1) (by simp) (by omega)
  have hlo := lowA w1 (.cells #[.int .i64 e.d.1, .int .i64 e.d.2] 36)
  have hb2' : Go.RowKit.Below W.heap.size w1 w2 := (hlo.mono HS1.out).trans hb2
  have K2 := Lib.hid (And.intro (K1.out.1.below hb2' HW0.out.1) (And.intro (show CRow w2 (w.heap.size + 1) zV nilS from Blk.below (T := 56) (A := ccs zV nilS) K1.out.2.1 hb2' HW0.out.2) (K1.out.2.2.trans (hb2'.mono (Nat.le_of_lt HW0.out.1)))))
  have HR2 := Lib.hid hr2
  have hlen : (e.g ++ [e.d]).length = e.g.length + 1 := by simp
  have had : Calls Tryz.prog 70 #[.agg (ccs zV nilS), .slice q2 (e.g.length + 1) d2] w2 fun e' w' => (∃ (o : Cx) (a' : Option Addr) (cap' : Nat), e' = .returned (.agg (ccs o.v (.slice a' o.l.length cap'))) ∧ AddOf zC (e.g ++ [e.d]) o ∧ Made w2.heap.size w' o a' ∧ o.l.length ≤ zC.l.length + (e.g ++ [e.d]).length) ∧ Go.RowKit.Below w2.heap.size w2 w' := by
    have h := addRC zC (e.g ++ [e.d]) none q2 0 d2 w2 ⟨rfl, .inl rfl, by simp [zC]⟩ (OwnD.din1 ho2) (by rw [hlen]; simp [zC]; omega)
    rw [hlen] at h
    rw [hlen]
    exact h
  have HAD := Lib.hid had
  have HS2 := Lib.hid (show w.heap.size + 1 < w2.heap.size from K2.out.2.1.blk1)
  clear hone hr2 ho2 hb2 hlo hb2' hlen had HO1 K1 HS1 HW0
  go_wp2_with (first
    | ((with_reducible refine wpList_build0C ?_ ?_ ?_); rfl; rfl)
    | (at_builtin; refine wpList_append_run rfl _ _ 41 41 rfl (.slice q1 e.g.length d1) (.slice (some ⟨w1.heap.size, 0, none⟩) 1 1) _ w2 rfl rfl HR2.out ?_))
  refine HAD.out.mono ?_
  rintro v w3 ⟨⟨o, p, k, rfl, hadd, hmade, holen⟩, hb3⟩
  have HV16 := Lib.hid hmade.v16
  have K3 := Lib.hid (And.intro (show CRow w3 (w.heap.size + 1) zV nilS from K2.out.2.1.keep hb3) (K2.out.2.2.trans (hb3.mono K2.out.2.2.size)))
  have HM := Lib.hid (And.intro (OfK.of hadd) (And.intro ((hmade.setRow HS2.out (ccs o.v (.slice p o.l.length k))).mono (show w.heap.size ≤ w2.heap.size by have := HS2.out; omega)) (show o.l.length ≤ e.g.length + 1 by have : zC.l.length = 0 := rfl; simp at holen; omega)))
  have HP := Lib.hid (CRow.of_put K3.out.1 o.v (.slice p o.l.length k))
  have HL := Lib.hid (belowRow K3.out.2 (show w.heap.size ≤ w.heap.size + 1 by omega) (ccs o.v (.slice p o.l.length k)))
  clear hadd hmade holen hb3 K2 HAD c0 c1 HR2
  go_wp2_with ((with_reducible refine cl_store ?_ (.tmp 2) (.tmp 14) ?_ (w.heap.size + 1) o.v p o.l.length k ?_ ?_ ?_ ?_ ?_); rfl; rfl; rfl; rfl; exact ⟨_, _, K3.out.1, rfl⟩; exact HV16.out)
  refine bodyPost_ret (results_cell_row rfl _ _ (w.heap.size + 1) 56 (ccs o.v (.slice p o.l.length k)) (0, 0) _ rfl HP.out Tryz.underlying56 rfl (infoC _ HV16.out)) rfl ?_
  exact ⟨⟨o, p, k, rfl, HM.out.1, HM.out.2.1, HM.out.2.2⟩, HL.out⟩

/-- what lies there while an update is applied: the context, the update, the answer's context -/
structure ApR (w : World) (v : Vc) (s : Value) (D : Array Value) (U : World) : Prop where
  row : CRow U w.heap.size v s
  blk : Blk U (w.heap.size + 1) 43 D
  res : ∃ (old : Vc) (so : Value), CRow U (w.heap.size + 2) old so ∧ old.length = 16
  low : Go.RowKit.Below w.heap.size w U
theorem ApR.below {w : World} {v : Vc} {s : Value} {D : Array Value} {U U' : World} (h : ApR w v s D U) (hb : Go.RowKit.Below U.heap.size U U') : ApR w v s D U' :=
  ⟨h.row.keep hb, h.blk.keep hb, by obtain ⟨o, so, h1, h2⟩ := h.res; exact ⟨o, so, h1.keep hb, h2⟩, h.low.trans (hb.mono h.low.size)⟩
/-- what Apply answers -/
def ApplyAns (x : List Ft) (c : Cx) (d : Dl) (lo : Nat) (e : Ending) (w' : World) : Prop :=
  ∃ (oc o : Cx) (la pa : Option Addr) (lk pk : Nat), OfK d oc ∧ e = .returned (.tuple #[.slice la (joinK x c d.l oc).length lk, .agg (ccs o.v (.slice pa o.l.length pk))]) ∧ FIn w' la (joinK x c d.l oc) ∧ CIn w' o pa

set_option maxHeartbeats 16000000 in
theorem applyKR (x : List Ft) (fa : Option Addr) (ka : Nat) (c : Cx) (pa : Option Addr) (ca : Nat) (d : Dl) (la : Option Addr) (lk : Nat) (ga : Option Addr) (gk : Nat) (w : World) (hx : FIn w fa x) (hlx : x.length ≤ 10000) (hc : CIn w c pa) (hl : FIn w la d.l) (hll : d.l.length ≤ 10000) (hg : DIn w ga d.g) (hgl : d.g.length ≤ 10000) (hs : c.l.length ≤ 10000) :
    Calls Tryz.prog 20 #[.slice fa x.length ka, .agg (ccs c.v (.slice pa c.l.length ca)), .agg (dlc d la lk ga gk)] w fun e w' => ApplyAns x c d w.heap.size e w' ∧ Go.RowKit.Below w.heap.size w w' := by
  have HV := Lib.hid hc.v16
  have e1 : (w.alloc (.cells (ccs c.v (.slice pa c.l.length ca)) 56)).heap.size = w.heap.size + 1 := World.size_alloc _ _
  have e2 : ((w.alloc (.cells (ccs c.v (.slice pa c.l.length ca)) 56)).alloc (.cells (dlc d la lk ga gk) 43)).heap.size = w.heap.size + 2 := by rw [World.size_alloc, e1]
  have h0 := ((CRow.new w c.v (.slice pa c.l.length ca)).alloc (.cells (dlc d la lk ga gk) 43)).alloc (.cells (ccs zV nilS) 56)
  have h1 := Blk.new (w.alloc (.cells (ccs c.v (.slice pa c.l.length ca)) 56)) 43 (dlc d la lk ga gk)
  have h2 := CRow.new ((w.alloc (.cells (ccs c.v (.slice pa c.l.length ca)) 56)).alloc (.cells (dlc d la lk ga gk) 43)) zV nilS
  rw [e1] at h1
  rw [e2] at h2
  have hlow : Go.RowKit.Below w.heap.size w (((w.alloc (.cells (ccs c.v (.slice pa c.l.length ca)) 56)).alloc (.cells (dlc d la lk ga gk) 43)).alloc (.cells (ccs zV nilS) 56)) := ((lowA w _).alloc (by rw [e1]; omega) _).alloc (by rw [e2]; omega) _
  have H0 : Hid (ApR w c.v (.slice pa c.l.length ca) (dlc d la lk ga gk) (((w.alloc (.cells (ccs c.v (.slice pa c.l.length ca)) 56)).alloc (.cells (dlc d la lk ga gk) 43)).alloc (.cells (ccs zV nilS) 56))) := Lib.hid ⟨h0, h1.alloc _, ⟨zV, nilS, h2, rfl⟩, hlow⟩
  have HI := Lib.hid (And.intro (And.intro hx hc) (And.intro hl hg))
  clear e1 e2 h0 h1 h2 hlow hx hc hl hg
  go_enter Tryz.func20, Tryz.ntmps20
  go_upto_region 1 with fail
  change Code.wp _ _ _ _ (((w.alloc (.cells (ccs c.v (.slice pa c.l.length ca)) 56)).alloc (.cells (dlc d la lk ga gk) 43)).alloc (.cells (ccs zV nilS) 56))
  generalize ((w.alloc (.cells (ccs c.v (.slice pa c.l.length ca)) 56)).alloc (.cells (dlc d la lk ga gk) 43)).alloc (.cells (ccs zV nilS) 56) = W at *
  refine wp_region_held (S := fun U => ApR w c.v (.slice pa c.l.length ca) (dlc d la lk ga gk) U) (by kernel_rfl) ?_
  change wpAnyH _ _ _ _ _ _ _ _ W.drew
  have K0 : (fun U => ApR w c.v (.slice pa c.l.length ca) (dlc d la lk ga gk) U) W.drew := H0.out.below (Below.refl _ _).drew
  refine wpAnyH_take (i := 0) (oi := { dst := some 8, op := _, type := _, pos := _, after := _, guard := _ }) (v := ?v1) rfl (by kernel_rfl) (by kernel_rfl) (by kernel_rfl) (fun _ _ _ h => h) (Or.inl ⟨by rfl, ?hy1⟩) K0 ?rest1
  case hy1 => (intro w hSw; (try dsimp only at hSw); first | (go_simp; done) | (go_simp; with_reducible rfl))
  try simp only [Act.put, List.setIfInBounds_toArray, List.set_cons_zero, List.set_cons_succ]
  refine wpAnyH_take (i := 1) (oi := { dst := some 9, op := _, type := _, pos := _, after := _, guard := _ }) rfl (by kernel_rfl) (by kernel_rfl) (by kernel_rfl) (fun _ _ _ h => h) (yield_C (by rfl) (.tmp 4) rfl w.heap.size c.v (.slice pa c.l.length ca) rfl (fun U hU => hU.row) HV.out) K0 ?_
  try simp only [Act.put, List.setIfInBounds_toArray, List.set_cons_zero, List.set_cons_succ]
  refine wpAnyH_take (i := 2) (oi := { dst := some 10, op := _, type := _, pos := _, after := _, guard := _ }) (v := ?v2) rfl (by kernel_rfl) (by kernel_rfl) (by kernel_rfl) (fun _ _ _ h => h) (Or.inl ⟨by rfl, ?hy2⟩) K0 ?rest2
  case hy2 => (intro w hSw; (try dsimp only at hSw); first | (go_simp; done) | (go_simp; with_reducible rfl))
  try simp only [Act.put, List.setIfInBounds_toArray, List.set_cons_zero, List.set_cons_succ]
  refine wpAnyH_take (i := 3) (oi := { dst := some 11, op := _, type := _, pos := _, after := _, guard := _ }) rfl (by kernel_rfl) (by kernel_rfl) (by kernel_rfl) (fun _ _ _ h => h) (yield_cF (by rfl) (.tmp 10) rfl (w.heap.size + 1) 5 la d.l.length lk rfl (fun U hU => hU.blk.cell rfl)) K0 ?_
  try simp only [Act.put, List.setIfInBounds_toArray, List.set_cons_zero, List.set_cons_succ]
  refine wpAnyH_take (i := 4) (oi := { dst := some 12, op := _, type := _, pos := _, after := _, guard := _ }) rfl (by kernel_rfl) (by kernel_rfl) (by kernel_rfl) (fun _ _ _ h => h) (b_yield (by rfl) 43 (.tmp 5) rfl (w.heap.size + 1) 0 (dlc d la lk ga gk) rfl (fun U hU => hU.blk.all) Tryz.underlying43 rfl (infoD _ _ _ _ _)) K0 ?_
  try simp only [Act.put, List.setIfInBounds_toArray, List.set_cons_zero, List.set_cons_succ]
  refine wpAnyH_ready (rs := [5]) (by kernel_rfl) (by simp) ?_
  refine AllReadyH.cons (o := { dst := some 13, op := _, type := _, pos := _, after := _, guard := _ }) rfl (fun K hK => ?_) AllReadyH.nil
  go_simp
  have hh := ofKR d la lk ga gk W.drew (HI.out.2.2.below K0.low) (by omega)
  refine Calls.mono hh ?_
  rintro e u5 ⟨⟨oc, qa, qk, rfl, hof, hmade, hol⟩, hb⟩
  have K5 := ApR.below K0 hb
  have HOF := Lib.hid (And.intro hof (And.intro hmade.cin hol))
  clear hh hb hof hmade hol
  refine hK.out _ _ K5 (fun _ => ?_)
  clear hK K
  try simp only [Act.put, List.setIfInBounds_toArray, List.set_cons_zero, List.set_cons_succ]
  refine wpAnyH_ready (rs := [6]) (by kernel_rfl) (by simp) ?_
  refine AllReadyH.cons (o := { dst := some 14, op := _, type := _, pos := _, after := _, guard := _ }) rfl (fun K hK => ?_) AllReadyH.nil
  go_simp
  have hh := joinKR x d.l fa la ka lk c oc pa qa ca qk u5 (HI.out.1.1.below (ApR.low K5)) (HI.out.2.1.below (ApR.low K5)) (by omega) (by omega) (HI.out.1.2.below (ApR.low K5)) HOF.out.2.1 (by have := HOF.out.2.2; omega)
  refine Calls.mono hh ?_
  rintro e u6 ⟨⟨o, ra, oa, rk, ok, rfl, hjo, hff, hmade, hjl⟩, hb⟩
  have K6 := ApR.below K5 hb
  have hz5 : w.heap.size + 3 ≤ u5.heap.size := by obtain ⟨o, so, h1, -⟩ := K5.res; have := lt_of_block h1; omega
  have HJ := Lib.hid (And.intro (hff.mono hz5) (hmade.mono hz5))
  have HV6 := Lib.hid hmade.v16
  clear hh hb hjo hff hmade hjl hz5
  refine hK.out _ _ K6 (fun _ => ?_)
  clear hK K
  try simp only [Act.put, List.setIfInBounds_toArray, List.set_cons_zero, List.set_cons_succ]
  refine wpAnyH_take (i := 7) (oi := { dst := some 15, op := _, type := _, pos := _, after := _, guard := _ }) (v := ?v3) rfl (by kernel_rfl) (by kernel_rfl) (by kernel_rfl) (fun _ _ _ h => h) (Or.inl ⟨by rfl, ?hy3⟩) K6 ?rest3
  case hy3 => (intro w hSw; (try dsimp only at hSw); first | (go_simp; done) | (go_simp; with_reducible rfl))
  try simp only [Act.put, List.setIfInBounds_toArray, List.set_cons_zero, List.set_cons_succ]
  refine wpAnyH_take (i := 8) (oi := { dst := some 16, op := _, type := _, pos := _, after := _, guard := _ }) (v := ?v4) rfl (by kernel_rfl) (by kernel_rfl) (by kernel_rfl) (fun _ _ _ h => h) (Or.inl ⟨by rfl, ?hy4⟩) K6 ?rest4
  case hy4 => (intro w hSw; (try dsimp only at hSw); first | (go_simp; done) | (go_simp; with_reducible rfl))
  try simp only [Act.put, List.setIfInBounds_toArray, List.set_cons_zero, List.set_cons_succ]
  refine wpAnyH_take (i := 9) (oi := { dst := some 6, op := _, type := _, pos := _, after := _, guard := _ }) (v := ?v5) rfl (by kernel_rfl) (by kernel_rfl) (by kernel_rfl) (fun _ _ _ h => h) (Or.inl ⟨by rfl, ?hy5⟩) K6 ?rest5
  case hy5 => (intro w hSw; (try dsimp only at hSw); first | (go_simp; done) | (go_simp; with_reducible rfl))
  try simp only [Act.put, List.setIfInBounds_toArray, List.set_cons_zero, List.set_cons_succ]
  refine wpAnyH_ready (rs := [10]) (by kernel_rfl) (by simp) ?_
  refine AllReadyH.cons (o := { dst := none, op := _, type := _, pos := _, after := _, guard := _ }) rfl (fun K hK => ?_) AllReadyH.nil
  refine draw_storeC rfl (.tmp 7) (.tmp 16) rfl (w.heap.size + 2) rfl o.v oa o.l.length ok rfl HV6.out K6.res ?_
  have HR : Hid (CRow (u6.setRow (w.heap.size + 2) (ccs o.v (.slice oa o.l.length ok))) (w.heap.size + 2) o.v (.slice oa o.l.length ok)) := Lib.hid (by obtain ⟨od, so, h1, -⟩ := K6.res; exact CRow.of_put h1 _ _)
  have K10 : (fun U => ApR w c.v (.slice pa c.l.length ca) (dlc d la lk ga gk) U) (u6.setRow (w.heap.size + 2) (ccs o.v (.slice oa o.l.length ok))) := ⟨K6.row.of_set (by omega) _, K6.blk.other (by omega) _, ⟨o.v, _, HR.out, HV6.out⟩, belowRow K6.low (by omega) _⟩
  have HX := Lib.hid (And.intro (HJ.out.1.setRow (show w.heap.size + 2 < w.heap.size + 3 by omega) (ccs o.v (.slice oa o.l.length ok))).fin (HJ.out.2.setRow (show w.heap.size + 2 < w.heap.size + 3 by omega) (ccs o.v (.slice oa o.l.length ok))).cin)
  refine hK.out _ _ K10 (fun _ => ?_)
  clear hK K
  try simp only [Act.put, List.setIfInBounds_toArray, List.set_cons_zero, List.set_cons_succ]
  refine wpAnyH_done (by kernel_rfl) ?_ _
  try simp only [Act.put, List.setIfInBounds_toArray, List.set_cons_zero, List.set_cons_succ]
  have HK := Lib.hid K10.low
  clear K0 K5 K6 K10
  go_wp2_with fail
  refine bodyPost_ret (retxC rfl _ _ (w.heap.size + 2) o.v (.slice oa o.l.length ok) _ rfl rfl HR.out HV6.out) rfl ⟨⟨oc, o, ra, oa, rk, ok, HOF.out.1, rfl, HX.out.1, HX.out.2⟩, HK.out⟩
end Go.Proofs.YtmnblpjdiplioaaGreat
