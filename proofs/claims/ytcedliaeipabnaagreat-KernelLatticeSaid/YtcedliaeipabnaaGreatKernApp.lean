/-
  kernel.Apply: what is left behind an update.
-/
import Derived.Test.YtcedliaeipabnaaGreatKernJoin
namespace Go.Proofs.YtcedliaeipabnaaGreat
set_option linter.unusedSimpArgs false
set_option linter.unusedVariables false
set_option maxRecDepth 100000
open Go.RowKit Go.Sort

/-- a delta's cells -/
def dlc (e : Dl) (la : Option Addr) (lk : Nat) (ga : Option Addr) (gk : Nat) : Array Value := #[.int .i64 e.d.1, .int .i64 e.d.2, .int .i64 e.s.t, .int .i64 e.s.c, .int .i64 e.s.r, .slice la e.l.length lk, .slice ga e.g.length gk]
theorem deltaSize : (Tryz.prog.info? 54).map (·.size) = some 7 := by kernel_rfl
/-- one cell that holds a slice, a name: in a region that draws -/
theorem yield_cF {ops : Array Oper} {S : World → Prop} {o : Oper} {a : Act} (hw : Region.wanted o (yielded ops a.tmps) = true) (x : Operand) (ho : o.op = .load 22 x) (g off : Nat) (p : Option Addr) (n c : Nat) (hx : a.eval x = .pointer (some ⟨g, off, none⟩))
    (hg : ∀ w, S w → w.cell? ⟨g, off, none⟩ = some (.slice p n c)) : YieldsIf Tryz.prog ops S o (.slice p n c) a := by
  refine .inl ⟨hw, fun w hS => ?_⟩
  have h0 := hg w hS
  unfold execOp
  simp only [ho, hx]
  go_simp
theorem yield_cD {ops : Array Oper} {S : World → Prop} {o : Oper} {a : Act} (hw : Region.wanted o (yielded ops a.tmps) = true) (x : Operand) (ho : o.op = .load 25 x) (g off : Nat) (p : Option Addr) (n c : Nat) (hx : a.eval x = .pointer (some ⟨g, off, none⟩))
    (hg : ∀ w, S w → w.cell? ⟨g, off, none⟩ = some (.slice p n c)) : YieldsIf Tryz.prog ops S o (.slice p n c) a := by
  refine .inl ⟨hw, fun w hS => ?_⟩
  have h0 := hg w hS
  unfold execOp
  simp only [ho, hx]
  go_simp
theorem builtS (p : Option Addr) (n c : Nat) : Tryz.prog.built 27 [(1, .slice p n c)] = some (ccs zV (.slice p n c)) := by kernel_rfl
theorem yield_BS {ops : Array Oper} {S : World → Prop} {o : Oper} {a : Act} (hw : Region.wanted o (yielded ops a.tmps) = true) (x : Operand) (ho : o.op = .build 27 #[(1, x)]) (p : Option Addr) (n c : Nat)
    (hx : a.eval x = .slice p n c) : YieldsIf Tryz.prog ops S o (.agg (ccs zV (.slice p n c))) a := by
  refine .inl ⟨hw, fun w _ => ?_⟩
  have h := run_build (P := Tryz.prog) w 27 #[(1, .slice p n c)] _ (builtS p n c)
  unfold execOp
  simp only [ho, List.map_toArray, List.map_cons, List.map_nil, hx, Sem.run_bind, Sem.run_pure, Result.andThen_ok, h]

/-- what lies there while an update is applied -/
structure HoldP (w : World) (v : Vc) (s : Value) (D : Array Value) (U : World) : Prop where
  row : CRow U w.heap.size v s
  blk : Blk U (w.heap.size + 1) 54 D
  res : ∃ (old : Vc) (so : Value), CRow U (w.heap.size + 2) old so ∧ old.length = 16
  low : Go.RowKit.Below w.heap.size w U
theorem HoldP.below {w U U' : World} {v : Vc} {s : Value} {D : Array Value} (h : HoldP w v s D U) (hb : Go.RowKit.Below U.heap.size U U') : HoldP w v s D U' :=
  ⟨h.row.keep hb, h.blk.keep hb, by obtain ⟨o, so, h1, h2⟩ := h.res; exact ⟨o, so, h1.keep hb, h2⟩, h.low.trans (hb.mono h.low.size)⟩
theorem JoinAns.mono {a b : List Ft} {ac bc : Cx} {lo lo' : Nat} {e : Ending} {w' : World} (h : JoinAns a b ac bc lo e w') (hl : lo' ≤ lo) : JoinAns a b ac bc lo' e w' := by
  obtain ⟨o, la, pa, lk, pk, he, h1, h2, h3, h4⟩ := h
  exact ⟨o, la, pa, lk, pk, he, h1, h2.mono hl, h3.mono hl, h4⟩

set_option maxHeartbeats 16000000 in
theorem applyKC (x : List Ft) (fa : Option Addr) (ka : Nat) (c : Cx) (pa : Option Addr) (ca : Nat) (d : Dl) (la : Option Addr) (lk : Nat) (ga : Option Addr) (gk : Nat) (w : World) (hx : FIn w fa x) (hlx : x.length ≤ 20000) (hc : CIn w c pa) (hl : FIn w la d.l) (hll : d.l.length ≤ 20000) (hg : DIn w ga d.g) (hs : c.l.length + (d.g.length + 1) ≤ 32768) :
    Calls Tryz.prog 18 #[.slice fa x.length ka, .agg (ccs c.v (.slice pa c.l.length ca)), .agg (dlc d la lk ga gk)] w fun e w' => (∃ o, OfK d o ∧ o.l.length ≤ d.g.length + 1 ∧ JoinAns x d.l c o w.heap.size e w') ∧ Go.RowKit.Below w.heap.size w w' := by
  have HV := Lib.hid hc.v16
  have HI := Lib.hid (And.intro hx (And.intro hc (And.intro hl hg)))
  have e1 : (w.alloc (.cells (ccs c.v (.slice pa c.l.length ca)) 27)).heap.size = w.heap.size + 1 := World.size_alloc _ _
  have e2 : ((w.alloc (.cells (ccs c.v (.slice pa c.l.length ca)) 27)).alloc (.cells (dlc d la lk ga gk) 54)).heap.size = w.heap.size + 2 := by rw [World.size_alloc, e1]
  have h0 := (CRow.new w c.v (.slice pa c.l.length ca)).alloc (.cells (dlc d la lk ga gk) 54)
  have h1 := Blk.new (w.alloc (.cells (ccs c.v (.slice pa c.l.length ca)) 27)) 54 (dlc d la lk ga gk)
  have h2 := CRow.new ((w.alloc (.cells (ccs c.v (.slice pa c.l.length ca)) 27)).alloc (.cells (dlc d la lk ga gk) 54)) zV nilS
  rw [e1] at h1
  rw [e2] at h2
  have hlow : Go.RowKit.Below w.heap.size w (((w.alloc (.cells (ccs c.v (.slice pa c.l.length ca)) 27)).alloc (.cells (dlc d la lk ga gk) 54)).alloc (.cells (ccs zV nilS) 27)) := ((lowA w _).alloc (by rw [e1]; omega) _).alloc (by rw [e2]; omega) _
  have H0 : Hid (HoldP w c.v (.slice pa c.l.length ca) (dlc d la lk ga gk) (((w.alloc (.cells (ccs c.v (.slice pa c.l.length ca)) 27)).alloc (.cells (dlc d la lk ga gk) 54)).alloc (.cells (ccs zV nilS) 27))) := Lib.hid ⟨h0.alloc _, h1.alloc _, ⟨zV, nilS, h2, rfl⟩, hlow⟩
  clear hx hc hl hg e1 e2 h0 h1 h2 hlow
  go_enter Tryz.func18, Tryz.ntmps18
  go_upto_region 1 with fail
  change Code.wp _ _ _ _ (((w.alloc (.cells (ccs c.v (.slice pa c.l.length ca)) 27)).alloc (.cells (dlc d la lk ga gk) 54)).alloc (.cells (ccs zV nilS) 27))
  generalize ((w.alloc (.cells (ccs c.v (.slice pa c.l.length ca)) 27)).alloc (.cells (dlc d la lk ga gk) 54)).alloc (.cells (ccs zV nilS) 27) = W at *
  refine wp_region_held (S := fun U => HoldP w c.v (.slice pa c.l.length ca) (dlc d la lk ga gk) U) (by kernel_rfl) ?_
  change wpAnyH _ _ _ _ _ _ _ _ W.drew
  have K0 : (fun U => HoldP w c.v (.slice pa c.l.length ca) (dlc d la lk ga gk) U) W.drew := H0.out.below (Below.refl _ _).drew
  refine wpAnyH_take (i := 0) (oi := { dst := some 8, op := _, type := _, pos := _, after := _, guard := _ }) (v := ?v1) rfl (by kernel_rfl) (by kernel_rfl) (by kernel_rfl) (fun _ _ _ h => h) (Or.inl ⟨by rfl, ?hy1⟩) K0 ?rest1
  case hy1 => (intro w hSw; (try dsimp only at hSw); first | (go_simp; done) | (go_simp; with_reducible rfl))
  try simp only [Act.put, List.setIfInBounds_toArray, List.set_cons_zero, List.set_cons_succ]
  refine wpAnyH_take (i := 1) (oi := { dst := some 9, op := _, type := _, pos := _, after := _, guard := _ }) rfl (by kernel_rfl) (by kernel_rfl) (by kernel_rfl) (fun _ _ _ h => h) (yield_C (by rfl) (.tmp 4) rfl w.heap.size c.v (.slice pa c.l.length ca) rfl (fun U hU => hU.row) HV.out) K0 ?_
  try simp only [Act.put, List.setIfInBounds_toArray, List.set_cons_zero, List.set_cons_succ]
  refine wpAnyH_take (i := 2) (oi := { dst := some 10, op := _, type := _, pos := _, after := _, guard := _ }) (v := ?v3) rfl (by kernel_rfl) (by kernel_rfl) (by kernel_rfl) (fun _ _ _ h => h) (Or.inl ⟨by rfl, ?hy3⟩) K0 ?rest3
  case hy3 => (intro w hSw; (try dsimp only at hSw); first | (go_simp; done) | (go_simp; with_reducible rfl))
  try simp only [Act.put, List.setIfInBounds_toArray, List.set_cons_zero, List.set_cons_succ]
  refine wpAnyH_take (i := 3) (oi := { dst := some 11, op := _, type := _, pos := _, after := _, guard := _ }) rfl (by kernel_rfl) (by kernel_rfl) (by kernel_rfl) (fun _ _ _ h => h) (yield_cF (by rfl) (.tmp 10) rfl (w.heap.size + 1) 5 la d.l.length lk rfl (fun U hU => hU.blk.cell rfl)) K0 ?_
  try simp only [Act.put, List.setIfInBounds_toArray, List.set_cons_zero, List.set_cons_succ]
  refine wpAnyH_take (i := 4) (oi := { dst := some 12, op := _, type := _, pos := _, after := _, guard := _ }) (v := ?v5) rfl (by kernel_rfl) (by kernel_rfl) (by kernel_rfl) (fun _ _ _ h => h) (Or.inl ⟨by rfl, ?hy5⟩) K0 ?rest5
  case hy5 => (intro w hSw; (try dsimp only at hSw); first | (go_simp; done) | (go_simp; with_reducible rfl))
  try simp only [Act.put, List.setIfInBounds_toArray, List.set_cons_zero, List.set_cons_succ]
  refine wpAnyH_take (i := 5) (oi := { dst := some 13, op := _, type := _, pos := _, after := _, guard := _ }) rfl (by kernel_rfl) (by kernel_rfl) (by kernel_rfl) (fun _ _ _ h => h) (yield_cD (by rfl) (.tmp 12) rfl (w.heap.size + 1) 6 ga d.g.length gk rfl (fun U hU => hU.blk.cell rfl)) K0 ?_
  try simp only [Act.put, List.setIfInBounds_toArray, List.set_cons_zero, List.set_cons_succ]
  refine wpAnyH_take (i := 6) (oi := { dst := some 14, op := _, type := _, pos := _, after := _, guard := _ }) rfl (by kernel_rfl) (by kernel_rfl) (by kernel_rfl) (fun _ _ _ h => h) (yield_BS (by rfl) (.tmp 13) rfl ga d.g.length gk rfl) K0 ?_
  try simp only [Act.put, List.setIfInBounds_toArray, List.set_cons_zero, List.set_cons_succ]
  refine wpAnyH_take (i := 7) (oi := { dst := some 15, op := _, type := _, pos := _, after := _, guard := _ }) (v := ?v8) rfl (by kernel_rfl) (by kernel_rfl) (by kernel_rfl) (fun _ _ _ h => h) (Or.inl ⟨by rfl, ?hy8⟩) K0 ?rest8
  case hy8 => (intro w hSw; (try dsimp only at hSw); first | (go_simp; done) | (go_simp; with_reducible rfl))
  try simp only [Act.put, List.setIfInBounds_toArray, List.set_cons_zero, List.set_cons_succ]
  refine wpAnyH_take (i := 8) (oi := { dst := some 16, op := _, type := _, pos := _, after := _, guard := _ }) rfl (by kernel_rfl) (by kernel_rfl) (by kernel_rfl) (fun _ _ _ h => h) (yield_D (by rfl) (.tmp 15) rfl (w.heap.size + 1) 0 d.d rfl (fun U hU => ⟨hU.blk.cell rfl, hU.blk.cell rfl⟩)) K0 ?_
  try simp only [Act.put, List.setIfInBounds_toArray, List.set_cons_zero, List.set_cons_succ]
  refine wpAnyH_ready (rs := [9]) (by kernel_rfl) (by simp) ?_
  refine AllReadyH.cons (o := { dst := some 17, op := _, type := _, pos := _, after := _, guard := _ }) rfl (fun K hK => ?_) AllReadyH.nil
  go_simp
  have HD9 := Lib.hid (din_new W.drew d.d)
  have K9 := K0.below (lowA W.drew (.cells #[.int .i64 d.d.1, .int .i64 d.d.2] 50))
  refine hK.out _ _ K9 (fun _ => ?_)
  clear hK K
  try simp only [Act.put, List.setIfInBounds_toArray, List.set_cons_zero, List.set_cons_succ]
  refine wpAnyH_ready (rs := [10]) (by kernel_rfl) (by simp) ?_
  refine AllReadyH.cons (o := { dst := some 18, op := _, type := _, pos := _, after := _, guard := _ }) rfl (fun K hK => ?_) AllReadyH.nil
  go_simp
  refine (addCC ⟨zV, d.g⟩ [d.d] ga (some ⟨W.drew.heap.size, 0, none⟩) gk 1 _ ⟨rfl, HI.out.2.2.2.below K9.low, by show d.g.length ≤ _; omega⟩ HD9.out (by show d.g.length + 1 ≤ _; omega)).mono ?_
  rintro e u10 ⟨⟨o, oa, oc, rfl, hof, hmd, hol⟩, hb⟩
  have K10 := K9.below hb
  have HO := Lib.hid (And.intro (OfK.of2 (e := d) hof) (And.intro hmd (show o.l.length ≤ d.g.length + 1 from hol)))
  have HB10 := Lib.hid hb.size
  clear hof hmd hol hb
  refine hK.out _ _ K10 (fun _ => ?_)
  clear hK K
  try simp only [Act.put, List.setIfInBounds_toArray, List.set_cons_zero, List.set_cons_succ]
  refine wpAnyH_ready (rs := [11]) (by kernel_rfl) (by simp) ?_
  refine AllReadyH.cons (o := { dst := some 19, op := _, type := _, pos := _, after := _, guard := _ }) rfl (fun K hK => ?_) AllReadyH.nil
  go_simp
  refine (joinKC x d.l fa la ka lk c o pa oa ca oc _ (HI.out.1.below K10.low) (HI.out.2.2.1.below K10.low) hlx hll (HI.out.2.1.below K10.low) (HO.out.2.1.cin) (by have := HO.out.2.2; omega)).mono ?_
  rintro e u11 ⟨⟨j, ra, qa, rk, qk, rfl, hj, hff, hmd, hjl⟩, hb⟩
  have K11 := K10.below hb
  have HJ := Lib.hid (And.intro hj (And.intro hff (And.intro hmd hjl)))
  have HB11 := Lib.hid hb.size
  clear hj hff hmd hjl hb
  refine hK.out _ _ K11 (fun _ => ?_)
  clear hK K
  try simp only [Act.put, List.setIfInBounds_toArray, List.set_cons_zero, List.set_cons_succ]
  refine wpAnyH_take (i := 12) (oi := { dst := some 20, op := _, type := _, pos := _, after := _, guard := _ }) (v := ?v10) rfl (by kernel_rfl) (by kernel_rfl) (by kernel_rfl) (fun _ _ _ h => h) (Or.inl ⟨by rfl, ?hy10⟩) K11 ?rest10
  case hy10 => (intro w hSw; (try dsimp only at hSw); first | (go_simp; done) | (go_simp; with_reducible rfl))
  try simp only [Act.put, List.setIfInBounds_toArray, List.set_cons_zero, List.set_cons_succ]
  refine wpAnyH_take (i := 13) (oi := { dst := some 21, op := _, type := _, pos := _, after := _, guard := _ }) (v := ?v11) rfl (by kernel_rfl) (by kernel_rfl) (by kernel_rfl) (fun _ _ _ h => h) (Or.inl ⟨by rfl, ?hy11⟩) K11 ?rest11
  case hy11 => (intro w hSw; (try dsimp only at hSw); first | (go_simp; done) | (go_simp; with_reducible rfl))
  try simp only [Act.put, List.setIfInBounds_toArray, List.set_cons_zero, List.set_cons_succ]
  refine wpAnyH_take (i := 14) (oi := { dst := some 6, op := _, type := _, pos := _, after := _, guard := _ }) (v := ?v12) rfl (by kernel_rfl) (by kernel_rfl) (by kernel_rfl) (fun _ _ _ h => h) (Or.inl ⟨by rfl, ?hy12⟩) K11 ?rest12
  case hy12 => (intro w hSw; (try dsimp only at hSw); first | (go_simp; done) | (go_simp; with_reducible rfl))
  try simp only [Act.put, List.setIfInBounds_toArray, List.set_cons_zero, List.set_cons_succ]
  refine wpAnyH_ready (rs := [15]) (by kernel_rfl) (by simp) ?_
  refine AllReadyH.cons (o := { dst := none, op := _, type := _, pos := _, after := _, guard := _ }) rfl (fun K hK => ?_) AllReadyH.nil
  refine draw_storeC rfl (.tmp 7) (.tmp 21) rfl (w.heap.size + 2) rfl j.v qa j.l.length qk rfl HJ.out.2.2.1.v16 K11.res ?_
  have hb9 := K11.low
  have hres := K11.res
  have hrow : CRow (u11.setRow (w.heap.size + 2) (ccs j.v (.slice qa j.l.length qk))) (w.heap.size + 2) j.v (.slice qa j.l.length qk) := by obtain ⟨o1, s1, h1, -⟩ := hres; exact CRow.of_put h1 _ _
  have HRR := Lib.hid hrow
  have K15 : (fun U => HoldP w c.v (.slice pa c.l.length ca) (dlc d la lk ga gk) U) (u11.setRow (w.heap.size + 2) (ccs j.v (.slice qa j.l.length qk))) := ⟨K11.row.of_set (by omega) _, K11.blk.other (by omega) _, ⟨j.v, _, hrow, HJ.out.2.2.1.v16⟩, belowRow hb9 (by omega) _⟩
  clear hb9 hres hrow
  refine hK.out _ _ K15 (fun _ => ?_)
  clear hK K
  try simp only [Act.put, List.setIfInBounds_toArray, List.set_cons_zero, List.set_cons_succ]
  refine wpAnyH_done (by kernel_rfl) ?_ _
  try simp only [Act.put, List.setIfInBounds_toArray, List.set_cons_zero, List.set_cons_succ]
  have HZ := Lib.hid K15.low
  have hs0 : w.heap.size + 3 ≤ W.heap.size := by obtain ⟨_, _, h1, _⟩ := H0.out.res; have := h1.lt; omega
  have HS0 := Lib.hid hs0
  clear K0 K9 K10 K11 K15 hs0
  go_wp2_with fail
  have hlo : w.heap.size + 3 ≤ u10.heap.size := by
    have h1 := HS0.out
    have h2 := HB10.out
    rw [World.size_alloc] at h2
    have h3 : W.heap.size + 1 ≤ u10.heap.size := h2
    omega
  refine bodyPost_ret (retxC rfl _ _ (w.heap.size + 2) j.v (.slice qa j.l.length qk) _ rfl rfl HRR.out HJ.out.2.2.1.v16) rfl ⟨⟨o, HO.out.1, HO.out.2.2, ⟨j, ra, qa, rk, qk, rfl, HJ.out.1, ?_, ?_, HJ.out.2.2.2⟩⟩, HZ.out⟩
  · exact (HJ.out.2.1.setRow (by omega) _).mono (by omega)
  · exact (HJ.out.2.2.1.setRow (by omega) _).mono (by omega)
end Go.Proofs.YtcedliaeipabnaaGreat
