/-
  almonrylaw13: the walk of CausalReckons.
-/
import Derived.Test.YtcedliaeipabnaaCauLawG
import Derived.Test.YtcedliaeipabnaaCauCmp
import Derived.Test.YtcedliaeipabnaaCauRClean
import Derived.Test.YtcedliaeipabnaaCauRAdd
import Derived.Test.YtcedliaeipabnaaCauRMiss
import Derived.Test.YtcedliaeipabnaaCauRHas
namespace Go.Proofs.Ytcedliaeipabnaa
set_option maxRecDepth 100000
open Go.RowKit Go.Sort

set_option maxHeartbeats 8000000 in
theorem reckons_row (a : Cx) (la : Option Addr) (ca : Nat) (b : Cx) (lb : Option Addr) (cb : Nat) (al : Option Addr) (len cap : Nat) (l : List Dt) (w : World) (hc : CtxArg w a la) (hc2 : CtxArg w b lb) (hl : DotArg w al len l) :
    Calls Try.prog 3 #[.agg (ccs a.v (.slice la a.l.length ca)), .agg (ccs b.v (.slice lb b.l.length cb)), .slice al len cap] w fun e w' => e = .returned (.bool true) ∧ Go.RowKit.Below w.heap.size w w' := by
  obtain ⟨hlen, hmx, hdl⟩ := hl
  subst hlen
  unfold maxLen at hmx
  have HV := Lib.hid hc.v16
  have HV2 := Lib.hid hc2.v16
  have H0 := Lib.hid (two_ctx w a.v b.v (.slice la a.l.length ca) (.slice lb b.l.length cb))
  have HC := Lib.hid (And.intro hc hc2)
  have HL := Lib.hid hdl
  unfold boxC at H0
  clear hc hc2 hdl
  go_enter Try.func3, Try.ntmps3
  go_upto_region 1 with fail
  generalize (w.alloc (.cells (ccs a.v (.slice la a.l.length ca)) 26)).alloc (.cells (ccs b.v (.slice lb b.l.length cb)) 26) = W0 at *
  have hfew := fewC a la ca W0 HV.out HC.out.1.len
  rcases Nat.lt_or_ge 40 a.l.length with hs | hs
  · rw [decide_eq_false (by omega)] at hfew
    clear hs
    go_wp2_with ((with_reducible refine cl_load ?_ (.tmp 3) ?_ w.heap.size a.v (.slice la a.l.length ca) ?_ ?_ ?_ ?_); rfl; rfl; rfl; exact H0.out.1; exact HV.out)
    refine hfew.mono ?_
    rintro e w1 ⟨rfl, hb⟩
    have H1 := Lib.hid (H0.out.2.2.trans (hb.mono H0.out.2.2.size))
    clear hb hfew
    go_wp2_with fail
    refine (causalAwake _).mono ?_
    rintro e w9 ⟨rfl, hb⟩
    have H9 := Lib.hid (H1.out.trans (hb.mono H1.out.size))
    clear hb
    go_wp2_with fail
    go_ret
    exact ⟨rfl, H9.out⟩
  rw [decide_eq_true hs] at hfew
  go_wp2_with ((with_reducible refine cl_load ?_ (.tmp 3) ?_ w.heap.size a.v (.slice la a.l.length ca) ?_ ?_ ?_ ?_); rfl; rfl; rfl; exact H0.out.1; exact HV.out)
  refine hfew.mono ?_
  rintro e w1 ⟨rfl, hb⟩
  have H1 := Lib.hid (And.intro (H0.out.2.2.trans (hb.mono H0.out.2.2.size)) (And.intro (H0.out.1.keep hb) (H0.out.2.1.keep hb)))
  clear hb hfew H0
  have hfew := fewC b lb cb w1 HV2.out HC.out.2.len
  rcases Nat.lt_or_ge 40 b.l.length with hs2 | hs2
  · rw [decide_eq_false (by omega)] at hfew
    clear hs hs2
    go_wp2_with ((with_reducible refine cl_load ?_ (.tmp 4) ?_ (w.heap.size + 1) b.v (.slice lb b.l.length cb) ?_ ?_ ?_ ?_); rfl; rfl; rfl; exact H1.out.2.2; exact HV2.out)
    refine hfew.mono ?_
    rintro e w2 ⟨rfl, hb⟩
    have H2 := Lib.hid (H1.out.1.trans (hb.mono H1.out.1.size))
    clear hb hfew
    go_wp2_with fail
    refine (causalAwake _).mono ?_
    rintro e w9 ⟨rfl, hb⟩
    have H9 := Lib.hid (H2.out.trans (hb.mono H2.out.size))
    clear hb
    go_wp2_with fail
    go_ret
    exact ⟨rfl, H9.out⟩
  rw [decide_eq_true hs2] at hfew
  rcases Nat.lt_or_ge 30 l.length with hs3 | hs3
  · have hbi : (30 : Int) < (l.length : Int) := by omega
    clear hs hs2 hs3
    go_wp2_with ((with_reducible refine cl_load ?_ (.tmp 4) ?_ (w.heap.size + 1) b.v (.slice lb b.l.length cb) ?_ ?_ ?_ ?_); rfl; rfl; rfl; exact H1.out.2.2; exact HV2.out)
    refine hfew.mono ?_
    rintro e w2 ⟨rfl, hb⟩
    have H2 := Lib.hid (H1.out.1.trans (hb.mono H1.out.1.size))
    clear hb hfew
    go_wp2_with fail
    refine (causalAwake _).mono ?_
    rintro e w9 ⟨rfl, hb⟩
    have H9 := Lib.hid (H2.out.trans (hb.mono H2.out.size))
    clear hb
    go_wp2_with fail
    go_ret
    exact ⟨rfl, H9.out⟩
  have hbi : ¬ (30 : Int) < (l.length : Int) := by omega
  have HS := Lib.hid (And.intro hs (And.intro hs2 hs3))
  clear hs hs2 hs3
  go_wp2_with ((with_reducible refine cl_load ?_ (.tmp 4) ?_ (w.heap.size + 1) b.v (.slice lb b.l.length cb) ?_ ?_ ?_ ?_); rfl; rfl; rfl; exact H1.out.2.2; exact HV2.out)
  refine hfew.mono ?_
  rintro e w2 ⟨rfl, hb⟩
  have H2 := Lib.hid (And.intro (H1.out.1.trans (hb.mono H1.out.1.size)) (And.intro (H1.out.2.1.keep hb) (H1.out.2.2.keep hb)))
  clear hb hfew H1
  go_wp2_with fail
  go_loopw [7] (fun i wr => ∃ k : Nat, k ≤ l.length ∧ i = .int .i64 k ∧ Hid (Go.RowKit.Below w2.heap.size w2 wr)) (fun i _ => l.length - (intOf i).toNat)
  case atStart => exact ⟨0, Nat.zero_le _, rfl, Lib.hid (Below.refl _ _)⟩
  case round =>
    obtain ⟨k, hk, rfl, HB⟩ := hrel
    have H3 := Lib.hid (And.intro (H2.out.1.trans (HB.out.mono H2.out.1.size)) (And.intro (H2.out.2.1.keep HB.out) (H2.out.2.2.keep HB.out)))
    have HA := Lib.hid (And.intro ((HC.out.1.cin HS.out.1).below H3.out.1) (And.intro ((HC.out.2.cin HS.out.2.1).below H3.out.1) (HL.out.below H3.out.1)))
    by_cases hlt : k < l.length
    · obtain ⟨f, hf⟩ : ∃ d, l[k]? = some d := ⟨_, List.getElem?_eq_getElem hlt⟩
      obtain ⟨b1, off, rfl, hbl, c0, c1⟩ := HA.out.2.2.at hf
      have HD := Lib.hid (show DAt wr b1 (off + k * 2) f from ⟨c0, c1, hbl⟩)
      have hi1 : (k : Int) < (l.length : Int) := by omega
      obtain ⟨r, q⟩ := f
      clear hf c0 c1 hbl
      obtain ⟨x, hx⟩ : ∃ x, hasC a (r, q) = x := ⟨_, rfl⟩
      have HX := Lib.hid hx
      have x1 : (x != x) = false := by cases x <;> rfl
      have x2 : (x == x) = true := by cases x <;> rfl
      clear hx
      go_upto_region 6 with fail
      refine wp_region_held (S := fun U => Go.RowKit.Below wr.heap.size wr U) (by kernel_rfl) ?_
      change wpAnyH _ _ _ _ _ _ _ _ wr.drew
      have K0 : (fun U => Go.RowKit.Below wr.heap.size wr U) wr.drew := (Below.refl _ _).drew
      refine wpAnyH_take (i := 0) (oi := { dst := some 28, op := _, type := _, pos := _, after := _, guard := _ }) rfl (by kernel_rfl) (by kernel_rfl) (by kernel_rfl) (fun _ _ _ h => h) (yield_C (by rfl) (.tmp 3) rfl w.heap.size a.v (.slice la a.l.length ca) rfl (fun U hU => H3.out.2.1.keep hU) HV.out) K0 ?_
      try simp only [Act.put, List.setIfInBounds_toArray, List.set_cons_zero, List.set_cons_succ]
      refine wpAnyH_take (i := 1) (oi := { dst := some 29, op := _, type := _, pos := _, after := _, guard := _ }) (v := ?v2) rfl (by kernel_rfl) (by kernel_rfl) (by kernel_rfl) (fun _ _ _ h => h) (Or.inl ⟨by rfl, ?hy2⟩) K0 ?rest2
      case hy2 => (intro w hSw; (try dsimp only at hSw); first | (go_simp; done) | (go_simp; with_reducible rfl))
      try simp only [Act.put, List.setIfInBounds_toArray, List.set_cons_zero, List.set_cons_succ]
      refine wpAnyH_take (i := 2) (oi := { dst := some 30, op := _, type := _, pos := _, after := _, guard := _ }) (v := ?v3) rfl (by kernel_rfl) (by kernel_rfl) (by kernel_rfl) (fun _ _ _ h => h) (Or.inl ⟨by rfl, ?hy3⟩) K0 ?rest3
      case hy3 => (intro w hSw; (try dsimp only at hSw); first | (go_simp; done) | (go_simp; with_reducible rfl))
      try simp only [Act.put, List.setIfInBounds_toArray, List.set_cons_zero, List.set_cons_succ]
      refine wpAnyH_take (i := 3) (oi := { dst := some 31, op := _, type := _, pos := _, after := _, guard := _ }) (v := ?v4) rfl (by kernel_rfl) (by kernel_rfl) (by kernel_rfl) (fun _ _ _ h => h) (Or.inl ⟨by rfl, ?hy4⟩) K0 ?rest4
      case hy4 => (intro w hSw; (try dsimp only at hSw); first | (go_simp; done) | (go_simp; with_reducible rfl))
      try simp only [Act.put, List.setIfInBounds_toArray, List.set_cons_zero, List.set_cons_succ]
      refine wpAnyH_take (i := 4) (oi := { dst := some 32, op := _, type := _, pos := _, after := _, guard := _ }) rfl (by kernel_rfl) (by kernel_rfl) (by kernel_rfl) (fun _ _ _ h => h) (yield_D (by rfl) (.tmp 31) rfl b1 (off + k * 2) (r, q) rfl (fun U hU => ⟨(HD.out.below hU HD.out.lt).c0, (HD.out.below hU HD.out.lt).c1⟩)) K0 ?_
      try simp only [Act.put, List.setIfInBounds_toArray, List.set_cons_zero, List.set_cons_succ]
      refine wpAnyH_take (i := 6) (oi := { dst := some 34, op := _, type := _, pos := _, after := _, guard := _ }) rfl (by kernel_rfl) (by kernel_rfl) (by kernel_rfl) (fun _ _ _ h => h) (yield_C (by rfl) (.tmp 3) rfl w.heap.size a.v (.slice la a.l.length ca) rfl (fun U hU => H3.out.2.1.keep hU) HV.out) K0 ?_
      try simp only [Act.put, List.setIfInBounds_toArray, List.set_cons_zero, List.set_cons_succ]
      refine wpAnyH_take (i := 7) (oi := { dst := some 35, op := _, type := _, pos := _, after := _, guard := _ }) (v := ?v7) rfl (by kernel_rfl) (by kernel_rfl) (by kernel_rfl) (fun _ _ _ h => h) (Or.inl ⟨by rfl, ?hy7⟩) K0 ?rest7
      case hy7 => (intro w hSw; (try dsimp only at hSw); first | (go_simp; done) | (go_simp; with_reducible rfl))
      try simp only [Act.put, List.setIfInBounds_toArray, List.set_cons_zero, List.set_cons_succ]
      refine wpAnyH_take (i := 8) (oi := { dst := some 36, op := _, type := _, pos := _, after := _, guard := _ }) (v := ?v8) rfl (by kernel_rfl) (by kernel_rfl) (by kernel_rfl) (fun _ _ _ h => h) (Or.inl ⟨by rfl, ?hy8⟩) K0 ?rest8
      case hy8 => (intro w hSw; (try dsimp only at hSw); first | (go_simp; done) | (go_simp; with_reducible rfl))
      try simp only [Act.put, List.setIfInBounds_toArray, List.set_cons_zero, List.set_cons_succ]
      refine wpAnyH_take (i := 9) (oi := { dst := some 37, op := _, type := _, pos := _, after := _, guard := _ }) (v := ?v9) rfl (by kernel_rfl) (by kernel_rfl) (by kernel_rfl) (fun _ _ _ h => h) (Or.inl ⟨by rfl, ?hy9⟩) K0 ?rest9
      case hy9 => (intro w hSw; (try dsimp only at hSw); first | (go_simp; done) | (go_simp; with_reducible rfl))
      try simp only [Act.put, List.setIfInBounds_toArray, List.set_cons_zero, List.set_cons_succ]
      refine wpAnyH_take (i := 10) (oi := { dst := some 38, op := _, type := _, pos := _, after := _, guard := _ }) rfl (by kernel_rfl) (by kernel_rfl) (by kernel_rfl) (fun _ _ _ h => h) (yield_D (by rfl) (.tmp 37) rfl b1 (off + k * 2) (r, q) rfl (fun U hU => ⟨(HD.out.below hU HD.out.lt).c0, (HD.out.below hU HD.out.lt).c1⟩)) K0 ?_
      try simp only [Act.put, List.setIfInBounds_toArray, List.set_cons_zero, List.set_cons_succ]
      refine wpAnyH_ready (rs := [5]) (by kernel_rfl) (by simp) ?_
      refine AllReadyH.cons (o := { dst := some 33, op := _, type := _, pos := _, after := _, guard := _ }) rfl (fun K hK => ?_) AllReadyH.nil
      go_simp
      have hh := hasCC a (r, q) la ca _ (HA.out.1.below K0)
      rw [HX.out] at hh
      refine hh.mono ?_
      rintro e u5 ⟨rfl, hb⟩
      have K5 := K0.trans (hb.mono K0.size)
      clear hh hb
      refine hK.out _ _ K5 (fun _ => ?_)
      clear hK K
      try simp only [Act.put, List.setIfInBounds_toArray, List.set_cons_zero, List.set_cons_succ]
      refine wpAnyH_ready (rs := [11]) (by kernel_rfl) (by simp) ?_
      refine AllReadyH.cons (o := { dst := some 39, op := _, type := _, pos := _, after := _, guard := _ }) rfl (fun K hK => ?_) AllReadyH.nil
      go_simp
      have hh := hasRC a (r, q) la ca _ (HA.out.1.below K5)
      rw [HX.out] at hh
      refine hh.mono ?_
      rintro e u11 ⟨rfl, hb⟩
      have K11 := K5.trans (hb.mono K5.size)
      clear hh hb
      refine hK.out _ _ K11 (fun _ => ?_)
      clear hK K
      try simp only [Act.put, List.setIfInBounds_toArray, List.set_cons_zero, List.set_cons_succ]
      refine wpAnyH_take (i := 12) (oi := { dst := some 40, op := _, type := _, pos := _, after := _, guard := _ }) (v := ?v11) rfl (by kernel_rfl) (by kernel_rfl) (by kernel_rfl) (fun _ _ _ h => h) (Or.inl ⟨by rfl, ?hy11⟩) K11 ?rest11
      case hy11 => (intro w hSw; (try dsimp only at hSw); first | (go_simp; done) | (go_simp; with_reducible rfl))
      try simp only [Act.put, List.setIfInBounds_toArray, List.set_cons_zero, List.set_cons_succ]
      refine wpAnyH_done (by kernel_rfl) ?_ _
      try simp only [Act.put, List.setIfInBounds_toArray, List.set_cons_zero, List.set_cons_succ]
      have HB2 := Lib.hid (HB.out.trans (K11.mono HB.out.size))
      clear K0 K5 K11
      go_wp2_with fail
      go_roundw
      case rel => exact ⟨k + 1, by omega, by go_num, HB2⟩
      case measure => simp [intOf]; omega
    · have hi1 : ¬ (k : Int) < (l.length : Int) := by omega
      clear hlt hk H2 HB
      obtain ⟨ck, hck⟩ : ∃ x, chkC a = x := ⟨_, rfl⟩
      obtain ⟨cm, hcm⟩ : ∃ x, cmpC a b = x := ⟨_, rfl⟩
      have HCK := Lib.hid hck
      have HCM := Lib.hid hcm
      have x1 : (ck == ck) = true := by simp
      have x2 : (cm == cm) = true := by simp
      clear hck hcm
      go_upto_region 8 with fail
      refine wp_region_held (S := fun U => Go.RowKit.Below wr.heap.size wr U) (by kernel_rfl) ?_
      change wpAnyH _ _ _ _ _ _ _ _ wr.drew
      have K0 : (fun U => Go.RowKit.Below wr.heap.size wr U) wr.drew := (Below.refl _ _).drew
      refine wpAnyH_take (i := 0) (oi := { dst := some 41, op := _, type := _, pos := _, after := _, guard := _ }) rfl (by kernel_rfl) (by kernel_rfl) (by kernel_rfl) (fun _ _ _ h => h) (yield_C (by rfl) (.tmp 3) rfl w.heap.size a.v (.slice la a.l.length ca) rfl (fun U hU => H3.out.2.1.keep hU) HV.out) K0 ?_
      try simp only [Act.put, List.setIfInBounds_toArray, List.set_cons_zero, List.set_cons_succ]
      refine wpAnyH_take (i := 2) (oi := { dst := some 43, op := _, type := _, pos := _, after := _, guard := _ }) rfl (by kernel_rfl) (by kernel_rfl) (by kernel_rfl) (fun _ _ _ h => h) (yield_C (by rfl) (.tmp 3) rfl w.heap.size a.v (.slice la a.l.length ca) rfl (fun U hU => H3.out.2.1.keep hU) HV.out) K0 ?_
      try simp only [Act.put, List.setIfInBounds_toArray, List.set_cons_zero, List.set_cons_succ]
      refine wpAnyH_ready (rs := [1]) (by kernel_rfl) (by simp) ?_
      refine AllReadyH.cons (o := { dst := some 42, op := _, type := _, pos := _, after := _, guard := _ }) rfl (fun K hK => ?_) AllReadyH.nil
      go_simp
      refine (cleanCC a la ca _ (HA.out.1.below K0)).mono ?_
      rintro e u1 ⟨⟨o1, a1, k1, rfl, hof, hm, -⟩, hb⟩
      have K1 := K0.trans (hb.mono K0.size)
      have HO1 := Lib.hid (And.intro hof hm.cin)
      clear hof hm hb
      refine hK.out _ _ K1 (fun _ => ?_)
      clear hK K
      try simp only [Act.put, List.setIfInBounds_toArray, List.set_cons_zero, List.set_cons_succ]
      refine wpAnyH_ready (rs := [3]) (by kernel_rfl) (by simp) ?_
      refine AllReadyH.cons (o := { dst := some 44, op := _, type := _, pos := _, after := _, guard := _ }) rfl (fun K hK => ?_) AllReadyH.nil
      go_simp
      refine (cleanRC a la ca _ (HA.out.1.below K1)).mono ?_
      rintro e u3 ⟨⟨o3, a3, k3, rfl, hof, hm, -⟩, hb⟩
      have K3 := K1.trans (hb.mono K1.size)
      obtain rfl := HO1.out.1.same hof
      have HP3 := Lib.hid (And.intro (HO1.out.2.below hb) hm.cin)
      clear hof hm hb HO1
      refine hK.out _ _ K3 (fun _ => ?_)
      clear hK K
      try simp only [Act.put, List.setIfInBounds_toArray, List.set_cons_zero, List.set_cons_succ]
      refine wpAnyH_ready (rs := [4]) (by kernel_rfl) (by simp) ?_
      refine AllReadyH.cons (o := { dst := some 45, op := _, type := _, pos := _, after := _, guard := _ }) rfl (fun K hK => ?_) AllReadyH.nil
      go_simp
      have hh := sameRC o1 o1 a1 a3 k1 k3 _ HP3.out.1 HP3.out.2
      rw [decide_eq_true (show o1 = o1 from rfl)] at hh
      refine hh.mono ?_
      rintro e u4 ⟨rfl, hb⟩
      have K4 := K3.trans (hb.mono K3.size)
      clear hh hb HP3
      refine hK.out _ _ K4 (fun _ => ?_)
      clear hK K
      try simp only [Act.put, List.setIfInBounds_toArray, List.set_cons_zero, List.set_cons_succ]
      refine wpAnyH_take (i := 5) (oi := { dst := some 46, op := _, type := _, pos := _, after := _, guard := _ }) (v := ?v14) rfl (by kernel_rfl) (by kernel_rfl) (by kernel_rfl) (fun _ _ _ h => h) (Or.inl ⟨by rfl, ?hy14⟩) K4 ?rest14
      case hy14 => (intro w hSw; (try dsimp only at hSw); first | (go_simp; done) | (go_simp; with_reducible rfl))
      try simp only [Act.put, List.setIfInBounds_toArray, List.set_cons_zero, List.set_cons_succ]
      refine wpAnyH_take (i := 6) (oi := { dst := some 47, op := _, type := _, pos := _, after := _, guard := _ }) rfl (by kernel_rfl) (by kernel_rfl) (by kernel_rfl) (fun _ _ _ h => h) (yield_C (by rfl) (.tmp 3) rfl w.heap.size a.v (.slice la a.l.length ca) rfl (fun U hU => H3.out.2.1.keep hU) HV.out) K4 ?_
      try simp only [Act.put, List.setIfInBounds_toArray, List.set_cons_zero, List.set_cons_succ]
      refine wpAnyH_take (i := 8) (oi := { dst := some 49, op := _, type := _, pos := _, after := _, guard := _ }) rfl (by kernel_rfl) (by kernel_rfl) (by kernel_rfl) (fun _ _ _ h => h) (yield_C (by rfl) (.tmp 3) rfl w.heap.size a.v (.slice la a.l.length ca) rfl (fun U hU => H3.out.2.1.keep hU) HV.out) K4 ?_
      try simp only [Act.put, List.setIfInBounds_toArray, List.set_cons_zero, List.set_cons_succ]
      refine wpAnyH_ready (rs := [7]) (by kernel_rfl) (by simp) ?_
      refine AllReadyH.cons (o := { dst := some 48, op := _, type := _, pos := _, after := _, guard := _ }) rfl (fun K hK => ?_) AllReadyH.nil
      go_simp
      have hh := chkCC a la ca _ (HA.out.1.below K4)
      rw [HCK.out] at hh
      refine hh.mono ?_
      rintro e u7 ⟨rfl, hb⟩
      have K7 := K4.trans (hb.mono K4.size)
      clear hh hb
      refine hK.out _ _ K7 (fun _ => ?_)
      clear hK K
      try simp only [Act.put, List.setIfInBounds_toArray, List.set_cons_zero, List.set_cons_succ]
      refine wpAnyH_ready (rs := [9]) (by kernel_rfl) (by simp) ?_
      refine AllReadyH.cons (o := { dst := some 50, op := _, type := _, pos := _, after := _, guard := _ }) rfl (fun K hK => ?_) AllReadyH.nil
      go_simp
      have hh := chkRC a la ca _ (HA.out.1.below K7)
      rw [HCK.out] at hh
      refine hh.mono ?_
      rintro e u9 ⟨rfl, hb⟩
      have K9 := K7.trans (hb.mono K7.size)
      clear hh hb
      refine hK.out _ _ K9 (fun _ => ?_)
      clear hK K
      try simp only [Act.put, List.setIfInBounds_toArray, List.set_cons_zero, List.set_cons_succ]
      refine wpAnyH_take (i := 10) (oi := { dst := some 51, op := _, type := _, pos := _, after := _, guard := _ }) (v := ?v17) rfl (by kernel_rfl) (by kernel_rfl) (by kernel_rfl) (fun _ _ _ h => h) (Or.inl ⟨by rfl, ?hy17⟩) K9 ?rest17
      case hy17 => (intro w hSw; (try dsimp only at hSw); first | (go_simp; done) | (go_simp; with_reducible rfl))
      try simp only [Act.put, List.setIfInBounds_toArray, List.set_cons_zero, List.set_cons_succ]
      refine wpAnyH_take (i := 11) (oi := { dst := some 52, op := _, type := _, pos := _, after := _, guard := _ }) (v := ?v18) rfl (by kernel_rfl) (by kernel_rfl) (by kernel_rfl) (fun _ _ _ h => h) (Or.inl ⟨by rfl, ?hy18⟩) K9 ?rest18
      case hy18 => (intro w hSw; (try dsimp only at hSw); first | (go_simp; done) | (go_simp; with_reducible rfl))
      try simp only [Act.put, List.setIfInBounds_toArray, List.set_cons_zero, List.set_cons_succ]
      refine wpAnyH_take (i := 12) (oi := { dst := some 53, op := _, type := _, pos := _, after := _, guard := _ }) (v := ?v19) rfl (by kernel_rfl) (by kernel_rfl) (by kernel_rfl) (fun _ _ _ h => h) (Or.inl ⟨by rfl, ?hy19⟩) K9 ?rest19
      case hy19 => (intro w hSw; (try dsimp only at hSw); first | (go_simp; done) | (go_simp; with_reducible rfl))
      try simp only [Act.put, List.setIfInBounds_toArray, List.set_cons_zero, List.set_cons_succ]
      refine wpAnyH_take (i := 13) (oi := { dst := some 54, op := _, type := _, pos := _, after := _, guard := _ }) rfl (by kernel_rfl) (by kernel_rfl) (by kernel_rfl) (fun _ _ _ h => h) (yield_C (by rfl) (.tmp 3) rfl w.heap.size a.v (.slice la a.l.length ca) rfl (fun U hU => H3.out.2.1.keep hU) HV.out) K9 ?_
      try simp only [Act.put, List.setIfInBounds_toArray, List.set_cons_zero, List.set_cons_succ]
      refine wpAnyH_take (i := 14) (oi := { dst := some 55, op := _, type := _, pos := _, after := _, guard := _ }) (v := ?v21) rfl (by kernel_rfl) (by kernel_rfl) (by kernel_rfl) (fun _ _ _ h => h) (Or.inl ⟨by rfl, ?hy21⟩) K9 ?rest21
      case hy21 => (intro w hSw; (try dsimp only at hSw); first | (go_simp; done) | (go_simp; with_reducible rfl))
      try simp only [Act.put, List.setIfInBounds_toArray, List.set_cons_zero, List.set_cons_succ]
      refine wpAnyH_take (i := 16) (oi := { dst := some 57, op := _, type := _, pos := _, after := _, guard := _ }) rfl (by kernel_rfl) (by kernel_rfl) (by kernel_rfl) (fun _ _ _ h => h) (yield_C (by rfl) (.tmp 3) rfl w.heap.size a.v (.slice la a.l.length ca) rfl (fun U hU => H3.out.2.1.keep hU) HV.out) K9 ?_
      try simp only [Act.put, List.setIfInBounds_toArray, List.set_cons_zero, List.set_cons_succ]
      refine wpAnyH_take (i := 17) (oi := { dst := some 58, op := _, type := _, pos := _, after := _, guard := _ }) (v := ?v23) rfl (by kernel_rfl) (by kernel_rfl) (by kernel_rfl) (fun _ _ _ h => h) (Or.inl ⟨by rfl, ?hy23⟩) K9 ?rest23
      case hy23 => (intro w hSw; (try dsimp only at hSw); first | (go_simp; done) | (go_simp; with_reducible rfl))
      try simp only [Act.put, List.setIfInBounds_toArray, List.set_cons_zero, List.set_cons_succ]
      refine wpAnyH_ready (rs := [15]) (by kernel_rfl) (by simp) ?_
      refine AllReadyH.cons (o := { dst := some 56, op := _, type := _, pos := _, after := _, guard := _ }) rfl (fun K hK => ?_) AllReadyH.nil
      go_simp
      refine (addCC a l la al ca cap _ (HA.out.1.below K9) (HA.out.2.2.below K9) (by have := HS.out; omega)).mono ?_
      rintro e u15 ⟨⟨o15, a15, k15, rfl, hof, hm, -⟩, hb⟩
      have K15 := K9.trans (hb.mono K9.size)
      have HO15 := Lib.hid (And.intro hof hm.cin)
      clear hof hm hb
      refine hK.out _ _ K15 (fun _ => ?_)
      clear hK K
      try simp only [Act.put, List.setIfInBounds_toArray, List.set_cons_zero, List.set_cons_succ]
      refine wpAnyH_ready (rs := [18]) (by kernel_rfl) (by simp) ?_
      refine AllReadyH.cons (o := { dst := some 59, op := _, type := _, pos := _, after := _, guard := _ }) rfl (fun K hK => ?_) AllReadyH.nil
      go_simp
      refine (addRC a l la al ca cap _ (HA.out.1.below K15) (HA.out.2.2.below K15) (by have := HS.out; omega)).mono ?_
      rintro e u18 ⟨⟨o18, a18, k18, rfl, hof, hm, -⟩, hb⟩
      have K18 := K15.trans (hb.mono K15.size)
      obtain rfl := HO15.out.1.same hof
      have HP18 := Lib.hid (And.intro (HO15.out.2.below hb) hm.cin)
      clear hof hm hb HO15
      refine hK.out _ _ K18 (fun _ => ?_)
      clear hK K
      try simp only [Act.put, List.setIfInBounds_toArray, List.set_cons_zero, List.set_cons_succ]
      refine wpAnyH_ready (rs := [19]) (by kernel_rfl) (by simp) ?_
      refine AllReadyH.cons (o := { dst := some 60, op := _, type := _, pos := _, after := _, guard := _ }) rfl (fun K hK => ?_) AllReadyH.nil
      go_simp
      have hh := sameRC o15 o15 a15 a18 k15 k18 _ HP18.out.1 HP18.out.2
      rw [decide_eq_true (show o15 = o15 from rfl)] at hh
      refine hh.mono ?_
      rintro e u19 ⟨rfl, hb⟩
      have K19 := K18.trans (hb.mono K18.size)
      clear hh hb HP18
      refine hK.out _ _ K19 (fun _ => ?_)
      clear hK K
      try simp only [Act.put, List.setIfInBounds_toArray, List.set_cons_zero, List.set_cons_succ]
      refine wpAnyH_take (i := 20) (oi := { dst := some 61, op := _, type := _, pos := _, after := _, guard := _ }) (v := ?v24) rfl (by kernel_rfl) (by kernel_rfl) (by kernel_rfl) (fun _ _ _ h => h) (Or.inl ⟨by rfl, ?hy24⟩) K19 ?rest24
      case hy24 => (intro w hSw; (try dsimp only at hSw); first | (go_simp; done) | (go_simp; with_reducible rfl))
      try simp only [Act.put, List.setIfInBounds_toArray, List.set_cons_zero, List.set_cons_succ]
      refine wpAnyH_take (i := 21) (oi := { dst := some 62, op := _, type := _, pos := _, after := _, guard := _ }) (v := ?v25) rfl (by kernel_rfl) (by kernel_rfl) (by kernel_rfl) (fun _ _ _ h => h) (Or.inl ⟨by rfl, ?hy25⟩) K19 ?rest25
      case hy25 => (intro w hSw; (try dsimp only at hSw); first | (go_simp; done) | (go_simp; with_reducible rfl))
      try simp only [Act.put, List.setIfInBounds_toArray, List.set_cons_zero, List.set_cons_succ]
      refine wpAnyH_take (i := 22) (oi := { dst := some 63, op := _, type := _, pos := _, after := _, guard := _ }) rfl (by kernel_rfl) (by kernel_rfl) (by kernel_rfl) (fun _ _ _ h => h) (yield_C (by rfl) (.tmp 3) rfl w.heap.size a.v (.slice la a.l.length ca) rfl (fun U hU => H3.out.2.1.keep hU) HV.out) K19 ?_
      try simp only [Act.put, List.setIfInBounds_toArray, List.set_cons_zero, List.set_cons_succ]
      refine wpAnyH_take (i := 23) (oi := { dst := some 64, op := _, type := _, pos := _, after := _, guard := _ }) rfl (by kernel_rfl) (by kernel_rfl) (by kernel_rfl) (fun _ _ _ h => h) (yield_C (by rfl) (.tmp 4) rfl (w.heap.size + 1) b.v (.slice lb b.l.length cb) rfl (fun U hU => H3.out.2.2.keep hU) HV2.out) K19 ?_
      try simp only [Act.put, List.setIfInBounds_toArray, List.set_cons_zero, List.set_cons_succ]
      refine wpAnyH_take (i := 25) (oi := { dst := some 66, op := _, type := _, pos := _, after := _, guard := _ }) rfl (by kernel_rfl) (by kernel_rfl) (by kernel_rfl) (fun _ _ _ h => h) (yield_C (by rfl) (.tmp 3) rfl w.heap.size a.v (.slice la a.l.length ca) rfl (fun U hU => H3.out.2.1.keep hU) HV.out) K19 ?_
      try simp only [Act.put, List.setIfInBounds_toArray, List.set_cons_zero, List.set_cons_succ]
      refine wpAnyH_take (i := 26) (oi := { dst := some 67, op := _, type := _, pos := _, after := _, guard := _ }) rfl (by kernel_rfl) (by kernel_rfl) (by kernel_rfl) (fun _ _ _ h => h) (yield_C (by rfl) (.tmp 4) rfl (w.heap.size + 1) b.v (.slice lb b.l.length cb) rfl (fun U hU => H3.out.2.2.keep hU) HV2.out) K19 ?_
      try simp only [Act.put, List.setIfInBounds_toArray, List.set_cons_zero, List.set_cons_succ]
      refine wpAnyH_ready (rs := [24]) (by kernel_rfl) (by simp) ?_
      refine AllReadyH.cons (o := { dst := some 65, op := _, type := _, pos := _, after := _, guard := _ }) rfl (fun K hK => ?_) AllReadyH.nil
      go_simp
      refine (joinCC a b la lb ca cb _ (HA.out.1.below K19) (HA.out.2.1.below K19) (by have := HS.out; omega)).mono ?_
      rintro e u24 ⟨⟨o24, a24, k24, rfl, hof, hm, -⟩, hb⟩
      have K24 := K19.trans (hb.mono K19.size)
      have HO24 := Lib.hid (And.intro hof hm.cin)
      clear hof hm hb
      refine hK.out _ _ K24 (fun _ => ?_)
      clear hK K
      try simp only [Act.put, List.setIfInBounds_toArray, List.set_cons_zero, List.set_cons_succ]
      refine wpAnyH_ready (rs := [27]) (by kernel_rfl) (by simp) ?_
      refine AllReadyH.cons (o := { dst := some 68, op := _, type := _, pos := _, after := _, guard := _ }) rfl (fun K hK => ?_) AllReadyH.nil
      go_simp
      refine (joinRC a b la lb ca cb _ (HA.out.1.below K24) (HA.out.2.1.below K24) (by have := HS.out; omega)).mono ?_
      rintro e u27 ⟨⟨o27, a27, k27, rfl, hof, hm, -⟩, hb⟩
      have K27 := K24.trans (hb.mono K24.size)
      obtain rfl := HO24.out.1.same hof
      have HP27 := Lib.hid (And.intro (HO24.out.2.below hb) hm.cin)
      clear hof hm hb HO24
      refine hK.out _ _ K27 (fun _ => ?_)
      clear hK K
      try simp only [Act.put, List.setIfInBounds_toArray, List.set_cons_zero, List.set_cons_succ]
      refine wpAnyH_ready (rs := [28]) (by kernel_rfl) (by simp) ?_
      refine AllReadyH.cons (o := { dst := some 69, op := _, type := _, pos := _, after := _, guard := _ }) rfl (fun K hK => ?_) AllReadyH.nil
      go_simp
      have hh := sameRC o24 o24 a24 a27 k24 k27 _ HP27.out.1 HP27.out.2
      rw [decide_eq_true (show o24 = o24 from rfl)] at hh
      refine hh.mono ?_
      rintro e u28 ⟨rfl, hb⟩
      have K28 := K27.trans (hb.mono K27.size)
      clear hh hb HP27
      refine hK.out _ _ K28 (fun _ => ?_)
      clear hK K
      try simp only [Act.put, List.setIfInBounds_toArray, List.set_cons_zero, List.set_cons_succ]
      refine wpAnyH_take (i := 29) (oi := { dst := some 70, op := _, type := _, pos := _, after := _, guard := _ }) (v := ?v30) rfl (by kernel_rfl) (by kernel_rfl) (by kernel_rfl) (fun _ _ _ h => h) (Or.inl ⟨by rfl, ?hy30⟩) K28 ?rest30
      case hy30 => (intro w hSw; (try dsimp only at hSw); first | (go_simp; done) | (go_simp; with_reducible rfl))
      try simp only [Act.put, List.setIfInBounds_toArray, List.set_cons_zero, List.set_cons_succ]
      refine wpAnyH_take (i := 30) (oi := { dst := some 71, op := _, type := _, pos := _, after := _, guard := _ }) (v := ?v31) rfl (by kernel_rfl) (by kernel_rfl) (by kernel_rfl) (fun _ _ _ h => h) (Or.inl ⟨by rfl, ?hy31⟩) K28 ?rest31
      case hy31 => (intro w hSw; (try dsimp only at hSw); first | (go_simp; done) | (go_simp; with_reducible rfl))
      try simp only [Act.put, List.setIfInBounds_toArray, List.set_cons_zero, List.set_cons_succ]
      refine wpAnyH_take (i := 31) (oi := { dst := some 72, op := _, type := _, pos := _, after := _, guard := _ }) rfl (by kernel_rfl) (by kernel_rfl) (by kernel_rfl) (fun _ _ _ h => h) (yield_C (by rfl) (.tmp 3) rfl w.heap.size a.v (.slice la a.l.length ca) rfl (fun U hU => H3.out.2.1.keep hU) HV.out) K28 ?_
      try simp only [Act.put, List.setIfInBounds_toArray, List.set_cons_zero, List.set_cons_succ]
      refine wpAnyH_take (i := 32) (oi := { dst := some 73, op := _, type := _, pos := _, after := _, guard := _ }) rfl (by kernel_rfl) (by kernel_rfl) (by kernel_rfl) (fun _ _ _ h => h) (yield_C (by rfl) (.tmp 4) rfl (w.heap.size + 1) b.v (.slice lb b.l.length cb) rfl (fun U hU => H3.out.2.2.keep hU) HV2.out) K28 ?_
      try simp only [Act.put, List.setIfInBounds_toArray, List.set_cons_zero, List.set_cons_succ]
      refine wpAnyH_take (i := 34) (oi := { dst := some 75, op := _, type := _, pos := _, after := _, guard := _ }) rfl (by kernel_rfl) (by kernel_rfl) (by kernel_rfl) (fun _ _ _ h => h) (yield_C (by rfl) (.tmp 3) rfl w.heap.size a.v (.slice la a.l.length ca) rfl (fun U hU => H3.out.2.1.keep hU) HV.out) K28 ?_
      try simp only [Act.put, List.setIfInBounds_toArray, List.set_cons_zero, List.set_cons_succ]
      refine wpAnyH_take (i := 35) (oi := { dst := some 76, op := _, type := _, pos := _, after := _, guard := _ }) rfl (by kernel_rfl) (by kernel_rfl) (by kernel_rfl) (fun _ _ _ h => h) (yield_C (by rfl) (.tmp 4) rfl (w.heap.size + 1) b.v (.slice lb b.l.length cb) rfl (fun U hU => H3.out.2.2.keep hU) HV2.out) K28 ?_
      try simp only [Act.put, List.setIfInBounds_toArray, List.set_cons_zero, List.set_cons_succ]
      refine wpAnyH_ready (rs := [33]) (by kernel_rfl) (by simp) ?_
      refine AllReadyH.cons (o := { dst := some 74, op := _, type := _, pos := _, after := _, guard := _ }) rfl (fun K hK => ?_) AllReadyH.nil
      go_simp
      refine (missCC a b la lb ca cb _ (HA.out.1.below K28) (HA.out.2.1.below K28)).mono ?_
      rintro e u33 ⟨⟨m1, p1, k33, rfl, hof, hm⟩, hb⟩
      have K33 := K28.trans (hb.mono K28.size)
      have HO33 := Lib.hid (And.intro hof hm.din)
      clear hof hm hb
      refine hK.out _ _ K33 (fun _ => ?_)
      clear hK K
      try simp only [Act.put, List.setIfInBounds_toArray, List.set_cons_zero, List.set_cons_succ]
      refine wpAnyH_ready (rs := [36]) (by kernel_rfl) (by simp) ?_
      refine AllReadyH.cons (o := { dst := some 77, op := _, type := _, pos := _, after := _, guard := _ }) rfl (fun K hK => ?_) AllReadyH.nil
      go_simp
      refine (missRC a b la lb ca cb _ (HA.out.1.below K33) (HA.out.2.1.below K33)).mono ?_
      rintro e u36 ⟨⟨m2, p2, k36, rfl, hof, hm⟩, hb⟩
      have K36 := K33.trans (hb.mono K33.size)
      obtain rfl := HO33.out.1.same hof
      have HP36 := Lib.hid (And.intro (And.intro (HO33.out.2.below hb) hm.din) hof.len)
      clear hof hm hb HO33
      refine hK.out _ _ K36 (fun _ => ?_)
      clear hK K
      try simp only [Act.put, List.setIfInBounds_toArray, List.set_cons_zero, List.set_cons_succ]
      refine wpAnyH_ready (rs := [37]) (by kernel_rfl) (by simp) ?_
      refine AllReadyH.cons (o := { dst := some 78, op := _, type := _, pos := _, after := _, guard := _ }) rfl (fun K hK => ?_) AllReadyH.nil
      go_simp
      have hh := sameR m1 m1 p1 p2 k33 k36 _ HP36.out.1.1 HP36.out.1.2 (by have := HP36.out.2; unfold maxLen; omega) (by have := HP36.out.2; unfold maxLen; omega)
      rw [decide_eq_true (show m1 = m1 from rfl)] at hh
      refine hh.mono ?_
      rintro e u37 ⟨rfl, n37, rfl⟩
      have K37 := belowN K36 n37
      clear hh HP36
      refine hK.out _ _ K37 (fun _ => ?_)
      clear hK K
      try simp only [Act.put, List.setIfInBounds_toArray, List.set_cons_zero, List.set_cons_succ]
      refine wpAnyH_take (i := 38) (oi := { dst := some 79, op := _, type := _, pos := _, after := _, guard := _ }) (v := ?v36) rfl (by kernel_rfl) (by kernel_rfl) (by kernel_rfl) (fun _ _ _ h => h) (Or.inl ⟨by rfl, ?hy36⟩) K37 ?rest36
      case hy36 => (intro w hSw; (try dsimp only at hSw); first | (go_simp; done) | (go_simp; with_reducible rfl))
      try simp only [Act.put, List.setIfInBounds_toArray, List.set_cons_zero, List.set_cons_succ]
      refine wpAnyH_take (i := 39) (oi := { dst := some 80, op := _, type := _, pos := _, after := _, guard := _ }) (v := ?v37) rfl (by kernel_rfl) (by kernel_rfl) (by kernel_rfl) (fun _ _ _ h => h) (Or.inl ⟨by rfl, ?hy37⟩) K37 ?rest37
      case hy37 => (intro w hSw; (try dsimp only at hSw); first | (go_simp; done) | (go_simp; with_reducible rfl))
      try simp only [Act.put, List.setIfInBounds_toArray, List.set_cons_zero, List.set_cons_succ]
      refine wpAnyH_take (i := 40) (oi := { dst := some 81, op := _, type := _, pos := _, after := _, guard := _ }) rfl (by kernel_rfl) (by kernel_rfl) (by kernel_rfl) (fun _ _ _ h => h) (yield_C (by rfl) (.tmp 3) rfl w.heap.size a.v (.slice la a.l.length ca) rfl (fun U hU => H3.out.2.1.keep hU) HV.out) K37 ?_
      try simp only [Act.put, List.setIfInBounds_toArray, List.set_cons_zero, List.set_cons_succ]
      refine wpAnyH_take (i := 41) (oi := { dst := some 82, op := _, type := _, pos := _, after := _, guard := _ }) rfl (by kernel_rfl) (by kernel_rfl) (by kernel_rfl) (fun _ _ _ h => h) (yield_C (by rfl) (.tmp 4) rfl (w.heap.size + 1) b.v (.slice lb b.l.length cb) rfl (fun U hU => H3.out.2.2.keep hU) HV2.out) K37 ?_
      try simp only [Act.put, List.setIfInBounds_toArray, List.set_cons_zero, List.set_cons_succ]
      refine wpAnyH_take (i := 43) (oi := { dst := some 84, op := _, type := _, pos := _, after := _, guard := _ }) rfl (by kernel_rfl) (by kernel_rfl) (by kernel_rfl) (fun _ _ _ h => h) (yield_C (by rfl) (.tmp 3) rfl w.heap.size a.v (.slice la a.l.length ca) rfl (fun U hU => H3.out.2.1.keep hU) HV.out) K37 ?_
      try simp only [Act.put, List.setIfInBounds_toArray, List.set_cons_zero, List.set_cons_succ]
      refine wpAnyH_take (i := 44) (oi := { dst := some 85, op := _, type := _, pos := _, after := _, guard := _ }) rfl (by kernel_rfl) (by kernel_rfl) (by kernel_rfl) (fun _ _ _ h => h) (yield_C (by rfl) (.tmp 4) rfl (w.heap.size + 1) b.v (.slice lb b.l.length cb) rfl (fun U hU => H3.out.2.2.keep hU) HV2.out) K37 ?_
      try simp only [Act.put, List.setIfInBounds_toArray, List.set_cons_zero, List.set_cons_succ]
      refine wpAnyH_ready (rs := [42]) (by kernel_rfl) (by simp) ?_
      refine AllReadyH.cons (o := { dst := some 83, op := _, type := _, pos := _, after := _, guard := _ }) rfl (fun K hK => ?_) AllReadyH.nil
      go_simp
      have hh := cmpCC a b la lb ca cb _ (HA.out.1.below K37) (HA.out.2.1.below K37)
      rw [HCM.out] at hh
      refine hh.mono ?_
      rintro e u42 ⟨rfl, hb⟩
      have K42 := K37.trans (hb.mono K37.size)
      clear hh hb
      refine hK.out _ _ K42 (fun _ => ?_)
      clear hK K
      try simp only [Act.put, List.setIfInBounds_toArray, List.set_cons_zero, List.set_cons_succ]
      refine wpAnyH_ready (rs := [45]) (by kernel_rfl) (by simp) ?_
      refine AllReadyH.cons (o := { dst := some 86, op := _, type := _, pos := _, after := _, guard := _ }) rfl (fun K hK => ?_) AllReadyH.nil
      go_simp
      have hh := cmpRC a b la lb ca cb _ (HA.out.1.below K42) (HA.out.2.1.below K42)
      rw [HCM.out] at hh
      refine hh.mono ?_
      rintro e u45 ⟨rfl, hb⟩
      have K45 := K42.trans (hb.mono K42.size)
      clear hh hb
      refine hK.out _ _ K45 (fun _ => ?_)
      clear hK K
      try simp only [Act.put, List.setIfInBounds_toArray, List.set_cons_zero, List.set_cons_succ]
      refine wpAnyH_take (i := 46) (oi := { dst := some 87, op := _, type := _, pos := _, after := _, guard := _ }) (v := ?v42) rfl (by kernel_rfl) (by kernel_rfl) (by kernel_rfl) (fun _ _ _ h => h) (Or.inl ⟨by rfl, ?hy42⟩) K45 ?rest42
      case hy42 => (intro w hSw; (try dsimp only at hSw); first | (go_simp; done) | (go_simp; with_reducible rfl))
      try simp only [Act.put, List.setIfInBounds_toArray, List.set_cons_zero, List.set_cons_succ]
      refine wpAnyH_take (i := 47) (oi := { dst := some 88, op := _, type := _, pos := _, after := _, guard := _ }) (v := ?v43) rfl (by kernel_rfl) (by kernel_rfl) (by kernel_rfl) (fun _ _ _ h => h) (Or.inl ⟨by rfl, ?hy43⟩) K45 ?rest43
      case hy43 => (intro w hSw; (try dsimp only at hSw); first | (go_simp; done) | (go_simp; with_reducible rfl))
      try simp only [Act.put, List.setIfInBounds_toArray, List.set_cons_zero, List.set_cons_succ]
      refine wpAnyH_take (i := 48) (oi := { dst := some 89, op := _, type := _, pos := _, after := _, guard := _ }) (v := ?v44) rfl (by kernel_rfl) (by kernel_rfl) (by kernel_rfl) (fun _ _ _ h => h) (Or.inl ⟨by rfl, ?hy44⟩) K45 ?rest44
      case hy44 => (intro w hSw; (try dsimp only at hSw); first | (go_simp; done) | (go_simp; with_reducible rfl))
      try simp only [Act.put, List.setIfInBounds_toArray, List.set_cons_zero, List.set_cons_succ]
      refine wpAnyH_ready (rs := [49]) (by kernel_rfl) (by simp) ?_
      refine AllReadyH.cons (o := { dst := some 90, op := _, type := _, pos := _, after := _, guard := _ }) rfl (fun K hK => ?_) AllReadyH.nil
      go_simp
      refine (causalAwake _).mono ?_
      rintro e u49 ⟨rfl, hb⟩
      have K49 := K45.trans (hb.mono K45.size)
      clear hb
      refine hK.out _ _ K49 (fun _ => ?_)
      clear hK K
      try simp only [Act.put, List.setIfInBounds_toArray, List.set_cons_zero, List.set_cons_succ]
      refine wpAnyH_take (i := 50) (oi := { dst := some 91, op := _, type := _, pos := _, after := _, guard := _ }) (v := ?v45) rfl (by kernel_rfl) (by kernel_rfl) (by kernel_rfl) (fun _ _ _ h => h) (Or.inl ⟨by rfl, ?hy45⟩) K49 ?rest45
      case hy45 => (intro w hSw; (try dsimp only at hSw); first | (go_simp; done) | (go_simp; with_reducible rfl))
      try simp only [Act.put, List.setIfInBounds_toArray, List.set_cons_zero, List.set_cons_succ]
      refine wpAnyH_take (i := 51) (oi := { dst := some 6, op := _, type := _, pos := _, after := _, guard := _ }) (v := ?v46) rfl (by kernel_rfl) (by kernel_rfl) (by kernel_rfl) (fun _ _ _ h => h) (Or.inl ⟨by rfl, ?hy46⟩) K49 ?rest46
      case hy46 => (intro w hSw; (try dsimp only at hSw); first | (go_simp; done) | (go_simp; with_reducible rfl))
      try simp only [Act.put, List.setIfInBounds_toArray, List.set_cons_zero, List.set_cons_succ]
      refine wpAnyH_done (by kernel_rfl) ?_ _
      try simp only [Act.put, List.setIfInBounds_toArray, List.set_cons_zero, List.set_cons_succ]
      have HF := Lib.hid (H3.out.1.trans (K49.mono H3.out.1.size))
      clear K0 K1 K3 K4 K7 K9 K15 K18 K19 K24 K27 K28 K33 K36 K37 K42 K45 K49
      go_wp2_with fail
      go_ret
      exact ⟨rfl, HF.out⟩
end Go.Proofs.Ytcedliaeipabnaa
