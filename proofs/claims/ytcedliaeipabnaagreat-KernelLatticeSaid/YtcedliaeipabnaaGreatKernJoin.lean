/-
  kernel.Join: what is left of two stores.
-/
import Derived.Test.YtcedliaeipabnaaGreatKernSide
import Derived.Test.YtcedliaeipabnaaGreatFactSortR
namespace Go.Proofs.YtcedliaeipabnaaGreat
set_option linter.unusedSimpArgs false
set_option linter.unusedVariables false
set_option maxRecDepth 100000
open Go.RowKit Go.Sort

/-- what is left when k sides were gone over -/
def leftK (a b : List Ft) (ac bc : Cx) : Nat → List Ft
  | 0 => []
  | 1 => (sortF a).filter (leavesK (sortF b) bc)
  | _ => (sortF a).filter (leavesK (sortF b) bc) ++ (sortF b).filter (leavesK (sortF a) ac)
/-- two sides, laid out -/
structure JMid (w : World) (a b : List Ft) (ac bc : Cx) (sa sb : Value) (gs : Nat) (o1 o2 : Cx) (f1 f2 b1 b2 : Option Addr) (k1 k2 c1 c2 : Nat) (U : World) : Prop where
  blk : Blk U gs 66 (kk (.slice f1 (sortF a).length k1) (.slice f2 (sortF b).length k2) o1.v o2.v (.slice b1 o1.l.length c1) (.slice b2 o2.l.length c2))
  cl1 : CleanOf ac o1
  cl2 : CleanOf bc o2
  in1 : FIn U f1 (sortF a)
  in2 : FIn U f2 (sortF b)
  c1 : CIn U o1 b1
  c2 : CIn U o2 b2
  hold : Hold2 w ac.v sa bc.v sb U
theorem JMid.below {w : World} {a b : List Ft} {ac bc : Cx} {sa sb : Value} {gs : Nat} {o1 o2 : Cx} {f1 f2 b1 b2 : Option Addr} {k1 k2 c1 c2 : Nat} {U U' : World} (h : JMid w a b ac bc sa sb gs o1 o2 f1 f2 b1 b2 k1 k2 c1 c2 U) (hb : Go.RowKit.Below U.heap.size U U') : JMid w a b ac bc sa sb gs o1 o2 f1 f2 b1 b2 k1 k2 c1 c2 U' :=
  ⟨h.blk.keep hb, h.cl1, h.cl2, h.in1.below hb, h.in2.below hb, h.c1.below hb, h.c2.below hb, h.hold.below hb⟩
/-- what Join answers -/
def JoinAns (a b : List Ft) (ac bc : Cx) (lo : Nat) (e : Ending) (w' : World) : Prop :=
  ∃ (o : Cx) (la pa : Option Addr) (lk pk : Nat), e = .returned (.tuple #[.slice la (joinK a ac b bc).length lk, .agg (ccs o.v (.slice pa o.l.length pk))]) ∧ JoinOf ac bc o ∧ FFrom w' lo la (joinK a ac b bc) ∧ Made lo w' o pa ∧ o.l.length ≤ ac.l.length + bc.l.length

set_option maxHeartbeats 16000000 in
theorem joinKC (a b : List Ft) (fa fb : Option Addr) (ka kb : Nat) (ac bc : Cx) (pa pb : Option Addr) (ca cb : Nat) (w : World) (ha : FIn w fa a) (hb : FIn w fb b) (hla : a.length ≤ 20000) (hlb : b.length ≤ 20000) (hac : CIn w ac pa) (hbc : CIn w bc pb) (hl : ac.l.length + bc.l.length ≤ 32768) :
    Calls Tryz.prog 8 #[.slice fa a.length ka, .agg (ccs ac.v (.slice pa ac.l.length ca)), .slice fb b.length kb, .agg (ccs bc.v (.slice pb bc.l.length cb))] w fun e w' => JoinAns a b ac bc w.heap.size e w' ∧ Go.RowKit.Below w.heap.size w w' := by
  have HV := Lib.hid hac.v16
  have HV2 := Lib.hid hbc.v16
  have HI := Lib.hid (And.intro (And.intro ha hac) (And.intro hb hbc))
  have HC := Lib.hid (three_two w ac.v bc.v (.slice pa ac.l.length ca) (.slice pb bc.l.length cb))
  have H0 : Hid (Hold2 w ac.v (.slice pa ac.l.length ca) bc.v (.slice pb bc.l.length cb) (boxC (boxC (boxC w ac.v (.slice pa ac.l.length ca)) bc.v (.slice pb bc.l.length cb)) zV nilS)) := Lib.hid ⟨HC.out.1, HC.out.2.1, ⟨zV, nilS, HC.out.2.2.1, rfl⟩, HC.out.2.2.2⟩
  have HLJ := Lib.hid (left_join a b ac bc (l := leftK a b ac bc 2) rfl)
  have hsa := sortF_len a
  have hsb := sortF_len b
  have HLL := Lib.hid (show (leftK a b ac bc 2).length ≤ 40000 from by
    show ((sortF a).filter _ ++ (sortF b).filter _).length ≤ _
    rw [List.length_append]
    have h1 := List.length_filter_le (leavesK (sortF b) bc) (sortF a)
    have h2 := List.length_filter_le (leavesK (sortF a) ac) (sortF b)
    omega)
  unfold boxC at H0
  clear ha hb hac hbc HC
  go_enter Tryz.func8, Tryz.ntmps8
  go_upto_region 1 with fail
  change Code.wp _ _ _ _ (((w.alloc (.cells (ccs ac.v (.slice pa ac.l.length ca)) 27)).alloc (.cells (ccs bc.v (.slice pb bc.l.length cb)) 27)).alloc (.cells (ccs zV nilS) 27))
  generalize ((w.alloc (.cells (ccs ac.v (.slice pa ac.l.length ca)) 27)).alloc (.cells (ccs bc.v (.slice pb bc.l.length cb)) 27)).alloc (.cells (ccs zV nilS) 27) = W at *
  go_cut [10] (fun p U => ∃ (gs : Nat) (o1 o2 : Cx) (f1 f2 b1 b2 : Option Addr) (k1 k2 c1 c2 : Nat), p = .pointer (some ⟨gs, 0, none⟩) ∧ JMid w a b ac bc (.slice pa ac.l.length ca) (.slice pb bc.l.length cb) gs o1 o2 f1 f2 b1 b2 k1 k2 c1 c2 U)
  case first =>
    refine wp_region_held (S := fun U => Hold2 w ac.v (.slice pa ac.l.length ca) bc.v (.slice pb bc.l.length cb) U) (by kernel_rfl) ?_
    change wpAnyH _ _ _ _ _ _ _ _ W.drew
    have K0 : (fun U => Hold2 w ac.v (.slice pa ac.l.length ca) bc.v (.slice pb bc.l.length cb) U) W.drew := H0.out.below (Below.refl _ _).drew
    refine wpAnyH_take (i := 0) (oi := { dst := some 16, op := _, type := _, pos := _, after := _, guard := _ }) (v := ?v1) rfl (by kernel_rfl) (by kernel_rfl) (by kernel_rfl) (fun _ _ _ h => h) (Or.inl ⟨by rfl, ?hy1⟩) K0 ?rest1
    case hy1 => (intro w hSw; (try dsimp only at hSw); first | (go_simp; done) | (go_simp; with_reducible rfl))
    try simp only [Act.put, List.setIfInBounds_toArray, List.set_cons_zero, List.set_cons_succ]
    refine wpAnyH_take (i := 1) (oi := { dst := some 17, op := _, type := _, pos := _, after := _, guard := _ }) rfl (by kernel_rfl) (by kernel_rfl) (by kernel_rfl) (fun _ _ _ h => h) (yield_C (by rfl) (.tmp 5) rfl w.heap.size ac.v (.slice pa ac.l.length ca) rfl (fun U hU => hU.row) HV.out) K0 ?_
    try simp only [Act.put, List.setIfInBounds_toArray, List.set_cons_zero, List.set_cons_succ]
    refine wpAnyH_take (i := 3) (oi := { dst := some 19, op := _, type := _, pos := _, after := _, guard := _ }) (v := ?v3) rfl (by kernel_rfl) (by kernel_rfl) (by kernel_rfl) (fun _ _ _ h => h) (Or.inl ⟨by rfl, ?hy3⟩) K0 ?rest3
    case hy3 => (intro w hSw; (try dsimp only at hSw); first | (go_simp; done) | (go_simp; with_reducible rfl))
    try simp only [Act.put, List.setIfInBounds_toArray, List.set_cons_zero, List.set_cons_succ]
    refine wpAnyH_take (i := 4) (oi := { dst := some 20, op := _, type := _, pos := _, after := _, guard := _ }) rfl (by kernel_rfl) (by kernel_rfl) (by kernel_rfl) (fun _ _ _ h => h) (yield_C (by rfl) (.tmp 7) rfl (w.heap.size + 1) bc.v (.slice pb bc.l.length cb) rfl (fun U hU => hU.row2) HV2.out) K0 ?_
    try simp only [Act.put, List.setIfInBounds_toArray, List.set_cons_zero, List.set_cons_succ]
    refine wpAnyH_ready (rs := [2, 7]) (by kernel_rfl) (by simp) ?_
    refine AllReadyH.cons (o := { dst := some 18, op := _, type := _, pos := _, after := _, guard := _ }) rfl (fun K hK => ?_) (AllReadyH.cons (o := { dst := some 10, op := _, type := _, pos := _, after := _, guard := _ }) rfl (fun K hK => ?_) AllReadyH.nil)
    · go_simp
      refine (sideOfC a fa ka ac pa ca _ (HI.out.1.1.below K0.low) (by omega) (HI.out.1.2.below K0.low)).mono ?_
      rintro e u2 ⟨⟨o1, f1, k1, b1, c1, rfl, hof, hff, hmd⟩, hb⟩
      have K2 := K0.below hb
      have H2 := Lib.hid (And.intro hof (And.intro hff hmd))
      have HS2 := Lib.hid hb.size
      clear hof hff hmd hb
      refine hK.out _ _ K2 (fun _ => ?_)
      clear hK K
      try simp only [Act.put, List.setIfInBounds_toArray, List.set_cons_zero, List.set_cons_succ]
      refine wpAnyH_ready (rs := [5, 7]) (by kernel_rfl) (by simp) ?_
      refine AllReadyH.cons (o := { dst := some 21, op := _, type := _, pos := _, after := _, guard := _ }) rfl (fun K hK => ?_) (AllReadyH.cons (o := { dst := some 10, op := _, type := _, pos := _, after := _, guard := _ }) rfl (fun K hK => ?_) AllReadyH.nil)
      · go_simp
        refine (sideOfC b fb kb bc pb cb _ (HI.out.2.1.below K2.low) (by omega) (HI.out.2.2.below K2.low)).mono ?_
        rintro e u5 ⟨⟨o2, f2, k2, b2, c2, rfl, hof, hff, hmd⟩, hb⟩
        have K5 := K2.below hb
        have H5 := Lib.hid (And.intro hof (And.intro hff hmd))
        have HS5 := Lib.hid hb.size
        have HB5 := Lib.hid (show Go.RowKit.Below u2.heap.size u2 u5 from by first | exact hb | exact (lowA u2 _).trans (hb.mono (by simp)))
        clear hof hff hmd hb
        refine hK.out _ _ K5 (fun _ => ?_)
        clear hK K
        try simp only [Act.put, List.setIfInBounds_toArray, List.set_cons_zero, List.set_cons_succ]
        refine wpAnyH_take (i := 6) (oi := { dst := some 22, op := _, type := _, pos := _, after := _, guard := _ }) rfl (by kernel_rfl) (by kernel_rfl) (by kernel_rfl) (fun _ _ _ h => h) (yield_BKK (by rfl) (.tmp 18) (.tmp 21) rfl f1 b1 f2 b2 (sortF a).length k1 o1.l.length c1 (sortF b).length k2 o2.l.length c2 rfl rfl H2.out.2.2.v16 H5.out.2.2.v16) K5 ?_
        try simp only [Act.put, List.setIfInBounds_toArray, List.set_cons_zero, List.set_cons_succ]
        refine wpAnyH_ready (rs := [7]) (by kernel_rfl) (by simp) ?_
        refine AllReadyH.cons (o := { dst := some 10, op := _, type := _, pos := _, after := _, guard := _ }) rfl (fun K hK => ?_) AllReadyH.nil
        go_simp
        have HA := Lib.hid (Blk.new (u5) 66 (kk nilS nilS zV zV nilS nilS))
        have K7 : (fun U => Hold2 w ac.v (.slice pa ac.l.length ca) bc.v (.slice pb bc.l.length cb) U) ((u5).alloc (.cells (kk nilS nilS zV zV nilS nilS) 66)) := K5.below (lowA _ _)
        refine hK.out _ _ K7 (fun _ => ?_)
        clear hK K
        try simp only [Act.put, List.setIfInBounds_toArray, List.set_cons_zero, List.set_cons_succ]
        refine wpAnyH_ready (rs := [8]) (by kernel_rfl) (by simp) ?_
        refine AllReadyH.cons (o := { dst := none, op := _, type := _, pos := _, after := _, guard := _ }) rfl (fun K hK => ?_) AllReadyH.nil
        have hv1 := H2.out.2.2.v16
        have hv2 := H5.out.2.2.v16
        have HVV := Lib.hid (And.intro hv1 hv2)
        clear hv1 hv2
        refine draw_storeB rfl 66 (.tmp 10) (.tmp 22) rfl (u5.heap.size) (kk (.slice f1 (sortF a).length k1) (.slice f2 (sortF b).length k2) o1.v o2.v (.slice b1 o1.l.length c1) (.slice b2 o2.l.length c2)) rfl rfl (infoKK _ _ _ _ HVV.out.1 HVV.out.2) (kk_one _ _ _ _ _ _ _ _ _ _ _ _ _ _) ⟨_, HA.out, by rw [kk_size _ _ _ _ HVV.out.1 HVV.out.2]; rfl⟩ ?_
        have hg0 : w.heap.size + 3 ≤ u5.heap.size := by have h1 := K0.res; obtain ⟨_, _, h1, _⟩ := h1; have h2 := h1.lt; have h3 := HS2.out; have h4 := HS5.out; simp at h2 h3 h4; omega
        have K8 : (fun U => Hold2 w ac.v (.slice pa ac.l.length ca) bc.v (.slice pb bc.l.length cb) U) (((u5.alloc (.cells (kk nilS nilS zV zV nilS nilS) 66))).setRow (u5.heap.size) (kk (.slice f1 (sortF a).length k1) (.slice f2 (sortF b).length k2) o1.v o2.v (.slice b1 o1.l.length c1) (.slice b2 o2.l.length c2))) := ⟨K7.row.of_set (by omega) _, K7.row2.of_set (by omega) _, (by obtain ⟨o, so, h1, h2⟩ := K7.res; exact ⟨o, so, h1.of_set (by omega) _, h2⟩), belowRow K7.low (by omega) _⟩
        have hlo2 := HS2.out
        have hlo5 := HS5.out
        have Z := Lib.hid (show JMid w a b ac bc (.slice pa ac.l.length ca) (.slice pb bc.l.length cb) (u5.heap.size) o1 o2 f1 f2 b1 b2 k1 k2 c1 c2 (((u5.alloc (.cells (kk nilS nilS zV zV nilS nilS) 66))).setRow (u5.heap.size) (kk (.slice f1 (sortF a).length k1) (.slice f2 (sortF b).length k2) o1.v o2.v (.slice b1 o1.l.length c1) (.slice b2 o2.l.length c2))) from ⟨HA.out.put _, H2.out.1, H5.out.1, H2.out.2.1.cross (HB5.out.trans ((lowA u5 _).mono HB5.out.size)) (by first | (left; simp; done) | (left; simp; omega) | (right; exact Nat.le_refl _) | (right; simp; done) | (right; simp; omega) | (right; simp at *; done) | (right; simp at *; omega) | (left; simp at *; omega)) _, H5.out.2.1.cross (lowA u5 _) (by first | (left; simp; done) | (left; simp; omega) | (right; exact Nat.le_refl _) | (right; simp; done) | (right; simp; omega) | (right; simp at *; done) | (right; simp at *; omega) | (left; simp at *; omega)) _, H2.out.2.2.cross (HB5.out.trans ((lowA u5 _).mono HB5.out.size)) (by first | (left; simp; done) | (left; simp; omega) | (right; exact Nat.le_refl _) | (right; simp; done) | (right; simp; omega) | (right; simp at *; done) | (right; simp at *; omega) | (left; simp at *; omega)) _, H5.out.2.2.cross (lowA u5 _) (by first | (left; simp; done) | (left; simp; omega) | (right; exact Nat.le_refl _) | (right; simp; done) | (right; simp; omega) | (right; simp at *; done) | (right; simp at *; omega) | (left; simp at *; omega)) _, K8⟩)
        clear hg0 hlo2 hlo5
        refine hK.out _ _ K8 (fun _ => ?_)
        clear hK K
        try simp only [Act.put, List.setIfInBounds_toArray, List.set_cons_zero, List.set_cons_succ]
        refine wpAnyH_done (by kernel_rfl) ?_ _
        try simp only [Act.put, List.setIfInBounds_toArray, List.set_cons_zero, List.set_cons_succ]
        go_wp2_with fail
        go_meet
        exact ⟨_, o1, o2, f1, f2, b1, b2, k1, k2, c1, c2, rfl, Z.out⟩
      · go_simp
        have HA := Lib.hid (Blk.new (u2) 66 (kk nilS nilS zV zV nilS nilS))
        have K7 : (fun U => Hold2 w ac.v (.slice pa ac.l.length ca) bc.v (.slice pb bc.l.length cb) U) ((u2).alloc (.cells (kk nilS nilS zV zV nilS nilS) 66)) := K2.below (lowA _ _)
        refine hK.out _ _ K7 (fun _ => ?_)
        clear hK K
        try simp only [Act.put, List.setIfInBounds_toArray, List.set_cons_zero, List.set_cons_succ]
        refine wpAnyH_ready (rs := [5]) (by kernel_rfl) (by simp) ?_
        refine AllReadyH.cons (o := { dst := some 21, op := _, type := _, pos := _, after := _, guard := _ }) rfl (fun K hK => ?_) AllReadyH.nil
        go_simp
        refine (sideOfC b fb kb bc pb cb _ (HI.out.2.1.below K7.low) (by omega) (HI.out.2.2.below K7.low)).mono ?_
        rintro e u5 ⟨⟨o2, f2, k2, b2, c2, rfl, hof, hff, hmd⟩, hb⟩
        have K5 := K7.below hb
        have H5 := Lib.hid (And.intro hof (And.intro hff hmd))
        have HS5 := Lib.hid hb.size
        have HB5 := Lib.hid (show Go.RowKit.Below u2.heap.size u2 u5 from by first | exact hb | exact (lowA u2 _).trans (hb.mono (by simp)))
        replace HA := Lib.hid (HA.out.keep hb)
        clear hof hff hmd hb
        refine hK.out _ _ K5 (fun _ => ?_)
        clear hK K
        try simp only [Act.put, List.setIfInBounds_toArray, List.set_cons_zero, List.set_cons_succ]
        refine wpAnyH_take (i := 6) (oi := { dst := some 22, op := _, type := _, pos := _, after := _, guard := _ }) rfl (by kernel_rfl) (by kernel_rfl) (by kernel_rfl) (fun _ _ _ h => h) (yield_BKK (by rfl) (.tmp 18) (.tmp 21) rfl f1 b1 f2 b2 (sortF a).length k1 o1.l.length c1 (sortF b).length k2 o2.l.length c2 rfl rfl H2.out.2.2.v16 H5.out.2.2.v16) K5 ?_
        try simp only [Act.put, List.setIfInBounds_toArray, List.set_cons_zero, List.set_cons_succ]
        refine wpAnyH_ready (rs := [8]) (by kernel_rfl) (by simp) ?_
        refine AllReadyH.cons (o := { dst := none, op := _, type := _, pos := _, after := _, guard := _ }) rfl (fun K hK => ?_) AllReadyH.nil
        have hv1 := H2.out.2.2.v16
        have hv2 := H5.out.2.2.v16
        have HVV := Lib.hid (And.intro hv1 hv2)
        clear hv1 hv2
        refine draw_storeB rfl 66 (.tmp 10) (.tmp 22) rfl (u2.heap.size) (kk (.slice f1 (sortF a).length k1) (.slice f2 (sortF b).length k2) o1.v o2.v (.slice b1 o1.l.length c1) (.slice b2 o2.l.length c2)) rfl rfl (infoKK _ _ _ _ HVV.out.1 HVV.out.2) (kk_one _ _ _ _ _ _ _ _ _ _ _ _ _ _) ⟨_, HA.out, by rw [kk_size _ _ _ _ HVV.out.1 HVV.out.2]; rfl⟩ ?_
        have hg0 : w.heap.size + 3 ≤ u2.heap.size := by have h1 := K0.res; obtain ⟨_, _, h1, _⟩ := h1; have h2 := h1.lt; have h3 := HS2.out; have h4 := HS5.out; simp at h2 h3 h4; omega
        have K8 : (fun U => Hold2 w ac.v (.slice pa ac.l.length ca) bc.v (.slice pb bc.l.length cb) U) ((u5).setRow (u2.heap.size) (kk (.slice f1 (sortF a).length k1) (.slice f2 (sortF b).length k2) o1.v o2.v (.slice b1 o1.l.length c1) (.slice b2 o2.l.length c2))) := ⟨K5.row.of_set (by omega) _, K5.row2.of_set (by omega) _, (by obtain ⟨o, so, h1, h2⟩ := K5.res; exact ⟨o, so, h1.of_set (by omega) _, h2⟩), belowRow K5.low (by omega) _⟩
        have hlo2 := HS2.out
        have hlo5 := HS5.out
        have Z := Lib.hid (show JMid w a b ac bc (.slice pa ac.l.length ca) (.slice pb bc.l.length cb) (u2.heap.size) o1 o2 f1 f2 b1 b2 k1 k2 c1 c2 ((u5).setRow (u2.heap.size) (kk (.slice f1 (sortF a).length k1) (.slice f2 (sortF b).length k2) o1.v o2.v (.slice b1 o1.l.length c1) (.slice b2 o2.l.length c2))) from ⟨HA.out.put _, H2.out.1, H5.out.1, H2.out.2.1.cross (HB5.out) (by first | (left; simp; done) | (left; simp; omega) | (right; exact Nat.le_refl _) | (right; simp; done) | (right; simp; omega) | (right; simp at *; done) | (right; simp at *; omega) | (left; simp at *; omega)) _, H5.out.2.1.cross (Below.refl _ _) (by first | (left; simp; done) | (left; simp; omega) | (right; exact Nat.le_refl _) | (right; simp; done) | (right; simp; omega) | (right; simp at *; done) | (right; simp at *; omega) | (left; simp at *; omega)) _, H2.out.2.2.cross (HB5.out) (by first | (left; simp; done) | (left; simp; omega) | (right; exact Nat.le_refl _) | (right; simp; done) | (right; simp; omega) | (right; simp at *; done) | (right; simp at *; omega) | (left; simp at *; omega)) _, H5.out.2.2.cross (Below.refl _ _) (by first | (left; simp; done) | (left; simp; omega) | (right; exact Nat.le_refl _) | (right; simp; done) | (right; simp; omega) | (right; simp at *; done) | (right; simp at *; omega) | (left; simp at *; omega)) _, K8⟩)
        clear hg0 hlo2 hlo5
        refine hK.out _ _ K8 (fun _ => ?_)
        clear hK K
        try simp only [Act.put, List.setIfInBounds_toArray, List.set_cons_zero, List.set_cons_succ]
        refine wpAnyH_done (by kernel_rfl) ?_ _
        try simp only [Act.put, List.setIfInBounds_toArray, List.set_cons_zero, List.set_cons_succ]
        go_wp2_with fail
        go_meet
        exact ⟨_, o1, o2, f1, f2, b1, b2, k1, k2, c1, c2, rfl, Z.out⟩
    · go_simp
      have HA := Lib.hid (Blk.new (W.drew) 66 (kk nilS nilS zV zV nilS nilS))
      have K7 : (fun U => Hold2 w ac.v (.slice pa ac.l.length ca) bc.v (.slice pb bc.l.length cb) U) ((W.drew).alloc (.cells (kk nilS nilS zV zV nilS nilS) 66)) := K0.below (lowA _ _)
      refine hK.out _ _ K7 (fun _ => ?_)
      clear hK K
      try simp only [Act.put, List.setIfInBounds_toArray, List.set_cons_zero, List.set_cons_succ]
      refine wpAnyH_ready (rs := [2]) (by kernel_rfl) (by simp) ?_
      refine AllReadyH.cons (o := { dst := some 18, op := _, type := _, pos := _, after := _, guard := _ }) rfl (fun K hK => ?_) AllReadyH.nil
      go_simp
      refine (sideOfC a fa ka ac pa ca _ (HI.out.1.1.below K7.low) (by omega) (HI.out.1.2.below K7.low)).mono ?_
      rintro e u2 ⟨⟨o1, f1, k1, b1, c1, rfl, hof, hff, hmd⟩, hb⟩
      have K2 := K7.below hb
      have H2 := Lib.hid (And.intro hof (And.intro hff hmd))
      have HS2 := Lib.hid hb.size
      replace HA := Lib.hid (HA.out.keep hb)
      clear hof hff hmd hb
      refine hK.out _ _ K2 (fun _ => ?_)
      clear hK K
      try simp only [Act.put, List.setIfInBounds_toArray, List.set_cons_zero, List.set_cons_succ]
      refine wpAnyH_ready (rs := [5]) (by kernel_rfl) (by simp) ?_
      refine AllReadyH.cons (o := { dst := some 21, op := _, type := _, pos := _, after := _, guard := _ }) rfl (fun K hK => ?_) AllReadyH.nil
      go_simp
      refine (sideOfC b fb kb bc pb cb _ (HI.out.2.1.below K2.low) (by omega) (HI.out.2.2.below K2.low)).mono ?_
      rintro e u5 ⟨⟨o2, f2, k2, b2, c2, rfl, hof, hff, hmd⟩, hb⟩
      have K5 := K2.below hb
      have H5 := Lib.hid (And.intro hof (And.intro hff hmd))
      have HS5 := Lib.hid hb.size
      have HB5 := Lib.hid (show Go.RowKit.Below u2.heap.size u2 u5 from by first | exact hb | exact (lowA u2 _).trans (hb.mono (by simp)))
      replace HA := Lib.hid (HA.out.keep hb)
      clear hof hff hmd hb
      refine hK.out _ _ K5 (fun _ => ?_)
      clear hK K
      try simp only [Act.put, List.setIfInBounds_toArray, List.set_cons_zero, List.set_cons_succ]
      refine wpAnyH_take (i := 6) (oi := { dst := some 22, op := _, type := _, pos := _, after := _, guard := _ }) rfl (by kernel_rfl) (by kernel_rfl) (by kernel_rfl) (fun _ _ _ h => h) (yield_BKK (by rfl) (.tmp 18) (.tmp 21) rfl f1 b1 f2 b2 (sortF a).length k1 o1.l.length c1 (sortF b).length k2 o2.l.length c2 rfl rfl H2.out.2.2.v16 H5.out.2.2.v16) K5 ?_
      try simp only [Act.put, List.setIfInBounds_toArray, List.set_cons_zero, List.set_cons_succ]
      refine wpAnyH_ready (rs := [8]) (by kernel_rfl) (by simp) ?_
      refine AllReadyH.cons (o := { dst := none, op := _, type := _, pos := _, after := _, guard := _ }) rfl (fun K hK => ?_) AllReadyH.nil
      have hv1 := H2.out.2.2.v16
      have hv2 := H5.out.2.2.v16
      have HVV := Lib.hid (And.intro hv1 hv2)
      clear hv1 hv2
      refine draw_storeB rfl 66 (.tmp 10) (.tmp 22) rfl (W.heap.size) (kk (.slice f1 (sortF a).length k1) (.slice f2 (sortF b).length k2) o1.v o2.v (.slice b1 o1.l.length c1) (.slice b2 o2.l.length c2)) rfl rfl (infoKK _ _ _ _ HVV.out.1 HVV.out.2) (kk_one _ _ _ _ _ _ _ _ _ _ _ _ _ _) ⟨_, HA.out, by rw [kk_size _ _ _ _ HVV.out.1 HVV.out.2]; rfl⟩ ?_
      have hg0 : w.heap.size + 3 ≤ W.heap.size := by have h1 := K0.res; obtain ⟨_, _, h1, _⟩ := h1; have h2 := h1.lt; have h3 := HS2.out; have h4 := HS5.out; simp at h2 h3 h4; omega
      have K8 : (fun U => Hold2 w ac.v (.slice pa ac.l.length ca) bc.v (.slice pb bc.l.length cb) U) ((u5).setRow (W.heap.size) (kk (.slice f1 (sortF a).length k1) (.slice f2 (sortF b).length k2) o1.v o2.v (.slice b1 o1.l.length c1) (.slice b2 o2.l.length c2))) := ⟨K5.row.of_set (by omega) _, K5.row2.of_set (by omega) _, (by obtain ⟨o, so, h1, h2⟩ := K5.res; exact ⟨o, so, h1.of_set (by omega) _, h2⟩), belowRow K5.low (by omega) _⟩
      have hlo2 := HS2.out
      have hlo5 := HS5.out
      have Z := Lib.hid (show JMid w a b ac bc (.slice pa ac.l.length ca) (.slice pb bc.l.length cb) (W.heap.size) o1 o2 f1 f2 b1 b2 k1 k2 c1 c2 ((u5).setRow (W.heap.size) (kk (.slice f1 (sortF a).length k1) (.slice f2 (sortF b).length k2) o1.v o2.v (.slice b1 o1.l.length c1) (.slice b2 o2.l.length c2))) from ⟨HA.out.put _, H2.out.1, H5.out.1, H2.out.2.1.cross (HB5.out) (by first | (left; simp; done) | (left; simp; omega) | (right; exact Nat.le_refl _) | (right; simp; done) | (right; simp; omega) | (right; simp at *; done) | (right; simp at *; omega) | (left; simp at *; omega)) _, H5.out.2.1.cross (Below.refl _ _) (by first | (left; simp; done) | (left; simp; omega) | (right; exact Nat.le_refl _) | (right; simp; done) | (right; simp; omega) | (right; simp at *; done) | (right; simp at *; omega) | (left; simp at *; omega)) _, H2.out.2.2.cross (HB5.out) (by first | (left; simp; done) | (left; simp; omega) | (right; exact Nat.le_refl _) | (right; simp; done) | (right; simp; omega) | (right; simp at *; done) | (right; simp at *; omega) | (left; simp at *; omega)) _, H5.out.2.2.cross (Below.refl _ _) (by first | (left; simp; done) | (left; simp; omega) | (right; exact Nat.le_refl _) | (right; simp; done) | (right; simp; omega) | (right; simp at *; done) | (right; simp at *; omega) | (left; simp at *; omega)) _, K8⟩)
      clear hg0 hlo2 hlo5
      refine hK.out _ _ K8 (fun _ => ?_)
      clear hK K
      try simp only [Act.put, List.setIfInBounds_toArray, List.set_cons_zero, List.set_cons_succ]
      refine wpAnyH_done (by kernel_rfl) ?_ _
      try simp only [Act.put, List.setIfInBounds_toArray, List.set_cons_zero, List.set_cons_succ]
      go_wp2_with fail
      go_meet
      exact ⟨_, o1, o2, f1, f2, b1, b2, k1, k2, c1, c2, rfl, Z.out⟩
  case rest =>
    obtain ⟨gs, o1, o2, f1, f2, b1, b2, k1, k2, c1, c2, rfl, hmid⟩ := hcut
    rename World => W1
    have H1 := Lib.hid hmid
    clear hmid H0
    go_wp2_with fail
    go_loopw [23, 11] (fun i v wr => ∃ k : Nat, k ≤ 2 ∧ i = .int .i64 k ∧ OwnF W1.heap.size v (leftK a b ac bc k) wr ∧ Go.RowKit.Below W1.heap.size W1 wr) (fun i _ _ => 2 - (intOf i).toNat)
    case atStart => exact ⟨0, Nat.zero_le _, rfl, ownF_nil _ _, Below.refl _ _⟩
    case round =>
      obtain ⟨k, hk, rfl, hown, hb⟩ := hrel
      have HB := Lib.hid hb
      have H3 := Lib.hid (H1.out.below hb)
      have H3o := Lib.hid hown
      clear hb
      rcases (show k = 0 ∨ k = 1 ∨ k = 2 by omega) with rfl | rfl | rfl
      · try rw [show ((0 : Nat) : Int) = 0 from rfl]
        have hvO := H1.out.c2.v16
        have hv1 := H1.out.c1.v16
        have hv2 := H1.out.c2.v16
        have HVO := Lib.hid (And.intro hvO (And.intro hv1 hv2))
        have hrngO : wr.rangeAt gs 19 (kcs (.slice f2 (sortF b).length k2) o2.v (.slice b2 o2.l.length c2)).toList := H3.out.blk.range 19 _ (fun j v hv => by
          have h1 : (kcs (.slice f2 (sortF b).length k2) o2.v (.slice b2 o2.l.length c2))[j]? = some v := by simpa using hv
          have h2 := kk_snd (.slice f1 (sortF a).length k1) (.slice f2 (sortF b).length k2) o2.v (.slice b1 o1.l.length c1) (.slice b2 o2.l.length c2) hv1 j v h1
          first | exact h2 | (rw [Nat.zero_add]; exact h2))
        have hcx : wr.cell? ⟨gs, 0, none⟩ = some (.slice f1 (sortF a).length k1) := H3.out.blk.cell (by
          have h2 := kk_fst (.slice f1 (sortF a).length k1) (.slice f2 (sortF b).length k2) o2.v (.slice b1 o1.l.length c1) (.slice b2 o2.l.length c2) hv1 0 _ (kcs_0 (.slice f1 (sortF a).length k1) _ _)
          first | exact h2 | (rw [Nat.add_zero] at h2; exact h2))
        have HRO := Lib.hid hrngO
        clear hvO hv1 hv2 hrngO
        go_upto_region 7 with (first
          | ((with_reducible refine bl_load ?_ 64 (.tmp 28) ?_ gs 19 (kcs (.slice f2 (sortF b).length k2) o2.v (.slice b2 o2.l.length c2)) ?_ ?_ Tryz.underlying64 ?_ ?_ ?_); rfl; rfl; rfl; exact HRO.out; rfl; exact infoK _ _ HVO.out.1; simp only [Act.put, List.setIfInBounds_toArray, List.set_cons_zero, List.set_cons_succ])
          | ((with_reducible refine bl_store ?_ 64 (.tmp 13) (.tmp 29) ?_ wr.heap.size (kcs (.slice f2 (sortF b).length k2) o2.v (.slice b2 o2.l.length c2)) ?_ ?_ ?_ ?_ ?_ ?_); rfl; rfl; rfl; rfl; exact ⟨_, heap_alloc_new wr _, by rw [kcs_size, HVO.out.1]; rfl⟩; exact infoK _ _ HVO.out.1; exact kcs_one _ _ _ _ _ _ _; simp only [Act.put, List.setIfInBounds_toArray, List.set_cons_zero, List.set_cons_succ]))
        change Code.wp _ _ _ _ ((wr.alloc (.cells (kcs nilS zV nilS) 64)).setRow wr.heap.size (kcs (.slice f2 (sortF b).length k2) o2.v (.slice b2 o2.l.length c2)))
        rw [World.setRow_alloc_new]
        have HO6 := Lib.hid (H3o.out.alloc (.cells (kcs (.slice f2 (sortF b).length k2) o2.v (.slice b2 o2.l.length c2)) 64))
        have hb6 : Go.RowKit.Below W1.heap.size W1 (wr.alloc (.cells (kcs (.slice f2 (sortF b).length k2) o2.v (.slice b2 o2.l.length c2)) 64)) := HB.out.alloc HB.out.size _
        have HB6 := Lib.hid hb6
        have HQ6 := Lib.hid (Blk.new wr 64 (kcs (.slice f2 (sortF b).length k2) o2.v (.slice b2 o2.l.length c2)))
        have hc6 : (wr.alloc (.cells (kcs (.slice f2 (sortF b).length k2) o2.v (.slice b2 o2.l.length c2)) 64)).cell? ⟨gs, 0, none⟩ = some (.slice f1 (sortF a).length k1) := by rw [(lowA wr _).cell (p := ⟨gs, 0, none⟩) H3.out.blk.lt]; exact hcx
        clear hb6 hcx HRO
        generalize wr.alloc (.cells (kcs (.slice f2 (sortF b).length k2) o2.v (.slice b2 o2.l.length c2)) 64) = W6 at *
        generalize wr.heap.size = ob at *
        go_wp2_with fail
        go_loopw [35, 11] (fun j v wk => ∃ q : Nat, q ≤ (sortF a).length ∧ j = .int .i64 q ∧ OwnF W1.heap.size v (leftK a b ac bc 0 ++ ((sortF a).take q).filter (leavesK (sortF b) bc)) wk ∧ Go.RowKit.Below W1.heap.size W1 wk ∧ Blk wk ob 64 (kcs (.slice f2 (sortF b).length k2) o2.v (.slice b2 o2.l.length c2))) (fun j _ _ => (sortF a).length - (intOf j).toNat)
        case atStart => exact ⟨0, Nat.zero_le _, rfl, by rw [List.take_zero, List.filter_nil, List.append_nil]; exact HO6.out, HB6.out, HQ6.out⟩
        case round =>
          rename World => wk
          obtain ⟨q, hq, rfl, howk, hbk, hok⟩ := hrel
          have HBK := Lib.hid hbk
          have HOK := Lib.hid hok
          have HOW := Lib.hid howk
          have hsk := hbk.size
          clear hbk hok
          by_cases hlt2 : q < (sortF a).length
          · obtain ⟨f, hf⟩ : ∃ f, (sortF a)[q]? = some f := ⟨_, List.getElem?_eq_getElem hlt2⟩
            obtain ⟨fb', off, hfe, hbl, p0⟩ := (H1.out.in1.below HBK.out).at hf
            have hqi : (q : Int) < ((sortF a).length : Int) := by omega
            have CL := Lib.hid p0
            have HFT := Lib.hid (filter_take (leavesK (sortF b) bc) (sortF a) q f hf)
            have HLE := Lib.hid (fun W hh1 hh2 => leavesC H1.out.cl2 (sortF b) f2 k2 b2 c2 f W hh1 (by omega) (riseF_sortF _) hh2)
            have hbz := boxZ_below wk f
            have HZ := Lib.hid (And.intro (boxZ_row wk f) hbz)
            clear p0 hf hbz
            subst hfe
            go_upto_region 10 with (first
              | ((with_reducible refine fl_load ?_ (.tmp 37) ?_ fb' (off + q * 8) f ?_ ?_ ?_); rfl; rfl; rfl; exact CL.out; simp only [Act.put, List.setIfInBounds_toArray, List.set_cons_zero, List.set_cons_succ])
              | ((with_reducible refine fl_store ?_ (.tmp 15) (.tmp 38) ?_ wk.heap.size f ?_ ?_ ?_ ?_); rfl; rfl; rfl; rfl; exact boxZ_old wk; simp only [Act.put, List.setIfInBounds_toArray, List.set_cons_zero, List.set_cons_succ]))
            change Code.wp _ _ _ _ (boxZ wk f)
            have HBZ := Lib.hid (HBK.out.trans (HZ.out.2.mono hsk))
            have HOZ := Lib.hid (HOK.out.keep HZ.out.2)
            go_wp2_with (first
              | ((with_reducible refine bl_load ?_ 64 (.tmp 13) ?_ ob 0 (kcs (.slice f2 (sortF b).length k2) o2.v (.slice b2 o2.l.length c2)) ?_ ?_ Tryz.underlying64 ?_ ?_ ?_); rfl; rfl; rfl; exact HOZ.out.all; rfl; exact infoK _ _ HVO.out.1; simp only [Act.put, List.setIfInBounds_toArray, List.set_cons_zero, List.set_cons_succ])
              | ((with_reducible refine fl_load ?_ (.tmp 15) ?_ wk.heap.size 0 f ?_ ?_ ?_); rfl; rfl; rfl; exact HZ.out.1.range; simp only [Act.put, List.setIfInBounds_toArray, List.set_cons_zero, List.set_cons_succ]))
            refine (HLE.out (boxZ wk f) (H1.out.in2.below HBZ.out) (H1.out.c2.below HBZ.out)).mono ?_
            rintro e w7 ⟨rfl, hb7⟩
            have HB7 := Lib.hid (HBZ.out.trans (hb7.mono HBZ.out.size))
            have H7 := Lib.hid (And.intro (HOZ.out.keep hb7) (And.intro (HZ.out.1.keep hb7) (HOW.out.below (HZ.out.2.trans (hb7.mono HZ.out.2.size)) (Nat.le_refl _))))
            have hs7 : W1.heap.size ≤ w7.heap.size := HB7.out.size
            have HFF := Lib.hid HFT.out
            clear hb7 HLE HOZ HBZ HZ HOK HBK HOW howk CL hbl HFT hsk
            generalize leavesK (sortF b) bc f = u at *
            cases u with
            | false =>
              go_wp2_with fail
              go_roundw
              case rel => exact ⟨q + 1, by omega, by go_num, by rw [HFF.out, if_neg (by simp), List.append_nil]; exact H7.out.2.2, HB7.out, H7.out.1⟩
              case measure => simp [intOf]; omega
            | true =>
              have hone := fin_new w7 f
              have hln : (leftK a b ac bc 0 ++ ((sortF a).take q).filter (leavesK (sortF b) bc)).length ≤ 60000 := by
                have h1 := List.length_filter_le (leavesK (sortF b) bc) ((sortF a).take q)
                have h2 : (leftK a b ac bc 0).length ≤ 20000 := by first | exact Nat.zero_le _ | (refine Nat.le_trans (List.length_filter_le _ _) ?_; omega)
                rw [List.length_take] at h1
                rw [List.length_append]
                omega
              generalize hG : leftK a b ac bc 0 ++ ((sortF a).take q).filter (leavesK (sortF b) bc) = G at *
              have HG := Lib.hid hG
              obtain ⟨q2, d2, w8, hr8, ho8, hb8, hg8⟩ := appF3 (c := 1) (H7.out.2.2.alloc (.cells (fcs f).toArray 61)) hone (by simp; omega) (G.length + 1) (by simp) (by omega)
              have hr8' : ∃ v, v = u11 ∧ (Builtin.append_ #[22, 22] 22 #[v, .slice (some ⟨w7.heap.size, 0, none⟩) 1 1]).run Tryz.prog (w7.alloc (.cells (fcs f).toArray 61)) = .ok (.slice q2 (G.length + 1) d2) w8 := ⟨_, rfl, hr8⟩
              have hb8' : Go.RowKit.Below W1.heap.size W1 w8 := (HB7.out.alloc hs7 _).trans hb8
              have hrel2 : OwnF W1.heap.size (.slice q2 (G.length + 1) d2) (leftK a b ac bc 0 ++ ((sortF a).take (q + 1)).filter (leavesK (sortF b) bc)) w8 := by
                rw [HFF.out, if_pos rfl, ← List.append_assoc, HG.out]; exact ho8
              have hok8 := (H7.out.1.alloc (.cells (fcs f).toArray 61)).grown hg8 ((H7.out.2.2.alloc (.cells (fcs f).toArray 61)).notype (H7.out.1.alloc (.cells (fcs f).toArray 61)) (by decide))
              have HR8 := Lib.hid hr8
              have HX8 := Lib.hid (And.intro hrel2 (And.intro hb8' hok8))
              clear hr8 hr8' ho8 hb8 hg8 hb8' hrel2 hok8 hone hG
              go_wp2_with (first
                | ((with_reducible refine fl_load ?_ (.tmp 15) ?_ wk.heap.size 0 f ?_ ?_ ?_); rfl; rfl; rfl; exact H7.out.2.1.range; simp only [Act.put, List.setIfInBounds_toArray, List.set_cons_zero, List.set_cons_succ])
                | ((with_reducible refine wpList_build1F ?_ (.tmp 43) ?_ f ?_ ?_); rfl; rfl; rfl; simp only [Act.put, List.setIfInBounds_toArray, List.set_cons_zero, List.set_cons_succ])
                | (at_builtin; refine wpList_append_run rfl _ _ 22 22 rfl _ (.slice (some ⟨w7.heap.size, 0, none⟩) 1 1) _ w8 rfl rfl HR8.out ?_))
              go_roundw
              case rel => exact ⟨q + 1, by omega, by go_num, HX8.out.1, HX8.out.2.1, HX8.out.2.2⟩
              case measure => simp [intOf]; omega
          · have hqe : q = (sortF a).length := by omega
            have hqi : ¬ (q : Int) < ((sortF a).length : Int) := by omega
            have HFIN := Lib.hid (show OwnF W1.heap.size u11 (leftK a b ac bc 1) wk from by
              have h := HOW.out
              rw [hqe, List.take_length] at h
              exact h)
            clear HOW howk hqe HOK
            go_wp2_with fail
            go_roundw
            case rel => exact ⟨1, by omega, by go_num, HFIN.out, HBK.out⟩
            case measure => simp [intOf]
      · try rw [show ((1 : Nat) : Int) = 1 from rfl]
        have hvO := H1.out.c1.v16
        have hv1 := H1.out.c1.v16
        have hv2 := H1.out.c2.v16
        have HVO := Lib.hid (And.intro hvO (And.intro hv1 hv2))
        have hrngO : wr.rangeAt gs 0 (kcs (.slice f1 (sortF a).length k1) o1.v (.slice b1 o1.l.length c1)).toList := H3.out.blk.range 0 _ (fun j v hv => by
          have h1 : (kcs (.slice f1 (sortF a).length k1) o1.v (.slice b1 o1.l.length c1))[j]? = some v := by simpa using hv
          have h2 := kk_fst (.slice f1 (sortF a).length k1) (.slice f2 (sortF b).length k2) o2.v (.slice b1 o1.l.length c1) (.slice b2 o2.l.length c2) hv1 j v h1
          first | exact h2 | (rw [Nat.zero_add]; exact h2))
        have hcx : wr.cell? ⟨gs, 19, none⟩ = some (.slice f2 (sortF b).length k2) := H3.out.blk.cell (by
          have h2 := kk_snd (.slice f1 (sortF a).length k1) (.slice f2 (sortF b).length k2) o2.v (.slice b1 o1.l.length c1) (.slice b2 o2.l.length c2) hv1 0 _ (kcs_0 (.slice f2 (sortF b).length k2) _ _)
          first | exact h2 | (rw [Nat.add_zero] at h2; exact h2))
        have HRO := Lib.hid hrngO
        clear hvO hv1 hv2 hrngO
        go_upto_region 7 with (first
          | ((with_reducible refine bl_load ?_ 64 (.tmp 28) ?_ gs 0 (kcs (.slice f1 (sortF a).length k1) o1.v (.slice b1 o1.l.length c1)) ?_ ?_ Tryz.underlying64 ?_ ?_ ?_); rfl; rfl; rfl; exact HRO.out; rfl; exact infoK _ _ HVO.out.1; simp only [Act.put, List.setIfInBounds_toArray, List.set_cons_zero, List.set_cons_succ])
          | ((with_reducible refine bl_store ?_ 64 (.tmp 13) (.tmp 29) ?_ wr.heap.size (kcs (.slice f1 (sortF a).length k1) o1.v (.slice b1 o1.l.length c1)) ?_ ?_ ?_ ?_ ?_ ?_); rfl; rfl; rfl; rfl; exact ⟨_, heap_alloc_new wr _, by rw [kcs_size, HVO.out.1]; rfl⟩; exact infoK _ _ HVO.out.1; exact kcs_one _ _ _ _ _ _ _; simp only [Act.put, List.setIfInBounds_toArray, List.set_cons_zero, List.set_cons_succ]))
        change Code.wp _ _ _ _ ((wr.alloc (.cells (kcs nilS zV nilS) 64)).setRow wr.heap.size (kcs (.slice f1 (sortF a).length k1) o1.v (.slice b1 o1.l.length c1)))
        rw [World.setRow_alloc_new]
        have HO6 := Lib.hid (H3o.out.alloc (.cells (kcs (.slice f1 (sortF a).length k1) o1.v (.slice b1 o1.l.length c1)) 64))
        have hb6 : Go.RowKit.Below W1.heap.size W1 (wr.alloc (.cells (kcs (.slice f1 (sortF a).length k1) o1.v (.slice b1 o1.l.length c1)) 64)) := HB.out.alloc HB.out.size _
        have HB6 := Lib.hid hb6
        have HQ6 := Lib.hid (Blk.new wr 64 (kcs (.slice f1 (sortF a).length k1) o1.v (.slice b1 o1.l.length c1)))
        have hc6 : (wr.alloc (.cells (kcs (.slice f1 (sortF a).length k1) o1.v (.slice b1 o1.l.length c1)) 64)).cell? ⟨gs, 19, none⟩ = some (.slice f2 (sortF b).length k2) := by rw [(lowA wr _).cell (p := ⟨gs, 19, none⟩) H3.out.blk.lt]; exact hcx
        clear hb6 hcx HRO
        generalize wr.alloc (.cells (kcs (.slice f1 (sortF a).length k1) o1.v (.slice b1 o1.l.length c1)) 64) = W6 at *
        generalize wr.heap.size = ob at *
        go_wp2_with fail
        go_loopw [35, 11] (fun j v wk => ∃ q : Nat, q ≤ (sortF b).length ∧ j = .int .i64 q ∧ OwnF W1.heap.size v (leftK a b ac bc 1 ++ ((sortF b).take q).filter (leavesK (sortF a) ac)) wk ∧ Go.RowKit.Below W1.heap.size W1 wk ∧ Blk wk ob 64 (kcs (.slice f1 (sortF a).length k1) o1.v (.slice b1 o1.l.length c1))) (fun j _ _ => (sortF b).length - (intOf j).toNat)
        case atStart => exact ⟨0, Nat.zero_le _, rfl, by rw [List.take_zero, List.filter_nil, List.append_nil]; exact HO6.out, HB6.out, HQ6.out⟩
        case round =>
          rename World => wk
          obtain ⟨q, hq, rfl, howk, hbk, hok⟩ := hrel
          have HBK := Lib.hid hbk
          have HOK := Lib.hid hok
          have HOW := Lib.hid howk
          have hsk := hbk.size
          clear hbk hok
          by_cases hlt2 : q < (sortF b).length
          · obtain ⟨f, hf⟩ : ∃ f, (sortF b)[q]? = some f := ⟨_, List.getElem?_eq_getElem hlt2⟩
            obtain ⟨fb', off, hfe, hbl, p0⟩ := (H1.out.in2.below HBK.out).at hf
            have hqi : (q : Int) < ((sortF b).length : Int) := by omega
            have CL := Lib.hid p0
            have HFT := Lib.hid (filter_take (leavesK (sortF a) ac) (sortF b) q f hf)
            have HLE := Lib.hid (fun W hh1 hh2 => leavesC H1.out.cl1 (sortF a) f1 k1 b1 c1 f W hh1 (by omega) (riseF_sortF _) hh2)
            have hbz := boxZ_below wk f
            have HZ := Lib.hid (And.intro (boxZ_row wk f) hbz)
            clear p0 hf hbz
            subst hfe
            go_upto_region 10 with (first
              | ((with_reducible refine fl_load ?_ (.tmp 37) ?_ fb' (off + q * 8) f ?_ ?_ ?_); rfl; rfl; rfl; exact CL.out; simp only [Act.put, List.setIfInBounds_toArray, List.set_cons_zero, List.set_cons_succ])
              | ((with_reducible refine fl_store ?_ (.tmp 15) (.tmp 38) ?_ wk.heap.size f ?_ ?_ ?_ ?_); rfl; rfl; rfl; rfl; exact boxZ_old wk; simp only [Act.put, List.setIfInBounds_toArray, List.set_cons_zero, List.set_cons_succ]))
            change Code.wp _ _ _ _ (boxZ wk f)
            have HBZ := Lib.hid (HBK.out.trans (HZ.out.2.mono hsk))
            have HOZ := Lib.hid (HOK.out.keep HZ.out.2)
            go_wp2_with (first
              | ((with_reducible refine bl_load ?_ 64 (.tmp 13) ?_ ob 0 (kcs (.slice f1 (sortF a).length k1) o1.v (.slice b1 o1.l.length c1)) ?_ ?_ Tryz.underlying64 ?_ ?_ ?_); rfl; rfl; rfl; exact HOZ.out.all; rfl; exact infoK _ _ HVO.out.1; simp only [Act.put, List.setIfInBounds_toArray, List.set_cons_zero, List.set_cons_succ])
              | ((with_reducible refine fl_load ?_ (.tmp 15) ?_ wk.heap.size 0 f ?_ ?_ ?_); rfl; rfl; rfl; exact HZ.out.1.range; simp only [Act.put, List.setIfInBounds_toArray, List.set_cons_zero, List.set_cons_succ]))
            refine (HLE.out (boxZ wk f) (H1.out.in1.below HBZ.out) (H1.out.c1.below HBZ.out)).mono ?_
            rintro e w7 ⟨rfl, hb7⟩
            have HB7 := Lib.hid (HBZ.out.trans (hb7.mono HBZ.out.size))
            have H7 := Lib.hid (And.intro (HOZ.out.keep hb7) (And.intro (HZ.out.1.keep hb7) (HOW.out.below (HZ.out.2.trans (hb7.mono HZ.out.2.size)) (Nat.le_refl _))))
            have hs7 : W1.heap.size ≤ w7.heap.size := HB7.out.size
            have HFF := Lib.hid HFT.out
            clear hb7 HLE HOZ HBZ HZ HOK HBK HOW howk CL hbl HFT hsk
            generalize leavesK (sortF a) ac f = u at *
            cases u with
            | false =>
              go_wp2_with fail
              go_roundw
              case rel => exact ⟨q + 1, by omega, by go_num, by rw [HFF.out, if_neg (by simp), List.append_nil]; exact H7.out.2.2, HB7.out, H7.out.1⟩
              case measure => simp [intOf]; omega
            | true =>
              have hone := fin_new w7 f
              have hln : (leftK a b ac bc 1 ++ ((sortF b).take q).filter (leavesK (sortF a) ac)).length ≤ 60000 := by
                have h1 := List.length_filter_le (leavesK (sortF a) ac) ((sortF b).take q)
                have h2 : (leftK a b ac bc 1).length ≤ 20000 := by first | exact Nat.zero_le _ | (refine Nat.le_trans (List.length_filter_le _ _) ?_; omega)
                rw [List.length_take] at h1
                rw [List.length_append]
                omega
              generalize hG : leftK a b ac bc 1 ++ ((sortF b).take q).filter (leavesK (sortF a) ac) = G at *
              have HG := Lib.hid hG
              obtain ⟨q2, d2, w8, hr8, ho8, hb8, hg8⟩ := appF3 (c := 1) (H7.out.2.2.alloc (.cells (fcs f).toArray 61)) hone (by simp; omega) (G.length + 1) (by simp) (by omega)
              have hr8' : ∃ v, v = u11 ∧ (Builtin.append_ #[22, 22] 22 #[v, .slice (some ⟨w7.heap.size, 0, none⟩) 1 1]).run Tryz.prog (w7.alloc (.cells (fcs f).toArray 61)) = .ok (.slice q2 (G.length + 1) d2) w8 := ⟨_, rfl, hr8⟩
              have hb8' : Go.RowKit.Below W1.heap.size W1 w8 := (HB7.out.alloc hs7 _).trans hb8
              have hrel2 : OwnF W1.heap.size (.slice q2 (G.length + 1) d2) (leftK a b ac bc 1 ++ ((sortF b).take (q + 1)).filter (leavesK (sortF a) ac)) w8 := by
                rw [HFF.out, if_pos rfl, ← List.append_assoc, HG.out]; exact ho8
              have hok8 := (H7.out.1.alloc (.cells (fcs f).toArray 61)).grown hg8 ((H7.out.2.2.alloc (.cells (fcs f).toArray 61)).notype (H7.out.1.alloc (.cells (fcs f).toArray 61)) (by decide))
              have HR8 := Lib.hid hr8
              have HX8 := Lib.hid (And.intro hrel2 (And.intro hb8' hok8))
              clear hr8 hr8' ho8 hb8 hg8 hb8' hrel2 hok8 hone hG
              go_wp2_with (first
                | ((with_reducible refine fl_load ?_ (.tmp 15) ?_ wk.heap.size 0 f ?_ ?_ ?_); rfl; rfl; rfl; exact H7.out.2.1.range; simp only [Act.put, List.setIfInBounds_toArray, List.set_cons_zero, List.set_cons_succ])
                | ((with_reducible refine wpList_build1F ?_ (.tmp 43) ?_ f ?_ ?_); rfl; rfl; rfl; simp only [Act.put, List.setIfInBounds_toArray, List.set_cons_zero, List.set_cons_succ])
                | (at_builtin; refine wpList_append_run rfl _ _ 22 22 rfl _ (.slice (some ⟨w7.heap.size, 0, none⟩) 1 1) _ w8 rfl rfl HR8.out ?_))
              go_roundw
              case rel => exact ⟨q + 1, by omega, by go_num, HX8.out.1, HX8.out.2.1, HX8.out.2.2⟩
              case measure => simp [intOf]; omega
          · have hqe : q = (sortF b).length := by omega
            have hqi : ¬ (q : Int) < ((sortF b).length : Int) := by omega
            have HFIN := Lib.hid (show OwnF W1.heap.size u11 (leftK a b ac bc 2) wk from by
              have h := HOW.out
              rw [hqe, List.take_length] at h
              exact h)
            clear HOW howk hqe HOK
            go_wp2_with fail
            go_roundw
            case rel => exact ⟨2, by omega, by go_num, HFIN.out, HBK.out⟩
            case measure => simp [intOf]
      · try rw [show ((2 : Nat) : Int) = 2 from rfl]
        have hsz : w.heap.size + 3 ≤ W1.heap.size := by have h1 := H1.out.hold.res; obtain ⟨_, _, h1, _⟩ := h1; have := h1.lt; omega
        obtain ⟨la, lk, rfl, hlf, hlm⟩ := hown.from
        have HO := Lib.hid hlf.fin
        have HR := Lib.hid (And.intro hsz HB.out.size)
        clear hown hlf hlm H3o hsz
        have hJl : joinK a ac b bc = sortF (leftK a b ac bc 2) := HLJ.out.symm
        have HJL := Lib.hid hJl
        clear hJl HLJ
        generalize leftK a b ac bc 2 = L at *
        go_upto_region 14 with fail
        refine wp_region_held (S := fun U => Hold2 w ac.v (.slice pa ac.l.length ca) bc.v (.slice pb bc.l.length cb) U) (by kernel_rfl) ?_
        change wpAnyH _ _ _ _ _ _ _ _ wr.drew
        have K0 : (fun U => Hold2 w ac.v (.slice pa ac.l.length ca) bc.v (.slice pb bc.l.length cb) U) wr.drew := H3.out.hold.below (Below.refl _ _).drew
        refine wpAnyH_take (i := 0) (oi := { dst := some 48, op := _, type := _, pos := _, after := _, guard := _ }) (v := ?v8) rfl (by kernel_rfl) (by kernel_rfl) (by kernel_rfl) (fun _ _ _ h => h) (Or.inl ⟨by rfl, ?hy8⟩) K0 ?rest8
        case hy8 => (intro w hSw; (try dsimp only at hSw); first | (go_simp; done) | (go_simp; with_reducible rfl))
        try simp only [Act.put, List.setIfInBounds_toArray, List.set_cons_zero, List.set_cons_succ]
        refine wpAnyH_take (i := 2) (oi := { dst := some 50, op := _, type := _, pos := _, after := _, guard := _ }) rfl (by kernel_rfl) (by kernel_rfl) (by kernel_rfl) (fun _ _ _ h => h) (yield_C (by rfl) (.tmp 5) rfl w.heap.size ac.v (.slice pa ac.l.length ca) rfl (fun U hU => hU.row) HV.out) K0 ?_
        try simp only [Act.put, List.setIfInBounds_toArray, List.set_cons_zero, List.set_cons_succ]
        refine wpAnyH_take (i := 3) (oi := { dst := some 51, op := _, type := _, pos := _, after := _, guard := _ }) rfl (by kernel_rfl) (by kernel_rfl) (by kernel_rfl) (fun _ _ _ h => h) (yield_C (by rfl) (.tmp 7) rfl (w.heap.size + 1) bc.v (.slice pb bc.l.length cb) rfl (fun U hU => hU.row2) HV2.out) K0 ?_
        try simp only [Act.put, List.setIfInBounds_toArray, List.set_cons_zero, List.set_cons_succ]
        refine wpAnyH_ready (rs := [1]) (by kernel_rfl) (by simp) ?_
        refine AllReadyH.cons (o := { dst := some 49, op := _, type := _, pos := _, after := _, guard := _ }) rfl (fun K hK => ?_) AllReadyH.nil
        go_simp
        refine (sortFCn L la lk wr.drew HO.out (by have := HLL.out; omega)).mono ?_
        rintro e u1 ⟨ra, rk, rfl, hff, hb⟩
        have K1 := K0.below hb
        have HF1 := Lib.hid hff
        have HS1 := Lib.hid hb.size
        clear hff hb
        refine hK.out _ _ K1 (fun _ => ?_)
        clear hK K
        try simp only [Act.put, List.setIfInBounds_toArray, List.set_cons_zero, List.set_cons_succ]
        refine wpAnyH_ready (rs := [4]) (by kernel_rfl) (by simp) ?_
        refine AllReadyH.cons (o := { dst := some 52, op := _, type := _, pos := _, after := _, guard := _ }) rfl (fun K hK => ?_) AllReadyH.nil
        go_simp
        refine (joinCC ac bc pa pb ca cb _ (HI.out.1.2.below K1.low) (HI.out.2.2.below K1.low) hl).mono ?_
        rintro e u4 ⟨⟨o, oa, oc, rfl, hjo, hmd, hol⟩, hb⟩
        have K4 := K1.below hb
        have HF4 := Lib.hid (And.intro hjo (And.intro hmd hol))
        have HB4 := Lib.hid hb
        clear hjo hmd hol hb
        refine hK.out _ _ K4 (fun _ => ?_)
        clear hK K
        try simp only [Act.put, List.setIfInBounds_toArray, List.set_cons_zero, List.set_cons_succ]
        refine wpAnyH_take (i := 5) (oi := { dst := some 8, op := _, type := _, pos := _, after := _, guard := _ }) (v := ?v11) rfl (by kernel_rfl) (by kernel_rfl) (by kernel_rfl) (fun _ _ _ h => h) (Or.inl ⟨by rfl, ?hy11⟩) K4 ?rest11
        case hy11 => (intro w hSw; (try dsimp only at hSw); first | (go_simp; done) | (go_simp; with_reducible rfl))
        try simp only [Act.put, List.setIfInBounds_toArray, List.set_cons_zero, List.set_cons_succ]
        refine wpAnyH_ready (rs := [6]) (by kernel_rfl) (by simp) ?_
        refine AllReadyH.cons (o := { dst := none, op := _, type := _, pos := _, after := _, guard := _ }) rfl (fun K hK => ?_) AllReadyH.nil
        refine draw_storeC rfl (.tmp 9) (.tmp 52) rfl (w.heap.size + 2) rfl o.v oa o.l.length oc rfl HF4.out.2.1.v16 K4.res ?_
        have K6 := (K4.put (x := o.v) (t := .slice oa o.l.length oc) HF4.out.2.1.v16).1
        have HRR := Lib.hid (K4.put (x := o.v) (t := .slice oa o.l.length oc) HF4.out.2.1.v16).2
        refine hK.out _ _ K6 (fun _ => ?_)
        clear hK K
        try simp only [Act.put, List.setIfInBounds_toArray, List.set_cons_zero, List.set_cons_succ]
        refine wpAnyH_done (by kernel_rfl) ?_ _
        try simp only [Act.put, List.setIfInBounds_toArray, List.set_cons_zero, List.set_cons_succ]
        have HZ := Lib.hid K6.low
        have HF9 := Lib.hid (And.intro (HF1.out.below HB4.out) HF4.out.2.1)
        have hz := HZ.out
        clear K0 K1 K4 K6
        go_wp2_with fail
        refine bodyPost_ret (retxC rfl _ _ (w.heap.size + 2) o.v (.slice oa o.l.length oc) _ rfl rfl HRR.out HF4.out.2.1.v16) rfl ⟨⟨o, ra, oa, rk, oc, by rw [HJL.out]; rfl, HF4.out.1, ?_, ?_, HF4.out.2.2⟩, HZ.out⟩
        · rw [HJL.out]
          exact (HF9.out.1.setRow (show w.heap.size + 2 < wr.drew.heap.size by have h := HR.out; show _ < wr.heap.size; omega) _).mono (show w.heap.size ≤ wr.drew.heap.size by have h := HR.out; show _ ≤ wr.heap.size; omega)
        · exact (HF9.out.2.setRow (show w.heap.size + 2 < u1.heap.size by have h := HR.out; have h2 : wr.heap.size ≤ u1.heap.size := HS1.out; omega) _).mono (show w.heap.size ≤ u1.heap.size by have h := HR.out; have h2 : wr.heap.size ≤ u1.heap.size := HS1.out; omega)
end Go.Proofs.YtcedliaeipabnaaGreat
