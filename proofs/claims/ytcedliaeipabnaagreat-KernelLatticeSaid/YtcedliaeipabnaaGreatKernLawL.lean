/-
  almonrylaw16: the walk of KernelLattice.
-/
import Derived.Test.YtcedliaeipabnaaGreatKernLawJ
import Derived.Test.YtcedliaeipabnaaGreatKernSts
namespace Go.Proofs.YtcedliaeipabnaaGreat
set_option linter.unusedSimpArgs false
set_option linter.unusedVariables false
set_option maxRecDepth 100000
open Go.RowKit Go.Sort

structure HJ3 (w : World) (A B C : Array Value) (U : World) : Prop where
  ra : Blk U w.heap.size 29 A
  rb : Blk U (w.heap.size + 1) 29 B
  rc : Blk U (w.heap.size + 2) 29 C
  low : Go.RowKit.Below w.heap.size w U
theorem HJ3.below {w U U' : World} {A B C : Array Value} (h : HJ3 w A B C U) (hb : Go.RowKit.Below U.heap.size U U') : HJ3 w A B C U' := ⟨h.ra.keep hb, h.rb.keep hb, h.rc.keep hb, h.low.trans (hb.mono h.low.size)⟩
theorem WL.start {W : World} {x y z : List Ft} {cx cy cz : Cx} {r1 r2 r3 : WR} {U : World} (hb : Go.RowKit.Below W.heap.size W U) : WL W x y z cx cy cz ⟨false, false, false, none, none, none, r1, r2, r3⟩ U :=
  ⟨hb, fun k => (nomatch k), fun k => (nomatch k), fun g hg => (by rcases hg with hg | hg | hg <;> exact nomatch hg), fun g h k => (nomatch k), fun g h k => (nomatch k), fun g h k => (nomatch k), fun k => (nomatch k), fun k => (nomatch k), fun k => (nomatch k)⟩
structure SM (w : World) (X Y Z : List Ft) (g7 g8 g9 : Nat) (fa1 fa2 fa3 : Option Addr) (fk1 fk2 fk3 : Nat) (o1 o2 o3 : Cx) (qa1 qa2 qa3 : Option Addr) (qk1 qk2 qk3 : Nat) (U : World) : Prop where
  low : Go.RowKit.Below w.heap.size w U
  b7 : Blk U g7 29 (sdc X fa1 fk1 o1 qa1 qk1)
  b8 : Blk U g8 29 (sdc Y fa2 fk2 o2 qa2 qk2)
  b9 : Blk U g9 29 (sdc Z fa3 fk3 o3 qa3 qk3)
  f1 : FIn U fa1 X
  f2 : FIn U fa2 Y
  f3 : FIn U fa3 Z
  n1 : CIn U o1 qa1
  n2 : CIn U o2 qa2
  n3 : CIn U o3 qa3
theorem SM.below {w : World} {X Y Z : List Ft} {g7 g8 g9 : Nat} {fa1 fa2 fa3 : Option Addr} {fk1 fk2 fk3 : Nat} {o1 o2 o3 : Cx} {qa1 qa2 qa3 : Option Addr} {qk1 qk2 qk3 : Nat} {U U' : World} (h : SM w X Y Z g7 g8 g9 fa1 fa2 fa3 fk1 fk2 fk3 o1 o2 o3 qa1 qa2 qa3 qk1 qk2 qk3 U) (hb : Go.RowKit.Below U.heap.size U U') : SM w X Y Z g7 g8 g9 fa1 fa2 fa3 fk1 fk2 fk3 o1 o2 o3 qa1 qa2 qa3 qk1 qk2 qk3 U' :=
  ⟨h.low.trans (hb.mono h.low.size), h.b7.keep hb, h.b8.keep hb, h.b9.keep hb, h.f1.below hb, h.f2.below hb, h.f3.below hb, h.n1.below hb, h.n2.below hb, h.n3.below hb⟩
theorem joinX (a b : List Ft) (fa fb : Option Addr) (ka kb : Nat) (ac bc : Cx) (pa pb : Option Addr) (ca cb : Nat) (J : List Ft) (w : World) (hJ : J = joinK a ac b bc) (ha : FIn w fa a) (hb : FIn w fb b) (hla : a.length ≤ 20000) (hlb : b.length ≤ 20000) (hac : CIn w ac pa) (hbc : CIn w bc pb) (hl : ac.l.length + bc.l.length ≤ 32768) :
    Calls Tryz.prog 8 #[.slice fa a.length ka, .agg (ccs ac.v (.slice pa ac.l.length ca)), .slice fb b.length kb, .agg (ccs bc.v (.slice pb bc.l.length cb))] w fun e w' => (∃ (o : Cx) (la pa : Option Addr) (lk pk : Nat), e = .returned (.tuple #[.slice la J.length lk, .agg (ccs o.v (.slice pa o.l.length pk))]) ∧ JoinOf ac bc o ∧ FFrom w' w.heap.size la J ∧ Made w.heap.size w' o pa ∧ o.l.length ≤ ac.l.length + bc.l.length) ∧ Go.RowKit.Below w.heap.size w w' := by
  subst hJ
  exact joinKC a b fa fb ka kb ac bc pa pb ca cb w ha hb hla hlb hac hbc hl

set_option maxHeartbeats 16000000 in
theorem klat_row (x : List Ft) (xa : Option Addr) (xk : Nat) (xc : Cx) (xp : Option Addr) (xq : Nat) (y : List Ft) (ya : Option Addr) (yk : Nat) (yc : Cx) (yp : Option Addr) (yq : Nat) (z : List Ft) (za : Option Addr) (zk : Nat) (zc : Cx) (zp : Option Addr) (zq : Nat) (w : World) (hx : SideArg w x xa xc xp) (hy : SideArg w y ya yc yp) (hz : SideArg w z za zc zp) :
    Calls Tryz.prog 4 #[.agg (sdc x xa xk xc xp xq), .agg (sdc y ya yk yc yp yq), .agg (sdc z za zk zc zp zq)] w fun e w' => e = .returned (.bool true) ∧ Go.RowKit.Below w.heap.size w w' := by
  have e1 : (w.alloc (.cells (sdc x xa xk xc xp xq) 29)).heap.size = w.heap.size + 1 := World.size_alloc _ _
  have e2 : ((w.alloc (.cells (sdc x xa xk xc xp xq) 29)).alloc (.cells (sdc y ya yk yc yp yq) 29)).heap.size = w.heap.size + 2 := by rw [World.size_alloc, e1]
  have h1 := Blk.new (w.alloc (.cells (sdc x xa xk xc xp xq) 29)) 29 (sdc y ya yk yc yp yq)
  rw [e1] at h1
  have h2 := Blk.new ((w.alloc (.cells (sdc x xa xk xc xp xq) 29)).alloc (.cells (sdc y ya yk yc yp yq) 29)) 29 (sdc z za zk zc zp zq)
  rw [e2] at h2
  have hlow : Go.RowKit.Below w.heap.size w (((w.alloc (.cells (sdc x xa xk xc xp xq) 29)).alloc (.cells (sdc y ya yk yc yp yq) 29)).alloc (.cells (sdc z za zk zc zp zq) 29)) := ((lowA w _).alloc (by rw [e1]; omega) _).alloc (by rw [e2]; omega) _
  have H0 : Hid (HJ3 w (sdc x xa xk xc xp xq) (sdc y ya yk yc yp yq) (sdc z za zk zc zp zq) (((w.alloc (.cells (sdc x xa xk xc xp xq) 29)).alloc (.cells (sdc y ya yk yc yp yq) 29)).alloc (.cells (sdc z za zk zc zp zq) 29))) := Lib.hid ⟨((Blk.new w 29 (sdc x xa xk xc xp xq)).alloc _).alloc _, h1.alloc _, h2, hlow⟩
  have HVx := Lib.hid hx.ctx.v16
  have HVy := Lib.hid hy.ctx.v16
  have HVz := Lib.hid hz.ctx.v16
  have HI := Lib.hid (And.intro hx (And.intro hy hz))
  have HFx := Lib.hid (fun W hh => fewSC x xa xk xc xp xq W hh)
  have HFy := Lib.hid (fun W hh => fewSC y ya yk yc yp yq W hh)
  have HFz := Lib.hid (fun W hh => fewSC z za zk zc zp zq W hh)
  clear e1 e2 h1 h2 hlow hx hy hz
  go_enter Tryz.func4, Tryz.ntmps4
  go_upto_region 1 with fail
  generalize (((w.alloc (.cells (sdc x xa xk xc xp xq) 29)).alloc (.cells (sdc y ya yk yc yp yq) 29)).alloc (.cells (sdc z za zk zc zp zq) 29)) = W at *
  go_wp2_with (((with_reducible refine bl_load ?_ 29 (.tmp 3) ?_ (w.heap.size) 0 (sdc x xa xk xc xp xq) ?_ ?_ Tryz.underlying29 ?_ ?_ ?_); rfl; rfl; rfl; exact H0.out.ra.all; rfl; exact infoSd HVx.out; simp only [Act.put, List.setIfInBounds_toArray, List.set_cons_zero, List.set_cons_succ]))
  refine (HFx.out W (HI.out.1.below H0.out.low)).mono ?_
  rintro e w1 ⟨rfl, hb⟩
  have H1 := Lib.hid (H0.out.below hb)
  clear hb H0 HFx
  rcases hfx : fewS x xc with _ | _
  · have HQ := Lib.hid H1.out.low
    clear hfx
    go_wp2_with fail
    refine (kernAwake _).mono ?_
    rintro e wz ⟨rfl, hb⟩
    have HZ := Lib.hid (HQ.out.trans (hb.mono HQ.out.size))
    clear hb
    go_wp2_with fail
    go_ret
    exact ⟨rfl, HZ.out⟩
  go_wp2_with (((with_reducible refine bl_load ?_ 29 (.tmp 4) ?_ (w.heap.size + 1) 0 (sdc y ya yk yc yp yq) ?_ ?_ Tryz.underlying29 ?_ ?_ ?_); rfl; rfl; rfl; exact H1.out.rb.all; rfl; exact infoSd HVy.out; simp only [Act.put, List.setIfInBounds_toArray, List.set_cons_zero, List.set_cons_succ]))
  refine (HFy.out w1 (HI.out.2.1.below H1.out.low)).mono ?_
  rintro e w2 ⟨rfl, hb⟩
  have H2 := Lib.hid (H1.out.below hb)
  clear hb H1 HFy
  rcases hfy : fewS y yc with _ | _
  · have HQ := Lib.hid H2.out.low
    clear hfx hfy
    go_wp2_with fail
    refine (kernAwake _).mono ?_
    rintro e wz ⟨rfl, hb⟩
    have HZ := Lib.hid (HQ.out.trans (hb.mono HQ.out.size))
    clear hb
    go_wp2_with fail
    go_ret
    exact ⟨rfl, HZ.out⟩
  go_wp2_with (((with_reducible refine bl_load ?_ 29 (.tmp 5) ?_ (w.heap.size + 2) 0 (sdc z za zk zc zp zq) ?_ ?_ Tryz.underlying29 ?_ ?_ ?_); rfl; rfl; rfl; exact H2.out.rc.all; rfl; exact infoSd HVz.out; simp only [Act.put, List.setIfInBounds_toArray, List.set_cons_zero, List.set_cons_succ]))
  refine (HFz.out w2 (HI.out.2.2.below H2.out.low)).mono ?_
  rintro e w3 ⟨rfl, hb⟩
  have H3 := Lib.hid (H2.out.below hb)
  clear hb H2 HFz
  rcases hfz : fewS z zc with _ | _
  · have HQ := Lib.hid H3.out.low
    clear hfx hfy hfz
    go_wp2_with fail
    refine (kernAwake _).mono ?_
    rintro e wz ⟨rfl, hb⟩
    have HZ := Lib.hid (HQ.out.trans (hb.mono HQ.out.size))
    clear hb
    go_wp2_with fail
    go_ret
    exact ⟨rfl, HZ.out⟩
  obtain ⟨hxl, hxcl, hxv⟩ := fewS_ok hfx
  have HDx := Lib.hid (fun U (hU : Go.RowKit.Below w.heap.size w U) => dotsOkC x xa xk U (HI.out.1.below hU).fin (by unfold maxLen; omega))
  have HWx := Lib.hid (fun U (hU : Go.RowKit.Below w.heap.size w U) => wholeC x xa xk xc xp xq U (HI.out.1.below hU).fin (by omega) ((HI.out.1.below hU).cin hxcl) (by omega))
  obtain ⟨hyl, hycl, hyv⟩ := fewS_ok hfy
  have HDy := Lib.hid (fun U (hU : Go.RowKit.Below w.heap.size w U) => dotsOkC y ya yk U (HI.out.2.1.below hU).fin (by unfold maxLen; omega))
  have HWy := Lib.hid (fun U (hU : Go.RowKit.Below w.heap.size w U) => wholeC y ya yk yc yp yq U (HI.out.2.1.below hU).fin (by omega) ((HI.out.2.1.below hU).cin hycl) (by omega))
  obtain ⟨hzl, hzcl, hzv⟩ := fewS_ok hfz
  have HDz := Lib.hid (fun U (hU : Go.RowKit.Below w.heap.size w U) => dotsOkC z za zk U (HI.out.2.2.below hU).fin (by unfold maxLen; omega))
  have HWz := Lib.hid (fun U (hU : Go.RowKit.Below w.heap.size w U) => wholeC z za zk zc zp zq U (HI.out.2.2.below hU).fin (by omega) ((HI.out.2.2.below hU).cin hzcl) (by omega))
  clear hfx hfy hfz hxv hyv hzv
  have a0 := sd_facts H3.out.ra.all
  go_wp2_with fail
  refine (HDx.out w3 H3.out.low).mono ?_
  rintro e _ ⟨rfl, rfl⟩
  clear a0 HDx
  rcases hdx : dotsOk x with _ | _
  · have HQ := Lib.hid H3.out.low
    clear hdx
    go_wp2_with fail
    refine (kernAwake _).mono ?_
    rintro e wz ⟨rfl, hb⟩
    have HZ := Lib.hid (HQ.out.trans (hb.mono HQ.out.size))
    clear hb
    go_wp2_with fail
    go_ret
    exact ⟨rfl, HZ.out⟩
  have a0 := sd_facts H3.out.rb.all
  go_wp2_with fail
  refine (HDy.out w3 H3.out.low).mono ?_
  rintro e _ ⟨rfl, rfl⟩
  clear a0 HDy
  rcases hdy : dotsOk y with _ | _
  · have HQ := Lib.hid H3.out.low
    clear hdx hdy
    go_wp2_with fail
    refine (kernAwake _).mono ?_
    rintro e wz ⟨rfl, hb⟩
    have HZ := Lib.hid (HQ.out.trans (hb.mono HQ.out.size))
    clear hb
    go_wp2_with fail
    go_ret
    exact ⟨rfl, HZ.out⟩
  have a0 := sd_facts H3.out.rc.all
  go_wp2_with fail
  refine (HDz.out w3 H3.out.low).mono ?_
  rintro e _ ⟨rfl, rfl⟩
  clear a0 HDz
  rcases hdz : dotsOk z with _ | _
  · have HQ := Lib.hid H3.out.low
    clear hdx hdy hdz
    go_wp2_with fail
    refine (kernAwake _).mono ?_
    rintro e wz ⟨rfl, hb⟩
    have HZ := Lib.hid (HQ.out.trans (hb.mono HQ.out.size))
    clear hb
    go_wp2_with fail
    go_ret
    exact ⟨rfl, HZ.out⟩
  have HDO := Lib.hid (And.intro hdx (And.intro hdy hdz))
  clear hdx hdy hdz
  go_upto_region 3 with fail
  go_cut [7, 8, 9] (fun p q r U => ∃ (g7 g8 g9 : Nat) (r1 r2 r3 : WR), p = .pointer (some ⟨g7, 0, none⟩) ∧ q = .pointer (some ⟨g8, 0, none⟩) ∧ r = .pointer (some ⟨g9, 0, none⟩) ∧ LMid w3 x y z xc yc zc g7 g8 g9 r1 r2 r3 U)
  case first =>
    refine wp_region_held (S := fun U => Go.RowKit.Below w3.heap.size w3 U) (by kernel_rfl) ?_
    change wpAnyH _ _ _ _ _ _ _ _ w3.drew
    have K0 : (fun U => Go.RowKit.Below w3.heap.size w3 U) w3.drew := (Below.refl _ _).drew
    refine wpAnyH_take (i := 0) (oi := { dst := some 54, op := _, type := _, pos := _, after := _, guard := _ }) rfl (by kernel_rfl) (by kernel_rfl) (by kernel_rfl) (fun _ _ _ h => h) (b_yield (by rfl) 29 (.tmp 3) rfl (w.heap.size) 0 (sdc x xa xk xc xp xq) rfl (fun U hU => (H3.out.ra.keep hU).all) Tryz.underlying29 rfl (infoSd HVx.out)) K0 ?_
    try simp only [Act.put, List.setIfInBounds_toArray, List.set_cons_zero, List.set_cons_succ]
    refine wpAnyH_take (i := 2) (oi := { dst := some 56, op := _, type := _, pos := _, after := _, guard := _ }) rfl (by kernel_rfl) (by kernel_rfl) (by kernel_rfl) (fun _ _ _ h => h) (b_yield (by rfl) 29 (.tmp 4) rfl (w.heap.size + 1) 0 (sdc y ya yk yc yp yq) rfl (fun U hU => (H3.out.rb.keep hU).all) Tryz.underlying29 rfl (infoSd HVy.out)) K0 ?_
    try simp only [Act.put, List.setIfInBounds_toArray, List.set_cons_zero, List.set_cons_succ]
    refine wpAnyH_take (i := 4) (oi := { dst := some 58, op := _, type := _, pos := _, after := _, guard := _ }) rfl (by kernel_rfl) (by kernel_rfl) (by kernel_rfl) (fun _ _ _ h => h) (b_yield (by rfl) 29 (.tmp 5) rfl (w.heap.size + 2) 0 (sdc z za zk zc zp zq) rfl (fun U hU => (H3.out.rc.keep hU).all) Tryz.underlying29 rfl (infoSd HVz.out)) K0 ?_
    try simp only [Act.put, List.setIfInBounds_toArray, List.set_cons_zero, List.set_cons_succ]
    refine wpAnyH_enter rankL listL (actL x y z) (WL w3 x y z xc yc zc) rankL ⟨false, false, false, none, none, none, rz, rz, rz⟩ rfl rfl ?hA ?h0 ?step
    case hA => rfl
    case h0 => exact WL.start K0
    case step =>
      clear K0
      rintro ⟨b1, b2, b3, p7, p8, p9, r1, r2, r3⟩ ih U h
      rcases b1 with _ | _
      · rcases b2 with _ | _
        · rcases b3 with _ | _
          · rcases p7 with _ | g7
            · rcases p8 with _ | g8
              · rcases p9 with _ | g9
                · change wpAnyH _ _ _ _ _ 9 #[true, false, true, false, true, false, false, false, false, false, false, false] _ _
                  simp only [actL, slotP, slotW, List.setIfInBounds_toArray, List.set_cons_zero, List.set_cons_succ]
                  refine wpAnyH_ready (rs := [1, 6, 7, 8]) (by kernel_rfl) (by simp) ?_
                  refine AllReadyH.cons (o := { dst := some 55, op := _, type := _, pos := _, after := _, guard := _ }) rfl (fun K hK => ?_) (AllReadyH.cons (o := { dst := some 7, op := _, type := _, pos := _, after := _, guard := _ }) rfl (fun K hK => ?_) (AllReadyH.cons (o := { dst := some 8, op := _, type := _, pos := _, after := _, guard := _ }) rfl (fun K hK => ?_) (AllReadyH.cons (o := { dst := some 9, op := _, type := _, pos := _, after := _, guard := _ }) rfl (fun K hK => ?_) AllReadyH.nil)))
                  · go_simp
                    refine (HWx.out U (H3.out.low.trans (h.base.mono H3.out.low.size))).mono ?_
                    rintro e u ⟨⟨o, fa, fk, qa, qk, rfl, hadd, hff, hmd, hol⟩, hb⟩
                    have hj := h.ca1 (r := ⟨o, fa, fk, qa, qk⟩) hb hadd hff hmd hol
                    refine hK.out _ _ hj.base (fun _ => ?_)
                    clear hK K
                    have z := ih ⟨true, false, false, none, none, none, ⟨o, fa, fk, qa, qk⟩, r2, r3⟩ (show (8 : Nat) < 9 by decide) u hj
                    simp only [actL, slotP, slotW, List.setIfInBounds_toArray, List.set_cons_zero, List.set_cons_succ] at z
                    try simp only [Act.put, List.setIfInBounds_toArray, List.set_cons_zero, List.set_cons_succ]
                    exact z
                  · go_simp
                    have hj := h.al7
                    refine hK.out _ _ hj.base (fun _ => ?_)
                    clear hK K
                    have z := ih ⟨false, false, false, (some U.heap.size), none, none, r1, r2, r3⟩ (show (8 : Nat) < 9 by decide) _ hj
                    simp only [actL, slotP, slotW, List.setIfInBounds_toArray, List.set_cons_zero, List.set_cons_succ] at z
                    try simp only [Act.put, List.setIfInBounds_toArray, List.set_cons_zero, List.set_cons_succ]
                    exact z
                  · go_simp
                    have hj := h.al8
                    refine hK.out _ _ hj.base (fun _ => ?_)
                    clear hK K
                    have z := ih ⟨false, false, false, none, (some U.heap.size), none, r1, r2, r3⟩ (show (8 : Nat) < 9 by decide) _ hj
                    simp only [actL, slotP, slotW, List.setIfInBounds_toArray, List.set_cons_zero, List.set_cons_succ] at z
                    try simp only [Act.put, List.setIfInBounds_toArray, List.set_cons_zero, List.set_cons_succ]
                    exact z
                  · go_simp
                    have hj := h.al9
                    refine hK.out _ _ hj.base (fun _ => ?_)
                    clear hK K
                    have z := ih ⟨false, false, false, none, none, (some U.heap.size), r1, r2, r3⟩ (show (8 : Nat) < 9 by decide) _ hj
                    simp only [actL, slotP, slotW, List.setIfInBounds_toArray, List.set_cons_zero, List.set_cons_succ] at z
                    try simp only [Act.put, List.setIfInBounds_toArray, List.set_cons_zero, List.set_cons_succ]
                    exact z
                · change wpAnyH _ _ _ _ _ 8 #[true, false, true, false, true, false, false, false, true, false, false, false] _ _
                  simp only [actL, slotP, slotW, List.setIfInBounds_toArray, List.set_cons_zero, List.set_cons_succ]
                  refine wpAnyH_ready (rs := [1, 6, 7]) (by kernel_rfl) (by simp) ?_
                  refine AllReadyH.cons (o := { dst := some 55, op := _, type := _, pos := _, after := _, guard := _ }) rfl (fun K hK => ?_) (AllReadyH.cons (o := { dst := some 7, op := _, type := _, pos := _, after := _, guard := _ }) rfl (fun K hK => ?_) (AllReadyH.cons (o := { dst := some 8, op := _, type := _, pos := _, after := _, guard := _ }) rfl (fun K hK => ?_) AllReadyH.nil))
                  · go_simp
                    refine (HWx.out U (H3.out.low.trans (h.base.mono H3.out.low.size))).mono ?_
                    rintro e u ⟨⟨o, fa, fk, qa, qk, rfl, hadd, hff, hmd, hol⟩, hb⟩
                    have hj := h.ca1 (r := ⟨o, fa, fk, qa, qk⟩) hb hadd hff hmd hol
                    refine hK.out _ _ hj.base (fun _ => ?_)
                    clear hK K
                    have z := ih ⟨true, false, false, none, none, (some g9), ⟨o, fa, fk, qa, qk⟩, r2, r3⟩ (show (7 : Nat) < 8 by decide) u hj
                    simp only [actL, slotP, slotW, List.setIfInBounds_toArray, List.set_cons_zero, List.set_cons_succ] at z
                    try simp only [Act.put, List.setIfInBounds_toArray, List.set_cons_zero, List.set_cons_succ]
                    exact z
                  · go_simp
                    have hj := h.al7
                    refine hK.out _ _ hj.base (fun _ => ?_)
                    clear hK K
                    have z := ih ⟨false, false, false, (some U.heap.size), none, (some g9), r1, r2, r3⟩ (show (7 : Nat) < 8 by decide) _ hj
                    simp only [actL, slotP, slotW, List.setIfInBounds_toArray, List.set_cons_zero, List.set_cons_succ] at z
                    try simp only [Act.put, List.setIfInBounds_toArray, List.set_cons_zero, List.set_cons_succ]
                    exact z
                  · go_simp
                    have hj := h.al8
                    refine hK.out _ _ hj.base (fun _ => ?_)
                    clear hK K
                    have z := ih ⟨false, false, false, none, (some U.heap.size), (some g9), r1, r2, r3⟩ (show (7 : Nat) < 8 by decide) _ hj
                    simp only [actL, slotP, slotW, List.setIfInBounds_toArray, List.set_cons_zero, List.set_cons_succ] at z
                    try simp only [Act.put, List.setIfInBounds_toArray, List.set_cons_zero, List.set_cons_succ]
                    exact z
              · rcases p9 with _ | g9
                · change wpAnyH _ _ _ _ _ 8 #[true, false, true, false, true, false, false, true, false, false, false, false] _ _
                  simp only [actL, slotP, slotW, List.setIfInBounds_toArray, List.set_cons_zero, List.set_cons_succ]
                  refine wpAnyH_ready (rs := [1, 6, 8]) (by kernel_rfl) (by simp) ?_
                  refine AllReadyH.cons (o := { dst := some 55, op := _, type := _, pos := _, after := _, guard := _ }) rfl (fun K hK => ?_) (AllReadyH.cons (o := { dst := some 7, op := _, type := _, pos := _, after := _, guard := _ }) rfl (fun K hK => ?_) (AllReadyH.cons (o := { dst := some 9, op := _, type := _, pos := _, after := _, guard := _ }) rfl (fun K hK => ?_) AllReadyH.nil))
                  · go_simp
                    refine (HWx.out U (H3.out.low.trans (h.base.mono H3.out.low.size))).mono ?_
                    rintro e u ⟨⟨o, fa, fk, qa, qk, rfl, hadd, hff, hmd, hol⟩, hb⟩
                    have hj := h.ca1 (r := ⟨o, fa, fk, qa, qk⟩) hb hadd hff hmd hol
                    refine hK.out _ _ hj.base (fun _ => ?_)
                    clear hK K
                    have z := ih ⟨true, false, false, none, (some g8), none, ⟨o, fa, fk, qa, qk⟩, r2, r3⟩ (show (7 : Nat) < 8 by decide) u hj
                    simp only [actL, slotP, slotW, List.setIfInBounds_toArray, List.set_cons_zero, List.set_cons_succ] at z
                    try simp only [Act.put, List.setIfInBounds_toArray, List.set_cons_zero, List.set_cons_succ]
                    exact z
                  · go_simp
                    have hj := h.al7
                    refine hK.out _ _ hj.base (fun _ => ?_)
                    clear hK K
                    have z := ih ⟨false, false, false, (some U.heap.size), (some g8), none, r1, r2, r3⟩ (show (7 : Nat) < 8 by decide) _ hj
                    simp only [actL, slotP, slotW, List.setIfInBounds_toArray, List.set_cons_zero, List.set_cons_succ] at z
                    try simp only [Act.put, List.setIfInBounds_toArray, List.set_cons_zero, List.set_cons_succ]
                    exact z
                  · go_simp
                    have hj := h.al9
                    refine hK.out _ _ hj.base (fun _ => ?_)
                    clear hK K
                    have z := ih ⟨false, false, false, none, (some g8), (some U.heap.size), r1, r2, r3⟩ (show (7 : Nat) < 8 by decide) _ hj
                    simp only [actL, slotP, slotW, List.setIfInBounds_toArray, List.set_cons_zero, List.set_cons_succ] at z
                    try simp only [Act.put, List.setIfInBounds_toArray, List.set_cons_zero, List.set_cons_succ]
                    exact z
                · change wpAnyH _ _ _ _ _ 7 #[true, false, true, false, true, false, false, true, true, false, false, false] _ _
                  simp only [actL, slotP, slotW, List.setIfInBounds_toArray, List.set_cons_zero, List.set_cons_succ]
                  refine wpAnyH_ready (rs := [1, 6]) (by kernel_rfl) (by simp) ?_
                  refine AllReadyH.cons (o := { dst := some 55, op := _, type := _, pos := _, after := _, guard := _ }) rfl (fun K hK => ?_) (AllReadyH.cons (o := { dst := some 7, op := _, type := _, pos := _, after := _, guard := _ }) rfl (fun K hK => ?_) AllReadyH.nil)
                  · go_simp
                    refine (HWx.out U (H3.out.low.trans (h.base.mono H3.out.low.size))).mono ?_
                    rintro e u ⟨⟨o, fa, fk, qa, qk, rfl, hadd, hff, hmd, hol⟩, hb⟩
                    have hj := h.ca1 (r := ⟨o, fa, fk, qa, qk⟩) hb hadd hff hmd hol
                    refine hK.out _ _ hj.base (fun _ => ?_)
                    clear hK K
                    have z := ih ⟨true, false, false, none, (some g8), (some g9), ⟨o, fa, fk, qa, qk⟩, r2, r3⟩ (show (6 : Nat) < 7 by decide) u hj
                    simp only [actL, slotP, slotW, List.setIfInBounds_toArray, List.set_cons_zero, List.set_cons_succ] at z
                    try simp only [Act.put, List.setIfInBounds_toArray, List.set_cons_zero, List.set_cons_succ]
                    exact z
                  · go_simp
                    have hj := h.al7
                    refine hK.out _ _ hj.base (fun _ => ?_)
                    clear hK K
                    have z := ih ⟨false, false, false, (some U.heap.size), (some g8), (some g9), r1, r2, r3⟩ (show (6 : Nat) < 7 by decide) _ hj
                    simp only [actL, slotP, slotW, List.setIfInBounds_toArray, List.set_cons_zero, List.set_cons_succ] at z
                    try simp only [Act.put, List.setIfInBounds_toArray, List.set_cons_zero, List.set_cons_succ]
                    exact z
            · rcases p8 with _ | g8
              · rcases p9 with _ | g9
                · change wpAnyH _ _ _ _ _ 8 #[true, false, true, false, true, false, true, false, false, false, false, false] _ _
                  simp only [actL, slotP, slotW, List.setIfInBounds_toArray, List.set_cons_zero, List.set_cons_succ]
                  refine wpAnyH_ready (rs := [1, 7, 8]) (by kernel_rfl) (by simp) ?_
                  refine AllReadyH.cons (o := { dst := some 55, op := _, type := _, pos := _, after := _, guard := _ }) rfl (fun K hK => ?_) (AllReadyH.cons (o := { dst := some 8, op := _, type := _, pos := _, after := _, guard := _ }) rfl (fun K hK => ?_) (AllReadyH.cons (o := { dst := some 9, op := _, type := _, pos := _, after := _, guard := _ }) rfl (fun K hK => ?_) AllReadyH.nil))
                  · go_simp
                    refine (HWx.out U (H3.out.low.trans (h.base.mono H3.out.low.size))).mono ?_
                    rintro e u ⟨⟨o, fa, fk, qa, qk, rfl, hadd, hff, hmd, hol⟩, hb⟩
                    have hj := h.ca1 (r := ⟨o, fa, fk, qa, qk⟩) hb hadd hff hmd hol
                    refine hK.out _ _ hj.base (fun _ => ?_)
                    clear hK K
                    have z := ih ⟨true, false, false, (some g7), none, none, ⟨o, fa, fk, qa, qk⟩, r2, r3⟩ (show (7 : Nat) < 8 by decide) u hj
                    simp only [actL, slotP, slotW, List.setIfInBounds_toArray, List.set_cons_zero, List.set_cons_succ] at z
                    try simp only [Act.put, List.setIfInBounds_toArray, List.set_cons_zero, List.set_cons_succ]
                    exact z
                  · go_simp
                    have hj := h.al8
                    refine hK.out _ _ hj.base (fun _ => ?_)
                    clear hK K
                    have z := ih ⟨false, false, false, (some g7), (some U.heap.size), none, r1, r2, r3⟩ (show (7 : Nat) < 8 by decide) _ hj
                    simp only [actL, slotP, slotW, List.setIfInBounds_toArray, List.set_cons_zero, List.set_cons_succ] at z
                    try simp only [Act.put, List.setIfInBounds_toArray, List.set_cons_zero, List.set_cons_succ]
                    exact z
                  · go_simp
                    have hj := h.al9
                    refine hK.out _ _ hj.base (fun _ => ?_)
                    clear hK K
                    have z := ih ⟨false, false, false, (some g7), none, (some U.heap.size), r1, r2, r3⟩ (show (7 : Nat) < 8 by decide) _ hj
                    simp only [actL, slotP, slotW, List.setIfInBounds_toArray, List.set_cons_zero, List.set_cons_succ] at z
                    try simp only [Act.put, List.setIfInBounds_toArray, List.set_cons_zero, List.set_cons_succ]
                    exact z
                · change wpAnyH _ _ _ _ _ 7 #[true, false, true, false, true, false, true, false, true, false, false, false] _ _
                  simp only [actL, slotP, slotW, List.setIfInBounds_toArray, List.set_cons_zero, List.set_cons_succ]
                  refine wpAnyH_ready (rs := [1, 7]) (by kernel_rfl) (by simp) ?_
                  refine AllReadyH.cons (o := { dst := some 55, op := _, type := _, pos := _, after := _, guard := _ }) rfl (fun K hK => ?_) (AllReadyH.cons (o := { dst := some 8, op := _, type := _, pos := _, after := _, guard := _ }) rfl (fun K hK => ?_) AllReadyH.nil)
                  · go_simp
                    refine (HWx.out U (H3.out.low.trans (h.base.mono H3.out.low.size))).mono ?_
                    rintro e u ⟨⟨o, fa, fk, qa, qk, rfl, hadd, hff, hmd, hol⟩, hb⟩
                    have hj := h.ca1 (r := ⟨o, fa, fk, qa, qk⟩) hb hadd hff hmd hol
                    refine hK.out _ _ hj.base (fun _ => ?_)
                    clear hK K
                    have z := ih ⟨true, false, false, (some g7), none, (some g9), ⟨o, fa, fk, qa, qk⟩, r2, r3⟩ (show (6 : Nat) < 7 by decide) u hj
                    simp only [actL, slotP, slotW, List.setIfInBounds_toArray, List.set_cons_zero, List.set_cons_succ] at z
                    try simp only [Act.put, List.setIfInBounds_toArray, List.set_cons_zero, List.set_cons_succ]
                    exact z
                  · go_simp
                    have hj := h.al8
                    refine hK.out _ _ hj.base (fun _ => ?_)
                    clear hK K
                    have z := ih ⟨false, false, false, (some g7), (some U.heap.size), (some g9), r1, r2, r3⟩ (show (6 : Nat) < 7 by decide) _ hj
                    simp only [actL, slotP, slotW, List.setIfInBounds_toArray, List.set_cons_zero, List.set_cons_succ] at z
                    try simp only [Act.put, List.setIfInBounds_toArray, List.set_cons_zero, List.set_cons_succ]
                    exact z
              · rcases p9 with _ | g9
                · change wpAnyH _ _ _ _ _ 7 #[true, false, true, false, true, false, true, true, false, false, false, false] _ _
                  simp only [actL, slotP, slotW, List.setIfInBounds_toArray, List.set_cons_zero, List.set_cons_succ]
                  refine wpAnyH_ready (rs := [1, 8]) (by kernel_rfl) (by simp) ?_
                  refine AllReadyH.cons (o := { dst := some 55, op := _, type := _, pos := _, after := _, guard := _ }) rfl (fun K hK => ?_) (AllReadyH.cons (o := { dst := some 9, op := _, type := _, pos := _, after := _, guard := _ }) rfl (fun K hK => ?_) AllReadyH.nil)
                  · go_simp
                    refine (HWx.out U (H3.out.low.trans (h.base.mono H3.out.low.size))).mono ?_
                    rintro e u ⟨⟨o, fa, fk, qa, qk, rfl, hadd, hff, hmd, hol⟩, hb⟩
                    have hj := h.ca1 (r := ⟨o, fa, fk, qa, qk⟩) hb hadd hff hmd hol
                    refine hK.out _ _ hj.base (fun _ => ?_)
                    clear hK K
                    have z := ih ⟨true, false, false, (some g7), (some g8), none, ⟨o, fa, fk, qa, qk⟩, r2, r3⟩ (show (6 : Nat) < 7 by decide) u hj
                    simp only [actL, slotP, slotW, List.setIfInBounds_toArray, List.set_cons_zero, List.set_cons_succ] at z
                    try simp only [Act.put, List.setIfInBounds_toArray, List.set_cons_zero, List.set_cons_succ]
                    exact z
                  · go_simp
                    have hj := h.al9
                    refine hK.out _ _ hj.base (fun _ => ?_)
                    clear hK K
                    have z := ih ⟨false, false, false, (some g7), (some g8), (some U.heap.size), r1, r2, r3⟩ (show (6 : Nat) < 7 by decide) _ hj
                    simp only [actL, slotP, slotW, List.setIfInBounds_toArray, List.set_cons_zero, List.set_cons_succ] at z
                    try simp only [Act.put, List.setIfInBounds_toArray, List.set_cons_zero, List.set_cons_succ]
                    exact z
                · change wpAnyH _ _ _ _ _ 6 #[true, false, true, false, true, false, true, true, true, false, false, false] _ _
                  simp only [actL, slotP, slotW, List.setIfInBounds_toArray, List.set_cons_zero, List.set_cons_succ]
                  refine wpAnyH_ready (rs := [1]) (by kernel_rfl) (by simp) ?_
                  refine AllReadyH.cons (o := { dst := some 55, op := _, type := _, pos := _, after := _, guard := _ }) rfl (fun K hK => ?_) AllReadyH.nil
                  · go_simp
                    refine (HWx.out U (H3.out.low.trans (h.base.mono H3.out.low.size))).mono ?_
                    rintro e u ⟨⟨o, fa, fk, qa, qk, rfl, hadd, hff, hmd, hol⟩, hb⟩
                    have hj := h.ca1 (r := ⟨o, fa, fk, qa, qk⟩) hb hadd hff hmd hol
                    refine hK.out _ _ hj.base (fun _ => ?_)
                    clear hK K
                    have z := ih ⟨true, false, false, (some g7), (some g8), (some g9), ⟨o, fa, fk, qa, qk⟩, r2, r3⟩ (show (5 : Nat) < 6 by decide) u hj
                    simp only [actL, slotP, slotW, List.setIfInBounds_toArray, List.set_cons_zero, List.set_cons_succ] at z
                    try simp only [Act.put, List.setIfInBounds_toArray, List.set_cons_zero, List.set_cons_succ]
                    exact z
          · exact absurd (h.o32 rfl) (by simp)
        · exact absurd (h.o21 rfl) (by simp)
      · rcases b2 with _ | _
        · rcases b3 with _ | _
          · rcases p7 with _ | g7
            · rcases p8 with _ | g8
              · rcases p9 with _ | g9
                · change wpAnyH _ _ _ _ _ 8 #[true, true, true, false, true, false, false, false, false, false, false, false] _ _
                  simp only [actL, slotP, slotW, List.setIfInBounds_toArray, List.set_cons_zero, List.set_cons_succ]
                  refine wpAnyH_ready (rs := [3, 6, 7, 8]) (by kernel_rfl) (by simp) ?_
                  refine AllReadyH.cons (o := { dst := some 57, op := _, type := _, pos := _, after := _, guard := _ }) rfl (fun K hK => ?_) (AllReadyH.cons (o := { dst := some 7, op := _, type := _, pos := _, after := _, guard := _ }) rfl (fun K hK => ?_) (AllReadyH.cons (o := { dst := some 8, op := _, type := _, pos := _, after := _, guard := _ }) rfl (fun K hK => ?_) (AllReadyH.cons (o := { dst := some 9, op := _, type := _, pos := _, after := _, guard := _ }) rfl (fun K hK => ?_) AllReadyH.nil)))
                  · go_simp
                    refine (HWy.out U (H3.out.low.trans (h.base.mono H3.out.low.size))).mono ?_
                    rintro e u ⟨⟨o, fa, fk, qa, qk, rfl, hadd, hff, hmd, hol⟩, hb⟩
                    have hj := h.ca2 (r := ⟨o, fa, fk, qa, qk⟩) hb hadd hff hmd hol
                    refine hK.out _ _ hj.base (fun _ => ?_)
                    clear hK K
                    have z := ih ⟨true, true, false, none, none, none, r1, ⟨o, fa, fk, qa, qk⟩, r3⟩ (show (7 : Nat) < 8 by decide) u hj
                    simp only [actL, slotP, slotW, List.setIfInBounds_toArray, List.set_cons_zero, List.set_cons_succ] at z
                    try simp only [Act.put, List.setIfInBounds_toArray, List.set_cons_zero, List.set_cons_succ]
                    exact z
                  · go_simp
                    have hj := h.al7
                    refine hK.out _ _ hj.base (fun _ => ?_)
                    clear hK K
                    have z := ih ⟨true, false, false, (some U.heap.size), none, none, r1, r2, r3⟩ (show (7 : Nat) < 8 by decide) _ hj
                    simp only [actL, slotP, slotW, List.setIfInBounds_toArray, List.set_cons_zero, List.set_cons_succ] at z
                    try simp only [Act.put, List.setIfInBounds_toArray, List.set_cons_zero, List.set_cons_succ]
                    exact z
                  · go_simp
                    have hj := h.al8
                    refine hK.out _ _ hj.base (fun _ => ?_)
                    clear hK K
                    have z := ih ⟨true, false, false, none, (some U.heap.size), none, r1, r2, r3⟩ (show (7 : Nat) < 8 by decide) _ hj
                    simp only [actL, slotP, slotW, List.setIfInBounds_toArray, List.set_cons_zero, List.set_cons_succ] at z
                    try simp only [Act.put, List.setIfInBounds_toArray, List.set_cons_zero, List.set_cons_succ]
                    exact z
                  · go_simp
                    have hj := h.al9
                    refine hK.out _ _ hj.base (fun _ => ?_)
                    clear hK K
                    have z := ih ⟨true, false, false, none, none, (some U.heap.size), r1, r2, r3⟩ (show (7 : Nat) < 8 by decide) _ hj
                    simp only [actL, slotP, slotW, List.setIfInBounds_toArray, List.set_cons_zero, List.set_cons_succ] at z
                    try simp only [Act.put, List.setIfInBounds_toArray, List.set_cons_zero, List.set_cons_succ]
                    exact z
                · change wpAnyH _ _ _ _ _ 7 #[true, true, true, false, true, false, false, false, true, false, false, false] _ _
                  simp only [actL, slotP, slotW, List.setIfInBounds_toArray, List.set_cons_zero, List.set_cons_succ]
                  refine wpAnyH_ready (rs := [3, 6, 7]) (by kernel_rfl) (by simp) ?_
                  refine AllReadyH.cons (o := { dst := some 57, op := _, type := _, pos := _, after := _, guard := _ }) rfl (fun K hK => ?_) (AllReadyH.cons (o := { dst := some 7, op := _, type := _, pos := _, after := _, guard := _ }) rfl (fun K hK => ?_) (AllReadyH.cons (o := { dst := some 8, op := _, type := _, pos := _, after := _, guard := _ }) rfl (fun K hK => ?_) AllReadyH.nil))
                  · go_simp
                    refine (HWy.out U (H3.out.low.trans (h.base.mono H3.out.low.size))).mono ?_
                    rintro e u ⟨⟨o, fa, fk, qa, qk, rfl, hadd, hff, hmd, hol⟩, hb⟩
                    have hj := h.ca2 (r := ⟨o, fa, fk, qa, qk⟩) hb hadd hff hmd hol
                    refine hK.out _ _ hj.base (fun _ => ?_)
                    clear hK K
                    have z := ih ⟨true, true, false, none, none, (some g9), r1, ⟨o, fa, fk, qa, qk⟩, r3⟩ (show (6 : Nat) < 7 by decide) u hj
                    simp only [actL, slotP, slotW, List.setIfInBounds_toArray, List.set_cons_zero, List.set_cons_succ] at z
                    try simp only [Act.put, List.setIfInBounds_toArray, List.set_cons_zero, List.set_cons_succ]
                    exact z
                  · go_simp
                    have hj := h.al7
                    refine hK.out _ _ hj.base (fun _ => ?_)
                    clear hK K
                    have z := ih ⟨true, false, false, (some U.heap.size), none, (some g9), r1, r2, r3⟩ (show (6 : Nat) < 7 by decide) _ hj
                    simp only [actL, slotP, slotW, List.setIfInBounds_toArray, List.set_cons_zero, List.set_cons_succ] at z
                    try simp only [Act.put, List.setIfInBounds_toArray, List.set_cons_zero, List.set_cons_succ]
                    exact z
                  · go_simp
                    have hj := h.al8
                    refine hK.out _ _ hj.base (fun _ => ?_)
                    clear hK K
                    have z := ih ⟨true, false, false, none, (some U.heap.size), (some g9), r1, r2, r3⟩ (show (6 : Nat) < 7 by decide) _ hj
                    simp only [actL, slotP, slotW, List.setIfInBounds_toArray, List.set_cons_zero, List.set_cons_succ] at z
                    try simp only [Act.put, List.setIfInBounds_toArray, List.set_cons_zero, List.set_cons_succ]
                    exact z
              · rcases p9 with _ | g9
                · change wpAnyH _ _ _ _ _ 7 #[true, true, true, false, true, false, false, true, false, false, false, false] _ _
                  simp only [actL, slotP, slotW, List.setIfInBounds_toArray, List.set_cons_zero, List.set_cons_succ]
                  refine wpAnyH_ready (rs := [3, 6, 8]) (by kernel_rfl) (by simp) ?_
                  refine AllReadyH.cons (o := { dst := some 57, op := _, type := _, pos := _, after := _, guard := _ }) rfl (fun K hK => ?_) (AllReadyH.cons (o := { dst := some 7, op := _, type := _, pos := _, after := _, guard := _ }) rfl (fun K hK => ?_) (AllReadyH.cons (o := { dst := some 9, op := _, type := _, pos := _, after := _, guard := _ }) rfl (fun K hK => ?_) AllReadyH.nil))
                  · go_simp
                    refine (HWy.out U (H3.out.low.trans (h.base.mono H3.out.low.size))).mono ?_
                    rintro e u ⟨⟨o, fa, fk, qa, qk, rfl, hadd, hff, hmd, hol⟩, hb⟩
                    have hj := h.ca2 (r := ⟨o, fa, fk, qa, qk⟩) hb hadd hff hmd hol
                    refine hK.out _ _ hj.base (fun _ => ?_)
                    clear hK K
                    have z := ih ⟨true, true, false, none, (some g8), none, r1, ⟨o, fa, fk, qa, qk⟩, r3⟩ (show (6 : Nat) < 7 by decide) u hj
                    simp only [actL, slotP, slotW, List.setIfInBounds_toArray, List.set_cons_zero, List.set_cons_succ] at z
                    try simp only [Act.put, List.setIfInBounds_toArray, List.set_cons_zero, List.set_cons_succ]
                    exact z
                  · go_simp
                    have hj := h.al7
                    refine hK.out _ _ hj.base (fun _ => ?_)
                    clear hK K
                    have z := ih ⟨true, false, false, (some U.heap.size), (some g8), none, r1, r2, r3⟩ (show (6 : Nat) < 7 by decide) _ hj
                    simp only [actL, slotP, slotW, List.setIfInBounds_toArray, List.set_cons_zero, List.set_cons_succ] at z
                    try simp only [Act.put, List.setIfInBounds_toArray, List.set_cons_zero, List.set_cons_succ]
                    exact z
                  · go_simp
                    have hj := h.al9
                    refine hK.out _ _ hj.base (fun _ => ?_)
                    clear hK K
                    have z := ih ⟨true, false, false, none, (some g8), (some U.heap.size), r1, r2, r3⟩ (show (6 : Nat) < 7 by decide) _ hj
                    simp only [actL, slotP, slotW, List.setIfInBounds_toArray, List.set_cons_zero, List.set_cons_succ] at z
                    try simp only [Act.put, List.setIfInBounds_toArray, List.set_cons_zero, List.set_cons_succ]
                    exact z
                · change wpAnyH _ _ _ _ _ 6 #[true, true, true, false, true, false, false, true, true, false, false, false] _ _
                  simp only [actL, slotP, slotW, List.setIfInBounds_toArray, List.set_cons_zero, List.set_cons_succ]
                  refine wpAnyH_ready (rs := [3, 6]) (by kernel_rfl) (by simp) ?_
                  refine AllReadyH.cons (o := { dst := some 57, op := _, type := _, pos := _, after := _, guard := _ }) rfl (fun K hK => ?_) (AllReadyH.cons (o := { dst := some 7, op := _, type := _, pos := _, after := _, guard := _ }) rfl (fun K hK => ?_) AllReadyH.nil)
                  · go_simp
                    refine (HWy.out U (H3.out.low.trans (h.base.mono H3.out.low.size))).mono ?_
                    rintro e u ⟨⟨o, fa, fk, qa, qk, rfl, hadd, hff, hmd, hol⟩, hb⟩
                    have hj := h.ca2 (r := ⟨o, fa, fk, qa, qk⟩) hb hadd hff hmd hol
                    refine hK.out _ _ hj.base (fun _ => ?_)
                    clear hK K
                    have z := ih ⟨true, true, false, none, (some g8), (some g9), r1, ⟨o, fa, fk, qa, qk⟩, r3⟩ (show (5 : Nat) < 6 by decide) u hj
                    simp only [actL, slotP, slotW, List.setIfInBounds_toArray, List.set_cons_zero, List.set_cons_succ] at z
                    try simp only [Act.put, List.setIfInBounds_toArray, List.set_cons_zero, List.set_cons_succ]
                    exact z
                  · go_simp
                    have hj := h.al7
                    refine hK.out _ _ hj.base (fun _ => ?_)
                    clear hK K
                    have z := ih ⟨true, false, false, (some U.heap.size), (some g8), (some g9), r1, r2, r3⟩ (show (5 : Nat) < 6 by decide) _ hj
                    simp only [actL, slotP, slotW, List.setIfInBounds_toArray, List.set_cons_zero, List.set_cons_succ] at z
                    try simp only [Act.put, List.setIfInBounds_toArray, List.set_cons_zero, List.set_cons_succ]
                    exact z
            · rcases p8 with _ | g8
              · rcases p9 with _ | g9
                · change wpAnyH _ _ _ _ _ 7 #[true, true, true, false, true, false, true, false, false, false, false, false] _ _
                  simp only [actL, slotP, slotW, List.setIfInBounds_toArray, List.set_cons_zero, List.set_cons_succ]
                  refine wpAnyH_ready (rs := [3, 7, 8]) (by kernel_rfl) (by simp) ?_
                  refine AllReadyH.cons (o := { dst := some 57, op := _, type := _, pos := _, after := _, guard := _ }) rfl (fun K hK => ?_) (AllReadyH.cons (o := { dst := some 8, op := _, type := _, pos := _, after := _, guard := _ }) rfl (fun K hK => ?_) (AllReadyH.cons (o := { dst := some 9, op := _, type := _, pos := _, after := _, guard := _ }) rfl (fun K hK => ?_) AllReadyH.nil))
                  · go_simp
                    refine (HWy.out U (H3.out.low.trans (h.base.mono H3.out.low.size))).mono ?_
                    rintro e u ⟨⟨o, fa, fk, qa, qk, rfl, hadd, hff, hmd, hol⟩, hb⟩
                    have hj := h.ca2 (r := ⟨o, fa, fk, qa, qk⟩) hb hadd hff hmd hol
                    refine hK.out _ _ hj.base (fun _ => ?_)
                    clear hK K
                    have z := ih ⟨true, true, false, (some g7), none, none, r1, ⟨o, fa, fk, qa, qk⟩, r3⟩ (show (6 : Nat) < 7 by decide) u hj
                    simp only [actL, slotP, slotW, List.setIfInBounds_toArray, List.set_cons_zero, List.set_cons_succ] at z
                    try simp only [Act.put, List.setIfInBounds_toArray, List.set_cons_zero, List.set_cons_succ]
                    exact z
                  · go_simp
                    have hj := h.al8
                    refine hK.out _ _ hj.base (fun _ => ?_)
                    clear hK K
                    have z := ih ⟨true, false, false, (some g7), (some U.heap.size), none, r1, r2, r3⟩ (show (6 : Nat) < 7 by decide) _ hj
                    simp only [actL, slotP, slotW, List.setIfInBounds_toArray, List.set_cons_zero, List.set_cons_succ] at z
                    try simp only [Act.put, List.setIfInBounds_toArray, List.set_cons_zero, List.set_cons_succ]
                    exact z
                  · go_simp
                    have hj := h.al9
                    refine hK.out _ _ hj.base (fun _ => ?_)
                    clear hK K
                    have z := ih ⟨true, false, false, (some g7), none, (some U.heap.size), r1, r2, r3⟩ (show (6 : Nat) < 7 by decide) _ hj
                    simp only [actL, slotP, slotW, List.setIfInBounds_toArray, List.set_cons_zero, List.set_cons_succ] at z
                    try simp only [Act.put, List.setIfInBounds_toArray, List.set_cons_zero, List.set_cons_succ]
                    exact z
                · change wpAnyH _ _ _ _ _ 6 #[true, true, true, false, true, false, true, false, true, false, false, false] _ _
                  simp only [actL, slotP, slotW, List.setIfInBounds_toArray, List.set_cons_zero, List.set_cons_succ]
                  refine wpAnyH_ready (rs := [3, 7]) (by kernel_rfl) (by simp) ?_
                  refine AllReadyH.cons (o := { dst := some 57, op := _, type := _, pos := _, after := _, guard := _ }) rfl (fun K hK => ?_) (AllReadyH.cons (o := { dst := some 8, op := _, type := _, pos := _, after := _, guard := _ }) rfl (fun K hK => ?_) AllReadyH.nil)
                  · go_simp
                    refine (HWy.out U (H3.out.low.trans (h.base.mono H3.out.low.size))).mono ?_
                    rintro e u ⟨⟨o, fa, fk, qa, qk, rfl, hadd, hff, hmd, hol⟩, hb⟩
                    have hj := h.ca2 (r := ⟨o, fa, fk, qa, qk⟩) hb hadd hff hmd hol
                    refine hK.out _ _ hj.base (fun _ => ?_)
                    clear hK K
                    have z := ih ⟨true, true, false, (some g7), none, (some g9), r1, ⟨o, fa, fk, qa, qk⟩, r3⟩ (show (5 : Nat) < 6 by decide) u hj
                    simp only [actL, slotP, slotW, List.setIfInBounds_toArray, List.set_cons_zero, List.set_cons_succ] at z
                    try simp only [Act.put, List.setIfInBounds_toArray, List.set_cons_zero, List.set_cons_succ]
                    exact z
                  · go_simp
                    have hj := h.al8
                    refine hK.out _ _ hj.base (fun _ => ?_)
                    clear hK K
                    have z := ih ⟨true, false, false, (some g7), (some U.heap.size), (some g9), r1, r2, r3⟩ (show (5 : Nat) < 6 by decide) _ hj
                    simp only [actL, slotP, slotW, List.setIfInBounds_toArray, List.set_cons_zero, List.set_cons_succ] at z
                    try simp only [Act.put, List.setIfInBounds_toArray, List.set_cons_zero, List.set_cons_succ]
                    exact z
              · rcases p9 with _ | g9
                · change wpAnyH _ _ _ _ _ 6 #[true, true, true, false, true, false, true, true, false, false, false, false] _ _
                  simp only [actL, slotP, slotW, List.setIfInBounds_toArray, List.set_cons_zero, List.set_cons_succ]
                  refine wpAnyH_ready (rs := [3, 8]) (by kernel_rfl) (by simp) ?_
                  refine AllReadyH.cons (o := { dst := some 57, op := _, type := _, pos := _, after := _, guard := _ }) rfl (fun K hK => ?_) (AllReadyH.cons (o := { dst := some 9, op := _, type := _, pos := _, after := _, guard := _ }) rfl (fun K hK => ?_) AllReadyH.nil)
                  · go_simp
                    refine (HWy.out U (H3.out.low.trans (h.base.mono H3.out.low.size))).mono ?_
                    rintro e u ⟨⟨o, fa, fk, qa, qk, rfl, hadd, hff, hmd, hol⟩, hb⟩
                    have hj := h.ca2 (r := ⟨o, fa, fk, qa, qk⟩) hb hadd hff hmd hol
                    refine hK.out _ _ hj.base (fun _ => ?_)
                    clear hK K
                    have z := ih ⟨true, true, false, (some g7), (some g8), none, r1, ⟨o, fa, fk, qa, qk⟩, r3⟩ (show (5 : Nat) < 6 by decide) u hj
                    simp only [actL, slotP, slotW, List.setIfInBounds_toArray, List.set_cons_zero, List.set_cons_succ] at z
                    try simp only [Act.put, List.setIfInBounds_toArray, List.set_cons_zero, List.set_cons_succ]
                    exact z
                  · go_simp
                    have hj := h.al9
                    refine hK.out _ _ hj.base (fun _ => ?_)
                    clear hK K
                    have z := ih ⟨true, false, false, (some g7), (some g8), (some U.heap.size), r1, r2, r3⟩ (show (5 : Nat) < 6 by decide) _ hj
                    simp only [actL, slotP, slotW, List.setIfInBounds_toArray, List.set_cons_zero, List.set_cons_succ] at z
                    try simp only [Act.put, List.setIfInBounds_toArray, List.set_cons_zero, List.set_cons_succ]
                    exact z
                · change wpAnyH _ _ _ _ _ 5 #[true, true, true, false, true, false, true, true, true, false, false, false] _ _
                  simp only [actL, slotP, slotW, List.setIfInBounds_toArray, List.set_cons_zero, List.set_cons_succ]
                  refine wpAnyH_ready (rs := [3]) (by kernel_rfl) (by simp) ?_
                  refine AllReadyH.cons (o := { dst := some 57, op := _, type := _, pos := _, after := _, guard := _ }) rfl (fun K hK => ?_) AllReadyH.nil
                  · go_simp
                    refine (HWy.out U (H3.out.low.trans (h.base.mono H3.out.low.size))).mono ?_
                    rintro e u ⟨⟨o, fa, fk, qa, qk, rfl, hadd, hff, hmd, hol⟩, hb⟩
                    have hj := h.ca2 (r := ⟨o, fa, fk, qa, qk⟩) hb hadd hff hmd hol
                    refine hK.out _ _ hj.base (fun _ => ?_)
                    clear hK K
                    have z := ih ⟨true, true, false, (some g7), (some g8), (some g9), r1, ⟨o, fa, fk, qa, qk⟩, r3⟩ (show (4 : Nat) < 5 by decide) u hj
                    simp only [actL, slotP, slotW, List.setIfInBounds_toArray, List.set_cons_zero, List.set_cons_succ] at z
                    try simp only [Act.put, List.setIfInBounds_toArray, List.set_cons_zero, List.set_cons_succ]
                    exact z
          · exact absurd (h.o32 rfl) (by simp)
        · rcases b3 with _ | _
          · rcases p7 with _ | g7
            · rcases p8 with _ | g8
              · rcases p9 with _ | g9
                · change wpAnyH _ _ _ _ _ 7 #[true, true, true, true, true, false, false, false, false, false, false, false] _ _
                  simp only [actL, slotP, slotW, List.setIfInBounds_toArray, List.set_cons_zero, List.set_cons_succ]
                  refine wpAnyH_ready (rs := [5, 6, 7, 8]) (by kernel_rfl) (by simp) ?_
                  refine AllReadyH.cons (o := { dst := some 59, op := _, type := _, pos := _, after := _, guard := _ }) rfl (fun K hK => ?_) (AllReadyH.cons (o := { dst := some 7, op := _, type := _, pos := _, after := _, guard := _ }) rfl (fun K hK => ?_) (AllReadyH.cons (o := { dst := some 8, op := _, type := _, pos := _, after := _, guard := _ }) rfl (fun K hK => ?_) (AllReadyH.cons (o := { dst := some 9, op := _, type := _, pos := _, after := _, guard := _ }) rfl (fun K hK => ?_) AllReadyH.nil)))
                  · go_simp
                    refine (HWz.out U (H3.out.low.trans (h.base.mono H3.out.low.size))).mono ?_
                    rintro e u ⟨⟨o, fa, fk, qa, qk, rfl, hadd, hff, hmd, hol⟩, hb⟩
                    have hj := h.ca3 (r := ⟨o, fa, fk, qa, qk⟩) hb hadd hff hmd hol
                    refine hK.out _ _ hj.base (fun _ => ?_)
                    clear hK K
                    have z := ih ⟨true, true, true, none, none, none, r1, r2, ⟨o, fa, fk, qa, qk⟩⟩ (show (6 : Nat) < 7 by decide) u hj
                    simp only [actL, slotP, slotW, List.setIfInBounds_toArray, List.set_cons_zero, List.set_cons_succ] at z
                    try simp only [Act.put, List.setIfInBounds_toArray, List.set_cons_zero, List.set_cons_succ]
                    exact z
                  · go_simp
                    have hj := h.al7
                    refine hK.out _ _ hj.base (fun _ => ?_)
                    clear hK K
                    have z := ih ⟨true, true, false, (some U.heap.size), none, none, r1, r2, r3⟩ (show (6 : Nat) < 7 by decide) _ hj
                    simp only [actL, slotP, slotW, List.setIfInBounds_toArray, List.set_cons_zero, List.set_cons_succ] at z
                    try simp only [Act.put, List.setIfInBounds_toArray, List.set_cons_zero, List.set_cons_succ]
                    exact z
                  · go_simp
                    have hj := h.al8
                    refine hK.out _ _ hj.base (fun _ => ?_)
                    clear hK K
                    have z := ih ⟨true, true, false, none, (some U.heap.size), none, r1, r2, r3⟩ (show (6 : Nat) < 7 by decide) _ hj
                    simp only [actL, slotP, slotW, List.setIfInBounds_toArray, List.set_cons_zero, List.set_cons_succ] at z
                    try simp only [Act.put, List.setIfInBounds_toArray, List.set_cons_zero, List.set_cons_succ]
                    exact z
                  · go_simp
                    have hj := h.al9
                    refine hK.out _ _ hj.base (fun _ => ?_)
                    clear hK K
                    have z := ih ⟨true, true, false, none, none, (some U.heap.size), r1, r2, r3⟩ (show (6 : Nat) < 7 by decide) _ hj
                    simp only [actL, slotP, slotW, List.setIfInBounds_toArray, List.set_cons_zero, List.set_cons_succ] at z
                    try simp only [Act.put, List.setIfInBounds_toArray, List.set_cons_zero, List.set_cons_succ]
                    exact z
                · change wpAnyH _ _ _ _ _ 6 #[true, true, true, true, true, false, false, false, true, false, false, false] _ _
                  simp only [actL, slotP, slotW, List.setIfInBounds_toArray, List.set_cons_zero, List.set_cons_succ]
                  refine wpAnyH_ready (rs := [5, 6, 7]) (by kernel_rfl) (by simp) ?_
                  refine AllReadyH.cons (o := { dst := some 59, op := _, type := _, pos := _, after := _, guard := _ }) rfl (fun K hK => ?_) (AllReadyH.cons (o := { dst := some 7, op := _, type := _, pos := _, after := _, guard := _ }) rfl (fun K hK => ?_) (AllReadyH.cons (o := { dst := some 8, op := _, type := _, pos := _, after := _, guard := _ }) rfl (fun K hK => ?_) AllReadyH.nil))
                  · go_simp
                    refine (HWz.out U (H3.out.low.trans (h.base.mono H3.out.low.size))).mono ?_
                    rintro e u ⟨⟨o, fa, fk, qa, qk, rfl, hadd, hff, hmd, hol⟩, hb⟩
                    have hj := h.ca3 (r := ⟨o, fa, fk, qa, qk⟩) hb hadd hff hmd hol
                    refine hK.out _ _ hj.base (fun _ => ?_)
                    clear hK K
                    have z := ih ⟨true, true, true, none, none, (some g9), r1, r2, ⟨o, fa, fk, qa, qk⟩⟩ (show (5 : Nat) < 6 by decide) u hj
                    simp only [actL, slotP, slotW, List.setIfInBounds_toArray, List.set_cons_zero, List.set_cons_succ] at z
                    try simp only [Act.put, List.setIfInBounds_toArray, List.set_cons_zero, List.set_cons_succ]
                    exact z
                  · go_simp
                    have hj := h.al7
                    refine hK.out _ _ hj.base (fun _ => ?_)
                    clear hK K
                    have z := ih ⟨true, true, false, (some U.heap.size), none, (some g9), r1, r2, r3⟩ (show (5 : Nat) < 6 by decide) _ hj
                    simp only [actL, slotP, slotW, List.setIfInBounds_toArray, List.set_cons_zero, List.set_cons_succ] at z
                    try simp only [Act.put, List.setIfInBounds_toArray, List.set_cons_zero, List.set_cons_succ]
                    exact z
                  · go_simp
                    have hj := h.al8
                    refine hK.out _ _ hj.base (fun _ => ?_)
                    clear hK K
                    have z := ih ⟨true, true, false, none, (some U.heap.size), (some g9), r1, r2, r3⟩ (show (5 : Nat) < 6 by decide) _ hj
                    simp only [actL, slotP, slotW, List.setIfInBounds_toArray, List.set_cons_zero, List.set_cons_succ] at z
                    try simp only [Act.put, List.setIfInBounds_toArray, List.set_cons_zero, List.set_cons_succ]
                    exact z
              · rcases p9 with _ | g9
                · change wpAnyH _ _ _ _ _ 6 #[true, true, true, true, true, false, false, true, false, false, false, false] _ _
                  simp only [actL, slotP, slotW, List.setIfInBounds_toArray, List.set_cons_zero, List.set_cons_succ]
                  refine wpAnyH_ready (rs := [5, 6, 8]) (by kernel_rfl) (by simp) ?_
                  refine AllReadyH.cons (o := { dst := some 59, op := _, type := _, pos := _, after := _, guard := _ }) rfl (fun K hK => ?_) (AllReadyH.cons (o := { dst := some 7, op := _, type := _, pos := _, after := _, guard := _ }) rfl (fun K hK => ?_) (AllReadyH.cons (o := { dst := some 9, op := _, type := _, pos := _, after := _, guard := _ }) rfl (fun K hK => ?_) AllReadyH.nil))
                  · go_simp
                    refine (HWz.out U (H3.out.low.trans (h.base.mono H3.out.low.size))).mono ?_
                    rintro e u ⟨⟨o, fa, fk, qa, qk, rfl, hadd, hff, hmd, hol⟩, hb⟩
                    have hj := h.ca3 (r := ⟨o, fa, fk, qa, qk⟩) hb hadd hff hmd hol
                    refine hK.out _ _ hj.base (fun _ => ?_)
                    clear hK K
                    have z := ih ⟨true, true, true, none, (some g8), none, r1, r2, ⟨o, fa, fk, qa, qk⟩⟩ (show (5 : Nat) < 6 by decide) u hj
                    simp only [actL, slotP, slotW, List.setIfInBounds_toArray, List.set_cons_zero, List.set_cons_succ] at z
                    try simp only [Act.put, List.setIfInBounds_toArray, List.set_cons_zero, List.set_cons_succ]
                    exact z
                  · go_simp
                    have hj := h.al7
                    refine hK.out _ _ hj.base (fun _ => ?_)
                    clear hK K
                    have z := ih ⟨true, true, false, (some U.heap.size), (some g8), none, r1, r2, r3⟩ (show (5 : Nat) < 6 by decide) _ hj
                    simp only [actL, slotP, slotW, List.setIfInBounds_toArray, List.set_cons_zero, List.set_cons_succ] at z
                    try simp only [Act.put, List.setIfInBounds_toArray, List.set_cons_zero, List.set_cons_succ]
                    exact z
                  · go_simp
                    have hj := h.al9
                    refine hK.out _ _ hj.base (fun _ => ?_)
                    clear hK K
                    have z := ih ⟨true, true, false, none, (some g8), (some U.heap.size), r1, r2, r3⟩ (show (5 : Nat) < 6 by decide) _ hj
                    simp only [actL, slotP, slotW, List.setIfInBounds_toArray, List.set_cons_zero, List.set_cons_succ] at z
                    try simp only [Act.put, List.setIfInBounds_toArray, List.set_cons_zero, List.set_cons_succ]
                    exact z
                · change wpAnyH _ _ _ _ _ 5 #[true, true, true, true, true, false, false, true, true, false, false, false] _ _
                  simp only [actL, slotP, slotW, List.setIfInBounds_toArray, List.set_cons_zero, List.set_cons_succ]
                  refine wpAnyH_ready (rs := [5, 6]) (by kernel_rfl) (by simp) ?_
                  refine AllReadyH.cons (o := { dst := some 59, op := _, type := _, pos := _, after := _, guard := _ }) rfl (fun K hK => ?_) (AllReadyH.cons (o := { dst := some 7, op := _, type := _, pos := _, after := _, guard := _ }) rfl (fun K hK => ?_) AllReadyH.nil)
                  · go_simp
                    refine (HWz.out U (H3.out.low.trans (h.base.mono H3.out.low.size))).mono ?_
                    rintro e u ⟨⟨o, fa, fk, qa, qk, rfl, hadd, hff, hmd, hol⟩, hb⟩
                    have hj := h.ca3 (r := ⟨o, fa, fk, qa, qk⟩) hb hadd hff hmd hol
                    refine hK.out _ _ hj.base (fun _ => ?_)
                    clear hK K
                    have z := ih ⟨true, true, true, none, (some g8), (some g9), r1, r2, ⟨o, fa, fk, qa, qk⟩⟩ (show (4 : Nat) < 5 by decide) u hj
                    simp only [actL, slotP, slotW, List.setIfInBounds_toArray, List.set_cons_zero, List.set_cons_succ] at z
                    try simp only [Act.put, List.setIfInBounds_toArray, List.set_cons_zero, List.set_cons_succ]
                    exact z
                  · go_simp
                    have hj := h.al7
                    refine hK.out _ _ hj.base (fun _ => ?_)
                    clear hK K
                    have z := ih ⟨true, true, false, (some U.heap.size), (some g8), (some g9), r1, r2, r3⟩ (show (4 : Nat) < 5 by decide) _ hj
                    simp only [actL, slotP, slotW, List.setIfInBounds_toArray, List.set_cons_zero, List.set_cons_succ] at z
                    try simp only [Act.put, List.setIfInBounds_toArray, List.set_cons_zero, List.set_cons_succ]
                    exact z
            · rcases p8 with _ | g8
              · rcases p9 with _ | g9
                · change wpAnyH _ _ _ _ _ 6 #[true, true, true, true, true, false, true, false, false, false, false, false] _ _
                  simp only [actL, slotP, slotW, List.setIfInBounds_toArray, List.set_cons_zero, List.set_cons_succ]
                  refine wpAnyH_ready (rs := [5, 7, 8]) (by kernel_rfl) (by simp) ?_
                  refine AllReadyH.cons (o := { dst := some 59, op := _, type := _, pos := _, after := _, guard := _ }) rfl (fun K hK => ?_) (AllReadyH.cons (o := { dst := some 8, op := _, type := _, pos := _, after := _, guard := _ }) rfl (fun K hK => ?_) (AllReadyH.cons (o := { dst := some 9, op := _, type := _, pos := _, after := _, guard := _ }) rfl (fun K hK => ?_) AllReadyH.nil))
                  · go_simp
                    refine (HWz.out U (H3.out.low.trans (h.base.mono H3.out.low.size))).mono ?_
                    rintro e u ⟨⟨o, fa, fk, qa, qk, rfl, hadd, hff, hmd, hol⟩, hb⟩
                    have hj := h.ca3 (r := ⟨o, fa, fk, qa, qk⟩) hb hadd hff hmd hol
                    refine hK.out _ _ hj.base (fun _ => ?_)
                    clear hK K
                    have z := ih ⟨true, true, true, (some g7), none, none, r1, r2, ⟨o, fa, fk, qa, qk⟩⟩ (show (5 : Nat) < 6 by decide) u hj
                    simp only [actL, slotP, slotW, List.setIfInBounds_toArray, List.set_cons_zero, List.set_cons_succ] at z
                    try simp only [Act.put, List.setIfInBounds_toArray, List.set_cons_zero, List.set_cons_succ]
                    exact z
                  · go_simp
                    have hj := h.al8
                    refine hK.out _ _ hj.base (fun _ => ?_)
                    clear hK K
                    have z := ih ⟨true, true, false, (some g7), (some U.heap.size), none, r1, r2, r3⟩ (show (5 : Nat) < 6 by decide) _ hj
                    simp only [actL, slotP, slotW, List.setIfInBounds_toArray, List.set_cons_zero, List.set_cons_succ] at z
                    try simp only [Act.put, List.setIfInBounds_toArray, List.set_cons_zero, List.set_cons_succ]
                    exact z
                  · go_simp
                    have hj := h.al9
                    refine hK.out _ _ hj.base (fun _ => ?_)
                    clear hK K
                    have z := ih ⟨true, true, false, (some g7), none, (some U.heap.size), r1, r2, r3⟩ (show (5 : Nat) < 6 by decide) _ hj
                    simp only [actL, slotP, slotW, List.setIfInBounds_toArray, List.set_cons_zero, List.set_cons_succ] at z
                    try simp only [Act.put, List.setIfInBounds_toArray, List.set_cons_zero, List.set_cons_succ]
                    exact z
                · change wpAnyH _ _ _ _ _ 5 #[true, true, true, true, true, false, true, false, true, false, false, false] _ _
                  simp only [actL, slotP, slotW, List.setIfInBounds_toArray, List.set_cons_zero, List.set_cons_succ]
                  refine wpAnyH_ready (rs := [5, 7]) (by kernel_rfl) (by simp) ?_
                  refine AllReadyH.cons (o := { dst := some 59, op := _, type := _, pos := _, after := _, guard := _ }) rfl (fun K hK => ?_) (AllReadyH.cons (o := { dst := some 8, op := _, type := _, pos := _, after := _, guard := _ }) rfl (fun K hK => ?_) AllReadyH.nil)
                  · go_simp
                    refine (HWz.out U (H3.out.low.trans (h.base.mono H3.out.low.size))).mono ?_
                    rintro e u ⟨⟨o, fa, fk, qa, qk, rfl, hadd, hff, hmd, hol⟩, hb⟩
                    have hj := h.ca3 (r := ⟨o, fa, fk, qa, qk⟩) hb hadd hff hmd hol
                    refine hK.out _ _ hj.base (fun _ => ?_)
                    clear hK K
                    have z := ih ⟨true, true, true, (some g7), none, (some g9), r1, r2, ⟨o, fa, fk, qa, qk⟩⟩ (show (4 : Nat) < 5 by decide) u hj
                    simp only [actL, slotP, slotW, List.setIfInBounds_toArray, List.set_cons_zero, List.set_cons_succ] at z
                    try simp only [Act.put, List.setIfInBounds_toArray, List.set_cons_zero, List.set_cons_succ]
                    exact z
                  · go_simp
                    have hj := h.al8
                    refine hK.out _ _ hj.base (fun _ => ?_)
                    clear hK K
                    have z := ih ⟨true, true, false, (some g7), (some U.heap.size), (some g9), r1, r2, r3⟩ (show (4 : Nat) < 5 by decide) _ hj
                    simp only [actL, slotP, slotW, List.setIfInBounds_toArray, List.set_cons_zero, List.set_cons_succ] at z
                    try simp only [Act.put, List.setIfInBounds_toArray, List.set_cons_zero, List.set_cons_succ]
                    exact z
              · rcases p9 with _ | g9
                · change wpAnyH _ _ _ _ _ 5 #[true, true, true, true, true, false, true, true, false, false, false, false] _ _
                  simp only [actL, slotP, slotW, List.setIfInBounds_toArray, List.set_cons_zero, List.set_cons_succ]
                  refine wpAnyH_ready (rs := [5, 8]) (by kernel_rfl) (by simp) ?_
                  refine AllReadyH.cons (o := { dst := some 59, op := _, type := _, pos := _, after := _, guard := _ }) rfl (fun K hK => ?_) (AllReadyH.cons (o := { dst := some 9, op := _, type := _, pos := _, after := _, guard := _ }) rfl (fun K hK => ?_) AllReadyH.nil)
                  · go_simp
                    refine (HWz.out U (H3.out.low.trans (h.base.mono H3.out.low.size))).mono ?_
                    rintro e u ⟨⟨o, fa, fk, qa, qk, rfl, hadd, hff, hmd, hol⟩, hb⟩
                    have hj := h.ca3 (r := ⟨o, fa, fk, qa, qk⟩) hb hadd hff hmd hol
                    refine hK.out _ _ hj.base (fun _ => ?_)
                    clear hK K
                    have z := ih ⟨true, true, true, (some g7), (some g8), none, r1, r2, ⟨o, fa, fk, qa, qk⟩⟩ (show (4 : Nat) < 5 by decide) u hj
                    simp only [actL, slotP, slotW, List.setIfInBounds_toArray, List.set_cons_zero, List.set_cons_succ] at z
                    try simp only [Act.put, List.setIfInBounds_toArray, List.set_cons_zero, List.set_cons_succ]
                    exact z
                  · go_simp
                    have hj := h.al9
                    refine hK.out _ _ hj.base (fun _ => ?_)
                    clear hK K
                    have z := ih ⟨true, true, false, (some g7), (some g8), (some U.heap.size), r1, r2, r3⟩ (show (4 : Nat) < 5 by decide) _ hj
                    simp only [actL, slotP, slotW, List.setIfInBounds_toArray, List.set_cons_zero, List.set_cons_succ] at z
                    try simp only [Act.put, List.setIfInBounds_toArray, List.set_cons_zero, List.set_cons_succ]
                    exact z
                · change wpAnyH _ _ _ _ _ 4 #[true, true, true, true, true, false, true, true, true, false, false, false] _ _
                  simp only [actL, slotP, slotW, List.setIfInBounds_toArray, List.set_cons_zero, List.set_cons_succ]
                  refine wpAnyH_ready (rs := [5]) (by kernel_rfl) (by simp) ?_
                  refine AllReadyH.cons (o := { dst := some 59, op := _, type := _, pos := _, after := _, guard := _ }) rfl (fun K hK => ?_) AllReadyH.nil
                  · go_simp
                    refine (HWz.out U (H3.out.low.trans (h.base.mono H3.out.low.size))).mono ?_
                    rintro e u ⟨⟨o, fa, fk, qa, qk, rfl, hadd, hff, hmd, hol⟩, hb⟩
                    have hj := h.ca3 (r := ⟨o, fa, fk, qa, qk⟩) hb hadd hff hmd hol
                    refine hK.out _ _ hj.base (fun _ => ?_)
                    clear hK K
                    have z := ih ⟨true, true, true, (some g7), (some g8), (some g9), r1, r2, ⟨o, fa, fk, qa, qk⟩⟩ (show (3 : Nat) < 4 by decide) u hj
                    simp only [actL, slotP, slotW, List.setIfInBounds_toArray, List.set_cons_zero, List.set_cons_succ] at z
                    try simp only [Act.put, List.setIfInBounds_toArray, List.set_cons_zero, List.set_cons_succ]
                    exact z
          · rcases p7 with _ | g7
            · rcases p8 with _ | g8
              · rcases p9 with _ | g9
                · change wpAnyH _ _ _ _ _ 6 #[true, true, true, true, true, true, false, false, false, false, false, false] _ _
                  simp only [actL, slotP, slotW, List.setIfInBounds_toArray, List.set_cons_zero, List.set_cons_succ]
                  refine wpAnyH_ready (rs := [6, 7, 8]) (by kernel_rfl) (by simp) ?_
                  refine AllReadyH.cons (o := { dst := some 7, op := _, type := _, pos := _, after := _, guard := _ }) rfl (fun K hK => ?_) (AllReadyH.cons (o := { dst := some 8, op := _, type := _, pos := _, after := _, guard := _ }) rfl (fun K hK => ?_) (AllReadyH.cons (o := { dst := some 9, op := _, type := _, pos := _, after := _, guard := _ }) rfl (fun K hK => ?_) AllReadyH.nil))
                  · go_simp
                    have hj := h.al7
                    refine hK.out _ _ hj.base (fun _ => ?_)
                    clear hK K
                    have z := ih ⟨true, true, true, (some U.heap.size), none, none, r1, r2, r3⟩ (show (5 : Nat) < 6 by decide) _ hj
                    simp only [actL, slotP, slotW, List.setIfInBounds_toArray, List.set_cons_zero, List.set_cons_succ] at z
                    try simp only [Act.put, List.setIfInBounds_toArray, List.set_cons_zero, List.set_cons_succ]
                    exact z
                  · go_simp
                    have hj := h.al8
                    refine hK.out _ _ hj.base (fun _ => ?_)
                    clear hK K
                    have z := ih ⟨true, true, true, none, (some U.heap.size), none, r1, r2, r3⟩ (show (5 : Nat) < 6 by decide) _ hj
                    simp only [actL, slotP, slotW, List.setIfInBounds_toArray, List.set_cons_zero, List.set_cons_succ] at z
                    try simp only [Act.put, List.setIfInBounds_toArray, List.set_cons_zero, List.set_cons_succ]
                    exact z
                  · go_simp
                    have hj := h.al9
                    refine hK.out _ _ hj.base (fun _ => ?_)
                    clear hK K
                    have z := ih ⟨true, true, true, none, none, (some U.heap.size), r1, r2, r3⟩ (show (5 : Nat) < 6 by decide) _ hj
                    simp only [actL, slotP, slotW, List.setIfInBounds_toArray, List.set_cons_zero, List.set_cons_succ] at z
                    try simp only [Act.put, List.setIfInBounds_toArray, List.set_cons_zero, List.set_cons_succ]
                    exact z
                · change wpAnyH _ _ _ _ _ 5 #[true, true, true, true, true, true, false, false, true, false, false, false] _ _
                  simp only [actL, slotP, slotW, List.setIfInBounds_toArray, List.set_cons_zero, List.set_cons_succ]
                  refine wpAnyH_ready (rs := [6, 7]) (by kernel_rfl) (by simp) ?_
                  refine AllReadyH.cons (o := { dst := some 7, op := _, type := _, pos := _, after := _, guard := _ }) rfl (fun K hK => ?_) (AllReadyH.cons (o := { dst := some 8, op := _, type := _, pos := _, after := _, guard := _ }) rfl (fun K hK => ?_) AllReadyH.nil)
                  · go_simp
                    have hj := h.al7
                    refine hK.out _ _ hj.base (fun _ => ?_)
                    clear hK K
                    have z := ih ⟨true, true, true, (some U.heap.size), none, (some g9), r1, r2, r3⟩ (show (4 : Nat) < 5 by decide) _ hj
                    simp only [actL, slotP, slotW, List.setIfInBounds_toArray, List.set_cons_zero, List.set_cons_succ] at z
                    try simp only [Act.put, List.setIfInBounds_toArray, List.set_cons_zero, List.set_cons_succ]
                    exact z
                  · go_simp
                    have hj := h.al8
                    refine hK.out _ _ hj.base (fun _ => ?_)
                    clear hK K
                    have z := ih ⟨true, true, true, none, (some U.heap.size), (some g9), r1, r2, r3⟩ (show (4 : Nat) < 5 by decide) _ hj
                    simp only [actL, slotP, slotW, List.setIfInBounds_toArray, List.set_cons_zero, List.set_cons_succ] at z
                    try simp only [Act.put, List.setIfInBounds_toArray, List.set_cons_zero, List.set_cons_succ]
                    exact z
              · rcases p9 with _ | g9
                · change wpAnyH _ _ _ _ _ 5 #[true, true, true, true, true, true, false, true, false, false, false, false] _ _
                  simp only [actL, slotP, slotW, List.setIfInBounds_toArray, List.set_cons_zero, List.set_cons_succ]
                  refine wpAnyH_ready (rs := [6, 8]) (by kernel_rfl) (by simp) ?_
                  refine AllReadyH.cons (o := { dst := some 7, op := _, type := _, pos := _, after := _, guard := _ }) rfl (fun K hK => ?_) (AllReadyH.cons (o := { dst := some 9, op := _, type := _, pos := _, after := _, guard := _ }) rfl (fun K hK => ?_) AllReadyH.nil)
                  · go_simp
                    have hj := h.al7
                    refine hK.out _ _ hj.base (fun _ => ?_)
                    clear hK K
                    have z := ih ⟨true, true, true, (some U.heap.size), (some g8), none, r1, r2, r3⟩ (show (4 : Nat) < 5 by decide) _ hj
                    simp only [actL, slotP, slotW, List.setIfInBounds_toArray, List.set_cons_zero, List.set_cons_succ] at z
                    try simp only [Act.put, List.setIfInBounds_toArray, List.set_cons_zero, List.set_cons_succ]
                    exact z
                  · go_simp
                    have hj := h.al9
                    refine hK.out _ _ hj.base (fun _ => ?_)
                    clear hK K
                    have z := ih ⟨true, true, true, none, (some g8), (some U.heap.size), r1, r2, r3⟩ (show (4 : Nat) < 5 by decide) _ hj
                    simp only [actL, slotP, slotW, List.setIfInBounds_toArray, List.set_cons_zero, List.set_cons_succ] at z
                    try simp only [Act.put, List.setIfInBounds_toArray, List.set_cons_zero, List.set_cons_succ]
                    exact z
                · change wpAnyH _ _ _ _ _ 4 #[true, true, true, true, true, true, false, true, true, false, false, false] _ _
                  simp only [actL, slotP, slotW, List.setIfInBounds_toArray, List.set_cons_zero, List.set_cons_succ]
                  refine wpAnyH_ready (rs := [6]) (by kernel_rfl) (by simp) ?_
                  refine AllReadyH.cons (o := { dst := some 7, op := _, type := _, pos := _, after := _, guard := _ }) rfl (fun K hK => ?_) AllReadyH.nil
                  · go_simp
                    have hj := h.al7
                    refine hK.out _ _ hj.base (fun _ => ?_)
                    clear hK K
                    have z := ih ⟨true, true, true, (some U.heap.size), (some g8), (some g9), r1, r2, r3⟩ (show (3 : Nat) < 4 by decide) _ hj
                    simp only [actL, slotP, slotW, List.setIfInBounds_toArray, List.set_cons_zero, List.set_cons_succ] at z
                    try simp only [Act.put, List.setIfInBounds_toArray, List.set_cons_zero, List.set_cons_succ]
                    exact z
            · rcases p8 with _ | g8
              · rcases p9 with _ | g9
                · change wpAnyH _ _ _ _ _ 5 #[true, true, true, true, true, true, true, false, false, false, false, false] _ _
                  simp only [actL, slotP, slotW, List.setIfInBounds_toArray, List.set_cons_zero, List.set_cons_succ]
                  refine wpAnyH_ready (rs := [7, 8]) (by kernel_rfl) (by simp) ?_
                  refine AllReadyH.cons (o := { dst := some 8, op := _, type := _, pos := _, after := _, guard := _ }) rfl (fun K hK => ?_) (AllReadyH.cons (o := { dst := some 9, op := _, type := _, pos := _, after := _, guard := _ }) rfl (fun K hK => ?_) AllReadyH.nil)
                  · go_simp
                    have hj := h.al8
                    refine hK.out _ _ hj.base (fun _ => ?_)
                    clear hK K
                    have z := ih ⟨true, true, true, (some g7), (some U.heap.size), none, r1, r2, r3⟩ (show (4 : Nat) < 5 by decide) _ hj
                    simp only [actL, slotP, slotW, List.setIfInBounds_toArray, List.set_cons_zero, List.set_cons_succ] at z
                    try simp only [Act.put, List.setIfInBounds_toArray, List.set_cons_zero, List.set_cons_succ]
                    exact z
                  · go_simp
                    have hj := h.al9
                    refine hK.out _ _ hj.base (fun _ => ?_)
                    clear hK K
                    have z := ih ⟨true, true, true, (some g7), none, (some U.heap.size), r1, r2, r3⟩ (show (4 : Nat) < 5 by decide) _ hj
                    simp only [actL, slotP, slotW, List.setIfInBounds_toArray, List.set_cons_zero, List.set_cons_succ] at z
                    try simp only [Act.put, List.setIfInBounds_toArray, List.set_cons_zero, List.set_cons_succ]
                    exact z
                · change wpAnyH _ _ _ _ _ 4 #[true, true, true, true, true, true, true, false, true, false, false, false] _ _
                  simp only [actL, slotP, slotW, List.setIfInBounds_toArray, List.set_cons_zero, List.set_cons_succ]
                  refine wpAnyH_ready (rs := [7]) (by kernel_rfl) (by simp) ?_
                  refine AllReadyH.cons (o := { dst := some 8, op := _, type := _, pos := _, after := _, guard := _ }) rfl (fun K hK => ?_) AllReadyH.nil
                  · go_simp
                    have hj := h.al8
                    refine hK.out _ _ hj.base (fun _ => ?_)
                    clear hK K
                    have z := ih ⟨true, true, true, (some g7), (some U.heap.size), (some g9), r1, r2, r3⟩ (show (3 : Nat) < 4 by decide) _ hj
                    simp only [actL, slotP, slotW, List.setIfInBounds_toArray, List.set_cons_zero, List.set_cons_succ] at z
                    try simp only [Act.put, List.setIfInBounds_toArray, List.set_cons_zero, List.set_cons_succ]
                    exact z
              · rcases p9 with _ | g9
                · change wpAnyH _ _ _ _ _ 4 #[true, true, true, true, true, true, true, true, false, false, false, false] _ _
                  simp only [actL, slotP, slotW, List.setIfInBounds_toArray, List.set_cons_zero, List.set_cons_succ]
                  refine wpAnyH_ready (rs := [8]) (by kernel_rfl) (by simp) ?_
                  refine AllReadyH.cons (o := { dst := some 9, op := _, type := _, pos := _, after := _, guard := _ }) rfl (fun K hK => ?_) AllReadyH.nil
                  · go_simp
                    have hj := h.al9
                    refine hK.out _ _ hj.base (fun _ => ?_)
                    clear hK K
                    have z := ih ⟨true, true, true, (some g7), (some g8), (some U.heap.size), r1, r2, r3⟩ (show (3 : Nat) < 4 by decide) _ hj
                    simp only [actL, slotP, slotW, List.setIfInBounds_toArray, List.set_cons_zero, List.set_cons_succ] at z
                    try simp only [Act.put, List.setIfInBounds_toArray, List.set_cons_zero, List.set_cons_succ]
                    exact z
                · change wpAnyH _ _ _ _ _ 3 #[true, true, true, true, true, true, true, true, true, false, false, false] _ _
                  simp only [actL, slotP, slotW, List.setIfInBounds_toArray, List.set_cons_zero, List.set_cons_succ]
                  have hb := h.base
                  refine wpAnyH_ready (rs := [9]) (by kernel_rfl) (by simp) ?_
                  refine AllReadyH.cons (o := { dst := none, op := _, type := _, pos := _, after := _, guard := _ }) rfl (fun K hK => ?_) AllReadyH.nil
                  refine draw_storeB rfl 29 (.tmp 7) (.tmp 55) rfl g7 (sdc (sortF x) r1.fa r1.fk r1.o r1.qa r1.qk) rfl rfl (infoSd (h.k1 rfl).cin.v16) (sdc_one _ _ _ _ _ _) ⟨_, (h.al g7 (.inl rfl)).2, by rw [sdc_size, sdc_size, (h.k1 rfl).cin.v16]; rfl⟩ ?_
                  replace hb := belowRow hb (h.al g7 (.inl rfl)).1 (sdc (sortF x) r1.fa r1.fk r1.o r1.qa r1.qk)
                  refine hK.out _ _ hb (fun _ => ?_)
                  clear hK K
                  try simp only [Act.put, List.setIfInBounds_toArray, List.set_cons_zero, List.set_cons_succ]
                  refine wpAnyH_ready (rs := [10]) (by kernel_rfl) (by simp) ?_
                  refine AllReadyH.cons (o := { dst := none, op := _, type := _, pos := _, after := _, guard := _ }) rfl (fun K hK => ?_) AllReadyH.nil
                  refine draw_storeB rfl 29 (.tmp 8) (.tmp 57) rfl g8 (sdc (sortF y) r2.fa r2.fk r2.o r2.qa r2.qk) rfl rfl (infoSd (h.k2 rfl).cin.v16) (sdc_one _ _ _ _ _ _) ⟨_, ((h.al g8 (.inr (.inl rfl))).2.other (Ne.symm (h.d78 g7 g8 rfl rfl)) _), by rw [sdc_size, sdc_size, (h.k2 rfl).cin.v16]; rfl⟩ ?_
                  replace hb := belowRow hb (h.al g8 (.inr (.inl rfl))).1 (sdc (sortF y) r2.fa r2.fk r2.o r2.qa r2.qk)
                  refine hK.out _ _ hb (fun _ => ?_)
                  clear hK K
                  try simp only [Act.put, List.setIfInBounds_toArray, List.set_cons_zero, List.set_cons_succ]
                  refine wpAnyH_ready (rs := [11]) (by kernel_rfl) (by simp) ?_
                  refine AllReadyH.cons (o := { dst := none, op := _, type := _, pos := _, after := _, guard := _ }) rfl (fun K hK => ?_) AllReadyH.nil
                  refine draw_storeB rfl 29 (.tmp 9) (.tmp 59) rfl g9 (sdc (sortF z) r3.fa r3.fk r3.o r3.qa r3.qk) rfl rfl (infoSd (h.k3 rfl).cin.v16) (sdc_one _ _ _ _ _ _) ⟨_, (((h.al g9 (.inr (.inr rfl))).2.other (Ne.symm (h.d79 g7 g9 rfl rfl)) _).other (Ne.symm (h.d89 g8 g9 rfl rfl)) _), by rw [sdc_size, sdc_size, (h.k3 rfl).cin.v16]; rfl⟩ ?_
                  replace hb := belowRow hb (h.al g9 (.inr (.inr rfl))).1 (sdc (sortF z) r3.fa r3.fk r3.o r3.qa r3.qk)
                  refine hK.out _ _ hb (fun _ => ?_)
                  clear hK K
                  try simp only [Act.put, List.setIfInBounds_toArray, List.set_cons_zero, List.set_cons_succ]
                  refine wpAnyH_done (by kernel_rfl) ?_ _
                  try simp only [Act.put, List.setIfInBounds_toArray, List.set_cons_zero, List.set_cons_succ]
                  have Z := Lib.hid h.end'
                  clear h hb ih
                  go_wp2_with fail
                  go_meet
                  exact ⟨_, _, _, r1, r2, r3, rfl, rfl, rfl, Z.out⟩
  case rest =>
    obtain ⟨g7, g8, g9, ⟨o1, fa1, fk1, qa1, qk1⟩, ⟨o2, fa2, fk2, qa2, qk2⟩, ⟨o3, fa3, fk3, qa3, qk3⟩, rfl, rfl, rfl, hmid⟩ := hcut
    rename World => W1
    have hX1 := sortF_len x
    have hY1 := sortF_len y
    have hZ1 := sortF_len z
    have hm1 := hmid.k1.len
    have hm2 := hmid.k2.len
    have hm3 := hmid.k3.len
    have HWH := Lib.hid (And.intro (whole_of (of_decide_eq_true HDO.out.1) (fun f hf => mem_sortD.2 (List.mem_map_of_mem hf)) hmid.k1.add) (And.intro (whole_of (of_decide_eq_true HDO.out.2.1) (fun f hf => mem_sortD.2 (List.mem_map_of_mem hf)) hmid.k2.add) (whole_of (of_decide_eq_true HDO.out.2.2) (fun f hf => mem_sortD.2 (List.mem_map_of_mem hf)) hmid.k3.add)))
    have H1 : Hid (SM w (sortF x) (sortF y) (sortF z) g7 g8 g9 fa1 fa2 fa3 fk1 fk2 fk3 o1 o2 o3 qa1 qa2 qa3 qk1 qk2 qk3 W1) := Lib.hid ⟨H3.out.low.trans (hmid.base.mono H3.out.low.size), hmid.b7, hmid.b8, hmid.b9, hmid.k1.fin, hmid.k2.fin, hmid.k3.fin, hmid.k1.cin, hmid.k2.cin, hmid.k3.cin⟩
    have hl1 : (sortF x).length ≤ 30 := by omega
    have hl2 : (sortF y).length ≤ 30 := by omega
    have hl3 : (sortF z).length ≤ 30 := by omega
    have hn1 : o1.l.length ≤ 70 := by (have h := hm1; dsimp only at h; omega)
    have hn2 : o2.l.length ≤ 70 := by (have h := hm2; dsimp only at h; omega)
    have hn3 : o3.l.length ≤ 70 := by (have h := hm3; dsimp only at h; omega)
    clear hmid hX1 hY1 hZ1 hm1 hm2 hm3 HWx HWy HWz H3 HI HDO hxl hyl hzl hxcl hycl hzcl
    generalize sortF x = X at *
    generalize sortF y = Y at *
    generalize sortF z = Z at *
    have V1 := Lib.hid H1.out.n1.v16
    have V2 := Lib.hid H1.out.n2.v16
    have V3 := Lib.hid H1.out.n3.v16
    obtain ⟨J1, hJ⟩ : ∃ J, J = joinK X o1 Y o2 := ⟨_, rfl⟩
    have hJl1 : J1.length ≤ 60 := by rw [hJ]; have := joinK_len X o1 Y o2; omega
    have HC := Lib.hid (joinX X Y fa1 fa2 fk1 fk2 o1 o2 qa1 qa2 qk1 qk2 J1 W1 hJ H1.out.f1 H1.out.f2 (by omega) (by omega) H1.out.n1 H1.out.n2 (by omega))
    have HJ1 := Lib.hid hJ
    clear hJ
    have a1 := sd_facts H1.out.b7.all
    have a2 := sd_facts H1.out.b8.all
    go_wp2_with (first
      | ((with_reducible refine bl_load ?_ 27 (.tmp 63) ?_ (g7) 1 (ccs o1.v (.slice qa1 o1.l.length qk1)) ?_ ?_ Tryz.underlying27 ?_ ?_ ?_); rfl; rfl; rfl; exact sd_ctx H1.out.b7.all; rfl; exact infoC _ V1.out; simp only [Act.put, List.setIfInBounds_toArray, List.set_cons_zero, List.set_cons_succ])
      | ((with_reducible refine bl_load ?_ 27 (.tmp 67) ?_ (g8) 1 (ccs o2.v (.slice qa2 o2.l.length qk2)) ?_ ?_ Tryz.underlying27 ?_ ?_ ?_); rfl; rfl; rfl; exact sd_ctx H1.out.b8.all; rfl; exact infoC _ V2.out; simp only [Act.put, List.setIfInBounds_toArray, List.set_cons_zero, List.set_cons_succ]))
    refine HC.out.mono ?_
    rintro e u1 ⟨⟨c1, ra1, pa1, rk1, pk1, rfl, hj, hff, hmd, hjl⟩, hb⟩
    have hb9 := hb.trans ((lowA u1 (.cells (ccs c1.v (.slice pa1 c1.l.length pk1)) 27)).mono hb.size)
    have HO1 := Lib.hid (And.intro hj hmd.v16)
    have hcl1 : c1.l.length ≤ 140 := by omega
    have R1 := Lib.hid (RX.new pk1 hff hmd)
    have H2 := Lib.hid (H1.out.below hb9)
    clear a1 a2 hj hff hmd hjl hb hb9 H1 HC
    go_upto_region 5 with ((with_reducible refine cl_store ?_ (.tmp 11) (.tmp 71) ?_ u1.heap.size c1.v pa1 c1.l.length pk1 ?_ ?_ ?_ ?_ ?_); rfl; rfl; rfl; rfl; exact ⟨_, _, CRow.new u1 zV nilS, rfl⟩; exact HO1.out.2)
    change Code.wp _ _ _ _ ((u1.alloc (.cells (ccs zV nilS) 27)).setRow u1.heap.size (ccs c1.v (.slice pa1 c1.l.length pk1)))
    rw [World.setRow_alloc_new]
    generalize u1.alloc (.cells (ccs c1.v (.slice pa1 c1.l.length pk1)) 27) = A1 at *
    generalize u1.heap.size = h1 at *
    obtain ⟨J2, hJ⟩ : ∃ J, J = joinK Y o2 X o1 := ⟨_, rfl⟩
    have hJl2 : J2.length ≤ 60 := by rw [hJ]; have := joinK_len Y o2 X o1; omega
    have HC := Lib.hid (joinX Y X fa2 fa1 fk2 fk1 o2 o1 qa2 qa1 qk2 qk1 J2 A1 hJ H2.out.f2 H2.out.f1 (by omega) (by omega) H2.out.n2 H2.out.n1 (by omega))
    have HJ2 := Lib.hid hJ
    clear hJ
    have a2 := sd_facts H2.out.b8.all
    have a1 := sd_facts H2.out.b7.all
    go_wp2_with (first
      | ((with_reducible refine bl_load ?_ 27 (.tmp 75) ?_ (g8) 1 (ccs o2.v (.slice qa2 o2.l.length qk2)) ?_ ?_ Tryz.underlying27 ?_ ?_ ?_); rfl; rfl; rfl; exact sd_ctx H2.out.b8.all; rfl; exact infoC _ V2.out; simp only [Act.put, List.setIfInBounds_toArray, List.set_cons_zero, List.set_cons_succ])
      | ((with_reducible refine bl_load ?_ 27 (.tmp 79) ?_ (g7) 1 (ccs o1.v (.slice qa1 o1.l.length qk1)) ?_ ?_ Tryz.underlying27 ?_ ?_ ?_); rfl; rfl; rfl; exact sd_ctx H2.out.b7.all; rfl; exact infoC _ V1.out; simp only [Act.put, List.setIfInBounds_toArray, List.set_cons_zero, List.set_cons_succ]))
    refine HC.out.mono ?_
    rintro e u2 ⟨⟨c2, ra2, pa2, rk2, pk2, rfl, hj, hff, hmd, hjl⟩, hb⟩
    have hb9 := hb.trans ((lowA u2 (.cells (ccs c2.v (.slice pa2 c2.l.length pk2)) 27)).mono hb.size)
    have HO2 := Lib.hid (And.intro hj hmd.v16)
    have hcl2 : c2.l.length ≤ 140 := by omega
    have R2 := Lib.hid (RX.new pk2 hff hmd)
    have H3 := Lib.hid (H2.out.below hb9)
    replace R1 := Lib.hid (R1.out.below hb9)
    clear a2 a1 hj hff hmd hjl hb hb9 H2 HC
    go_upto_region 6 with ((with_reducible refine cl_store ?_ (.tmp 13) (.tmp 83) ?_ u2.heap.size c2.v pa2 c2.l.length pk2 ?_ ?_ ?_ ?_ ?_); rfl; rfl; rfl; rfl; exact ⟨_, _, CRow.new u2 zV nilS, rfl⟩; exact HO2.out.2)
    change Code.wp _ _ _ _ ((u2.alloc (.cells (ccs zV nilS) 27)).setRow u2.heap.size (ccs c2.v (.slice pa2 c2.l.length pk2)))
    rw [World.setRow_alloc_new]
    generalize u2.alloc (.cells (ccs c2.v (.slice pa2 c2.l.length pk2)) 27) = A2 at *
    generalize u2.heap.size = h2 at *
    obtain ⟨J3, hJ⟩ : ∃ J, J = joinK J1 c1 Z o3 := ⟨_, rfl⟩
    have hJl3 : J3.length ≤ 90 := by rw [hJ]; have := joinK_len J1 c1 Z o3; omega
    have HC := Lib.hid (joinX J1 Z ra1 fa3 rk1 fk3 c1 o3 pa1 qa3 pk1 qk3 J3 A2 hJ R1.out.fin H3.out.f3 (by omega) (by omega) R1.out.cin H3.out.n3 (by omega))
    have HJ3 := Lib.hid hJ
    clear hJ
    have a3 := sd_facts H3.out.b9.all
    go_wp2_with (first
      | ((with_reducible refine cl_load ?_ (.tmp 11) ?_ h1 c1.v (.slice pa1 c1.l.length pk1) ?_ ?_ ?_ ?_); rfl; rfl; rfl; exact R1.out.row; exact HO1.out.2; simp only [Act.put, List.setIfInBounds_toArray, List.set_cons_zero, List.set_cons_succ])
      | ((with_reducible refine bl_load ?_ 27 (.tmp 89) ?_ (g9) 1 (ccs o3.v (.slice qa3 o3.l.length qk3)) ?_ ?_ Tryz.underlying27 ?_ ?_ ?_); rfl; rfl; rfl; exact sd_ctx H3.out.b9.all; rfl; exact infoC _ V3.out; simp only [Act.put, List.setIfInBounds_toArray, List.set_cons_zero, List.set_cons_succ]))
    refine HC.out.mono ?_
    rintro e u3 ⟨⟨c3, ra3, pa3, rk3, pk3, rfl, hj, hff, hmd, hjl⟩, hb⟩
    have hb9 := hb.trans ((lowA u3 (.cells (ccs c3.v (.slice pa3 c3.l.length pk3)) 27)).mono hb.size)
    have HO3 := Lib.hid (And.intro hj hmd.v16)
    have hcl3 : c3.l.length ≤ 210 := by omega
    have R3 := Lib.hid (RX.new pk3 hff hmd)
    have H4 := Lib.hid (H3.out.below hb9)
    replace R1 := Lib.hid (R1.out.below hb9)
    replace R2 := Lib.hid (R2.out.below hb9)
    clear  a3 hj hff hmd hjl hb hb9 H3 HC
    go_upto_region 7 with ((with_reducible refine cl_store ?_ (.tmp 15) (.tmp 93) ?_ u3.heap.size c3.v pa3 c3.l.length pk3 ?_ ?_ ?_ ?_ ?_); rfl; rfl; rfl; rfl; exact ⟨_, _, CRow.new u3 zV nilS, rfl⟩; exact HO3.out.2)
    change Code.wp _ _ _ _ ((u3.alloc (.cells (ccs zV nilS) 27)).setRow u3.heap.size (ccs c3.v (.slice pa3 c3.l.length pk3)))
    rw [World.setRow_alloc_new]
    generalize u3.alloc (.cells (ccs c3.v (.slice pa3 c3.l.length pk3)) 27) = A3 at *
    generalize u3.heap.size = h3 at *
    obtain ⟨J4, hJ⟩ : ∃ J, J = joinK Y o2 Z o3 := ⟨_, rfl⟩
    have hJl4 : J4.length ≤ 60 := by rw [hJ]; have := joinK_len Y o2 Z o3; omega
    have HC := Lib.hid (joinX Y Z fa2 fa3 fk2 fk3 o2 o3 qa2 qa3 qk2 qk3 J4 A3 hJ H4.out.f2 H4.out.f3 (by omega) (by omega) H4.out.n2 H4.out.n3 (by omega))
    have HJ4 := Lib.hid hJ
    clear hJ
    have a2 := sd_facts H4.out.b8.all
    have a3 := sd_facts H4.out.b9.all
    go_wp2_with (first
      | ((with_reducible refine bl_load ?_ 27 (.tmp 97) ?_ (g8) 1 (ccs o2.v (.slice qa2 o2.l.length qk2)) ?_ ?_ Tryz.underlying27 ?_ ?_ ?_); rfl; rfl; rfl; exact sd_ctx H4.out.b8.all; rfl; exact infoC _ V2.out; simp only [Act.put, List.setIfInBounds_toArray, List.set_cons_zero, List.set_cons_succ])
      | ((with_reducible refine bl_load ?_ 27 (.tmp 101) ?_ (g9) 1 (ccs o3.v (.slice qa3 o3.l.length qk3)) ?_ ?_ Tryz.underlying27 ?_ ?_ ?_); rfl; rfl; rfl; exact sd_ctx H4.out.b9.all; rfl; exact infoC _ V3.out; simp only [Act.put, List.setIfInBounds_toArray, List.set_cons_zero, List.set_cons_succ]))
    refine HC.out.mono ?_
    rintro e u4 ⟨⟨c4, ra4, pa4, rk4, pk4, rfl, hj, hff, hmd, hjl⟩, hb⟩
    have hb9 := hb.trans ((lowA u4 (.cells (ccs c4.v (.slice pa4 c4.l.length pk4)) 27)).mono hb.size)
    have HO4 := Lib.hid (And.intro hj hmd.v16)
    have hcl4 : c4.l.length ≤ 140 := by omega
    have R4 := Lib.hid (RX.new pk4 hff hmd)
    have H5 := Lib.hid (H4.out.below hb9)
    replace R1 := Lib.hid (R1.out.below hb9)
    replace R2 := Lib.hid (R2.out.below hb9)
    replace R3 := Lib.hid (R3.out.below hb9)
    clear a2 a3 hj hff hmd hjl hb hb9 H4 HC
    go_upto_region 8 with ((with_reducible refine cl_store ?_ (.tmp 17) (.tmp 105) ?_ u4.heap.size c4.v pa4 c4.l.length pk4 ?_ ?_ ?_ ?_ ?_); rfl; rfl; rfl; rfl; exact ⟨_, _, CRow.new u4 zV nilS, rfl⟩; exact HO4.out.2)
    change Code.wp _ _ _ _ ((u4.alloc (.cells (ccs zV nilS) 27)).setRow u4.heap.size (ccs c4.v (.slice pa4 c4.l.length pk4)))
    rw [World.setRow_alloc_new]
    generalize u4.alloc (.cells (ccs c4.v (.slice pa4 c4.l.length pk4)) 27) = A4 at *
    generalize u4.heap.size = h4 at *
    obtain ⟨J5, hJ⟩ : ∃ J, J = joinK X o1 J4 c4 := ⟨_, rfl⟩
    have hJl5 : J5.length ≤ 90 := by rw [hJ]; have := joinK_len X o1 J4 c4; omega
    have HC := Lib.hid (joinX X J4 fa1 ra4 fk1 rk4 o1 c4 qa1 pa4 qk1 pk4 J5 A4 hJ H5.out.f1 R4.out.fin (by omega) (by omega) H5.out.n1 R4.out.cin (by omega))
    have HJ5 := Lib.hid hJ
    clear hJ
    have a1 := sd_facts H5.out.b7.all
    go_wp2_with (first
      | ((with_reducible refine bl_load ?_ 27 (.tmp 109) ?_ (g7) 1 (ccs o1.v (.slice qa1 o1.l.length qk1)) ?_ ?_ Tryz.underlying27 ?_ ?_ ?_); rfl; rfl; rfl; exact sd_ctx H5.out.b7.all; rfl; exact infoC _ V1.out; simp only [Act.put, List.setIfInBounds_toArray, List.set_cons_zero, List.set_cons_succ])
      | ((with_reducible refine cl_load ?_ (.tmp 17) ?_ h4 c4.v (.slice pa4 c4.l.length pk4) ?_ ?_ ?_ ?_); rfl; rfl; rfl; exact R4.out.row; exact HO4.out.2; simp only [Act.put, List.setIfInBounds_toArray, List.set_cons_zero, List.set_cons_succ]))
    refine HC.out.mono ?_
    rintro e u5 ⟨⟨c5, ra5, pa5, rk5, pk5, rfl, hj, hff, hmd, hjl⟩, hb⟩
    have hb9 := hb.trans ((lowA u5 (.cells (ccs c5.v (.slice pa5 c5.l.length pk5)) 27)).mono hb.size)
    have HO5 := Lib.hid (And.intro hj hmd.v16)
    have hcl5 : c5.l.length ≤ 210 := by omega
    have R5 := Lib.hid (RX.new pk5 hff hmd)
    have H6 := Lib.hid (H5.out.below hb9)
    replace R1 := Lib.hid (R1.out.below hb9)
    replace R2 := Lib.hid (R2.out.below hb9)
    replace R3 := Lib.hid (R3.out.below hb9)
    replace R4 := Lib.hid (R4.out.below hb9)
    clear a1  hj hff hmd hjl hb hb9 H5 HC
    go_upto_region 9 with ((with_reducible refine cl_store ?_ (.tmp 19) (.tmp 115) ?_ u5.heap.size c5.v pa5 c5.l.length pk5 ?_ ?_ ?_ ?_ ?_); rfl; rfl; rfl; rfl; exact ⟨_, _, CRow.new u5 zV nilS, rfl⟩; exact HO5.out.2)
    change Code.wp _ _ _ _ ((u5.alloc (.cells (ccs zV nilS) 27)).setRow u5.heap.size (ccs c5.v (.slice pa5 c5.l.length pk5)))
    rw [World.setRow_alloc_new]
    generalize u5.alloc (.cells (ccs c5.v (.slice pa5 c5.l.length pk5)) 27) = A5 at *
    generalize u5.heap.size = h5 at *
    obtain ⟨J6, hJ⟩ : ∃ J, J = joinK J1 c1 Y o2 := ⟨_, rfl⟩
    have hJl6 : J6.length ≤ 90 := by rw [hJ]; have := joinK_len J1 c1 Y o2; omega
    have HC := Lib.hid (joinX J1 Y ra1 fa2 rk1 fk2 c1 o2 pa1 qa2 pk1 qk2 J6 A5 hJ R1.out.fin H6.out.f2 (by omega) (by omega) R1.out.cin H6.out.n2 (by omega))
    have HJ6 := Lib.hid hJ
    clear hJ
    have a2 := sd_facts H6.out.b8.all
    go_wp2_with (first
      | ((with_reducible refine cl_load ?_ (.tmp 11) ?_ h1 c1.v (.slice pa1 c1.l.length pk1) ?_ ?_ ?_ ?_); rfl; rfl; rfl; exact R1.out.row; exact HO1.out.2; simp only [Act.put, List.setIfInBounds_toArray, List.set_cons_zero, List.set_cons_succ])
      | ((with_reducible refine bl_load ?_ 27 (.tmp 121) ?_ (g8) 1 (ccs o2.v (.slice qa2 o2.l.length qk2)) ?_ ?_ Tryz.underlying27 ?_ ?_ ?_); rfl; rfl; rfl; exact sd_ctx H6.out.b8.all; rfl; exact infoC _ V2.out; simp only [Act.put, List.setIfInBounds_toArray, List.set_cons_zero, List.set_cons_succ]))
    refine HC.out.mono ?_
    rintro e u6 ⟨⟨c6, ra6, pa6, rk6, pk6, rfl, hj, hff, hmd, hjl⟩, hb⟩
    have hb9 := hb.trans ((lowA u6 (.cells (ccs c6.v (.slice pa6 c6.l.length pk6)) 27)).mono hb.size)
    have HO6 := Lib.hid (And.intro hj hmd.v16)
    have hcl6 : c6.l.length ≤ 210 := by omega
    have R6 := Lib.hid (RX.new pk6 hff hmd)
    have H7 := Lib.hid (H6.out.below hb9)
    replace R1 := Lib.hid (R1.out.below hb9)
    replace R2 := Lib.hid (R2.out.below hb9)
    replace R3 := Lib.hid (R3.out.below hb9)
    replace R4 := Lib.hid (R4.out.below hb9)
    replace R5 := Lib.hid (R5.out.below hb9)
    clear  a2 hj hff hmd hjl hb hb9 H6 HC
    go_upto_region 10 with ((with_reducible refine cl_store ?_ (.tmp 21) (.tmp 125) ?_ u6.heap.size c6.v pa6 c6.l.length pk6 ?_ ?_ ?_ ?_ ?_); rfl; rfl; rfl; rfl; exact ⟨_, _, CRow.new u6 zV nilS, rfl⟩; exact HO6.out.2)
    change Code.wp _ _ _ _ ((u6.alloc (.cells (ccs zV nilS) 27)).setRow u6.heap.size (ccs c6.v (.slice pa6 c6.l.length pk6)))
    rw [World.setRow_alloc_new]
    generalize u6.alloc (.cells (ccs c6.v (.slice pa6 c6.l.length pk6)) 27) = A6 at *
    generalize u6.heap.size = h6 at *
    have HL := Lib.hid H7.out.low
    have d1 : decide (J1 = J2) = true := decide_eq_true (by rw [HJ1.out, HJ2.out]; exact joinK_comm _ _ _ _)
    have d2 : decide (c1 = c2) = true := decide_eq_true (HO1.out.1.same HO2.out.1.comm)
    have d3 : decide (J3 = J5) = true := decide_eq_true (by rw [HJ3.out, HJ5.out, HJ1.out, HJ4.out]; exact joinK_assoc HWH.out.1 HWH.out.2.1 HWH.out.2.2 HO1.out.1 HO4.out.1)
    have d4 : decide (c3 = c5) = true := decide_eq_true (JoinOf.assoc HO1.out.1 HO3.out.1 HO4.out.1 HO5.out.1)
    have d5 : decide (J6 = J1) = true := decide_eq_true (by rw [HJ6.out, HJ1.out]; exact joinK_again HWH.out.2.1 HO1.out.1)
    have d6 : decide (c6 = c1) = true := decide_eq_true (HO6.out.1.same HO1.out.1.again)
    have S1 := Lib.hid (fun U (hU : Go.RowKit.Below A6.heap.size A6 U) => sameRF J1 J2 ra1 ra2 rk1 rk2 U (R1.out.fin.below hU) (R2.out.fin.below hU) (by unfold maxLen; omega))
    simp only [d1] at S1
    have S2 := Lib.hid (fun U (hU : Go.RowKit.Below A6.heap.size A6 U) => sameRC c1 c2 pa1 pa2 pk1 pk2 U (R1.out.cin.below hU) (R2.out.cin.below hU))
    simp only [d2] at S2
    have S3 := Lib.hid (fun U (hU : Go.RowKit.Below A6.heap.size A6 U) => sameRF J3 J5 ra3 ra5 rk3 rk5 U (R3.out.fin.below hU) (R5.out.fin.below hU) (by unfold maxLen; omega))
    simp only [d3] at S3
    have S4 := Lib.hid (fun U (hU : Go.RowKit.Below A6.heap.size A6 U) => sameRC c3 c5 pa3 pa5 pk3 pk5 U (R3.out.cin.below hU) (R5.out.cin.below hU))
    simp only [d4] at S4
    have S5 := Lib.hid (fun U (hU : Go.RowKit.Below A6.heap.size A6 U) => sameRF J6 J1 ra6 ra1 rk6 rk1 U (R6.out.fin.below hU) (R1.out.fin.below hU) (by unfold maxLen; omega))
    simp only [d5] at S5
    have S6 := Lib.hid (fun U (hU : Go.RowKit.Below A6.heap.size A6 U) => sameRC c6 c1 pa6 pa1 pk6 pk1 U (R6.out.cin.below hU) (R1.out.cin.below hU))
    simp only [d6] at S6
    clear d1 d2 d3 d4 d5 d6 HJ1 HJ2 HJ3 HJ4 HJ5 HJ6 HWH H7
    have K := Lib.hid (Below.refl A6.heap.size A6)
    go_wp2_with fail
    refine (S1.out _ K.out).mono ?_
    rintro e v1 ⟨rfl, hb⟩
    replace K := Lib.hid (K.out.trans (hb.mono K.out.size))
    clear hb S1
    go_wp2_with (first
      | ((with_reducible refine cl_load ?_ (.tmp 11) ?_ h1 c1.v (.slice pa1 c1.l.length pk1) ?_ ?_ ?_ ?_); rfl; rfl; rfl; exact R1.out.row.keep K.out; exact HO1.out.2; simp only [Act.put, List.setIfInBounds_toArray, List.set_cons_zero, List.set_cons_succ])
      | ((with_reducible refine cl_load ?_ (.tmp 13) ?_ h2 c2.v (.slice pa2 c2.l.length pk2) ?_ ?_ ?_ ?_); rfl; rfl; rfl; exact R2.out.row.keep K.out; exact HO2.out.2; simp only [Act.put, List.setIfInBounds_toArray, List.set_cons_zero, List.set_cons_succ]))
    refine (S2.out _ K.out).mono ?_
    rintro e v2 ⟨rfl, hb⟩
    replace K := Lib.hid (K.out.trans (hb.mono K.out.size))
    clear hb S2
    go_wp2_with fail
    refine (S3.out _ K.out).mono ?_
    rintro e v3 ⟨rfl, hb⟩
    replace K := Lib.hid (K.out.trans (hb.mono K.out.size))
    clear hb S3
    go_wp2_with (first
      | ((with_reducible refine cl_load ?_ (.tmp 15) ?_ h3 c3.v (.slice pa3 c3.l.length pk3) ?_ ?_ ?_ ?_); rfl; rfl; rfl; exact R3.out.row.keep K.out; exact HO3.out.2; simp only [Act.put, List.setIfInBounds_toArray, List.set_cons_zero, List.set_cons_succ])
      | ((with_reducible refine cl_load ?_ (.tmp 19) ?_ h5 c5.v (.slice pa5 c5.l.length pk5) ?_ ?_ ?_ ?_); rfl; rfl; rfl; exact R5.out.row.keep K.out; exact HO5.out.2; simp only [Act.put, List.setIfInBounds_toArray, List.set_cons_zero, List.set_cons_succ]))
    refine (S4.out _ K.out).mono ?_
    rintro e v4 ⟨rfl, hb⟩
    replace K := Lib.hid (K.out.trans (hb.mono K.out.size))
    clear hb S4
    go_wp2_with fail
    refine (S5.out _ K.out).mono ?_
    rintro e v5 ⟨rfl, hb⟩
    replace K := Lib.hid (K.out.trans (hb.mono K.out.size))
    clear hb S5
    go_wp2_with (first
      | ((with_reducible refine cl_load ?_ (.tmp 21) ?_ h6 c6.v (.slice pa6 c6.l.length pk6) ?_ ?_ ?_ ?_); rfl; rfl; rfl; exact R6.out.row.keep K.out; exact HO6.out.2; simp only [Act.put, List.setIfInBounds_toArray, List.set_cons_zero, List.set_cons_succ])
      | ((with_reducible refine cl_load ?_ (.tmp 11) ?_ h1 c1.v (.slice pa1 c1.l.length pk1) ?_ ?_ ?_ ?_); rfl; rfl; rfl; exact R1.out.row.keep K.out; exact HO1.out.2; simp only [Act.put, List.setIfInBounds_toArray, List.set_cons_zero, List.set_cons_succ]))
    refine (S6.out _ K.out).mono ?_
    rintro e v6 ⟨rfl, hb⟩
    replace K := Lib.hid (K.out.trans (hb.mono K.out.size))
    clear hb S6
    have HQ := Lib.hid (HL.out.trans (K.out.mono HL.out.size))
    go_wp2_with fail
    refine (kernAwake _).mono ?_
    rintro e wz ⟨rfl, hb⟩
    have HZ := Lib.hid (HQ.out.trans (hb.mono HQ.out.size))
    clear hb
    go_wp2_with fail
    go_ret
    exact ⟨rfl, HZ.out⟩
end Go.Proofs.YtcedliaeipabnaaGreat
