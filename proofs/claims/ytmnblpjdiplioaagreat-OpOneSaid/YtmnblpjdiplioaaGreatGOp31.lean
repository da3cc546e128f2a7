/-
  almonrylaw19: awake.
  How an update, and updates, that came in are opened.
-/
import Derived.Test.YtmnblpjdiplioaaGreatOpMakeC
import Derived.Test.YtmnblpjdiplioaaGreatGOp30
import Derived.Test.YtmnblpjdiplioaaGreatGOp26
import Derived.Test.YtmnblpjdiplioaaGreatGOp25
import Derived.Test.YtmnblpjdiplioaaGreatOpMakeR
import Derived.Test.YtmnblpjdiplioaaGreatGOp22
import Derived.Test.YtmnblpjdiplioaaGreatGOp28
import Derived.Test.YtmnblpjdiplioaaGreatGOp02
import Derived.Deep.Slices
import Derived.Lib.LaidU8
import Derived.LaidLaws
namespace Go.Proofs.YtmnblpjdiplioaaGreat
set_option linter.unusedSimpArgs false
set_option linter.unusedVariables false
set_option maxRecDepth 100000
open Go.RowKit Go.Sort

/-- an update's lists lie elsewhere than where zero was -/
theorem dlMem_setZ {U : World} {la ga : Option Addr} {g : Nat} (h : DlMem U awE1o la ga) (hz : DBlk U g zDl none 0 none 0) (A : Array Value) : DlMem (U.setRow g A) awE1o la ga := by
  refine ⟨?_, .inl rfl, h.flen, h.glen, h.val⟩
  rcases h.fin with h1 | ⟨b, off, rfl, hlt, hc⟩
  · exact .inl h1
  · have hne : b ≠ g := by
      rintro rfl
      have h2 := hc 0 awF1 rfl 1 (.int .i64 1) rfl
      rw [Joins.cell_of_block hz] at h2
      have h3 : ∀ i : Nat, (dlc zDl none 0 none 0)[i]? ≠ some (.int .i64 1) := by
        intro i
        match i with
        | 0 => intro h; cases h
        | 1 => intro h; cases h
        | 2 => intro h; cases h
        | 3 => intro h; cases h
        | 4 => intro h; cases h
        | 5 => intro h; cases h
        | 6 => intro h; cases h
        | n + 7 => intro h; simp [dlc] at h
      exact h3 _ h2
    refine .inr ⟨b, off, rfl, by simpa using hlt, fun j f hj i v hv => ?_⟩
    have h1 := hc j f hj i v hv
    unfold World.cell? at h1 ⊢
    rw [setRow_other _ _ _ _ hne]
    exact h1
set_option maxHeartbeats 32000000 in
theorem opAwake (w : World) : Calls Tryz.prog 9 #[] w fun v w' => v = .returned (.bool true) ∧ Go.RowKit.Below w.heap.size w w' := by
  have HO := Lib.hid (Blk.new w 25 (opc awO4))
  have HO1 := Lib.hid (HO.out.put (opc awO1))
  have HB1 := Lib.hid (belowRow (lowA w (.cells (opc awO4) 25)) (Nat.le_refl _) (opc awO1))
  go_enter Tryz.func9, Tryz.ntmps9
  go_upto_region 2 with ((with_reducible refine bl_store ?_ 25 (.tmp 1) (.tmp 10) ?_ w.heap.size (opc awO1) ?_ ?_ ?_ ?_ ?_ ?_); rfl; rfl; rfl; rfl; exact ⟨_, HO.out, rfl⟩; exact infoO _; exact op_one _; simp only [Act.put, List.setIfInBounds_toArray, List.set_cons_zero, List.set_cons_succ])
  change Code.wp _ _ _ _ ((w.alloc (.cells (opc awO4) 25)).setRow w.heap.size (opc awO1))
  clear HO
  generalize (w.alloc (.cells (opc awO4) 25)).setRow w.heap.size (opc awO1) = W at *

  have hm := fun U => opMakeC [] none 0 awO1 (0, 1) awS1 manS U (.inl rfl) (by simp) awO_a1 awO_v1
  rw [awO_1] at hm
  dsimp only at hm
  have HM := Lib.hid hm
  clear hm
  go_cut [2, 3] (fun p e U => ∃ (g : Nat) (la : Option Addr) (lk : Nat) (ga : Option Addr) (gk : Nat), p = .pointer (some ⟨g, 0, none⟩) ∧ e = .int .i64 0 ∧ DBlk U g awE1o la lk ga gk ∧ DlMem U awE1o la ga ∧ OBlk U w.heap.size awO1 ∧ Go.RowKit.Below w.heap.size w U)
  case first =>
    refine wp_region_held (S := fun U => OBlk U w.heap.size awO1) (by kernel_rfl) ?_
    change wpAnyH _ _ _ _ _ _ _ _ W.drew
    have K0 : (fun U => OBlk U w.heap.size awO1) W.drew := HO1.out
    have B0 := Lib.hid (HB1.out.drew)
    clear HO1 HB1
    refine wpAnyH_take (i := 0) (oi := { dst := some 12, op := _, type := _, pos := _, after := _, guard := _ }) rfl (by kernel_rfl) (by kernel_rfl) (by kernel_rfl) (fun _ _ _ h => h) (b_yield (by rfl) 25 (.tmp 1) rfl w.heap.size 0 (opc awO1) rfl (fun U hU => hU.all) Tryz.underlying25 rfl (infoO _)) K0 ?_
    try simp only [Act.put, List.setIfInBounds_toArray, List.set_cons_zero, List.set_cons_succ]
    refine wpAnyH_take (i := 1) (oi := { dst := some 13, op := _, type := _, pos := _, after := _, guard := _ }) (v := ?v1) rfl (by kernel_rfl) (by kernel_rfl) (by kernel_rfl) (fun _ _ _ h => h) (Or.inl ⟨by rfl, ?hy1⟩) K0 ?rest1
    case hy1 => (intro w hSw; (try dsimp only at hSw); first | (go_simp; done) | (go_simp; with_reducible rfl))
    try simp only [Act.put, List.setIfInBounds_toArray, List.set_cons_zero, List.set_cons_succ]
    refine wpAnyH_take (i := 2) (oi := { dst := some 14, op := _, type := _, pos := _, after := _, guard := _ }) (v := ?v2) rfl (by kernel_rfl) (by kernel_rfl) (by kernel_rfl) (fun _ _ _ h => h) (Or.inl ⟨by rfl, ?hy2⟩) K0 ?rest2
    case hy2 => (intro w hSw; (try dsimp only at hSw); first | (go_simp; done) | (go_simp; with_reducible rfl))
    try simp only [Act.put, List.setIfInBounds_toArray, List.set_cons_zero, List.set_cons_succ]
    refine wpAnyH_ready (rs := [3, 8]) (by kernel_rfl) (by simp) ?_
    refine AllReadyH.cons (o := { dst := some 15, op := _, type := _, pos := _, after := _, guard := _ }) rfl (fun K hK => ?_) (AllReadyH.cons (o := { dst := some 2, op := _, type := _, pos := _, after := _, guard := _ }) rfl (fun K hK => ?_) AllReadyH.nil)
    · skip
      go_simp
      refine (manOC _).mono ?_
      rintro v u3 ⟨rfl, hb⟩
      have K3 := Blk.keep K0 hb
      have B3 := Lib.hid (B0.out.trans (hb.mono B0.out.size))
      clear hb
      refine hK.out _ _ K3 (fun _ => ?_)
      clear hK K
      try simp only [Act.put, List.setIfInBounds_toArray, List.set_cons_zero, List.set_cons_succ]
      refine wpAnyH_ready (rs := [4, 8]) (by kernel_rfl) (by simp) ?_
      refine AllReadyH.cons (o := { dst := some 16, op := _, type := _, pos := _, after := _, guard := _ }) rfl (fun K hK => ?_) (AllReadyH.cons (o := { dst := some 2, op := _, type := _, pos := _, after := _, guard := _ }) rfl (fun K hK => ?_) AllReadyH.nil)
      · skip
        go_simp
        refine (HM.out _).mono ?_
        rintro v u4 ⟨⟨la, lk, ga, gk, rfl, hm⟩, hb⟩
        have K4 := Blk.keep K3 hb
        have B4 := Lib.hid (B3.out.trans (hb.mono B3.out.size))
        have M4 := Lib.hid hm
        clear hb hm
        refine hK.out _ _ K4 (fun _ => ?_)
        clear hK K
        try simp only [Act.put, List.setIfInBounds_toArray, List.set_cons_zero, List.set_cons_succ]
        refine wpAnyH_take (i := 5) (oi := { dst := some 11, op := _, type := _, pos := _, after := _, guard := _ }) (v := ?v3) rfl (by kernel_rfl) (by kernel_rfl) (by kernel_rfl) (fun _ _ _ h => h) (Or.inl ⟨by rfl, ?hy3⟩) K4 ?rest3
        case hy3 => (intro w hSw; (try dsimp only at hSw); first | (go_simp; done) | (go_simp; with_reducible rfl))
        try simp only [Act.put, List.setIfInBounds_toArray, List.set_cons_zero, List.set_cons_succ]
        refine wpAnyH_take (i := 6) (oi := { dst := some 17, op := _, type := _, pos := _, after := _, guard := _ }) (v := ?v4) rfl (by kernel_rfl) (by kernel_rfl) (by kernel_rfl) (fun _ _ _ h => h) (Or.inl ⟨by rfl, ?hy4⟩) K4 ?rest4
        case hy4 => (intro w hSw; (try dsimp only at hSw); first | (go_simp; done) | (go_simp; with_reducible rfl))
        try simp only [Act.put, List.setIfInBounds_toArray, List.set_cons_zero, List.set_cons_succ]
        refine wpAnyH_take (i := 7) (oi := { dst := some 18, op := _, type := _, pos := _, after := _, guard := _ }) (v := ?v5) rfl (by kernel_rfl) (by kernel_rfl) (by kernel_rfl) (fun _ _ _ h => h) (Or.inl ⟨by rfl, ?hy5⟩) K4 ?rest5
        case hy5 => (intro w hSw; (try dsimp only at hSw); first | (go_simp; done) | (go_simp; with_reducible rfl))
        try simp only [Act.put, List.setIfInBounds_toArray, List.set_cons_zero, List.set_cons_succ]
        refine wpAnyH_ready (rs := [8]) (by kernel_rfl) (by simp) ?_
        refine AllReadyH.cons (o := { dst := some 2, op := _, type := _, pos := _, after := _, guard := _ }) rfl (fun K hK => ?_) AllReadyH.nil
        go_simp
        have K8 := Blk.alloc K4 (.cells (dlc zDl none 0 none 0) 43)
        have B8 := Lib.hid (B4.out.trans ((lowA (u4) (.cells (dlc zDl none 0 none 0) 43)).mono B4.out.size))
        have A8 := Lib.hid (Blk.new (u4) 43 (dlc zDl none 0 none 0))
        have N8 := Lib.hid (show w.heap.size < (u4).heap.size from Blk.lt K4)
        have M8 := Lib.hid (M4.out.below (lowA (u4) (.cells (dlc zDl none 0 none 0) 43)))
        refine hK.out _ _ K8 (fun _ => ?_)
        clear hK K
        try simp only [Act.put, List.setIfInBounds_toArray, List.set_cons_zero, List.set_cons_succ]
        refine wpAnyH_ready (rs := [9]) (by kernel_rfl) (by simp) ?_
        refine AllReadyH.cons (o := { dst := none, op := _, type := _, pos := _, after := _, guard := _ }) rfl (fun K hK => ?_) AllReadyH.nil
        refine draw_storeB rfl 43 (.tmp 2) (.tmp 17) rfl ((u4).heap.size) (dlc awE1o la lk ga gk) rfl rfl (infoD _ _ _ _ _) (dl_one _ _ _ _ _) ⟨_, A8.out, rfl⟩ ?_
        have K9 := Blk.other K8 (show w.heap.size ≠ (u4).heap.size from Nat.ne_of_lt N8.out) (dlc awE1o la lk ga gk)
        have D9 := Lib.hid (Blk.put A8.out (dlc awE1o la lk ga gk))
        have B9 := Lib.hid (belowRow B8.out (Nat.le_of_lt N8.out) (dlc awE1o la lk ga gk))
        have M9 := Lib.hid (dlMem_setZ M8.out A8.out (dlc awE1o la lk ga gk))
        refine hK.out _ _ K9 (fun _ => ?_)
        clear hK K
        try simp only [Act.put, List.setIfInBounds_toArray, List.set_cons_zero, List.set_cons_succ]
        refine wpAnyH_take (i := 10) (oi := { dst := some 3, op := _, type := _, pos := _, after := _, guard := _ }) (v := ?v6) rfl (by kernel_rfl) (by kernel_rfl) (by kernel_rfl) (fun _ _ _ h => h) (Or.inl ⟨by rfl, ?hy6⟩) K9 ?rest6
        case hy6 => (intro w hSw; (try dsimp only at hSw); first | (go_simp; done) | (go_simp; with_reducible rfl))
        try simp only [Act.put, List.setIfInBounds_toArray, List.set_cons_zero, List.set_cons_succ]
        refine wpAnyH_done (by kernel_rfl) ?_ _
        try simp only [Act.put, List.setIfInBounds_toArray, List.set_cons_zero, List.set_cons_succ]
        go_wp2_with fail
        go_meet
        exact ⟨_, la, lk, ga, gk, rfl, rfl, D9.out, M9.out, K9, B9.out⟩
      · skip
        go_simp
        have K8 := Blk.alloc K3 (.cells (dlc zDl none 0 none 0) 43)
        have B8 := Lib.hid (B3.out.trans ((lowA (u3) (.cells (dlc zDl none 0 none 0) 43)).mono B3.out.size))
        have A8 := Lib.hid (Blk.new (u3) 43 (dlc zDl none 0 none 0))
        have N8 := Lib.hid (show w.heap.size < (u3).heap.size from Blk.lt K3)
        refine hK.out _ _ K8 (fun _ => ?_)
        clear hK K
        try simp only [Act.put, List.setIfInBounds_toArray, List.set_cons_zero, List.set_cons_succ]
        refine wpAnyH_ready (rs := [4]) (by kernel_rfl) (by simp) ?_
        refine AllReadyH.cons (o := { dst := some 16, op := _, type := _, pos := _, after := _, guard := _ }) rfl (fun K hK => ?_) AllReadyH.nil
        go_simp
        refine (HM.out _).mono ?_
        rintro v u4 ⟨⟨la, lk, ga, gk, rfl, hm⟩, hb⟩
        have K4 := Blk.keep K8 hb
        have B4 := Lib.hid (B8.out.trans (hb.mono B8.out.size))
        have M4 := Lib.hid hm
        have A4 := Lib.hid (Blk.keep A8.out hb)
        clear hb hm
        refine hK.out _ _ K4 (fun _ => ?_)
        clear hK K
        try simp only [Act.put, List.setIfInBounds_toArray, List.set_cons_zero, List.set_cons_succ]
        refine wpAnyH_take (i := 5) (oi := { dst := some 11, op := _, type := _, pos := _, after := _, guard := _ }) (v := ?v7) rfl (by kernel_rfl) (by kernel_rfl) (by kernel_rfl) (fun _ _ _ h => h) (Or.inl ⟨by rfl, ?hy7⟩) K4 ?rest7
        case hy7 => (intro w hSw; (try dsimp only at hSw); first | (go_simp; done) | (go_simp; with_reducible rfl))
        try simp only [Act.put, List.setIfInBounds_toArray, List.set_cons_zero, List.set_cons_succ]
        refine wpAnyH_take (i := 6) (oi := { dst := some 17, op := _, type := _, pos := _, after := _, guard := _ }) (v := ?v8) rfl (by kernel_rfl) (by kernel_rfl) (by kernel_rfl) (fun _ _ _ h => h) (Or.inl ⟨by rfl, ?hy8⟩) K4 ?rest8
        case hy8 => (intro w hSw; (try dsimp only at hSw); first | (go_simp; done) | (go_simp; with_reducible rfl))
        try simp only [Act.put, List.setIfInBounds_toArray, List.set_cons_zero, List.set_cons_succ]
        refine wpAnyH_take (i := 7) (oi := { dst := some 18, op := _, type := _, pos := _, after := _, guard := _ }) (v := ?v9) rfl (by kernel_rfl) (by kernel_rfl) (by kernel_rfl) (fun _ _ _ h => h) (Or.inl ⟨by rfl, ?hy9⟩) K4 ?rest9
        case hy9 => (intro w hSw; (try dsimp only at hSw); first | (go_simp; done) | (go_simp; with_reducible rfl))
        try simp only [Act.put, List.setIfInBounds_toArray, List.set_cons_zero, List.set_cons_succ]
        refine wpAnyH_ready (rs := [9]) (by kernel_rfl) (by simp) ?_
        refine AllReadyH.cons (o := { dst := none, op := _, type := _, pos := _, after := _, guard := _ }) rfl (fun K hK => ?_) AllReadyH.nil
        refine draw_storeB rfl 43 (.tmp 2) (.tmp 17) rfl ((u3).heap.size) (dlc awE1o la lk ga gk) rfl rfl (infoD _ _ _ _ _) (dl_one _ _ _ _ _) ⟨_, A4.out, rfl⟩ ?_
        have K9 := Blk.other K4 (show w.heap.size ≠ (u3).heap.size from Nat.ne_of_lt N8.out) (dlc awE1o la lk ga gk)
        have D9 := Lib.hid (Blk.put A4.out (dlc awE1o la lk ga gk))
        have B9 := Lib.hid (belowRow B4.out (Nat.le_of_lt N8.out) (dlc awE1o la lk ga gk))
        have M9 := Lib.hid (dlMem_setZ M4.out A4.out (dlc awE1o la lk ga gk))
        refine hK.out _ _ K9 (fun _ => ?_)
        clear hK K
        try simp only [Act.put, List.setIfInBounds_toArray, List.set_cons_zero, List.set_cons_succ]
        refine wpAnyH_take (i := 10) (oi := { dst := some 3, op := _, type := _, pos := _, after := _, guard := _ }) (v := ?v10) rfl (by kernel_rfl) (by kernel_rfl) (by kernel_rfl) (fun _ _ _ h => h) (Or.inl ⟨by rfl, ?hy10⟩) K9 ?rest10
        case hy10 => (intro w hSw; (try dsimp only at hSw); first | (go_simp; done) | (go_simp; with_reducible rfl))
        try simp only [Act.put, List.setIfInBounds_toArray, List.set_cons_zero, List.set_cons_succ]
        refine wpAnyH_done (by kernel_rfl) ?_ _
        try simp only [Act.put, List.setIfInBounds_toArray, List.set_cons_zero, List.set_cons_succ]
        go_wp2_with fail
        go_meet
        exact ⟨_, la, lk, ga, gk, rfl, rfl, D9.out, M9.out, K9, B9.out⟩
    · skip
      go_simp
      have K8 := Blk.alloc K0 (.cells (dlc zDl none 0 none 0) 43)
      have B8 := Lib.hid (B0.out.trans ((lowA (W.drew) (.cells (dlc zDl none 0 none 0) 43)).mono B0.out.size))
      have A8 := Lib.hid (Blk.new (W.drew) 43 (dlc zDl none 0 none 0))
      have N8 := Lib.hid (show w.heap.size < (W.drew).heap.size from Blk.lt K0)
      refine hK.out _ _ K8 (fun _ => ?_)
      clear hK K
      try simp only [Act.put, List.setIfInBounds_toArray, List.set_cons_zero, List.set_cons_succ]
      refine wpAnyH_ready (rs := [3]) (by kernel_rfl) (by simp) ?_
      refine AllReadyH.cons (o := { dst := some 15, op := _, type := _, pos := _, after := _, guard := _ }) rfl (fun K hK => ?_) AllReadyH.nil
      go_simp
      refine (manOC _).mono ?_
      rintro v u3 ⟨rfl, hb⟩
      have K3 := Blk.keep K8 hb
      have B3 := Lib.hid (B8.out.trans (hb.mono B8.out.size))
      have A3 := Lib.hid (Blk.keep A8.out hb)
      skip
      clear hb
      refine hK.out _ _ K3 (fun _ => ?_)
      clear hK K
      try simp only [Act.put, List.setIfInBounds_toArray, List.set_cons_zero, List.set_cons_succ]
      refine wpAnyH_ready (rs := [4]) (by kernel_rfl) (by simp) ?_
      refine AllReadyH.cons (o := { dst := some 16, op := _, type := _, pos := _, after := _, guard := _ }) rfl (fun K hK => ?_) AllReadyH.nil
      go_simp
      refine (HM.out _).mono ?_
      rintro v u4 ⟨⟨la, lk, ga, gk, rfl, hm⟩, hb⟩
      have K4 := Blk.keep K3 hb
      have B4 := Lib.hid (B3.out.trans (hb.mono B3.out.size))
      have M4 := Lib.hid hm
      have A4 := Lib.hid (Blk.keep A3.out hb)
      clear hb hm
      refine hK.out _ _ K4 (fun _ => ?_)
      clear hK K
      try simp only [Act.put, List.setIfInBounds_toArray, List.set_cons_zero, List.set_cons_succ]
      refine wpAnyH_take (i := 5) (oi := { dst := some 11, op := _, type := _, pos := _, after := _, guard := _ }) (v := ?v11) rfl (by kernel_rfl) (by kernel_rfl) (by kernel_rfl) (fun _ _ _ h => h) (Or.inl ⟨by rfl, ?hy11⟩) K4 ?rest11
      case hy11 => (intro w hSw; (try dsimp only at hSw); first | (go_simp; done) | (go_simp; with_reducible rfl))
      try simp only [Act.put, List.setIfInBounds_toArray, List.set_cons_zero, List.set_cons_succ]
      refine wpAnyH_take (i := 6) (oi := { dst := some 17, op := _, type := _, pos := _, after := _, guard := _ }) (v := ?v12) rfl (by kernel_rfl) (by kernel_rfl) (by kernel_rfl) (fun _ _ _ h => h) (Or.inl ⟨by rfl, ?hy12⟩) K4 ?rest12
      case hy12 => (intro w hSw; (try dsimp only at hSw); first | (go_simp; done) | (go_simp; with_reducible rfl))
      try simp only [Act.put, List.setIfInBounds_toArray, List.set_cons_zero, List.set_cons_succ]
      refine wpAnyH_take (i := 7) (oi := { dst := some 18, op := _, type := _, pos := _, after := _, guard := _ }) (v := ?v13) rfl (by kernel_rfl) (by kernel_rfl) (by kernel_rfl) (fun _ _ _ h => h) (Or.inl ⟨by rfl, ?hy13⟩) K4 ?rest13
      case hy13 => (intro w hSw; (try dsimp only at hSw); first | (go_simp; done) | (go_simp; with_reducible rfl))
      try simp only [Act.put, List.setIfInBounds_toArray, List.set_cons_zero, List.set_cons_succ]
      refine wpAnyH_ready (rs := [9]) (by kernel_rfl) (by simp) ?_
      refine AllReadyH.cons (o := { dst := none, op := _, type := _, pos := _, after := _, guard := _ }) rfl (fun K hK => ?_) AllReadyH.nil
      refine draw_storeB rfl 43 (.tmp 2) (.tmp 17) rfl ((W.drew).heap.size) (dlc awE1o la lk ga gk) rfl rfl (infoD _ _ _ _ _) (dl_one _ _ _ _ _) ⟨_, A4.out, rfl⟩ ?_
      have K9 := Blk.other K4 (show w.heap.size ≠ (W.drew).heap.size from Nat.ne_of_lt N8.out) (dlc awE1o la lk ga gk)
      have D9 := Lib.hid (Blk.put A4.out (dlc awE1o la lk ga gk))
      have B9 := Lib.hid (belowRow B4.out (Nat.le_of_lt N8.out) (dlc awE1o la lk ga gk))
      have M9 := Lib.hid (dlMem_setZ M4.out A4.out (dlc awE1o la lk ga gk))
      refine hK.out _ _ K9 (fun _ => ?_)
      clear hK K
      try simp only [Act.put, List.setIfInBounds_toArray, List.set_cons_zero, List.set_cons_succ]
      refine wpAnyH_take (i := 10) (oi := { dst := some 3, op := _, type := _, pos := _, after := _, guard := _ }) (v := ?v14) rfl (by kernel_rfl) (by kernel_rfl) (by kernel_rfl) (fun _ _ _ h => h) (Or.inl ⟨by rfl, ?hy14⟩) K9 ?rest14
      case hy14 => (intro w hSw; (try dsimp only at hSw); first | (go_simp; done) | (go_simp; with_reducible rfl))
      try simp only [Act.put, List.setIfInBounds_toArray, List.set_cons_zero, List.set_cons_succ]
      refine wpAnyH_done (by kernel_rfl) ?_ _
      try simp only [Act.put, List.setIfInBounds_toArray, List.set_cons_zero, List.set_cons_succ]
      go_wp2_with fail
      go_meet
      exact ⟨_, la, lk, ga, gk, rfl, rfl, D9.out, M9.out, K9, B9.out⟩
  case rest =>
    obtain ⟨g, la, lk, ga, gk, rfl, rfl, hd, hm, ho, hb⟩ := hcut
    have O2 := Lib.hid ho
    have D2 := Lib.hid hd
    have M2 := Lib.hid hm
    have B2 := Lib.hid hb
    clear hd hm ho hb HM HO1 HB1
    have c5 : wc.cell? ⟨g, 5, none⟩ = some (.slice la 1 lk) := D2.out.cell rfl
    go_wp2_with fail
    have hm := opMakeC [awF1] la lk awO2 (0, 2) awS2 by0 wc M2.out.fin (by simp) awO_a2 awO_v2
    rw [awO_2] at hm
    dsimp only at hm
    refine Calls.mono hm ?_
    rintro v u3 ⟨⟨la3, lk3, ga3, gk3, rfl, hq⟩, hb⟩
    have hw := belowRow (lowA u3 (.cells (dlc zDl none 0 none 0) 43)) (Nat.le_refl _) (dlc awE2o la3 lk3 ga3 gk3)
    have hbb := hb.trans (hw.mono hb.size)
    have B3 := Lib.hid (B2.out.trans (hbb.mono B2.out.size))
    have O3 := Lib.hid (O2.out.keep hbb)
    have D3 := Lib.hid (D2.out.keep hbb)
    have M3 := Lib.hid (M2.out.below hbb)
    have HZ := Lib.hid (Blk.new u3 43 (dlc zDl none 0 none 0))
    have P33 := Lib.hid (HZ.out.put (dlc awE2o la3 lk3 ga3 gk3))
    have Q33 := Lib.hid (hq.below hw)
    clear hm hq hb hw hbb B2 O2 D2 M2 c5
    go_upto_region 4 with ((with_reducible refine bl_store ?_ 43 (.tmp 4) (.tmp 26) ?_ u3.heap.size (dlc awE2o la3 lk3 ga3 gk3) ?_ ?_ ?_ ?_ ?_ ?_); rfl; rfl; rfl; rfl; exact ⟨_, HZ.out, rfl⟩; exact infoD _ _ _ _ _; exact dl_one _ _ _ _ _; simp only [Act.put, List.setIfInBounds_toArray, List.set_cons_zero, List.set_cons_succ])
    change Code.wp _ _ _ _ ((u3.alloc (.cells (dlc zDl none 0 none 0) 43)).setRow u3.heap.size (dlc awE2o la3 lk3 ga3 gk3))
    clear HZ
    generalize (u3.alloc (.cells (dlc zDl none 0 none 0) 43)).setRow u3.heap.size (dlc awE2o la3 lk3 ga3 gk3) = V3 at *
    generalize u3.heap.size = g3 at *
    have c5 : V3.cell? ⟨g, 5, none⟩ = some (.slice la 1 lk) := D3.out.cell rfl
    go_wp2_with fail
    have hm := opMakeC [awF1] la lk awO3 (0, 2) awS2 by0 V3 M3.out.fin (by simp) awO_a3 awO_v3
    rw [awO_3] at hm
    dsimp only at hm
    refine Calls.mono hm ?_
    rintro v u4 ⟨⟨la4, lk4, ga4, gk4, rfl, hq⟩, hb⟩
    have hw := belowRow (lowA u4 (.cells (dlc zDl none 0 none 0) 43)) (Nat.le_refl _) (dlc awE3o la4 lk4 ga4 gk4)
    have hbb := hb.trans (hw.mono hb.size)
    have B4 := Lib.hid (B3.out.trans (hbb.mono B3.out.size))
    have O4 := Lib.hid (O3.out.keep hbb)
    have D4 := Lib.hid (D3.out.keep hbb)
    have M4 := Lib.hid (M3.out.below hbb)
    have P34 := Lib.hid (P33.out.keep hbb)
    have Q34 := Lib.hid (Q33.out.below hbb)
    have HZ := Lib.hid (Blk.new u4 43 (dlc zDl none 0 none 0))
    have P44 := Lib.hid (HZ.out.put (dlc awE3o la4 lk4 ga4 gk4))
    have Q44 := Lib.hid (hq.below hw)
    clear hm hq hb hw hbb B3 O3 D3 M3 c5
    go_upto_region 5 with ((with_reducible refine bl_store ?_ 43 (.tmp 6) (.tmp 35) ?_ u4.heap.size (dlc awE3o la4 lk4 ga4 gk4) ?_ ?_ ?_ ?_ ?_ ?_); rfl; rfl; rfl; rfl; exact ⟨_, HZ.out, rfl⟩; exact infoD _ _ _ _ _; exact dl_one _ _ _ _ _; simp only [Act.put, List.setIfInBounds_toArray, List.set_cons_zero, List.set_cons_succ])
    change Code.wp _ _ _ _ ((u4.alloc (.cells (dlc zDl none 0 none 0) 43)).setRow u4.heap.size (dlc awE3o la4 lk4 ga4 gk4))
    clear HZ
    generalize (u4.alloc (.cells (dlc zDl none 0 none 0) 43)).setRow u4.heap.size (dlc awE3o la4 lk4 ga4 gk4) = V4 at *
    generalize u4.heap.size = g4 at *
    have c5 : True := trivial
    go_wp2_with fail
    have hm := opMakeC [] none 0 awO3 (0, 2) awS2 by0 V4 (.inl rfl) (by simp) awO_a3 awO_v3
    rw [awO_4] at hm
    dsimp only at hm
    refine Calls.mono hm ?_
    rintro v u5 ⟨⟨la5, lk5, ga5, gk5, rfl, hq⟩, hb⟩
    have hw := belowRow (lowA u5 (.cells (dlc zDl none 0 none 0) 43)) (Nat.le_refl _) (dlc zDl la5 lk5 ga5 gk5)
    have hbb := hb.trans (hw.mono hb.size)
    have B5 := Lib.hid (B4.out.trans (hbb.mono B4.out.size))
    have O5 := Lib.hid (O4.out.keep hbb)
    have D5 := Lib.hid (D4.out.keep hbb)
    have M5 := Lib.hid (M4.out.below hbb)
    have P35 := Lib.hid (P34.out.keep hbb)
    have Q35 := Lib.hid (Q34.out.below hbb)
    have P45 := Lib.hid (P44.out.keep hbb)
    have Q45 := Lib.hid (Q44.out.below hbb)
    have HZ := Lib.hid (Blk.new u5 43 (dlc zDl none 0 none 0))
    have P55 := Lib.hid (HZ.out.put (dlc zDl la5 lk5 ga5 gk5))
    have Q55 := Lib.hid (hq.below hw)
    clear hm hq hb hw hbb B4 O4 D4 M4 c5
    go_upto_region 6 with ((with_reducible refine bl_store ?_ 43 (.tmp 8) (.tmp 42) ?_ u5.heap.size (dlc zDl la5 lk5 ga5 gk5) ?_ ?_ ?_ ?_ ?_ ?_); rfl; rfl; rfl; rfl; exact ⟨_, HZ.out, rfl⟩; exact infoD _ _ _ _ _; exact dl_one _ _ _ _ _; simp only [Act.put, List.setIfInBounds_toArray, List.set_cons_zero, List.set_cons_succ])
    change Code.wp _ _ _ _ ((u5.alloc (.cells (dlc zDl none 0 none 0) 43)).setRow u5.heap.size (dlc zDl la5 lk5 ga5 gk5))
    clear HZ
    generalize (u5.alloc (.cells (dlc zDl none 0 none 0) 43)).setRow u5.heap.size (dlc zDl la5 lk5 ga5 gk5) = V5 at *
    generalize u5.heap.size = g5 at *
    have k1 : V5.cell? ⟨g, 5, none⟩ = some (.slice la 1 lk) := D5.out.cell rfl
    have k2 : V5.cell? ⟨g3, 5, none⟩ = some (.slice la3 1 lk3) := P35.out.cell rfl
    have k3 : V5.cell? ⟨g4, 5, none⟩ = some (.slice la4 0 lk4) := P45.out.cell rfl
    have k4 : V5.cell? ⟨g4, 6, none⟩ = some (.slice ga4 1 gk4) := P45.out.cell rfl
    have hsl := fun X => build1Dr (0, 1) X
    go_wp2_with fail
    have hla := lowA V5 (.cells #[.int .i64 0, .int .i64 1] 36)
    have hx := same_any [(0, 1)] [(0, 1)] 1 1 rfl rfl ga4 (some ⟨V5.heap.size, 0, none⟩) gk4 1 (V5.alloc (.cells #[.int .i64 0, .int .i64 1] 36)) (Q45.out.din.below hla) (din_cells V5 [(0, 1)]) (by decide) (by decide) true rfl
    refine Calls.mono hx ?_
    rintro v u6 ⟨rfl, hb⟩
    have hbb := hla.trans (hb.mono hla.size)
    have B6 := Lib.hid (B5.out.trans (hbb.mono B5.out.size))
    have O6 := Lib.hid (O5.out.keep hbb)
    have D6 := Lib.hid (D5.out.keep hbb)
    have M6 := Lib.hid (M5.out.below hbb)
    clear hx hb hbb hla k1 k2 k3 k4 hsl B5 O5 D5 M5
    have k1 : u6.cell? ⟨g, 5, none⟩ = some (.slice la 1 lk) := D6.out.cell rfl
    go_wp2_with ((with_reducible refine bl_load ?_ 25 (.tmp 1) ?_ w.heap.size 0 (opc awO1) ?_ ?_ Tryz.underlying25 ?_ ?_ ?_); rfl; rfl; rfl; exact O6.out.all; rfl; exact infoO _; simp only [Act.put, List.setIfInBounds_toArray, List.set_cons_zero, List.set_cons_succ])
    have hy := opMayC [awF1] la lk awO1 u6 M6.out.fin (by simp) awO_a1
    rw [awO_5] at hy
    refine Calls.mono hy ?_
    rintro v u7 ⟨rfl, hb⟩
    have B7 := Lib.hid (B6.out.trans (hb.mono B6.out.size))
    clear hy hb B6 O6 D6 M6 k1
    go_wp2_with fail
    have hy := opCheckC awO4 awO_a4 u7
    rw [awO_6] at hy
    refine Calls.mono hy ?_
    rintro v u8 ⟨rfl, hb⟩
    have B8 := Lib.hid (B7.out.trans (hb.mono B7.out.size))
    clear hy hb B7
    go_wp2_with fail
    have hy := opCheckC awO5 awO_a5 u8
    rw [awO_7] at hy
    refine Calls.mono hy ?_
    rintro v u9 ⟨rfl, hb⟩
    have B9 := Lib.hid (B8.out.trans (hb.mono B8.out.size))
    clear hy hb B8
    go_wp2_with fail
    go_ret
    exact ⟨rfl, B9.out⟩
end Go.Proofs.YtmnblpjdiplioaaGreat

namespace Go.Proofs.YtmnblpjdiplioaaGreat
set_option linter.unusedSimpArgs false
set_option linter.unusedVariables false
set_option maxRecDepth 100000
open Go.ChangeShapes Go.WideShapes Go.ChangeAt Go.RowKit Go.Deep
open Go.ChangeMaps (open_string shut_string)

theorem facts_cells {H : Type} {enc : TypeId × Value → H} {W : World} {sp : Nat → Bool} {held : Bool} {fuel : Nat} {cs : List Value} {x : DataW H × List MemPlace}
    (h : DataW.trod enc Tryz.prog W 0 sp held fuel 22 cs = some x) : ∃ (l : List Ft) (a : Option Addr) (cap : Nat), cs = [.slice a l.length cap] ∧ FactArg W a l.length l := by
  have hs : ∃ a len cap, cs = [Value.slice a len cap] := by
    rcases open_slice Tryz.underlying22 h with ⟨hcs, _⟩ | ⟨x, len, cap, _, _, _, _, hcs, _⟩
    · exact ⟨none, 0, 0, hcs⟩
    · exact ⟨some x, len, cap, hcs⟩
  obtain ⟨a, len, cap, rfl⟩ := hs
  have hT : DataW.Trod enc Tryz.prog W 0 sp held 22 (.slice a len cap) x.1 x.2 := ⟨_, h⟩
  obtain ⟨l, hl⟩ := facts_of hT
  obtain ⟨rfl, h1, h2, h3⟩ := hl
  exact ⟨l, a, cap, rfl, rfl, h1, h2, h3⟩
end Go.Proofs.YtmnblpjdiplioaaGreat
