/-
  almonrylaw18: the walk of DeltaPuts.
-/
import Derived.Test.YtkodololdjainaaGreatDlAwk
import Derived.Test.YtkodololdjainaaGreatDlPutR
import Derived.Test.YtkodololdjainaaGreatGDelV
namespace Go.Proofs.YtkodololdjainaaGreat
set_option linter.unusedSimpArgs false
set_option linter.unusedVariables false
set_option maxRecDepth 100000
open Go.RowKit Go.Sort

theorem dself_str (s : ByteArray) : (s.toList == s.toList) = true := by simp
theorem DeltaArg.mem {w : World} {e : Dl} {la ga : Option Addr} (h : DeltaArg w e la ga) (hf : fewDl e = true) : DlMem w e la ga := by
  obtain ⟨h1, h2⟩ := fewDl_ok hf
  exact ⟨h.facts.2.2.1, h.din, by have := (fewP_ok h1).1; omega, by omega, fewP_v h1⟩
theorem textOk_of {e : Dl} (hf : fewDl e = true) : TextOk e := textOk_few (fewDl_ok hf).1 (fewDl_ok hf).2

set_option maxHeartbeats 16000000 in
theorem delta_puts_row (e : Dl) (la : Option Addr) (lk : Nat) (ga : Option Addr) (gk : Nat) (x : Dl) (ma : Option Addr) (mk : Nat) (na : Option Addr) (nk : Nat) (w : World) (he : DeltaArg w e la ga) (hx : DeltaArg w x ma na) :
    Calls Tryz.prog 3 #[.agg (dlc e la lk ga gk), .agg (dlc x ma mk na nk)] w fun v w' => v = .returned (.bool true) ∧ Go.RowKit.Below w.heap.size w w' := by
  have H0 := Lib.hid (TwoD.new w e x la lk ga gk ma mk na nk)
  have HI := Lib.hid he
  have HFW := Lib.hid (fun W (hb : Go.RowKit.Below w.heap.size w W) => fewDlC e la lk ga gk W (he.facts.2.2.1.below hb) he.facts.2.1 he.facts.2.2.2 he.glen)
  clear he hx
  go_enter Tryz.func3, Tryz.ntmps3
  go_upto_region 1 with fail
  change Code.wp _ _ _ _ ((w.alloc (.cells (dlc e la lk ga gk) 29)).alloc (.cells (dlc x ma mk na nk) 29))
  generalize (w.alloc (.cells (dlc e la lk ga gk) 29)).alloc (.cells (dlc x ma mk na nk) 29) = W at *
  go_wp2_with ((with_reducible refine bl_load ?_ 29 (.tmp 2) ?_ w.heap.size 0 (dlc e la lk ga gk) ?_ ?_ Tryz.underlying29 ?_ ?_ ?_); rfl; rfl; rfl; exact H0.out.a.all; rfl; exact infoD _ _ _ _ _; simp only [Act.put, List.setIfInBounds_toArray, List.set_cons_zero, List.set_cons_succ])
  refine (HFW.out W H0.out.low).mono ?_
  rintro v w1 ⟨rfl, hb1⟩
  have H1 := Lib.hid (H0.out.below hb1)
  clear hb1 H0 HFW
  rcases hfw : fewDl e with _ | _
  · clear hfw
    go_wp2_with fail
    refine (dlAwake w1).mono ?_
    rintro v w2 ⟨rfl, hb2⟩
    have H2 := Lib.hid (H1.out.low.trans (hb2.mono H1.out.low.size))
    clear hb2
    go_wp2_with fail
    go_ret
    exact ⟨rfl, H2.out⟩
  have HM := Lib.hid (fun W (hb : Go.RowKit.Below w.heap.size w W) => (HI.out.mem hfw).below hb)
  have HT := Lib.hid (textOk_of hfw)
  have HP := Lib.hid (fun W (hb : Go.RowKit.Below w.heap.size w W) => putDlC e la lk ga gk W (HM.out W hb) HT.out)
  have HQ := Lib.hid (fun W (hb : Go.RowKit.Below w.heap.size w W) => putDlR e la lk ga gk W (HM.out W hb) HT.out)
  have HC := Lib.hid (fun W (hb : Go.RowKit.Below w.heap.size w W) => chkDC e la lk ga gk W (HM.out W hb))
  have HD := Lib.hid (fun W (hb : Go.RowKit.Below w.heap.size w W) => chkDR e la lk ga gk W (HM.out W hb))
  have HL := Lib.hid (fun W => lessDlC e x la lk ga gk ma mk na nk W)
  clear hfw HI HM HT
  generalize putDl rdM e = P at *
  obtain ⟨p, pe⟩ := P
  simp only at HP HQ
  generalize chkDm e = E at *
  go_wp2_with ((with_reducible refine bl_load ?_ 29 (.tmp 2) ?_ w.heap.size 0 (dlc e la lk ga gk) ?_ ?_ Tryz.underlying29 ?_ ?_ ?_); rfl; rfl; rfl; exact H1.out.a.all; rfl; exact infoD _ _ _ _ _; simp only [Act.put, List.setIfInBounds_toArray, List.set_cons_zero, List.set_cons_succ])
  refine (HP.out w1 H1.out.low).mono ?_
  rintro v w2 ⟨rfl, hb2⟩
  have H2 := Lib.hid (H1.out.below hb2)
  clear hb2 H1 HP
  go_wp2_with ((with_reducible refine bl_load ?_ 29 (.tmp 2) ?_ w.heap.size 0 (dlc e la lk ga gk) ?_ ?_ Tryz.underlying29 ?_ ?_ ?_); rfl; rfl; rfl; exact H2.out.a.all; rfl; exact infoD _ _ _ _ _; simp only [Act.put, List.setIfInBounds_toArray, List.set_cons_zero, List.set_cons_succ])
  refine (HQ.out w2 H2.out.low).mono ?_
  rintro v w3 ⟨rfl, hb3⟩
  have H3 := Lib.hid (H2.out.below hb3)
  clear hb3 H2 HQ
  have c0 : w3.cell? ⟨w.heap.size, 0, none⟩ = some (.int .i64 e.d.1) := H3.out.a.cell rfl
  have c1 : w3.cell? ⟨w.heap.size, 1, none⟩ = some (.int .i64 e.d.2) := H3.out.a.cell rfl
  have k0 : w3.cell? ⟨w.heap.size + 1, 0, none⟩ = some (.int .i64 x.d.1) := H3.out.b.cell rfl
  have k1 : w3.cell? ⟨w.heap.size + 1, 1, none⟩ = some (.int .i64 x.d.2) := H3.out.b.cell rfl
  go_upto_region 5 with fail
  go_cut [9] (fun v U => v = .bool (ltD e.d x.d) ∧ U = w3)
  case first =>
    by_cases h1 : e.d.1 < x.d.1
    · have d1 : decide (e.d.1 < x.d.1) = true := by simp [h1]
      have hv := Lib.hid (show ltD e.d x.d = true from ltD_iff.2 (.inl h1))
      clear h1
      go_wp2_with fail
      go_meet
      exact ⟨by rw [hv.out], rfl⟩
    · have d1 : decide (e.d.1 < x.d.1) = false := by simp; omega
      by_cases h2 : e.d.1 = x.d.1
      · have d2 : (e.d.1 == x.d.1) = true := by simp [h2]
        by_cases h3 : e.d.2 < x.d.2
        · have d3 : decide (e.d.2 < x.d.2) = true := by simp [h3]
          have hv := Lib.hid (show ltD e.d x.d = true from ltD_iff.2 (.inr ⟨h2, h3⟩))
          clear h1 h2 h3
          go_wp2_with fail
          go_meet
          exact ⟨by rw [hv.out], rfl⟩
        · have d3 : decide (e.d.2 < x.d.2) = false := by simp; omega
          have hv := Lib.hid (show ltD e.d x.d = false from ltD_no.2 (by omega))
          clear h1 h2 h3
          go_wp2_with fail
          go_meet
          exact ⟨by rw [hv.out], rfl⟩
      · have d2 : (e.d.1 == x.d.1) = false := by simp [h2]
        have hv := Lib.hid (show ltD e.d x.d = false from ltD_no.2 (by omega))
        clear h1 h2
        go_wp2_with fail
        go_meet
        exact ⟨by rw [hv.out], rfl⟩
  case rest =>
  obtain ⟨rfl, rfl⟩ := hcut
  clear c0 c1 k0 k1
  generalize ltD e.d x.d = b at *
  have hEE : (E == E) = true := by simp
  have hpe : (pe == pe) = true := by simp
  have hss := dself_str p
  have hbb : (b == b) = true := by simp
  go_upto_region 6 with fail
  refine wp_region_held (S := fun U => TwoD w e x la lk ga gk ma mk na nk U) (by kernel_rfl) ?_
  change wpAnyH _ _ _ _ _ _ _ _ wc.drew
  have K0 : (fun U => TwoD w e x la lk ga gk ma mk na nk U) wc.drew := H3.out.below ((Below.refl _ _).drew)
  clear H3
  refine wpAnyH_take (i := 0) (oi := { dst := some 49, op := _, type := _, pos := _, after := _, guard := _ }) rfl (by kernel_rfl) (by kernel_rfl) (by kernel_rfl) (fun _ _ _ h => h) (b_yield (by rfl) 29 (.tmp 2) rfl w.heap.size 0 (dlc e la lk ga gk) rfl (fun U hU => hU.a.all) Tryz.underlying29 rfl (infoD _ _ _ _ _)) K0 ?_
  try simp only [Act.put, List.setIfInBounds_toArray, List.set_cons_zero, List.set_cons_succ]
  refine wpAnyH_take (i := 2) (oi := { dst := some 51, op := _, type := _, pos := _, after := _, guard := _ }) rfl (by kernel_rfl) (by kernel_rfl) (by kernel_rfl) (fun _ _ _ h => h) (b_yield (by rfl) 29 (.tmp 2) rfl w.heap.size 0 (dlc e la lk ga gk) rfl (fun U hU => hU.a.all) Tryz.underlying29 rfl (infoD _ _ _ _ _)) K0 ?_
  try simp only [Act.put, List.setIfInBounds_toArray, List.set_cons_zero, List.set_cons_succ]
  refine wpAnyH_ready (rs := [1]) (by kernel_rfl) (by simp) ?_
  refine AllReadyH.cons (o := { dst := some 50, op := _, type := _, pos := _, after := _, guard := _ }) rfl (fun K hK => ?_) AllReadyH.nil
  go_simp
  have hh := HC.out _ (TwoD.low K0)
  refine Calls.mono hh ?_
  rintro v u1 ⟨rfl, hb⟩
  have K101 := TwoD.below K0 hb
  clear hh hb K0
  refine hK.out _ _ K101 (fun _ => ?_)
  clear hK K
  try simp only [Act.put, List.setIfInBounds_toArray, List.set_cons_zero, List.set_cons_succ]
  refine wpAnyH_ready (rs := [3]) (by kernel_rfl) (by simp) ?_
  refine AllReadyH.cons (o := { dst := some 52, op := _, type := _, pos := _, after := _, guard := _ }) rfl (fun K hK => ?_) AllReadyH.nil
  go_simp
  have hh := HD.out _ (TwoD.low K101)
  refine Calls.mono hh ?_
  rintro v u3 ⟨rfl, hb⟩
  have K103 := TwoD.below K101 hb
  clear hh hb K101
  refine hK.out _ _ K103 (fun _ => ?_)
  clear hK K
  try simp only [Act.put, List.setIfInBounds_toArray, List.set_cons_zero, List.set_cons_succ]
  refine wpAnyH_take (i := 4) (oi := { dst := some 53, op := _, type := _, pos := _, after := _, guard := _ }) (v := ?v1) rfl (by kernel_rfl) (by kernel_rfl) (by kernel_rfl) (fun _ _ _ h => h) (Or.inl ⟨by rfl, ?hy1⟩) K103 ?rest1
  case hy1 => (intro w hSw; (try dsimp only at hSw); first | (go_simp; done) | (go_simp; with_reducible rfl))
  try simp only [Act.put, List.setIfInBounds_toArray, List.set_cons_zero, List.set_cons_succ]
  refine wpAnyH_take (i := 5) (oi := { dst := some 54, op := _, type := _, pos := _, after := _, guard := _ }) (v := ?v2) rfl (by kernel_rfl) (by kernel_rfl) (by kernel_rfl) (fun _ _ _ h => h) (Or.inl ⟨by rfl, ?hy2⟩) K103 ?rest2
  case hy2 => (intro w hSw; (try dsimp only at hSw); first | (go_simp; done) | (go_simp; with_reducible rfl))
  try simp only [Act.put, List.setIfInBounds_toArray, List.set_cons_zero, List.set_cons_succ]
  refine wpAnyH_take (i := 6) (oi := { dst := some 55, op := _, type := _, pos := _, after := _, guard := _ }) (v := ?v3) rfl (by kernel_rfl) (by kernel_rfl) (by kernel_rfl) (fun _ _ _ h => h) (Or.inl ⟨by rfl, ?hy3⟩) K103 ?rest3
  case hy3 => (intro w hSw; (try dsimp only at hSw); first | (go_simp; done) | (go_simp; with_reducible rfl))
  try simp only [Act.put, List.setIfInBounds_toArray, List.set_cons_zero, List.set_cons_succ]
  refine wpAnyH_take (i := 7) (oi := { dst := some 56, op := _, type := _, pos := _, after := _, guard := _ }) (v := ?v4) rfl (by kernel_rfl) (by kernel_rfl) (by kernel_rfl) (fun _ _ _ h => h) (Or.inl ⟨by rfl, ?hy4⟩) K103 ?rest4
  case hy4 => (intro w hSw; (try dsimp only at hSw); first | (go_simp; done) | (go_simp; with_reducible rfl))
  try simp only [Act.put, List.setIfInBounds_toArray, List.set_cons_zero, List.set_cons_succ]
  refine wpAnyH_take (i := 8) (oi := { dst := some 57, op := _, type := _, pos := _, after := _, guard := _ }) (v := ?v5) rfl (by kernel_rfl) (by kernel_rfl) (by kernel_rfl) (fun _ _ _ h => h) (Or.inl ⟨by rfl, ?hy5⟩) K103 ?rest5
  case hy5 => (intro w hSw; (try dsimp only at hSw); first | (go_simp; done) | (go_simp; with_reducible rfl))
  try simp only [Act.put, List.setIfInBounds_toArray, List.set_cons_zero, List.set_cons_succ]
  refine wpAnyH_take (i := 9) (oi := { dst := some 58, op := _, type := _, pos := _, after := _, guard := _ }) (v := ?v6) rfl (by kernel_rfl) (by kernel_rfl) (by kernel_rfl) (fun _ _ _ h => h) (Or.inl ⟨by rfl, ?hy6⟩) K103 ?rest6
  case hy6 => (intro w hSw; (try dsimp only at hSw); first | (go_simp; done) | (go_simp; with_reducible rfl))
  try simp only [Act.put, List.setIfInBounds_toArray, List.set_cons_zero, List.set_cons_succ]
  refine wpAnyH_take (i := 10) (oi := { dst := some 59, op := _, type := _, pos := _, after := _, guard := _ }) (v := ?v7) rfl (by kernel_rfl) (by kernel_rfl) (by kernel_rfl) (fun _ _ _ h => h) (Or.inl ⟨by rfl, ?hy7⟩) K103 ?rest7
  case hy7 => (intro w hSw; (try dsimp only at hSw); first | (go_simp; done) | (go_simp; with_reducible rfl))
  try simp only [Act.put, List.setIfInBounds_toArray, List.set_cons_zero, List.set_cons_succ]
  refine wpAnyH_take (i := 11) (oi := { dst := some 60, op := _, type := _, pos := _, after := _, guard := _ }) (v := ?v8) rfl (by kernel_rfl) (by kernel_rfl) (by kernel_rfl) (fun _ _ _ h => h) (Or.inl ⟨by rfl, ?hy8⟩) K103 ?rest8
  case hy8 => (intro w hSw; (try dsimp only at hSw); first | (go_simp; done) | (go_simp; with_reducible rfl))
  try simp only [Act.put, List.setIfInBounds_toArray, List.set_cons_zero, List.set_cons_succ]
  refine wpAnyH_take (i := 12) (oi := { dst := some 61, op := _, type := _, pos := _, after := _, guard := _ }) (v := ?v9) rfl (by kernel_rfl) (by kernel_rfl) (by kernel_rfl) (fun _ _ _ h => h) (Or.inl ⟨by rfl, ?hy9⟩) K103 ?rest9
  case hy9 => (intro w hSw; (try dsimp only at hSw); first | (go_simp; done) | (go_simp; with_reducible rfl))
  try simp only [Act.put, List.setIfInBounds_toArray, List.set_cons_zero, List.set_cons_succ]
  refine wpAnyH_take (i := 13) (oi := { dst := some 62, op := _, type := _, pos := _, after := _, guard := _ }) (v := ?v10) rfl (by kernel_rfl) (by kernel_rfl) (by kernel_rfl) (fun _ _ _ h => h) (Or.inl ⟨by rfl, ?hy10⟩) K103 ?rest10
  case hy10 => (intro w hSw; (try dsimp only at hSw); first | (go_simp; done) | (go_simp; with_reducible rfl))
  try simp only [Act.put, List.setIfInBounds_toArray, List.set_cons_zero, List.set_cons_succ]
  refine wpAnyH_take (i := 14) (oi := { dst := some 63, op := _, type := _, pos := _, after := _, guard := _ }) (v := ?v11) rfl (by kernel_rfl) (by kernel_rfl) (by kernel_rfl) (fun _ _ _ h => h) (Or.inl ⟨by rfl, ?hy11⟩) K103 ?rest11
  case hy11 => (intro w hSw; (try dsimp only at hSw); first | (go_simp; done) | (go_simp; with_reducible rfl))
  try simp only [Act.put, List.setIfInBounds_toArray, List.set_cons_zero, List.set_cons_succ]
  refine wpAnyH_take (i := 15) (oi := { dst := some 64, op := _, type := _, pos := _, after := _, guard := _ }) (v := ?v12) rfl (by kernel_rfl) (by kernel_rfl) (by kernel_rfl) (fun _ _ _ h => h) (Or.inl ⟨by rfl, ?hy12⟩) K103 ?rest12
  case hy12 => (intro w hSw; (try dsimp only at hSw); first | (go_simp; done) | (go_simp; with_reducible rfl))
  try simp only [Act.put, List.setIfInBounds_toArray, List.set_cons_zero, List.set_cons_succ]
  refine wpAnyH_take (i := 16) (oi := { dst := some 65, op := _, type := _, pos := _, after := _, guard := _ }) rfl (by kernel_rfl) (by kernel_rfl) (by kernel_rfl) (fun _ _ _ h => h) (b_yield (by rfl) 29 (.tmp 2) rfl w.heap.size 0 (dlc e la lk ga gk) rfl (fun U hU => hU.a.all) Tryz.underlying29 rfl (infoD _ _ _ _ _)) K103 ?_
  try simp only [Act.put, List.setIfInBounds_toArray, List.set_cons_zero, List.set_cons_succ]
  refine wpAnyH_take (i := 17) (oi := { dst := some 66, op := _, type := _, pos := _, after := _, guard := _ }) rfl (by kernel_rfl) (by kernel_rfl) (by kernel_rfl) (fun _ _ _ h => h) (b_yield (by rfl) 29 (.tmp 3) rfl (w.heap.size + 1) 0 (dlc x ma mk na nk) rfl (fun U hU => hU.b.all) Tryz.underlying29 rfl (infoD _ _ _ _ _)) K103 ?_
  try simp only [Act.put, List.setIfInBounds_toArray, List.set_cons_zero, List.set_cons_succ]
  refine wpAnyH_take (i := 19) (oi := { dst := some 68, op := _, type := _, pos := _, after := _, guard := _ }) (v := ?v13) rfl (by kernel_rfl) (by kernel_rfl) (by kernel_rfl) (fun _ _ _ h => h) (Or.inl ⟨by rfl, ?hy13⟩) K103 ?rest13
  case hy13 => (intro w hSw; (try dsimp only at hSw); first | (go_simp; done) | (go_simp; with_reducible rfl))
  try simp only [Act.put, List.setIfInBounds_toArray, List.set_cons_zero, List.set_cons_succ]
  refine wpAnyH_ready (rs := [18]) (by kernel_rfl) (by simp) ?_
  refine AllReadyH.cons (o := { dst := some 67, op := _, type := _, pos := _, after := _, guard := _ }) rfl (fun K hK => ?_) AllReadyH.nil
  go_simp
  have hh := HL.out u3
  refine Calls.mono hh ?_
  rintro v u18 ⟨rfl, hb⟩
  have K118 := TwoD.below K103 hb
  clear hh hb K103
  refine hK.out _ _ K118 (fun _ => ?_)
  clear hK K
  try simp only [Act.put, List.setIfInBounds_toArray, List.set_cons_zero, List.set_cons_succ]
  refine wpAnyH_take (i := 20) (oi := { dst := some 69, op := _, type := _, pos := _, after := _, guard := _ }) (v := ?v14) rfl (by kernel_rfl) (by kernel_rfl) (by kernel_rfl) (fun _ _ _ h => h) (Or.inl ⟨by rfl, ?hy14⟩) K118 ?rest14
  case hy14 => (intro w hSw; (try dsimp only at hSw); first | (go_simp; done) | (go_simp; with_reducible rfl))
  try simp only [Act.put, List.setIfInBounds_toArray, List.set_cons_zero, List.set_cons_succ]
  refine wpAnyH_take (i := 21) (oi := { dst := some 70, op := _, type := _, pos := _, after := _, guard := _ }) (v := ?v15) rfl (by kernel_rfl) (by kernel_rfl) (by kernel_rfl) (fun _ _ _ h => h) (Or.inl ⟨by rfl, ?hy15⟩) K118 ?rest15
  case hy15 => (intro w hSw; (try dsimp only at hSw); first | (go_simp; done) | (go_simp; with_reducible rfl))
  try simp only [Act.put, List.setIfInBounds_toArray, List.set_cons_zero, List.set_cons_succ]
  refine wpAnyH_take (i := 22) (oi := { dst := some 71, op := _, type := _, pos := _, after := _, guard := _ }) (v := ?v16) rfl (by kernel_rfl) (by kernel_rfl) (by kernel_rfl) (fun _ _ _ h => h) (Or.inl ⟨by rfl, ?hy16⟩) K118 ?rest16
  case hy16 => (intro w hSw; (try dsimp only at hSw); first | (go_simp; done) | (go_simp; with_reducible rfl))
  try simp only [Act.put, List.setIfInBounds_toArray, List.set_cons_zero, List.set_cons_succ]
  refine wpAnyH_ready (rs := [23]) (by kernel_rfl) (by simp) ?_
  refine AllReadyH.cons (o := { dst := some 72, op := _, type := _, pos := _, after := _, guard := _ }) rfl (fun K hK => ?_) AllReadyH.nil
  go_simp
  have hh := dlAwake u18
  refine Calls.mono hh ?_
  rintro v u23 ⟨rfl, hb⟩
  have K123 := TwoD.below K118 hb
  clear hh hb K118
  refine hK.out _ _ K123 (fun _ => ?_)
  clear hK K
  try simp only [Act.put, List.setIfInBounds_toArray, List.set_cons_zero, List.set_cons_succ]
  refine wpAnyH_take (i := 24) (oi := { dst := some 73, op := _, type := _, pos := _, after := _, guard := _ }) (v := ?v17) rfl (by kernel_rfl) (by kernel_rfl) (by kernel_rfl) (fun _ _ _ h => h) (Or.inl ⟨by rfl, ?hy17⟩) K123 ?rest17
  case hy17 => (intro w hSw; (try dsimp only at hSw); first | (go_simp; done) | (go_simp; with_reducible rfl))
  try simp only [Act.put, List.setIfInBounds_toArray, List.set_cons_zero, List.set_cons_succ]
  refine wpAnyH_take (i := 25) (oi := { dst := some 4, op := _, type := _, pos := _, after := _, guard := _ }) (v := ?v18) rfl (by kernel_rfl) (by kernel_rfl) (by kernel_rfl) (fun _ _ _ h => h) (Or.inl ⟨by rfl, ?hy18⟩) K123 ?rest18
  case hy18 => (intro w hSw; (try dsimp only at hSw); first | (go_simp; done) | (go_simp; with_reducible rfl))
  try simp only [Act.put, List.setIfInBounds_toArray, List.set_cons_zero, List.set_cons_succ]
  refine wpAnyH_done (by kernel_rfl) ?_ _
  try simp only [Act.put, List.setIfInBounds_toArray, List.set_cons_zero, List.set_cons_succ]
  have HK := Lib.hid (TwoD.low K123)
  clear K123
  go_wp2_with fail
  go_ret
  exact ⟨rfl, HK.out⟩
end Go.Proofs.YtkodololdjainaaGreat
