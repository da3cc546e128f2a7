/-
  view, the program's: byKind.
-/
import Derived.Test.YtchnklekeinhiaaGreatViewRows
import Derived.Deep.Cut
import Derived.Deep.DeepCutAuto
namespace Go.Proofs.YtchnklekeinhiaaGreat
set_option linter.unusedSimpArgs false
set_option linter.unusedVariables false
set_option maxRecDepth 100000
open Go.RowKit Go.Sort

set_option maxHeartbeats 16000000 in
theorem byKindC (l : List Ft) (a : Option Addr) (cap : Nat) (w : World) (h : FIn w a l) (hl : l.length ≤ 65536) :
    Calls Tryz.prog 21 #[.slice a l.length cap] w fun e w' => ∃ vs, e = .returned (.agg (k5 vs)) ∧ Rows5 (w.heap.size + 2) (kindsR l) vs w' ∧ Below w.heap.size w w' := by
  have H := Lib.hid h
  clear h
  have HK0 := Lib.hid (show KBlk ((w.alloc (.cells (k5 (fun _ => .slice none 0 0)) 57)).alloc (.cells (k5 (fun _ => .slice none 0 0)) 57)) (w.heap.size + 1) (fun _ => .slice none 0 0) from by
    have := Blk.new (w.alloc (.cells (k5 (fun _ => .slice none 0 0)) 57)) 57 (k5 (fun _ => .slice none 0 0))
    rwa [World.size_alloc] at this)
  have HZ0 := Lib.hid (show KBlk ((w.alloc (.cells (k5 (fun _ => .slice none 0 0)) 57)).alloc (.cells (k5 (fun _ => .slice none 0 0)) 57)) w.heap.size (fun _ => .slice none 0 0) from (Blk.new w 57 (k5 (fun _ => .slice none 0 0))).alloc _)
  have HB0 := Lib.hid (show Below w.heap.size w ((w.alloc (.cells (k5 (fun _ => .slice none 0 0)) 57)).alloc (.cells (k5 (fun _ => .slice none 0 0)) 57)) from (lowA w _).alloc (by simp) _)
  have HS0 := Lib.hid (show ((w.alloc (.cells (k5 (fun _ => .slice none 0 0)) 57)).alloc (.cells (k5 (fun _ => .slice none 0 0)) 57)).heap.size = w.heap.size + 2 by simp)
  go_enter Tryz.func21, Tryz.ntmps21
  go_upto_region 2 with fail
  change Code.wp _ _ _ _ ((w.alloc (.cells (k5 (fun _ => .slice none 0 0)) 57)).alloc (.cells (k5 (fun _ => .slice none 0 0)) 57))
  generalize (w.alloc (.cells (k5 (fun _ => .slice none 0 0)) 57)).alloc (.cells (k5 (fun _ => .slice none 0 0)) 57) = W0 at *
  go_wp2_with fail
  go_loopw [8] (fun i wr => ∃ (j : Nat) (vs : Nat → Value), i = .int .i64 (j : Int) ∧ j ≤ l.length ∧ Hid (Rows5 (w.heap.size + 2) (kindsR (l.take j)) vs wr) ∧ Hid (KBlk wr (w.heap.size + 1) vs) ∧ Hid (KBlk wr w.heap.size (fun _ => .slice none 0 0)) ∧ Hid (Below w.heap.size w wr)) (fun i _ => l.length - (intOf i).toNat)
  case atStart => exact ⟨0, fun _ => .slice none 0 0, rfl, Nat.zero_le _, Lib.hid (by rw [List.take_zero, kindsR_nil]; exact Rows5.nil _ _), HK0, HZ0, HB0⟩
  case round =>
    clear HK0 HZ0 HB0 HS0
    obtain ⟨j, vs, rfl, hj, HR, HKB, HZ, HB⟩ := hrel
    have hlo : w.heap.size + 2 ≤ wr.heap.size := by have := HKB.out.lt; omega
    by_cases hlt : j < l.length
    · obtain ⟨f, hf⟩ : ∃ d, l[j]? = some d := ⟨_, List.getElem?_eq_getElem hlt⟩
      obtain ⟨b, off, rfl, hbl, c0⟩ := (H.out.below HB.out).at hf
      have hi1 : (j : Int) < (l.length : Int) := by omega
      have HNX := Lib.hid (show l.take (j + 1) = l.take j ++ [f] by
        obtain ⟨e1, e2⟩ := List.getElem?_eq_some_iff.1 hf
        rw [List.take_succ_eq_append_getElem hlt, e2])
      have HLEN := Lib.hid (show (l.take j).length ≤ 65536 by rw [List.length_take]; omega)
      generalize l.take j = lj at *
      have CL := Lib.hid c0
      have CL1 := Lib.hid (range_below c0 ((Below.refl _ wr).alloc (Nat.le_refl _) (.cells zcs 48)) hbl)
      have HB1 := Lib.hid (HB.out.trans ((boxZ_below wr f).mono HB.out.size))
      have HR1 := Lib.hid (HR.out.below (boxZ_below wr f) (Nat.le_refl _))
      have HK1 := Lib.hid (HKB.out.keep (boxZ_below wr f))
      have HZ1 := Lib.hid (HZ.out.keep (boxZ_below wr f))
      have HF1 := Lib.hid (boxZ_row wr f)
      have HOL := Lib.hid (fun (k g : Nat) (e : (vs k).ownBlock = some g) => ((HR.out.own k).block_lt e).2)
      clear hf c0 hbl HR HKB HZ
      go_upto_region 5 with (first
        | ((with_reducible refine fl_load ?_ (.tmp 10) ?_ b (off + j * 8) f ?_ ?_ ?_); rfl; rfl; rfl; (first | exact CL.out | exact CL1.out); simp only [Act.put, List.setIfInBounds_toArray, List.set_cons_zero, List.set_cons_succ])
        | ((with_reducible refine fl_store ?_ (.tmp 5) (.tmp 11) ?_ wr.heap.size f ?_ ?_ ?_ ?_); rfl; rfl; rfl; rfl; exact boxZ_old wr))
      change Code.wp _ _ _ _ (boxZ wr f)
      generalize boxZ wr f = W at *
      have hwr : wr.heap.size < W.heap.size := HF1.out.lt
      clear CL CL1
      obtain ⟨fd, fs, fk, fn, fv⟩ := f
      have c5 : W.cell? ⟨wr.heap.size, 5, none⟩ = some (.int .i64 fk) := by have := HF1.out.range 5 (.int .i64 fk) rfl; rwa [Nat.zero_add] at this
      by_cases h1 : (1 : Int) ≤ fk
      · by_cases h5 : fk < 5
        · obtain ⟨k, rfl⟩ : ∃ k : Nat, fk = (k : Int) := ⟨fk.toNat, by omega⟩
          have hk0 : k ≠ 0 := by omega
          have hk5 : k < 5 := by omega
          have g1 : decide ((1 : Int) ≤ (k : Int)) = true := by simp; omega
          have g2 : decide ((k : Int) < 5) = true := by simp; omega
          have g3 : (0 : Int) ≤ (k : Int) := by omega
          have g4 : (k : Int) < (5 : Int) := by omega
          generalize hfe : (⟨fd, fs, (k : Int), fn, fv⟩ : Ft) = f at *
          have HFK := Lib.hid (show f.k = (k : Int) by rw [← hfe])
          clear hfe h1 h5
          go_upto_region 6 with fail
          obtain ⟨a', c', w3, hr3, ho3, hb3, hg3⟩ := Rows5.push (k := k) (c := 1) ((HR1.out.below (Below.refl W.heap.size W).drew (Nat.le_refl _)).below (lowA W.drew (.cells (fcs f).toArray 48)) (Nat.le_refl _)) (fin_new W.drew f) (by have h2 : W.drew.heap.size = W.heap.size := rfl; rw [World.size_alloc]; omega) (by have := kindsR_len lj k; have := HLEN.out; omega)
          have HF3 := Lib.hid (show FRow w3 wr.heap.size f from by
            unfold FRow
            rw [hg3.block wr.heap.size (by have h2 : W.drew.heap.size = W.heap.size := rfl; rw [World.size_alloc]; omega) (fun e => absurd (HOL.out k _ e.symm) (Nat.lt_irrefl _))]
            exact FRow.keep (FRow.keep HF1.out (Below.refl _ W).drew) (lowA W.drew _))
          have HR3 := Lib.hid hr3
          have HB3 := Lib.hid (show Below (w.heap.size + 2) W w3 from ((Below.refl _ W).drew.alloc (by have h2 : W.drew.heap.size = W.heap.size := rfl; omega) _).trans hb3)
          have HO3 := Lib.hid ho3
          have HK3 := Lib.hid (Blk.below HK1.out HB3.out (by omega))
          have HR4 := Lib.hid (ho3.set (b := w.heap.size + 1) (i := k) (by omega) (.slice a' ((kindsR lj k).length + 1) c'))
          have HK4 := Lib.hid (KBlk.set HK3.out k hk5 (.slice a' ((kindsR lj k).length + 1) c'))
          have HZ4 := Lib.hid (Blk.set (Blk.below HZ1.out HB3.out (by omega)) (show w.heap.size ≠ w.heap.size + 1 by omega) (j := k) (.slice a' ((kindsR lj k).length + 1) c'))
          have HB4 := Lib.hid ((HB1.out.trans (HB3.out.mono (by omega))).setCell (p := ⟨w.heap.size + 1, k, none⟩) (Nat.le_succ _) (.slice a' ((kindsR lj k).length + 1) c'))
          clear hr3 ho3 hb3 hg3
          refine wp_region_held (S := (fun U => FRow U wr.heap.size f)) (by kernel_rfl) ?_
          change wpAnyH _ _ _ _ _ _ _ _ W.drew
          have K0 : ((fun U => FRow U wr.heap.size f)) W.drew := FRow.keep HF1.out (Below.refl _ W).drew
          refine wpAnyH_take (i := 0) (oi := { dst := some 20, op := _, type := _, pos := _, after := _, guard := _ }) (v := ?v1) rfl (by kernel_rfl) (by kernel_rfl) (by kernel_rfl) (fun _ _ _ h => h) (Or.inl ⟨by rfl, ?hy1⟩) K0 ?rest1
          case hy1 => (intro w hSw; (try dsimp only at hSw); first | (go_simp; done) | (go_simp; with_reducible rfl))
          try simp only [Act.put, List.setIfInBounds_toArray, List.set_cons_zero, List.set_cons_succ]
          refine wpAnyH_take (i := 1) (oi := { dst := some 21, op := _, type := _, pos := _, after := _, guard := _ }) rfl (by kernel_rfl) (by kernel_rfl) (by kernel_rfl) (fun _ _ _ h => h) (c_yield (by rfl) 3 (.tmp 20) rfl ⟨wr.heap.size, 5, none⟩ (.int .i64 (k : Int)) rfl (fun U hU => by have h := FRow.range hU 5 (.int .i64 f.k) rfl; rw [Nat.zero_add, HFK.out] at h; go_simp)) K0 ?_
          try simp only [Act.put, List.setIfInBounds_toArray, List.set_cons_zero, List.set_cons_succ]
          refine wpAnyH_take (i := 2) (oi := { dst := some 22, op := _, type := _, pos := _, after := _, guard := _ }) (v := ?v3) rfl (by kernel_rfl) (by kernel_rfl) (by kernel_rfl) (fun _ _ _ h => h) (Or.inl ⟨by rfl, ?hy3⟩) K0 ?rest3
          case hy3 => (intro w hSw; (try dsimp only at hSw); first | (go_simp; done) | (go_simp; with_reducible rfl))
          try simp only [Act.put, List.setIfInBounds_toArray, List.set_cons_zero, List.set_cons_succ]
          refine wpAnyH_take (i := 3) (oi := { dst := some 23, op := _, type := _, pos := _, after := _, guard := _ }) rfl (by kernel_rfl) (by kernel_rfl) (by kernel_rfl) (fun _ _ _ h => h) (c_yield (by rfl) 3 (.tmp 22) rfl ⟨wr.heap.size, 5, none⟩ (.int .i64 (k : Int)) rfl (fun U hU => by have h := FRow.range hU 5 (.int .i64 f.k) rfl; rw [Nat.zero_add, HFK.out] at h; go_simp)) K0 ?_
          try simp only [Act.put, List.setIfInBounds_toArray, List.set_cons_zero, List.set_cons_succ]
          refine wpAnyH_take (i := 4) (oi := { dst := some 24, op := _, type := _, pos := _, after := _, guard := _ }) (v := ?v5) rfl (by kernel_rfl) (by kernel_rfl) (by kernel_rfl) (fun _ _ _ h => h) (Or.inl ⟨by rfl, ?hy5⟩) K0 ?rest5
          case hy5 => (intro w hSw; (try dsimp only at hSw); first | (go_simp; done) | (go_simp; with_reducible rfl))
          try simp only [Act.put, List.setIfInBounds_toArray, List.set_cons_zero, List.set_cons_succ]
          refine wpAnyH_take (i := 6) (oi := { dst := some 26, op := _, type := _, pos := _, after := _, guard := _ }) rfl (by kernel_rfl) (by kernel_rfl) (by kernel_rfl) (fun _ _ _ h => h) (f_yield (by rfl) (.tmp 5) rfl wr.heap.size f rfl (fun U hU => hU)) K0 ?_
          try simp only [Act.put, List.setIfInBounds_toArray, List.set_cons_zero, List.set_cons_succ]
          refine wpAnyH_ready (rs := [5, 7]) (by kernel_rfl) (by simp) ?_
          refine AllReadyH.cons (o := { dst := some 25, op := _, type := _, pos := _, after := _, guard := _ }) rfl (fun K hK => ?_) (AllReadyH.cons (o := { dst := some 27, op := _, type := _, pos := _, after := _, guard := _ }) rfl (fun K hK => ?_) AllReadyH.nil)
          · refine draw_load1 rfl 22 (.tmp 24) rfl ⟨w.heap.size + 1, k, none⟩ (vs k) rfl (run_loadS _ _ _ (show World.cell? W.drew ⟨w.heap.size + 1, k, none⟩ = some (vs k) from Blk.cell (Blk.keep HK1.out (Below.refl _ W).drew) (k5_at vs k hk5))) ?_
            have K5 := K0
            refine hK.out _ _ K5 (fun _ => ?_)
            clear hK K
            try simp only [Act.put, List.setIfInBounds_toArray, List.set_cons_zero, List.set_cons_succ]
            refine wpAnyH_ready (rs := [7]) (by kernel_rfl) (by simp) ?_
            refine AllReadyH.cons (o := { dst := some 27, op := _, type := _, pos := _, after := _, guard := _ }) rfl (fun K hK => ?_) AllReadyH.nil
            refine draw_build1F rfl (.tmp 26) rfl f rfl ?_
            have K7 : ((fun U => FRow U wr.heap.size f)) (W.drew.alloc (.cells (fcs f).toArray 48)) := FRow.keep K5 (lowA W.drew _)
            refine hK.out _ _ K7 (fun _ => ?_)
            clear hK K
            try simp only [Act.put, List.setIfInBounds_toArray, List.set_cons_zero, List.set_cons_succ]
            refine wpAnyH_ready (rs := [8]) (by kernel_rfl) (by simp) ?_
            refine AllReadyH.cons (o := { dst := some 28, op := _, type := _, pos := _, after := _, guard := _ }) rfl (fun K hK => ?_) AllReadyH.nil
            refine draw_appendF rfl (.tmp 25) (.tmp 27) rfl rfl (vs k) _ rfl rfl _ w3 HR3.out ?_
            have K8 : ((fun U => FRow U wr.heap.size f)) w3 := HF3.out
            refine hK.out _ _ K8 (fun _ => ?_)
            clear hK K
            try simp only [Act.put, List.setIfInBounds_toArray, List.set_cons_zero, List.set_cons_succ]
            refine wpAnyH_take (i := 9) (oi := { dst := some 29, op := _, type := _, pos := _, after := _, guard := _ }) (v := ?v7) rfl (by kernel_rfl) (by kernel_rfl) (by kernel_rfl) (fun _ _ _ h => h) (Or.inl ⟨by rfl, ?hy7⟩) K8 ?rest7
            case hy7 => (intro w hSw; (try dsimp only at hSw); first | (go_simp; done) | (go_simp; with_reducible rfl))
            try simp only [Act.put, List.setIfInBounds_toArray, List.set_cons_zero, List.set_cons_succ]
            refine wpAnyH_ready (rs := [10]) (by kernel_rfl) (by simp) ?_
            refine AllReadyH.cons (o := { dst := none, op := _, type := _, pos := _, after := _, guard := _ }) rfl (fun K hK => ?_) AllReadyH.nil
            refine draw_storeS rfl (.tmp 29) (.tmp 28) rfl ⟨w.heap.size + 1, k, none⟩ _ _ _ (vs k) (by go_simp) rfl (Blk.cell HK3.out (k5_at vs k hk5)) (KBlk.free HK3.out k) ?_
            have K10 : ((fun U => FRow U wr.heap.size f)) (w3.setCell ⟨w.heap.size + 1, k, none⟩ (.slice a' ((kindsR lj k).length + 1) c')) := Blk.set (T := 48) HF3.out (show wr.heap.size ≠ w.heap.size + 1 by omega) _
            refine hK.out _ _ K10 (fun _ => ?_)
            clear hK K
            try simp only [Act.put, List.setIfInBounds_toArray, List.set_cons_zero, List.set_cons_succ]
            refine wpAnyH_done (by kernel_rfl) ?_ _
            try simp only [Act.put, List.setIfInBounds_toArray, List.set_cons_zero, List.set_cons_succ]
            clear K10
            generalize w3.setCell ⟨w.heap.size + 1, k, none⟩ (.slice a' ((kindsR lj k).length + 1) c') = W4 at *
            go_wp2_with fail
            go_roundw
            case rel => exact ⟨j + 1, fun i => if i = k then .slice a' ((kindsR lj k).length + 1) c' else vs i, by go_num, by omega, Lib.hid (by rw [HNX.out, kindsR_in lj f k HFK.out hk0 hk5]; exact HR4.out), HK4, HZ4, HB4⟩
            case measure => simp [intOf]; omega
          · refine draw_build1F rfl (.tmp 26) rfl f rfl ?_
            have K7 : ((fun U => FRow U wr.heap.size f)) (W.drew.alloc (.cells (fcs f).toArray 48)) := FRow.keep K0 (lowA W.drew _)
            refine hK.out _ _ K7 (fun _ => ?_)
            clear hK K
            try simp only [Act.put, List.setIfInBounds_toArray, List.set_cons_zero, List.set_cons_succ]
            refine wpAnyH_ready (rs := [5]) (by kernel_rfl) (by simp) ?_
            refine AllReadyH.cons (o := { dst := some 25, op := _, type := _, pos := _, after := _, guard := _ }) rfl (fun K hK => ?_) AllReadyH.nil
            refine draw_load1 rfl 22 (.tmp 24) rfl ⟨w.heap.size + 1, k, none⟩ (vs k) rfl (run_loadS _ _ _ (show World.cell? (W.drew.alloc (.cells (fcs f).toArray 48)) ⟨w.heap.size + 1, k, none⟩ = some (vs k) from Blk.cell (Blk.keep (Blk.keep HK1.out (Below.refl _ W).drew) (lowA W.drew _)) (k5_at vs k hk5))) ?_
            have K5 := K7
            refine hK.out _ _ K5 (fun _ => ?_)
            clear hK K
            try simp only [Act.put, List.setIfInBounds_toArray, List.set_cons_zero, List.set_cons_succ]
            refine wpAnyH_ready (rs := [8]) (by kernel_rfl) (by simp) ?_
            refine AllReadyH.cons (o := { dst := some 28, op := _, type := _, pos := _, after := _, guard := _ }) rfl (fun K hK => ?_) AllReadyH.nil
            refine draw_appendF rfl (.tmp 25) (.tmp 27) rfl rfl (vs k) _ rfl rfl _ w3 HR3.out ?_
            have K8 : ((fun U => FRow U wr.heap.size f)) w3 := HF3.out
            refine hK.out _ _ K8 (fun _ => ?_)
            clear hK K
            try simp only [Act.put, List.setIfInBounds_toArray, List.set_cons_zero, List.set_cons_succ]
            refine wpAnyH_take (i := 9) (oi := { dst := some 29, op := _, type := _, pos := _, after := _, guard := _ }) (v := ?v8) rfl (by kernel_rfl) (by kernel_rfl) (by kernel_rfl) (fun _ _ _ h => h) (Or.inl ⟨by rfl, ?hy8⟩) K8 ?rest8
            case hy8 => (intro w hSw; (try dsimp only at hSw); first | (go_simp; done) | (go_simp; with_reducible rfl))
            try simp only [Act.put, List.setIfInBounds_toArray, List.set_cons_zero, List.set_cons_succ]
            refine wpAnyH_ready (rs := [10]) (by kernel_rfl) (by simp) ?_
            refine AllReadyH.cons (o := { dst := none, op := _, type := _, pos := _, after := _, guard := _ }) rfl (fun K hK => ?_) AllReadyH.nil
            refine draw_storeS rfl (.tmp 29) (.tmp 28) rfl ⟨w.heap.size + 1, k, none⟩ _ _ _ (vs k) (by go_simp) rfl (Blk.cell HK3.out (k5_at vs k hk5)) (KBlk.free HK3.out k) ?_
            have K10 : ((fun U => FRow U wr.heap.size f)) (w3.setCell ⟨w.heap.size + 1, k, none⟩ (.slice a' ((kindsR lj k).length + 1) c')) := Blk.set (T := 48) HF3.out (show wr.heap.size ≠ w.heap.size + 1 by omega) _
            refine hK.out _ _ K10 (fun _ => ?_)
            clear hK K
            try simp only [Act.put, List.setIfInBounds_toArray, List.set_cons_zero, List.set_cons_succ]
            refine wpAnyH_done (by kernel_rfl) ?_ _
            try simp only [Act.put, List.setIfInBounds_toArray, List.set_cons_zero, List.set_cons_succ]
            clear K10
            generalize w3.setCell ⟨w.heap.size + 1, k, none⟩ (.slice a' ((kindsR lj k).length + 1) c') = W4 at *
            go_wp2_with fail
            go_roundw
            case rel => exact ⟨j + 1, fun i => if i = k then .slice a' ((kindsR lj k).length + 1) c' else vs i, by go_num, by omega, Lib.hid (by rw [HNX.out, kindsR_in lj f k HFK.out hk0 hk5]; exact HR4.out), HK4, HZ4, HB4⟩
            case measure => simp [intOf]; omega
        · have g1 : decide ((1 : Int) ≤ fk) = true := by simp; omega
          have g2 : decide (fk < 5) = false := by simp; omega
          have HN := Lib.hid (kindsR_out lj ⟨fd, fs, fk, fn, fv⟩ (.inr (by simp; omega)))
          clear h1 h5
          go_wp2_with fail
          go_roundw
          case rel => exact ⟨j + 1, vs, by go_num, by omega, Lib.hid (by rw [HNX.out, HN.out]; exact HR1.out), HK1, HZ1, HB1⟩
          case measure => simp [intOf]; omega
      · have g1 : decide ((1 : Int) ≤ fk) = false := by simp; omega
        have HN := Lib.hid (kindsR_out lj ⟨fd, fs, fk, fn, fv⟩ (.inl (by simp; omega)))
        clear h1
        go_wp2_with fail
        go_roundw
        case rel => exact ⟨j + 1, vs, by go_num, by omega, Lib.hid (by rw [HNX.out, HN.out]; exact HR1.out), HK1, HZ1, HB1⟩
        case measure => simp [intOf]; omega
    · obtain rfl : j = l.length := by omega
      have hi1 : ¬ (l.length : Int) < (l.length : Int) := by omega
      have HRE := Lib.hid (show Rows5 (w.heap.size + 2) (kindsR l) vs (wr.setRow w.heap.size (k5 vs)) from by
        have h := HR.out
        rw [List.take_length] at h
        exact h.row (by omega) (k5 vs))
      have HBE := Lib.hid (belowRow' HB.out (Nat.le_refl _) (k5 vs))
      have HZE := Lib.hid (Blk.put HZ.out (k5 vs))
      have HON := Lib.hid (Rows5.one HR.out)
      clear HR hlt hj
      go_wp2_with (first
        | ((with_reducible refine bl_load ?_ 57 (.tmp 3) ?_ (w.heap.size + 1) 0 (k5 vs) ?_ ?_ Tryz.underlying57 ?_ ?_ ?_); rfl; rfl; rfl; exact HKB.out.all; rfl; exact infoK _; simp only [Act.put, List.setIfInBounds_toArray, List.set_cons_zero, List.set_cons_succ])
        | ((with_reducible refine bl_store ?_ 57 (.tmp 2) (.tmp 31) ?_ w.heap.size (k5 vs) ?_ ?_ ?_ ?_ ?_ ?_); rfl; rfl; rfl; rfl; exact ⟨_, HZ.out, rfl⟩; exact infoK _; exact HON.out))
      generalize wr.setRow w.heap.size (k5 vs) = W4 at *
      refine bodyPost_ret (v := .agg (k5 vs)) (results_cell_row (by rfl) _ _ w.heap.size 57 (k5 vs) (0, 0) _ rfl HZE.out Tryz.underlying57 rfl (infoK _)) rfl ?_
      exact ⟨vs, rfl, HRE.out, HBE.out⟩
end Go.Proofs.YtchnklekeinhiaaGreat
