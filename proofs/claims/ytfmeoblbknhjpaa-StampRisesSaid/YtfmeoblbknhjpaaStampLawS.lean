/-
  almonrylaw14: the walk of StampRises.
-/
import Derived.Test.YtfmeoblbknhjpaaStampLawR
import Derived.Test.YtfmeoblbknhjpaaStampKit
import Derived.Deep.RegionHeld3
namespace Go.Proofs.Ytfmeoblbknhjpaa
set_option linter.unusedSimpArgs false
open Go.RowKit Go.Sort
set_option maxRecDepth 100000

theorem SRow.loadV {w : World} {b : Nat} {d : St} (h : SRow w b d) : (loadVar 23 ⟨b, 0, none⟩).run Try.prog w = .ok (.agg #[.int .i64 d.t, .int .i64 d.c, .int .i64 d.r]) w :=
  run_loadVar_row w b 23 23 #[.int .i64 d.t, .int .i64 d.c, .int .i64 d.r] (0, 0) _ h Try.underlying23 rfl stampInfo
theorem yield_S {ops : Array Oper} {S : World → Prop} {o : Oper} {a : Act} (hw : Region.wanted o (yielded ops a.tmps) = true) (x : Operand) (ho : o.op = .load 23 x) (g : Nat) (d : St) (hx : a.eval x = .pointer (some ⟨g, 0, none⟩))
    (hg : ∀ w, S w → SRow w g d) : YieldsIf Try.prog ops S o (.agg #[.int .i64 d.t, .int .i64 d.c, .int .i64 d.r]) a := by
  refine .inl ⟨hw, fun w hS => ?_⟩
  unfold execOp
  simp only [ho, hx, Instr.loadAt, Instr.sureAddr, Sem.run_bind, Sem.run_pure, Result.andThen_ok, (hg w hS).loadV]
theorem yield_I {ops : Array Oper} {S : World → Prop} {o : Oper} {a : Act} (hw : Region.wanted o (yielded ops a.tmps) = true) (x : Operand) (ho : o.op = .load 3 x) (g off : Nat) (z : Int) (hx : a.eval x = .pointer (some ⟨g, off, none⟩))
    (hg : ∀ w, S w → w.cell? ⟨g, off, none⟩ = some (.int .i64 z)) : YieldsIf Try.prog ops S o (.int .i64 z) a := by
  refine .inl ⟨hw, fun w hS => ?_⟩
  have h0 := hg w hS
  unfold execOp
  simp only [ho, hx]
  go_simp
theorem draw_storeS {ops : Array Oper} {o : Oper} {a : Act} {w : World} {K : Act → World → Prop} {Q : Exit → Act → World → Prop} (hgd : o.guard = none) (x y : Operand) (ho : o.op = .store 23 x y)
    (g : Nat) (hx : a.eval x = .pointer (some ⟨g, 0, none⟩)) (d old : St) (hy : a.eval y = .agg #[.int .i64 d.t, .int .i64 d.c, .int .i64 d.r]) (hg : SRow w g old) (h : K (a.put o.dst undef) (w.setRow g #[.int .i64 d.t, .int .i64 d.c, .int .i64 d.r])) :
    if Region.wanted o (yielded ops a.tmps) = true then Oper.wp Try.prog o a w K Q else K (a.put o.dst undef) w := by
  have hl' := run_storeVar_row (P := Try.prog) w g 23 23 #[.int .i64 old.t, .int .i64 old.c, .int .i64 old.r] #[.int .i64 d.t, .int .i64 d.c, .int .i64 d.r] hg stampInfo rfl (by simp [Value.oneCell'])
  simp only [Region.wanted, hgd, if_true]
  unfold Oper.wp execOp
  simp only [ho, hx, hy, Instr.storeAt, Instr.sureAddr, Sem.run_bind, Sem.run_pure, Result.andThen_ok, hl']
  exact h

set_option maxHeartbeats 8000000 in
theorem rises_row (a : Option Addr) (len cap : Nat) (l : List St) (q : Int) (w : World) (h : StampArg w a len l) (hq : (Lit.int .u8 q).wf = true) :
    Calls Try.prog 4 #[.slice a len cap, .int .u8 q] w fun e w' => e = .returned (.bool true) ∧ Below w.heap.size w w' := by
  obtain ⟨rfl, hl, hin⟩ := h
  unfold maxLen at hl
  have H := Lib.hid hin
  clear hin
  have hq0 := bounds_u8 hq
  clear hq
  by_cases hbig : 60 < l.length
  · have hbi : (60 : Int) < (l.length : Int) := by omega
    go_enter Try.func4, Try.ntmps4
    go_wp2_with fail
    refine (stampAwake w).mono ?_
    rintro e w1 ⟨rfl, hb⟩
    have HB := Lib.hid hb; clear hb
    go_wp2_with fail
    go_ret
    exact ⟨rfl, HB.out⟩
  · have hbi : ¬ (60 : Int) < (l.length : Int) := by omega
    have hsm : l.length ≤ 60 := by omega
    go_enter Try.func4, Try.ntmps4
    go_wp2_with fail
    go_loopw [6, 7, 8, 9, 10, 11] (fun i _ _ _ _ _ wk => ∃ (k : Nat) (s : St), i = .int .i64 (k : Int) ∧ k ≤ l.length ∧ Below w.heap.size w wk ∧ SRow wk w.heap.size s) (fun i _ _ _ _ _ _ => l.length - (intOf i).toNat)
    case atStart => exact ⟨0, ⟨0, 0, q % 16⟩, by simp, Nat.zero_le _, below1 w _, SRow.new w ⟨0, 0, q % 16⟩⟩
    case round =>
      obtain ⟨k, s, rfl, hk, hb, hs⟩ := hrel
      have HB := Lib.hid hb
      have HSR := Lib.hid hs
      clear hs
      by_cases hlt : k < l.length
      · obtain ⟨o, ho⟩ : ∃ o, l[k]? = some o := ⟨_, List.getElem?_eq_getElem hlt⟩
        obtain ⟨b, off, rfl, hbl, c0, c1, c2⟩ := (H.out.below HB.out).at ho
        have hi0 : (0 : Int) ≤ (k : Int) := by omega
        have hi1 : (k : Int) < (l.length : Int) := by omega
        clear hb ho
        go_upto_region 8 with fail
        have hse := fun W => seenC s ⟨o.t, o.c, (k : Int).tmod 16⟩ o.r W
        rcases hX : seenS s ⟨o.t, o.c, (k : Int).tmod 16⟩ o.r with ⟨x, e⟩
        rw [hX] at hse
        have HX := Lib.hid hX
        clear hX
        have HL0 := HSR.out.lt
        obtain ⟨st, sc, sr⟩ := s
        obtain ⟨ot, oc, or'⟩ := o
        obtain ⟨xt, xc, xr⟩ := x
        unfold two at hse
        simp only at hse c0 c1 c2
        have HSE := Lib.hid hse
        have HC := Lib.hid (And.intro c0 (And.intro c1 c2))
        have HBL := Lib.hid hbl
        clear hse c0 c1 c2 hbl
        generalize hwx : wr = wx at *
        clear hwx
        go_cut [8, 9] (fun p z W => ∃ g : Nat, p = .pointer (some ⟨g, 0, none⟩) ∧ z = .int .i64 e ∧ SRow W g ⟨xt, xc, xr⟩ ∧ SRow W w.heap.size ⟨st, sc, sr⟩ ∧ g ≠ w.heap.size ∧ Below w.heap.size w W ∧ Below wx.heap.size wx W)
        case first =>
          refine wp_region_held (S := Go.RowKit.Below wx.heap.size wx) (by kernel_rfl) ?_
          change wpAnyH _ _ _ _ _ _ _ _ wx.drew
          have K0 : (Go.RowKit.Below wx.heap.size wx) wx.drew := Below.drew (Below.refl _ _)
          refine wpAnyH_take (i := 0) (oi := { dst := some 32, op := _, type := _, pos := _, after := _, guard := _ }) rfl (by kernel_rfl) (by kernel_rfl) (by kernel_rfl) (fun _ _ _ h => h) (yield_S (by rfl) (.tmp 5) rfl w.heap.size ⟨st, sc, sr⟩ rfl (fun U hU => HSR.out.keep hU)) K0 ?_
          try simp only [Act.put, List.setIfInBounds_toArray, List.set_cons_zero, List.set_cons_succ]
          refine wpAnyH_take (i := 1) (oi := { dst := some 33, op := _, type := _, pos := _, after := _, guard := _ }) (v := ?v2) rfl (by kernel_rfl) (by kernel_rfl) (by kernel_rfl) (fun _ _ _ h => h) (Or.inl ⟨by rfl, ?hy2⟩) K0 ?rest2
          case hy2 => (intro w hSw; (try dsimp only at hSw); first | (go_simp; done) | (go_simp; with_reducible rfl))
          try simp only [Act.put, List.setIfInBounds_toArray, List.set_cons_zero, List.set_cons_succ]
          refine wpAnyH_take (i := 2) (oi := { dst := some 34, op := _, type := _, pos := _, after := _, guard := _ }) (v := ?v3) rfl (by kernel_rfl) (by kernel_rfl) (by kernel_rfl) (fun _ _ _ h => h) (Or.inl ⟨by rfl, ?hy3⟩) K0 ?rest3
          case hy3 => (intro w hSw; (try dsimp only at hSw); first | (go_simp; done) | (go_simp; with_reducible rfl))
          try simp only [Act.put, List.setIfInBounds_toArray, List.set_cons_zero, List.set_cons_succ]
          refine wpAnyH_take (i := 3) (oi := { dst := some 35, op := _, type := _, pos := _, after := _, guard := _ }) (v := ?v4) rfl (by kernel_rfl) (by kernel_rfl) (by kernel_rfl) (fun _ _ _ h => h) (Or.inl ⟨by rfl, ?hy4⟩) K0 ?rest4
          case hy4 => (intro w hSw; (try dsimp only at hSw); first | (go_simp; done) | (go_simp; with_reducible rfl))
          try simp only [Act.put, List.setIfInBounds_toArray, List.set_cons_zero, List.set_cons_succ]
          refine wpAnyH_take (i := 4) (oi := { dst := some 36, op := _, type := _, pos := _, after := _, guard := _ }) (v := ?v5) rfl (by kernel_rfl) (by kernel_rfl) (by kernel_rfl) (fun _ _ _ h => h) (Or.inl ⟨by rfl, ?hy5⟩) K0 ?rest5
          case hy5 => (intro w hSw; (try dsimp only at hSw); first | (go_simp; done) | (go_simp; with_reducible rfl))
          try simp only [Act.put, List.setIfInBounds_toArray, List.set_cons_zero, List.set_cons_succ]
          refine wpAnyH_take (i := 5) (oi := { dst := some 37, op := _, type := _, pos := _, after := _, guard := _ }) rfl (by kernel_rfl) (by kernel_rfl) (by kernel_rfl) (fun _ _ _ h => h) (yield_I (by rfl) (.tmp 36) rfl b (off + k * 3) ot rfl (fun U hU => by rw [hU.cell (p := ⟨b, off + k * 3, none⟩) HBL.out]; exact HC.out.1)) K0 ?_
          try simp only [Act.put, List.setIfInBounds_toArray, List.set_cons_zero, List.set_cons_succ]
          refine wpAnyH_take (i := 6) (oi := { dst := some 38, op := _, type := _, pos := _, after := _, guard := _ }) (v := ?v7) rfl (by kernel_rfl) (by kernel_rfl) (by kernel_rfl) (fun _ _ _ h => h) (Or.inl ⟨by rfl, ?hy7⟩) K0 ?rest7
          case hy7 => (intro w hSw; (try dsimp only at hSw); first | (go_simp; done) | (go_simp; with_reducible rfl))
          try simp only [Act.put, List.setIfInBounds_toArray, List.set_cons_zero, List.set_cons_succ]
          refine wpAnyH_take (i := 7) (oi := { dst := some 39, op := _, type := _, pos := _, after := _, guard := _ }) (v := ?v8) rfl (by kernel_rfl) (by kernel_rfl) (by kernel_rfl) (fun _ _ _ h => h) (Or.inl ⟨by rfl, ?hy8⟩) K0 ?rest8
          case hy8 => (intro w hSw; (try dsimp only at hSw); first | (go_simp; done) | (go_simp; with_reducible rfl))
          try simp only [Act.put, List.setIfInBounds_toArray, List.set_cons_zero, List.set_cons_succ]
          refine wpAnyH_take (i := 8) (oi := { dst := some 40, op := _, type := _, pos := _, after := _, guard := _ }) (v := ?v9) rfl (by kernel_rfl) (by kernel_rfl) (by kernel_rfl) (fun _ _ _ h => h) (Or.inl ⟨by rfl, ?hy9⟩) K0 ?rest9
          case hy9 => (intro w hSw; (try dsimp only at hSw); first | (go_simp; done) | (go_simp; with_reducible rfl))
          try simp only [Act.put, List.setIfInBounds_toArray, List.set_cons_zero, List.set_cons_succ]
          refine wpAnyH_take (i := 9) (oi := { dst := some 41, op := _, type := _, pos := _, after := _, guard := _ }) (v := ?v10) rfl (by kernel_rfl) (by kernel_rfl) (by kernel_rfl) (fun _ _ _ h => h) (Or.inl ⟨by rfl, ?hy10⟩) K0 ?rest10
          case hy10 => (intro w hSw; (try dsimp only at hSw); first | (go_simp; done) | (go_simp; with_reducible rfl))
          try simp only [Act.put, List.setIfInBounds_toArray, List.set_cons_zero, List.set_cons_succ]
          refine wpAnyH_take (i := 10) (oi := { dst := some 42, op := _, type := _, pos := _, after := _, guard := _ }) rfl (by kernel_rfl) (by kernel_rfl) (by kernel_rfl) (fun _ _ _ h => h) (yield_I (by rfl) (.tmp 41) rfl b (off + k * 3 + 1) oc rfl (fun U hU => by rw [hU.cell (p := ⟨b, off + k * 3 + 1, none⟩) HBL.out]; exact HC.out.2.1)) K0 ?_
          try simp only [Act.put, List.setIfInBounds_toArray, List.set_cons_zero, List.set_cons_succ]
          refine wpAnyH_take (i := 11) (oi := { dst := some 43, op := _, type := _, pos := _, after := _, guard := _ }) (v := ?v12) rfl (by kernel_rfl) (by kernel_rfl) (by kernel_rfl) (fun _ _ _ h => h) (Or.inl ⟨by rfl, ?hy12⟩) K0 ?rest12
          case hy12 => (intro w hSw; (try dsimp only at hSw); first | (go_simp; done) | (go_simp; with_reducible rfl))
          try simp only [Act.put, List.setIfInBounds_toArray, List.set_cons_zero, List.set_cons_succ]
          refine wpAnyH_take (i := 12) (oi := { dst := some 44, op := _, type := _, pos := _, after := _, guard := _ }) (v := ?v13) rfl (by kernel_rfl) (by kernel_rfl) (by kernel_rfl) (fun _ _ _ h => h) (Or.inl ⟨by rfl, ?hy13⟩) K0 ?rest13
          case hy13 => (intro w hSw; (try dsimp only at hSw); first | (go_simp; done) | (go_simp; with_reducible rfl))
          try simp only [Act.put, List.setIfInBounds_toArray, List.set_cons_zero, List.set_cons_succ]
          refine wpAnyH_take (i := 13) (oi := { dst := some 45, op := _, type := _, pos := _, after := _, guard := _ }) (v := ?v14) rfl (by kernel_rfl) (by kernel_rfl) (by kernel_rfl) (fun _ _ _ h => h) (Or.inl ⟨by rfl, ?hy14⟩) K0 ?rest14
          case hy14 => (intro w hSw; (try dsimp only at hSw); first | (go_simp; done) | (go_simp; with_reducible rfl))
          try simp only [Act.put, List.setIfInBounds_toArray, List.set_cons_zero, List.set_cons_succ]
          refine wpAnyH_take (i := 14) (oi := { dst := some 46, op := _, type := _, pos := _, after := _, guard := _ }) (v := ?v15) rfl (by kernel_rfl) (by kernel_rfl) (by kernel_rfl) (fun _ _ _ h => h) (Or.inl ⟨by rfl, ?hy15⟩) K0 ?rest15
          case hy15 => (intro w hSw; (try dsimp only at hSw); first | (go_simp; done) | (go_simp; with_reducible rfl))
          try simp only [Act.put, List.setIfInBounds_toArray, List.set_cons_zero, List.set_cons_succ]
          refine wpAnyH_ready (rs := [15, 19]) (by kernel_rfl) (by simp) ?_
          refine AllReadyH.cons (o := { dst := some 47, op := _, type := _, pos := _, after := _, guard := _ }) rfl (fun K hK => ?_) (AllReadyH.cons (o := { dst := some 8, op := _, type := _, pos := _, after := _, guard := _ }) rfl (fun K hK => ?_) AllReadyH.nil)
          · go_simp
            refine (HSE.out _).mono ?_
            rintro en U15 ⟨rfl, hb⟩
            have K15 : (Go.RowKit.Below wx.heap.size wx) U15 := K0.trans (hb.mono K0.size)
            clear hb
            refine hK.out _ _ K15 (fun _ => ?_)
            clear hK K
            try simp only [Act.put, List.setIfInBounds_toArray, List.set_cons_zero, List.set_cons_succ]
            refine wpAnyH_take (i := 16) (oi := { dst := some 31, op := _, type := _, pos := _, after := _, guard := _ }) (v := ?v16) rfl (by kernel_rfl) (by kernel_rfl) (by kernel_rfl) (fun _ _ _ h => h) (Or.inl ⟨by rfl, ?hy16⟩) K15 ?rest16
            case hy16 => (intro w hSw; (try dsimp only at hSw); first | (go_simp; done) | (go_simp; with_reducible rfl))
            try simp only [Act.put, List.setIfInBounds_toArray, List.set_cons_zero, List.set_cons_succ]
            refine wpAnyH_take (i := 17) (oi := { dst := some 48, op := _, type := _, pos := _, after := _, guard := _ }) (v := ?v17) rfl (by kernel_rfl) (by kernel_rfl) (by kernel_rfl) (fun _ _ _ h => h) (Or.inl ⟨by rfl, ?hy17⟩) K15 ?rest17
            case hy17 => (intro w hSw; (try dsimp only at hSw); first | (go_simp; done) | (go_simp; with_reducible rfl))
            try simp only [Act.put, List.setIfInBounds_toArray, List.set_cons_zero, List.set_cons_succ]
            refine wpAnyH_ready (rs := [18, 19]) (by kernel_rfl) (by simp) ?_
            refine AllReadyH.cons (o := { dst := some 49, op := _, type := _, pos := _, after := _, guard := _ }) rfl (fun K hK => ?_) (AllReadyH.cons (o := { dst := some 8, op := _, type := _, pos := _, after := _, guard := _ }) rfl (fun K hK => ?_) AllReadyH.nil)
            · go_simp
              have K18 := K15
              refine hK.out _ _ K18 (fun _ => ?_)
              clear hK K
              try simp only [Act.put, List.setIfInBounds_toArray, List.set_cons_zero, List.set_cons_succ]
              refine wpAnyH_ready (rs := [19]) (by kernel_rfl) (by simp) ?_
              refine AllReadyH.cons (o := { dst := some 8, op := _, type := _, pos := _, after := _, guard := _ }) rfl (fun K hK => ?_) AllReadyH.nil
              go_simp
              have R20 := Lib.hid (SRow.new U15 zS)
              have NE := Lib.hid (Nat.ne_of_gt (Nat.lt_of_lt_of_le HL0 K15.size))
              have K19 : (Go.RowKit.Below wx.heap.size wx) (U15.alloc (.cells #[.int .i64 0, .int .i64 0, .int .i64 0] 23)) := belowMore K18 _
              refine hK.out _ _ K19 (fun _ => ?_)
              clear hK K
              try simp only [Act.put, List.setIfInBounds_toArray, List.set_cons_zero, List.set_cons_succ]
              refine wpAnyH_ready (rs := [20]) (by kernel_rfl) (by simp) ?_
              refine AllReadyH.cons (o := { dst := none, op := _, type := _, pos := _, after := _, guard := _ }) rfl (fun K hK => ?_) AllReadyH.nil
              refine draw_storeS rfl (.tmp 8) (.tmp 48) rfl _ rfl ⟨xt, xc, xr⟩ zS rfl R20.out ?_
              have K20 := belowRow K19 (g := U15.heap.size) (by first | exact Nat.le_refl _ | exact K15.size) #[Value.int .i64 xt, .int .i64 xc, .int .i64 xr]
              have Z := Lib.hid (R20.out.put ⟨xt, xc, xr⟩)
              refine hK.out _ _ K20 (fun _ => ?_)
              clear hK K
              try simp only [Act.put, List.setIfInBounds_toArray, List.set_cons_zero, List.set_cons_succ]
              refine wpAnyH_take (i := 21) (oi := { dst := some 9, op := _, type := _, pos := _, after := _, guard := _ }) (v := ?v18) rfl (by kernel_rfl) (by kernel_rfl) (by kernel_rfl) (fun _ _ _ h => h) (Or.inl ⟨by rfl, ?hy18⟩) K20 ?rest18
              case hy18 => (intro w hSw; (try dsimp only at hSw); first | (go_simp; done) | (go_simp; with_reducible rfl))
              try simp only [Act.put, List.setIfInBounds_toArray, List.set_cons_zero, List.set_cons_succ]
              refine wpAnyH_done (by kernel_rfl) ?_ _
              try simp only [Act.put, List.setIfInBounds_toArray, List.set_cons_zero, List.set_cons_succ]
              go_wp2_with fail
              go_meet
              exact ⟨_, rfl, rfl, Z.out, HSR.out.keep K20, NE.out, HB.out.trans (K20.mono HB.out.size), K20⟩
            · go_simp
              have R20 := Lib.hid (SRow.new U15 zS)
              have NE := Lib.hid (Nat.ne_of_gt (Nat.lt_of_lt_of_le HL0 K15.size))
              have K19 : (Go.RowKit.Below wx.heap.size wx) (U15.alloc (.cells #[.int .i64 0, .int .i64 0, .int .i64 0] 23)) := belowMore K15 _
              refine hK.out _ _ K19 (fun _ => ?_)
              clear hK K
              try simp only [Act.put, List.setIfInBounds_toArray, List.set_cons_zero, List.set_cons_succ]
              refine wpAnyH_ready (rs := [18, 20]) (by kernel_rfl) (by simp) ?_
              refine AllReadyH.cons (o := { dst := some 49, op := _, type := _, pos := _, after := _, guard := _ }) rfl (fun K hK => ?_) (AllReadyH.cons (o := { dst := none, op := _, type := _, pos := _, after := _, guard := _ }) rfl (fun K hK => ?_) AllReadyH.nil)
              · go_simp
                have K18 := K19
                refine hK.out _ _ K18 (fun _ => ?_)
                clear hK K
                try simp only [Act.put, List.setIfInBounds_toArray, List.set_cons_zero, List.set_cons_succ]
                refine wpAnyH_ready (rs := [20]) (by kernel_rfl) (by simp) ?_
                refine AllReadyH.cons (o := { dst := none, op := _, type := _, pos := _, after := _, guard := _ }) rfl (fun K hK => ?_) AllReadyH.nil
                refine draw_storeS rfl (.tmp 8) (.tmp 48) rfl _ rfl ⟨xt, xc, xr⟩ zS rfl R20.out ?_
                have K20 := belowRow K18 (g := U15.heap.size) (by first | exact Nat.le_refl _ | exact K15.size) #[Value.int .i64 xt, .int .i64 xc, .int .i64 xr]
                have Z := Lib.hid (R20.out.put ⟨xt, xc, xr⟩)
                refine hK.out _ _ K20 (fun _ => ?_)
                clear hK K
                try simp only [Act.put, List.setIfInBounds_toArray, List.set_cons_zero, List.set_cons_succ]
                refine wpAnyH_take (i := 21) (oi := { dst := some 9, op := _, type := _, pos := _, after := _, guard := _ }) (v := ?v19) rfl (by kernel_rfl) (by kernel_rfl) (by kernel_rfl) (fun _ _ _ h => h) (Or.inl ⟨by rfl, ?hy19⟩) K20 ?rest19
                case hy19 => (intro w hSw; (try dsimp only at hSw); first | (go_simp; done) | (go_simp; with_reducible rfl))
                try simp only [Act.put, List.setIfInBounds_toArray, List.set_cons_zero, List.set_cons_succ]
                refine wpAnyH_done (by kernel_rfl) ?_ _
                try simp only [Act.put, List.setIfInBounds_toArray, List.set_cons_zero, List.set_cons_succ]
                go_wp2_with fail
                go_meet
                exact ⟨_, rfl, rfl, Z.out, HSR.out.keep K20, NE.out, HB.out.trans (K20.mono HB.out.size), K20⟩
              · refine draw_storeS rfl (.tmp 8) (.tmp 48) rfl _ rfl ⟨xt, xc, xr⟩ zS rfl R20.out ?_
                have K20 := belowRow K19 (g := U15.heap.size) (by first | exact Nat.le_refl _ | exact K15.size) #[Value.int .i64 xt, .int .i64 xc, .int .i64 xr]
                have Z := Lib.hid (R20.out.put ⟨xt, xc, xr⟩)
                refine hK.out _ _ K20 (fun _ => ?_)
                clear hK K
                try simp only [Act.put, List.setIfInBounds_toArray, List.set_cons_zero, List.set_cons_succ]
                refine wpAnyH_ready (rs := [18]) (by kernel_rfl) (by simp) ?_
                refine AllReadyH.cons (o := { dst := some 49, op := _, type := _, pos := _, after := _, guard := _ }) rfl (fun K hK => ?_) AllReadyH.nil
                go_simp
                have K18 := K20
                refine hK.out _ _ K18 (fun _ => ?_)
                clear hK K
                try simp only [Act.put, List.setIfInBounds_toArray, List.set_cons_zero, List.set_cons_succ]
                refine wpAnyH_take (i := 21) (oi := { dst := some 9, op := _, type := _, pos := _, after := _, guard := _ }) (v := ?v20) rfl (by kernel_rfl) (by kernel_rfl) (by kernel_rfl) (fun _ _ _ h => h) (Or.inl ⟨by rfl, ?hy20⟩) K18 ?rest20
                case hy20 => (intro w hSw; (try dsimp only at hSw); first | (go_simp; done) | (go_simp; with_reducible rfl))
                try simp only [Act.put, List.setIfInBounds_toArray, List.set_cons_zero, List.set_cons_succ]
                refine wpAnyH_done (by kernel_rfl) ?_ _
                try simp only [Act.put, List.setIfInBounds_toArray, List.set_cons_zero, List.set_cons_succ]
                go_wp2_with fail
                go_meet
                exact ⟨_, rfl, rfl, Z.out, HSR.out.keep K20, NE.out, HB.out.trans (K20.mono HB.out.size), K20⟩
          · go_simp
            have R19 := Lib.hid (SRow.new wx.drew zS)
            have NE := Lib.hid (Nat.ne_of_gt HL0)
            have K19 : (Go.RowKit.Below wx.heap.size wx) (wx.drew.alloc (.cells #[.int .i64 0, .int .i64 0, .int .i64 0] 23)) := belowMore K0 _
            refine hK.out _ _ K19 (fun _ => ?_)
            clear hK K
            try simp only [Act.put, List.setIfInBounds_toArray, List.set_cons_zero, List.set_cons_succ]
            refine wpAnyH_ready (rs := [15]) (by kernel_rfl) (by simp) ?_
            refine AllReadyH.cons (o := { dst := some 47, op := _, type := _, pos := _, after := _, guard := _ }) rfl (fun K hK => ?_) AllReadyH.nil
            go_simp
            refine (HSE.out _).mono ?_
            rintro en U15 ⟨rfl, hb⟩
            have K15 : (Go.RowKit.Below wx.heap.size wx) U15 := K19.trans (hb.mono K19.size)
            have R20 := Lib.hid (R19.out.keep hb)
            clear hb
            refine hK.out _ _ K15 (fun _ => ?_)
            clear hK K
            try simp only [Act.put, List.setIfInBounds_toArray, List.set_cons_zero, List.set_cons_succ]
            refine wpAnyH_take (i := 16) (oi := { dst := some 31, op := _, type := _, pos := _, after := _, guard := _ }) (v := ?v21) rfl (by kernel_rfl) (by kernel_rfl) (by kernel_rfl) (fun _ _ _ h => h) (Or.inl ⟨by rfl, ?hy21⟩) K15 ?rest21
            case hy21 => (intro w hSw; (try dsimp only at hSw); first | (go_simp; done) | (go_simp; with_reducible rfl))
            try simp only [Act.put, List.setIfInBounds_toArray, List.set_cons_zero, List.set_cons_succ]
            refine wpAnyH_take (i := 17) (oi := { dst := some 48, op := _, type := _, pos := _, after := _, guard := _ }) (v := ?v22) rfl (by kernel_rfl) (by kernel_rfl) (by kernel_rfl) (fun _ _ _ h => h) (Or.inl ⟨by rfl, ?hy22⟩) K15 ?rest22
            case hy22 => (intro w hSw; (try dsimp only at hSw); first | (go_simp; done) | (go_simp; with_reducible rfl))
            try simp only [Act.put, List.setIfInBounds_toArray, List.set_cons_zero, List.set_cons_succ]
            refine wpAnyH_ready (rs := [18, 20]) (by kernel_rfl) (by simp) ?_
            refine AllReadyH.cons (o := { dst := some 49, op := _, type := _, pos := _, after := _, guard := _ }) rfl (fun K hK => ?_) (AllReadyH.cons (o := { dst := none, op := _, type := _, pos := _, after := _, guard := _ }) rfl (fun K hK => ?_) AllReadyH.nil)
            · go_simp
              have K18 := K15
              refine hK.out _ _ K18 (fun _ => ?_)
              clear hK K
              try simp only [Act.put, List.setIfInBounds_toArray, List.set_cons_zero, List.set_cons_succ]
              refine wpAnyH_ready (rs := [20]) (by kernel_rfl) (by simp) ?_
              refine AllReadyH.cons (o := { dst := none, op := _, type := _, pos := _, after := _, guard := _ }) rfl (fun K hK => ?_) AllReadyH.nil
              refine draw_storeS rfl (.tmp 8) (.tmp 48) rfl _ rfl ⟨xt, xc, xr⟩ zS rfl R20.out ?_
              have K20 := belowRow K18 (g := wx.heap.size) (by first | exact Nat.le_refl _ | exact K15.size) #[Value.int .i64 xt, .int .i64 xc, .int .i64 xr]
              have Z := Lib.hid (R20.out.put ⟨xt, xc, xr⟩)
              refine hK.out _ _ K20 (fun _ => ?_)
              clear hK K
              try simp only [Act.put, List.setIfInBounds_toArray, List.set_cons_zero, List.set_cons_succ]
              refine wpAnyH_take (i := 21) (oi := { dst := some 9, op := _, type := _, pos := _, after := _, guard := _ }) (v := ?v23) rfl (by kernel_rfl) (by kernel_rfl) (by kernel_rfl) (fun _ _ _ h => h) (Or.inl ⟨by rfl, ?hy23⟩) K20 ?rest23
              case hy23 => (intro w hSw; (try dsimp only at hSw); first | (go_simp; done) | (go_simp; with_reducible rfl))
              try simp only [Act.put, List.setIfInBounds_toArray, List.set_cons_zero, List.set_cons_succ]
              refine wpAnyH_done (by kernel_rfl) ?_ _
              try simp only [Act.put, List.setIfInBounds_toArray, List.set_cons_zero, List.set_cons_succ]
              go_wp2_with fail
              go_meet
              exact ⟨_, rfl, rfl, Z.out, HSR.out.keep K20, NE.out, HB.out.trans (K20.mono HB.out.size), K20⟩
            · refine draw_storeS rfl (.tmp 8) (.tmp 48) rfl _ rfl ⟨xt, xc, xr⟩ zS rfl R20.out ?_
              have K20 := belowRow K15 (g := wx.heap.size) (by first | exact Nat.le_refl _ | exact K15.size) #[Value.int .i64 xt, .int .i64 xc, .int .i64 xr]
              have Z := Lib.hid (R20.out.put ⟨xt, xc, xr⟩)
              refine hK.out _ _ K20 (fun _ => ?_)
              clear hK K
              try simp only [Act.put, List.setIfInBounds_toArray, List.set_cons_zero, List.set_cons_succ]
              refine wpAnyH_ready (rs := [18]) (by kernel_rfl) (by simp) ?_
              refine AllReadyH.cons (o := { dst := some 49, op := _, type := _, pos := _, after := _, guard := _ }) rfl (fun K hK => ?_) AllReadyH.nil
              go_simp
              have K18 := K20
              refine hK.out _ _ K18 (fun _ => ?_)
              clear hK K
              try simp only [Act.put, List.setIfInBounds_toArray, List.set_cons_zero, List.set_cons_succ]
              refine wpAnyH_take (i := 21) (oi := { dst := some 9, op := _, type := _, pos := _, after := _, guard := _ }) (v := ?v24) rfl (by kernel_rfl) (by kernel_rfl) (by kernel_rfl) (fun _ _ _ h => h) (Or.inl ⟨by rfl, ?hy24⟩) K18 ?rest24
              case hy24 => (intro w hSw; (try dsimp only at hSw); first | (go_simp; done) | (go_simp; with_reducible rfl))
              try simp only [Act.put, List.setIfInBounds_toArray, List.set_cons_zero, List.set_cons_succ]
              refine wpAnyH_done (by kernel_rfl) ?_ _
              try simp only [Act.put, List.setIfInBounds_toArray, List.set_cons_zero, List.set_cons_succ]
              go_wp2_with fail
              go_meet
              exact ⟨_, rfl, rfl, Z.out, HSR.out.keep K20, NE.out, HB.out.trans (K20.mono HB.out.size), K20⟩
        case rest =>
          obtain ⟨g, rfl, rfl, hx, hs, hne, hb, hbx⟩ := hcut
          have HXR := Lib.hid hx
          have HSR2 := Lib.hid hs
          have HB2 := Lib.hid hb
          have HNE := Lib.hid hne
          have d0 := HC.out.1
          have d1 := HC.out.2.1
          rw [← hbx.cell (p := ⟨b, off + k * 3, none⟩) HBL.out] at d0
          rw [← hbx.cell (p := ⟨b, off + k * 3 + 1, none⟩) HBL.out] at d1
          have HBL2 := Lib.hid (Nat.lt_of_lt_of_le HBL.out hbx.size)
          have HD := Lib.hid (And.intro d0 d1)
          clear hx hs hne hb hbx d0 d1 HB HSR HC HBL HL0
          by_cases he : e = 0
          rotate_left
          · have hne : (e != 0) = true := by simp [he]
            clear he
            go_wp2_with fail
            go_roundw
            case rel => exact ⟨k + 1, ⟨st, sc, sr⟩, by go_num, by omega, HB2.out, HSR2.out⟩
            case measure => simp [intOf]; omega
          subst he
          rcases hY : nextS ⟨xt, xc, xr⟩ or' sr with ⟨y, f⟩
          have hnx := fun W => nextC ⟨xt, xc, xr⟩ or' sr W
          rw [hY] at hnx
          have HR := Lib.hid (nextS_rise HX.out hY)
          clear hY HX
          obtain ⟨yt, yc, yr⟩ := y
          unfold two at hnx
          simp only at hnx
          have HNX := Lib.hid hnx
          clear hnx
          obtain ⟨x0, x1, x2⟩ := HXR.out.three
          obtain ⟨s0, s1, s2⟩ := HSR2.out.three
          simp only at x0 x1 x2 s0 s1 s2
          go_wp2_with fail
          refine (HNX.out _).mono ?_
          rintro en w2 ⟨rfl, hb2⟩
          have HB3 := Lib.hid (HB2.out.trans (hb2.mono HB2.out.size))
          have HSR3 := Lib.hid (HSR2.out.keep hb2)
          have e0 := HD.out.1
          have e1 := HD.out.2
          rw [← hb2.cell (p := ⟨b, off + k * 3, none⟩) HBL2.out] at e0
          rw [← hb2.cell (p := ⟨b, off + k * 3 + 1, none⟩) HBL2.out] at e1
          have HBL3 := Lib.hid (Nat.lt_of_lt_of_le HBL2.out hb2.size)
          have HE := Lib.hid (And.intro e0 e1)
          clear x0 x1 x2 s0 s1 s2 hb2 HD HBL2 HB2 HSR2 e0 e1
          rcases HR.out with hf | ⟨hf, hlt2, ho2, -, -⟩
          · subst hf
            go_wp2_with fail
            go_roundw
            case rel => exact ⟨k + 1, ⟨st, sc, sr⟩, by go_num, by omega, belowMore HB3.out _, HSR3.out.alloc _⟩
            case measure => simp [intOf]; omega
          subst hf
          have HLE := Lib.hid (fun W => lessAt hlt2 W)
          have HO := Lib.hid ho2
          clear hlt2 ho2 HR
          go_upto_region 12 with fail
          have HB4 := Lib.hid (belowMore HB3.out (.cells #[.int .i64 yt, .int .i64 yc, .int .i64 yr] 23))
          have HSR4 := Lib.hid (HSR3.out.alloc (.cells #[.int .i64 yt, .int .i64 yc, .int .i64 yr] 23))
          have HYR := Lib.hid (SRow.new w2 ⟨yt, yc, yr⟩)
          have HBW := Lib.hid (below1 w2 (.cells #[.int .i64 yt, .int .i64 yc, .int .i64 yr] 23))
          have e0 := HE.out.1
          have e1 := HE.out.2
          rw [← HBW.out.cell (p := ⟨b, off + k * 3, none⟩) HBL3.out] at e0
          rw [← HBW.out.cell (p := ⟨b, off + k * 3 + 1, none⟩) HBL3.out] at e1
          have HGN := Lib.hid (Nat.ne_of_gt HSR3.out.lt)
          change Code.wp _ _ _ _ (boxS w2 ⟨yt, yc, yr⟩)
          change Hid (Below w.heap.size w (boxS w2 ⟨yt, yc, yr⟩)) at HB4
          change Hid (SRow (boxS w2 ⟨yt, yc, yr⟩) w.heap.size ⟨st, sc, sr⟩) at HSR4
          change (boxS w2 ⟨yt, yc, yr⟩).cell? _ = _ at e0
          change (boxS w2 ⟨yt, yc, yr⟩).cell? _ = _ at e1
          clear HBW HE HBL3 HB3 HSR3
          generalize boxS w2 ⟨yt, yc, yr⟩ = w4 at *
          generalize w2.heap.size = gy at *
          obtain ⟨y0, y1, y2⟩ := HYR.out.three
          obtain ⟨s0, s1, s2⟩ := HSR4.out.three
          simp only at y0 y1 y2 s0 s1 s2
          have r0 := fun d os => cell_regrown y0 d os
          have r1 := fun d os => cell_regrown y1 d os
          have r2 := fun d os => cell_regrown y2 d os
          have r3 := fun d os => cell_regrown s0 d os
          have r4 := fun d os => cell_regrown s1 d os
          have r5 := fun d os => cell_regrown s2 d os
          have r6 := fun d os => cell_regrown e0 d os
          have r7 := fun d os => cell_regrown e1 d os
          have L1 := Lib.hid (fun d os => Calls.regrown_of (HLE.out (grow (redrawn w4 d) os)))
          have p1 : decide (yt < ot) = false := decide_eq_false (by have := HO.out; omega)
          have hb : (ot == yt) = false ∨ ((ot == yt) = true ∧ decide (yc ≤ oc) = false) := by
            by_cases h : ot = yt
            · exact .inr ⟨by simp [h], decide_eq_false (by have := HO.out; omega)⟩
            · exact .inl (by simp [h])
          clear y0 y1 y2 s0 s1 s2 e0 e1 HLE HO
          have fin : ∀ W, (∃ d os, grow (redrawn w4 d) os = W) → Below w.heap.size w W ∧ SRow W w.heap.size ⟨st, sc, sr⟩ ∧ SRow W gy ⟨yt, yc, yr⟩ := by
            rintro W ⟨d, os, rfl⟩
            exact ⟨HB4.out.trans ((below_regrown w4 d os).mono HB4.out.size), HSR4.out.keep (below_regrown w4 d os), HYR.out.keep (below_regrown w4 d os)⟩
          have FIN := Lib.hid fin
          clear fin
          rcases hb with p2 | ⟨p2, p3⟩
          all_goals
            refine wp_region_quiet_below (by kernel_rfl) (by kernel_rfl) ?_
            repeat (first | go_big_quiet_step ((go_at_call 12; with_reducible exact L1.out _ _)) | quiet_step ((go_at_call 12; with_reducible exact L1.out _ _)))
            refine wpQuiet_nil ?_
            intro _ hw'
            obtain ⟨⟨dq, osq⟩, hw''⟩ := hw'
            subst hw''
            have HF := Lib.hid (FIN.out _ ⟨dq, osq, rfl⟩)
            clear L1 r0 r1 r2 r3 r4 r5 r6 r7 FIN HB4 HSR4 HYR
            generalize grow (redrawn w4 dq) osq = W at *
            go_wp2_with (first
              | ((with_reducible refine sl_load ?_ (.tmp 10) ?_ gy ⟨yt, yc, yr⟩ ?_ ?_ ?_); rfl; rfl; rfl; exact HF.out.2.2)
              | ((with_reducible refine sl_store ?_ (.tmp 5) (.tmp 100) ?_ w.heap.size yt yc yr ?_ ?_ ?_ ?_); rfl; rfl; rfl; rfl; exact ⟨_, HF.out.2.1⟩))
            go_roundw
            case rel => exact ⟨k + 1, ⟨yt, yc, yr⟩, by go_num, by omega, belowRow HF.out.1 (Nat.le_refl _) _, HF.out.2.1.put ⟨yt, yc, yr⟩⟩
            case measure => simp [intOf]; omega
      · have hi2 : ¬ (k : Int) < (l.length : Int) := by omega
        clear hb
        go_wp2_with fail
        refine (stampAwake _).mono ?_
        rintro e w1 ⟨rfl, hb⟩
        have HB2 := Lib.hid (HB.out.trans (hb.mono HB.out.size)); clear hb
        go_wp2_with fail
        go_ret
        exact ⟨rfl, HB2.out⟩
end Go.Proofs.Ytfmeoblbknhjpaa
