/-
  stamp: Seen, of the program.
-/
import Derived.Test.YtfmeoblbknhjpaaStampNext
import Derived.Deep.MidRow
namespace Go.Proofs.Ytfmeoblbknhjpaa
open Go.RowKit
set_option maxRecDepth 100000

/-- the one that is further of both -/
def stepS (a b : St) : St := if upS a b = true then b else a
theorem stepS_yes {a b : St} (h : upS a b = true) : stepS a b = b := by unfold stepS; rw [if_pos h]
theorem stepS_no {a b : St} (h : upS a b = false) : stepS a b = a := by unfold stepS; rw [h]; rfl
theorem stepS_self (a : St) : stepS a a = a := stepS_no (by unfold upS; exact decide_eq_false (by omega))
theorem stepS_top (a b : St) : stepS a b = topS a b := by unfold stepS topS upS; simp only [decide_eq_true_eq]
theorem seenC_plain (l o : St) (now : Int) : seenS l o now = if chkS l ≠ 0 then (zS, 2) else if chkS o ≠ 0 then (zS, 2) else if chkS ⟨now, 0, 0⟩ ≠ 0 then (zS, 2) else
    (⟨(stepS (stepS (stepS l l) o) ⟨now, 0, 0⟩).t, (stepS (stepS (stepS l l) o) ⟨now, 0, 0⟩).c, l.r⟩, 0) := by
  unfold seenS
  by_cases h : chkS l ≠ 0
  · rw [if_pos (.inl h), if_pos h]
  rw [if_neg h]
  by_cases k : chkS o ≠ 0
  · rw [if_pos (.inr (.inl k)), if_pos k]
  rw [if_neg k]
  by_cases q : chkS ⟨now, 0, 0⟩ ≠ 0
  · rw [if_pos q, if_pos]
    refine .inr (.inr ?_)
    rcases Decidable.em (badN now) with z | z
    · exact z
    · exfalso
      apply q
      unfold badN at z
      exact chkS_of (by simp only; omega)
  · rw [if_neg q, if_neg]
    · rw [stepS_self, stepS_top l o]
      have k1 := chkS_ok (Classical.not_not.1 h)
      have k2 := chkS_ok (Classical.not_not.1 k)
      have ht := topS_le l o
      have hx : 0 ≤ (topS l o).c := by omega
      generalize topS l o = X at *
      have e : upS X ⟨now, 0, 0⟩ = decide (X.t < now) := by
        unfold upS
        simp only
        by_cases z : X.t < now
        · rw [decide_eq_true z, decide_eq_true (.inl z)]
        · rw [decide_eq_false z, decide_eq_false (by omega)]
      unfold stepS
      rw [e]
      by_cases z : X.t < now
      · rw [if_pos z, decide_eq_true z]; rfl
      · rw [if_neg z, decide_eq_false z]; rfl
    · have k3 := chkS_ok (Classical.not_not.1 q)
      simp only at k3
      rintro (z | z | z)
      · exact h z
      · exact k z
      · unfold badN at z; omega

theorem SRow.of_set {w : World} {b c : Nat} {d : St} (h : SRow w b d) (hc : b ≠ c) (C : Array Value) : SRow (w.setRow c C) b d := by
  unfold SRow; rw [setRow_other _ _ _ _ hc]; exact h
theorem SRow.put {w : World} {b : Nat} {x : St} (h : SRow w b x) (d : St) : SRow (w.setRow b #[.int .i64 d.t, .int .i64 d.c, .int .i64 d.r]) b d := setRow_heap _ _ _ _ _ _ h
theorem SRow.setR {w : World} {b : Nat} {t c r : Int} (h : SRow w b ⟨t, c, r⟩) (x : Int) : SRow (w.setCell ⟨b, 2, none⟩ (.int .i64 x)) b ⟨t, c, x⟩ := by
  have := Joins.block_setCell (i := 2) h (.int .i64 x)
  exact this
theorem SRow.other {w : World} {b c : Nat} {d : St} (h : SRow w b d) (hc : b ≠ c) (j : Nat) (x : Value) : SRow (w.setCell ⟨c, j, none⟩ x) b d := by
  unfold SRow; rw [Below.heap_setCell _ _ _ _ hc]; exact h
theorem sl_store {ops : Array Oper} {rest : List Oper} {o : Oper} {a : Act} {w : World} {Q : Exit → Act → World → Prop} (hgd : o.guard = none) (x y : Operand) (ho : o.op = .store 23 x y) (g : Nat) (t c r : Int)
    (hx : a.eval x = .pointer (some ⟨g, 0, none⟩)) (hy : a.eval y = .agg #[.int .i64 t, .int .i64 c, .int .i64 r]) (hg : ∃ old, SRow w g old)
    (h : wpList Try.prog ops Q rest (a.put o.dst undef) (w.setRow g #[.int .i64 t, .int .i64 c, .int .i64 r])) : wpList Try.prog ops Q (o :: rest) a w := by
  obtain ⟨old, hg⟩ := hg
  exact wpList_store_row hgd 23 x y ho g #[.int .i64 t, .int .i64 c, .int .i64 r] hx hy 23 #[.int .i64 old.t, .int .i64 old.c, .int .i64 old.r] hg stampInfo rfl (by simp [Value.oneCell']) h
theorem sl_load {ops : Array Oper} {rest : List Oper} {o : Oper} {a : Act} {w : World} {Q : Exit → Act → World → Prop} (hw : Region.wanted o (yielded ops a.tmps) = true) (x : Operand) (ho : o.op = .load 23 x) (g : Nat) (d : St)
    (hx : a.eval x = .pointer (some ⟨g, 0, none⟩)) (hg : SRow w g d)
    (h : wpList Try.prog ops Q rest (a.put o.dst (.agg #[.int .i64 d.t, .int .i64 d.c, .int .i64 d.r])) w) : wpList Try.prog ops Q (o :: rest) a w := by
  unfold wpList
  rw [if_pos hw]
  exact .inl (wp_load_row 23 x ho g hx 23 #[.int .i64 d.t, .int .i64 d.c, .int .i64 d.r] (0, 0) _ hg Try.underlying23 rfl stampInfo h)
/-- the row of three -/
def TRow (w : World) (b : Nat) (l o : St) (now : Int) : Prop := w.heap[b]? = some (.cells #[.int .i64 l.t, .int .i64 l.c, .int .i64 l.r, .int .i64 o.t, .int .i64 o.c, .int .i64 o.r, .int .i64 now, .int .i64 0, .int .i64 0] 40 (0, 0))
theorem threeInfo : (Try.prog.info? 40).map (·.size) = some 9 := by kernel_rfl
theorem tl_load {ops : Array Oper} {rest : List Oper} {o : Oper} {a : Act} {w : World} {Q : Exit → Act → World → Prop} (hw : Region.wanted o (yielded ops a.tmps) = true) (x : Operand) (ho : o.op = .load 40 x) (g : Nat) (l d : St) (now : Int)
    (hx : a.eval x = .pointer (some ⟨g, 0, none⟩)) (hg : TRow w g l d now)
    (h : wpList Try.prog ops Q rest (a.put o.dst (.agg #[.int .i64 l.t, .int .i64 l.c, .int .i64 l.r, .int .i64 d.t, .int .i64 d.c, .int .i64 d.r, .int .i64 now, .int .i64 0, .int .i64 0])) w) : wpList Try.prog ops Q (o :: rest) a w := by
  unfold wpList
  rw [if_pos hw]
  exact .inl (wp_load_row 40 x ho g hx 40 _ (0, 0) _ hg Try.underlying40 rfl threeInfo h)

theorem idx0 (a b c d e f g h i : Value) (W : World) : (Instr.index 40 (.agg #[a, b, c, d, e, f, g, h, i]) (.int .i64 0)).run Try.prog W = .ok (.agg #[a, b, c]) W := by rfl
theorem idx1 (a b c d e f g h i : Value) (W : World) : (Instr.index 40 (.agg #[a, b, c, d, e, f, g, h, i]) (.int .i64 1)).run Try.prog W = .ok (.agg #[d, e, f]) W := by rfl
theorem idx2 (a b c d e f g h i : Value) (W : World) : (Instr.index 40 (.agg #[a, b, c, d, e, f, g, h, i]) (.int .i64 2)).run Try.prog W = .ok (.agg #[g, h, i]) W := by rfl
theorem cells_two (w : World) (a : Obj) (c : Array Value) {t : TypeId} (j : Nat) (u : Value) (h : c[j]? = some u) : ((w.alloc a).alloc (.cells c t)).cell? ⟨w.heap.size + 1, j, none⟩ = some u := by
  have e := heap_alloc2_new w a (.cells c t)
  rw [Joins.cell_of_block e]; exact h
theorem aheadBelow {w v : World} {a b : Obj} (h : Below ((w.alloc a).alloc b).heap.size ((w.alloc a).alloc b) v) : Below w.heap.size w v := (belowMore (below1 w a) b).trans (h.mono (belowMore (below1 w a) b).size)
/-- what Seen has laid ahead of its loops: both stamps, the answer, the three -/
def seen0 (w : World) (l o : St) (now : Int) : World := (boxS (boxS (boxS w l) o) zS).alloc (.cells #[.int .i64 l.t, .int .i64 l.c, .int .i64 l.r, .int .i64 o.t, .int .i64 o.c, .int .i64 o.r, .int .i64 now, .int .i64 0, .int .i64 0] 40)
theorem seen0_below (w : World) (l o : St) (now : Int) : Below w.heap.size w (seen0 w l o now) := belowMore (belowMore (belowMore (below1 w _) _) _) _
theorem seen0_size (w : World) (l o : St) (now : Int) : (seen0 w l o now).heap.size = w.heap.size + 4 := by simp [seen0, boxS]
theorem seen0_last (w : World) (l o : St) (now : Int) : SRow (seen0 w l o now) w.heap.size l := (((SRow.new w l).alloc _).alloc _).alloc _
theorem seen0_out (w : World) (l o : St) (now : Int) : SRow (seen0 w l o now) (w.heap.size + 2) zS := by
  have h := SRow.new (boxS (boxS w l) o) zS
  rw [boxS_size, boxS_size] at h
  exact h.alloc _
theorem seen0_three (w : World) (l o : St) (now : Int) : TRow (seen0 w l o now) (w.heap.size + 3) l o now := by
  have h := heap_alloc_new (boxS (boxS (boxS w l) o) zS) (.cells #[.int .i64 l.t, .int .i64 l.c, .int .i64 l.r, .int .i64 o.t, .int .i64 o.c, .int .i64 o.r, .int .i64 now, .int .i64 0, .int .i64 0] 40)
  rw [boxS_size, boxS_size, boxS_size] at h
  exact h
theorem TRow.below {w w' : World} {b B : Nat} {l o : St} {now : Int} (h : TRow w b l o now) (hb : Below B w w') (hB : b < B) : TRow w' b l o now := by
  unfold TRow; rw [hb.block b hB]; exact h
theorem SRow.below {w w' : World} {b B : Nat} {d : St} (h : SRow w b d) (hb : Below B w w') (hB : b < B) : SRow w' b d := by
  unfold SRow; rw [hb.block b hB]; exact h

set_option maxHeartbeats 4000000 in
theorem seenC (l o : St) (now : Int) (w : World) : Calls Try.prog 8 #[.agg #[.int .i64 l.t, .int .i64 l.c, .int .i64 l.r], .agg #[.int .i64 o.t, .int .i64 o.c, .int .i64 o.r], .int .i64 now] w fun e w' => e = .returned (two (seenS l o now)) ∧ Below w.heap.size w w' := by
  have hn := seenC_plain l o now
  have H1 := Lib.hid fun W => checkC l W
  have H2 := Lib.hid fun W => checkC o W
  have H3 := Lib.hid fun W => checkC ⟨now, 0, 0⟩ W
  have k1 := chkS_cases l
  have k2 := chkS_cases o
  have k3 := chkS_cases ⟨now, 0, 0⟩
  have HL := Lib.hid (seen0_last w l o now)
  have HO := Lib.hid (seen0_out w l o now)
  have HT := Lib.hid (seen0_three w l o now)
  have HB0 := Lib.hid (seen0_below w l o now)
  have hs0 := seen0_size w l o now
  generalize seenS l o now = X at hn ⊢
  have HN := Lib.hid hn
  clear hn
  generalize chkS l = E1 at *
  generalize chkS o = E2 at *
  generalize chkS ⟨now, 0, 0⟩ = E3 at *
  have hW0 : ∃ W0, seen0 w l o now = W0 := ⟨_, rfl⟩
  obtain ⟨W0, hW0⟩ := hW0
  rw [hW0] at HL HO HT HB0 hs0
  have HW0 := Lib.hid hW0.symm
  clear hW0
  unfold boxS at H1 H2 H3
  obtain ⟨lt, lc, lr⟩ := l
  obtain ⟨ot, oc, or'⟩ := o
  have HS := Lib.hid hs0
  clear hs0
  go_enter Try.func8, Try.ntmps8
  go_wp2
  go_loopw [10, 11, 21] (fun _ _ i wr => Below W0.heap.size W0 wr ∧ (i = .int .i64 0 ∨ (i = .int .i64 1 ∧ E1 = 0) ∨ (i = .int .i64 2 ∧ E1 = 0 ∧ E2 = 0) ∨ (i = .int .i64 3 ∧ E1 = 0 ∧ E2 = 0 ∧ E3 = 0))) (fun _ _ i _ => 3 - (intOf i).toNat)
  case atStart => exact ⟨by rw [HW0.out]; exact Below.refl _ _, .inl rfl⟩
  case round =>
    obtain ⟨hb, hrel⟩ := hrel
    have HB := Lib.hid hb
    have HOw := Lib.hid (HO.out.below hb (by rw [HS.out]; omega))
    clear hb
    rcases hrel with rfl | ⟨rfl, e1⟩ | ⟨rfl, e1, e2⟩ | ⟨rfl, e1, e2, e3⟩
    · clear HL HT
      have ix := idx0
      rcases k1 with rfl | rfl
      · go_wp2_with fail
        refine (H1.out _).mono ?_
        rintro e w1 ⟨rfl, rfl⟩
        go_wp2
        exact ⟨⟨belowMore (belowMore HB.out _) _, .inr (.inl ⟨rfl, by trivial⟩)⟩, by simp [intOf]⟩
      · have HX := Lib.hid (HN.out)
        go_wp2_with fail
        refine (H1.out _).mono ?_
        rintro e w1 ⟨rfl, rfl⟩
        go_wp2_with ((with_reducible refine sl_store ?_ (.tmp 6) (.tmp 28) ?_ (w.heap.size + 2) 0 0 0 ?_ ?_ ?_ ?_); rfl; rfl; rfl; rfl; exact ⟨_, (HOw.out.alloc _).alloc _⟩)
        exact bodyPost_ret (retS rfl _ _ (w.heap.size + 2) zS _ rfl rfl (((HOw.out.alloc _).alloc _).put zS)) rfl ⟨by rw [HX.out]; rfl, belowRow (belowMore (belowMore (HB0.out.trans (HB.out.mono HB0.out.size)) _) _) (by omega) _⟩
    · subst e1; clear k1
      have ix := idx1
      rcases k2 with rfl | rfl
      · go_wp2_with fail
        refine (H2.out _).mono ?_
        rintro e w1 ⟨rfl, rfl⟩
        go_wp2
        exact ⟨⟨belowMore (belowMore HB.out _) _, .inr (.inr (.inl ⟨rfl, by trivial, by trivial⟩))⟩, by simp [intOf]⟩
      · have HX := Lib.hid (HN.out)
        go_wp2_with fail
        refine (H2.out _).mono ?_
        rintro e w1 ⟨rfl, rfl⟩
        go_wp2_with ((with_reducible refine sl_store ?_ (.tmp 6) (.tmp 28) ?_ (w.heap.size + 2) 0 0 0 ?_ ?_ ?_ ?_); rfl; rfl; rfl; rfl; exact ⟨_, (HOw.out.alloc _).alloc _⟩)
        exact bodyPost_ret (retS rfl _ _ (w.heap.size + 2) zS _ rfl rfl (((HOw.out.alloc _).alloc _).put zS)) rfl ⟨by rw [HX.out]; rfl, belowRow (belowMore (belowMore (HB0.out.trans (HB.out.mono HB0.out.size)) _) _) (by omega) _⟩
    · subst e1 e2; clear k1 k2
      have ix := idx2
      rcases k3 with rfl | rfl
      · go_wp2_with fail
        refine (H3.out _).mono ?_
        rintro e w1 ⟨rfl, rfl⟩
        go_wp2
        exact ⟨⟨belowMore (belowMore HB.out _) _, .inr (.inr (.inr ⟨rfl, by trivial, by trivial, by trivial⟩))⟩, by simp [intOf]⟩
      · have HX := Lib.hid (HN.out)
        go_wp2_with fail
        refine (H3.out _).mono ?_
        rintro e w1 ⟨rfl, rfl⟩
        go_wp2_with ((with_reducible refine sl_store ?_ (.tmp 6) (.tmp 28) ?_ (w.heap.size + 2) 0 0 0 ?_ ?_ ?_ ?_); rfl; rfl; rfl; rfl; exact ⟨_, (HOw.out.alloc _).alloc _⟩)
        exact bodyPost_ret (retS rfl _ _ (w.heap.size + 2) zS _ rfl rfl (((HOw.out.alloc _).alloc _).put zS)) rfl ⟨by rw [HX.out]; rfl, belowRow (belowMore (belowMore (HB0.out.trans (HB.out.mono HB0.out.size)) _) _) (by omega) _⟩
    · subst e1 e2 e3
      have hn := HN.out
      rw [if_neg (by decide), if_neg (by decide), if_neg (by decide)] at hn
      have HN3 := Lib.hid hn
      clear hn HN k1 k2 k3
      rename World => wk
      have HLk := Lib.hid (HL.out.below HB.out (by rw [HS.out]; omega))
      have HTk := Lib.hid (HT.out.below HB.out (by rw [HS.out]; omega))
      have HSk := Lib.hid HB.out.size
      go_wp2_with (first
        | ((with_reducible refine sl_load ?_ (.tmp 3) ?_ w.heap.size ⟨lt, lc, lr⟩ ?_ ?_ ?_); rfl; rfl; rfl; exact HLk.out)
        | ((with_reducible refine tl_load ?_ (.tmp 8) ?_ (w.heap.size + 3) ⟨lt, lc, lr⟩ ⟨ot, oc, or'⟩ now ?_ ?_ ?_); rfl; rfl; rfl; exact HTk.out.below (below1 wk _) (Nat.lt_of_lt_of_le (by rw [HS.out]; omega) HSk.out)))
      go_loopw [14, 33] (fun _ i w2 => ∃ S : St, SRow w2 wk.heap.size S ∧ Below wk.heap.size wk w2 ∧ ((i = .int .i64 0 ∧ S = ⟨lt, lc, lr⟩) ∨ (i = .int .i64 1 ∧ S = stepS ⟨lt, lc, lr⟩ ⟨lt, lc, lr⟩) ∨ (i = .int .i64 2 ∧ S = stepS (stepS ⟨lt, lc, lr⟩ ⟨lt, lc, lr⟩) ⟨ot, oc, or'⟩) ∨
        (i = .int .i64 3 ∧ S = stepS (stepS (stepS ⟨lt, lc, lr⟩ ⟨lt, lc, lr⟩) ⟨ot, oc, or'⟩) ⟨now, 0, 0⟩))) (fun _ i _ => 3 - (intOf i).toNat)
      case atStart => exact ⟨⟨lt, lc, lr⟩, SRow.new wk ⟨lt, lc, lr⟩, below1 wk _, .inl ⟨rfl, rfl⟩⟩
      case round =>
        obtain ⟨S, hS, hb2, hrel⟩ := hrel
        rename World => wl
        have HSr := Lib.hid hS
        have HB2 := Lib.hid hb2
        clear hS hb2
        rcases hrel with ⟨rfl, hs⟩ | ⟨rfl, hs⟩ | ⟨rfl, hs⟩ | ⟨rfl, hs⟩
        · have ix := idx0
          have HX := Lib.hid hs
          have h2 := fun B W => ahead2 S ⟨lt, lc, lr⟩ B W
          rcases hup : upS S ⟨lt, lc, lr⟩ with _ | _
          · have hst := stepS_no hup
            rw [hup] at h2
            have H2' := Lib.hid h2
            have HST := Lib.hid (And.intro hst HX.out)
            clear h2 hst hs hup HX
            obtain ⟨St1, St2, St3⟩ := S
            simp only at *
            go_wp2_with ((with_reducible refine sl_load ?_ (.tmp 12) ?_ wk.heap.size ⟨St1, St2, St3⟩ ?_ ?_ ?_); rfl; rfl; rfl; exact HSr.out.alloc _)
            refine (H2'.out (wl.heap.size + 1) _ (by simp) ?_ ?_).mono ?_
            · exact (cells_two _ _ _ 0 _ rfl)
            · exact (cells_two _ _ _ 1 _ rfl)
            rintro e w3 ⟨rfl, hb3⟩
            have HB3 := Lib.hid (aheadBelow hb3)
            clear hb3
            go_wp2
            exact ⟨⟨_, HSr.out.keep HB3.out, HB2.out.trans (HB3.out.mono HB2.out.size), .inr (.inl ⟨rfl, HST.out.1.symm.trans (congrArg (fun z => stepS z ⟨lt, lc, lr⟩) HST.out.2)⟩)⟩, by simp [intOf]⟩
          · have hst := stepS_yes hup
            rw [hup] at h2
            have H2' := Lib.hid h2
            have HST := Lib.hid (And.intro hst HX.out)
            clear h2 hst hs hup HX
            obtain ⟨St1, St2, St3⟩ := S
            simp only at *
            go_wp2_with ((with_reducible refine sl_load ?_ (.tmp 12) ?_ wk.heap.size ⟨St1, St2, St3⟩ ?_ ?_ ?_); rfl; rfl; rfl; exact HSr.out.alloc _)
            refine (H2'.out (wl.heap.size + 1) _ (by simp) ?_ ?_).mono ?_
            · exact (cells_two _ _ _ 0 _ rfl)
            · exact (cells_two _ _ _ 1 _ rfl)
            rintro e w3 ⟨rfl, hb3⟩
            have HNEW := Lib.hid (((SRow.new wl ⟨lt, lc, lr⟩).alloc _).keep hb3)
            have HB3 := Lib.hid (aheadBelow hb3)
            clear hb3
            go_wp2_with (first
              | ((with_reducible refine sl_load ?_ (.tmp 14) ?_ wl.heap.size ⟨lt, lc, lr⟩ ?_ ?_ ?_); rfl; rfl; rfl; exact HNEW.out)
              | ((with_reducible refine sl_store ?_ (.tmp 12) (.tmp 40) ?_ wk.heap.size (lt) (lc) (lr) ?_ ?_ ?_ ?_); rfl; rfl; rfl; rfl; exact ⟨_, HSr.out.keep HB3.out⟩))
            exact ⟨⟨_, (HSr.out.keep HB3.out).put ⟨lt, lc, lr⟩, belowRow (HB2.out.trans (HB3.out.mono HB2.out.size)) (Nat.le_refl _) _, .inr (.inl ⟨rfl, HST.out.1.symm.trans (congrArg (fun z => stepS z ⟨lt, lc, lr⟩) HST.out.2)⟩)⟩, by simp [intOf]⟩
        · have ix := idx1
          have HX := Lib.hid hs
          have h2 := fun B W => ahead2 S ⟨ot, oc, or'⟩ B W
          rcases hup : upS S ⟨ot, oc, or'⟩ with _ | _
          · have hst := stepS_no hup
            rw [hup] at h2
            have H2' := Lib.hid h2
            have HST := Lib.hid (And.intro hst HX.out)
            clear h2 hst hs hup HX
            obtain ⟨St1, St2, St3⟩ := S
            simp only at *
            go_wp2_with ((with_reducible refine sl_load ?_ (.tmp 12) ?_ wk.heap.size ⟨St1, St2, St3⟩ ?_ ?_ ?_); rfl; rfl; rfl; exact HSr.out.alloc _)
            refine (H2'.out (wl.heap.size + 1) _ (by simp) ?_ ?_).mono ?_
            · exact (cells_two _ _ _ 0 _ rfl)
            · exact (cells_two _ _ _ 1 _ rfl)
            rintro e w3 ⟨rfl, hb3⟩
            have HB3 := Lib.hid (aheadBelow hb3)
            clear hb3
            go_wp2
            exact ⟨⟨_, HSr.out.keep HB3.out, HB2.out.trans (HB3.out.mono HB2.out.size), .inr (.inr (.inl ⟨rfl, HST.out.1.symm.trans (congrArg (fun z => stepS z ⟨ot, oc, or'⟩) HST.out.2)⟩))⟩, by simp [intOf]⟩
          · have hst := stepS_yes hup
            rw [hup] at h2
            have H2' := Lib.hid h2
            have HST := Lib.hid (And.intro hst HX.out)
            clear h2 hst hs hup HX
            obtain ⟨St1, St2, St3⟩ := S
            simp only at *
            go_wp2_with ((with_reducible refine sl_load ?_ (.tmp 12) ?_ wk.heap.size ⟨St1, St2, St3⟩ ?_ ?_ ?_); rfl; rfl; rfl; exact HSr.out.alloc _)
            refine (H2'.out (wl.heap.size + 1) _ (by simp) ?_ ?_).mono ?_
            · exact (cells_two _ _ _ 0 _ rfl)
            · exact (cells_two _ _ _ 1 _ rfl)
            rintro e w3 ⟨rfl, hb3⟩
            have HNEW := Lib.hid (((SRow.new wl ⟨ot, oc, or'⟩).alloc _).keep hb3)
            have HB3 := Lib.hid (aheadBelow hb3)
            clear hb3
            go_wp2_with (first
              | ((with_reducible refine sl_load ?_ (.tmp 14) ?_ wl.heap.size ⟨ot, oc, or'⟩ ?_ ?_ ?_); rfl; rfl; rfl; exact HNEW.out)
              | ((with_reducible refine sl_store ?_ (.tmp 12) (.tmp 40) ?_ wk.heap.size (ot) (oc) (or') ?_ ?_ ?_ ?_); rfl; rfl; rfl; rfl; exact ⟨_, HSr.out.keep HB3.out⟩))
            exact ⟨⟨_, (HSr.out.keep HB3.out).put ⟨ot, oc, or'⟩, belowRow (HB2.out.trans (HB3.out.mono HB2.out.size)) (Nat.le_refl _) _, .inr (.inr (.inl ⟨rfl, HST.out.1.symm.trans (congrArg (fun z => stepS z ⟨ot, oc, or'⟩) HST.out.2)⟩))⟩, by simp [intOf]⟩
        · have ix := idx2
          have HX := Lib.hid hs
          have h2 := fun B W => ahead2 S ⟨now, 0, 0⟩ B W
          rcases hup : upS S ⟨now, 0, 0⟩ with _ | _
          · have hst := stepS_no hup
            rw [hup] at h2
            have H2' := Lib.hid h2
            have HST := Lib.hid (And.intro hst HX.out)
            clear h2 hst hs hup HX
            obtain ⟨St1, St2, St3⟩ := S
            simp only at *
            go_wp2_with ((with_reducible refine sl_load ?_ (.tmp 12) ?_ wk.heap.size ⟨St1, St2, St3⟩ ?_ ?_ ?_); rfl; rfl; rfl; exact HSr.out.alloc _)
            refine (H2'.out (wl.heap.size + 1) _ (by simp) ?_ ?_).mono ?_
            · exact (cells_two _ _ _ 0 _ rfl)
            · exact (cells_two _ _ _ 1 _ rfl)
            rintro e w3 ⟨rfl, hb3⟩
            have HB3 := Lib.hid (aheadBelow hb3)
            clear hb3
            go_wp2
            exact ⟨⟨_, HSr.out.keep HB3.out, HB2.out.trans (HB3.out.mono HB2.out.size), .inr (.inr (.inr ⟨rfl, HST.out.1.symm.trans (congrArg (fun z => stepS z ⟨now, 0, 0⟩) HST.out.2)⟩))⟩, by simp [intOf]⟩
          · have hst := stepS_yes hup
            rw [hup] at h2
            have H2' := Lib.hid h2
            have HST := Lib.hid (And.intro hst HX.out)
            clear h2 hst hs hup HX
            obtain ⟨St1, St2, St3⟩ := S
            simp only at *
            go_wp2_with ((with_reducible refine sl_load ?_ (.tmp 12) ?_ wk.heap.size ⟨St1, St2, St3⟩ ?_ ?_ ?_); rfl; rfl; rfl; exact HSr.out.alloc _)
            refine (H2'.out (wl.heap.size + 1) _ (by simp) ?_ ?_).mono ?_
            · exact (cells_two _ _ _ 0 _ rfl)
            · exact (cells_two _ _ _ 1 _ rfl)
            rintro e w3 ⟨rfl, hb3⟩
            have HNEW := Lib.hid (((SRow.new wl ⟨now, 0, 0⟩).alloc _).keep hb3)
            have HB3 := Lib.hid (aheadBelow hb3)
            clear hb3
            go_wp2_with (first
              | ((with_reducible refine sl_load ?_ (.tmp 14) ?_ wl.heap.size ⟨now, 0, 0⟩ ?_ ?_ ?_); rfl; rfl; rfl; exact HNEW.out)
              | ((with_reducible refine sl_store ?_ (.tmp 12) (.tmp 40) ?_ wk.heap.size (now) (0) (0) ?_ ?_ ?_ ?_); rfl; rfl; rfl; rfl; exact ⟨_, HSr.out.keep HB3.out⟩))
            exact ⟨⟨_, (HSr.out.keep HB3.out).put ⟨now, 0, 0⟩, belowRow (HB2.out.trans (HB3.out.mono HB2.out.size)) (Nat.le_refl _) _, .inr (.inr (.inr ⟨rfl, HST.out.1.symm.trans (congrArg (fun z => stepS z ⟨now, 0, 0⟩) HST.out.2)⟩))⟩, by simp [intOf]⟩
        · have HX := Lib.hid hs
          clear hs
          have hcl := (HLk.out.keep HB2.out).cell 2 _ rfl
          have hcs := HSr.out.cell 2 _ rfl
          have hfr := HSr.out.free 2
          have HNE : wk.heap.size ≠ w.heap.size + 2 := by have := HS.out; have := HSk.out; omega
          have HNE2 := Lib.hid HNE
          have HOl := Lib.hid (HOw.out.keep HB2.out)
          clear HNE
          obtain ⟨St1, St2, St3⟩ := S
          simp only at *
          have HSn := Lib.hid (HSr.out.setR lr)
          go_wp2_with (first
            | ((with_reducible refine sl_load ?_ (.tmp 12) ?_ wk.heap.size ⟨St1, St2, lr⟩ ?_ ?_ ?_); rfl; rfl; rfl; exact HSn.out)
            | ((with_reducible refine sl_store ?_ (.tmp 6) (.tmp 45) ?_ (w.heap.size + 2) St1 St2 lr ?_ ?_ ?_ ?_); rfl; rfl; rfl; rfl; exact ⟨_, HOl.out.other HNE2.out.symm 2 _⟩))
          refine bodyPost_ret (retS rfl _ _ (w.heap.size + 2) ⟨St1, St2, lr⟩ _ rfl rfl ((HOl.out.other HNE2.out.symm 2 _).put ⟨St1, St2, lr⟩)) rfl ⟨?_, ?_⟩
          · rw [HN3.out, ← HX.out]; rfl
          · have k1 : Below w.heap.size w wl := HB0.out.trans ((HB.out.trans (HB2.out.mono HB.out.size)).mono HB0.out.size)
            have hle : w.heap.size ≤ wk.heap.size := Nat.le_trans HB0.out.size HB.out.size
            exact belowRow (k1.setCell hle _) (by omega) _
end Go.Proofs.Ytfmeoblbknhjpaa