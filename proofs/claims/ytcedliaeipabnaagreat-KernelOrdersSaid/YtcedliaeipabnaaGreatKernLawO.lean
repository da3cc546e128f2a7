/-
  almonrylaw16: the walk of KernelOrders.
-/
import Derived.Test.YtcedliaeipabnaaGreatKernOwn
import Derived.Test.YtcedliaeipabnaaGreatKernAwk
import Derived.Test.YtcedliaeipabnaaGreatFactSortR
import Derived.Test.YtcedliaeipabnaaGreatGKernU
namespace Go.Proofs.YtcedliaeipabnaaGreat
set_option linter.unusedSimpArgs false
set_option linter.unusedVariables false
set_option maxRecDepth 100000
open Go.RowKit Go.Sort

theorem FFrom.setc {w : World} {lo : Nat} {a : Option Addr} {l : List Ft} (h : FFrom w lo a l) {g : Nat} (hg : g < lo) (j : Nat) (v : Value) : FFrom (w.setCell ⟨g, j, none⟩ v) lo a l := by
  rcases h with h | ⟨b, off, rfl, hlo, hlt, hc⟩
  · exact .inl h
  · refine .inr ⟨b, off, rfl, hlo, by simpa using hlt, fun q f hq i u hu => ?_⟩
    rw [World.cell?_setCell_other _ _ _ _ (fun e => absurd (congrArg Addr.block e) (by simp only; omega))]
    exact hc q f hq i u hu
theorem Made.setc {lo : Nat} {w : World} {c : Cx} {p : Option Addr} (h : Made lo w c p) {g : Nat} (hg : g < lo) (j : Nat) (v : Value) : Made lo (w.setCell ⟨g, j, none⟩ v) c p := ⟨h.v16, h.new.set hg j v, h.len⟩
theorem FFrom.cross2 {w U : World} {lo gs : Nat} {a : Option Addr} {l : List Ft} (h : FFrom w lo a l) (hb : Go.RowKit.Below w.heap.size w U) (hg : gs < lo ∨ w.heap.size ≤ gs) (C : Array Value) : FFrom (U.setRow gs C) lo a l := by
  rcases hg with hg | hg
  · exact (h.below hb).setRow hg C
  · exact h.below (belowRow hb hg C)
theorem Made.cross2 {w U : World} {lo gs : Nat} {c : Cx} {p : Option Addr} (h : Made lo w c p) (hb : Go.RowKit.Below w.heap.size w U) (hg : gs < lo ∨ w.heap.size ≤ gs) (C : Array Value) : Made lo (U.setRow gs C) c p := by
  rcases hg with hg | hg
  · exact (h.below hb).setRow hg C
  · exact h.below (belowRow hb hg C)
theorem Blk.setc {w : World} {b j : Nat} {T : TypeId} {A : Array Value} (h : Blk w b T A) (u : Value) : Blk (w.setCell ⟨b, j, none⟩ u) b T (A.setIfInBounds j u) := by
  unfold Blk at *
  unfold World.setCell
  simp only
  rw [Array.getElem?_modify, if_pos rfl, h]
  rfl
def bls (sn : List Bool) : Array Value := (sn.map Value.bool).toArray
theorem bls_set (sn : List Bool) (q : Nat) : (bls sn).setIfInBounds q (.bool true) = bls (sn.set q true) := by
  unfold bls
  simp [List.map_set]
theorem bls_get {sn : List Bool} {q : Nat} {u : Bool} (h : sn[q]? = some u) : (bls sn)[q]? = some (.bool u) := by
  unfold bls
  simp [h]
/-- where the first loop stands -/
structure OS (w : World) (D : List Dl) (m k : Nat) (x : List Ft) (ra : Option Addr) (c : Cx) (qa : Option Addr) (qk : Nat) (S : Nat → Prop) (sn : List Bool) (n : Nat) (U : World) : Prop where
  low : Go.RowKit.Below w.heap.size w U
  row : CRow U w.heap.size c.v (.slice qa c.l.length qk)
  seen : Blk U (w.heap.size + 1) 46 (bls sn)
  fx : FFrom U (w.heap.size + 2) ra x
  mc : Made (w.heap.size + 2) U c qa
  inv : InvK D S x c
  cl : IsClean c
  sown : ∀ i, S i → OwnP D i
  sall : ∀ j, OwnP D j → j + m < k → S j
  lx : x.length ≤ 8 * k
  lc : c.l.length ≤ 21 * k
  sl : sn.length = 16
  sd : ∀ j, D.length ≤ j → sn[j]? ≠ some true
  cnt : n = sn.count true
theorem OS.below {w : World} {D : List Dl} {m k : Nat} {x : List Ft} {ra : Option Addr} {c : Cx} {qa : Option Addr} {qk : Nat} {S : Nat → Prop} {sn : List Bool} {n : Nat} {U U' : World} (h : OS w D m k x ra c qa qk S sn n U) (hb : Go.RowKit.Below U.heap.size U U') : OS w D m k x ra c qa qk S sn n U' :=
  ⟨h.low.trans (hb.mono h.low.size), h.row.keep hb, h.seen.keep hb, h.fx.below hb, h.mc.below hb, h.inv, h.cl, h.sown, h.sall, h.lx, h.lc, h.sl, h.sd, h.cnt⟩
theorem OS.skip {w : World} {D : List Dl} {m k : Nat} {x : List Ft} {ra : Option Addr} {c : Cx} {qa : Option Addr} {qk : Nat} {S : Nat → Prop} {sn : List Bool} {n : Nat} {U : World} (h : OS w D m k x ra c qa qk S sn n U) (hno : ∀ j, OwnP D j → j + m = k → False) : OS w D m (k + 1) x ra c qa qk S sn n U :=
  ⟨h.low, h.row, h.seen, h.fx, h.mc, h.inv, h.cl, h.sown, fun j hj hl => by
    rcases Nat.lt_or_ge (j + m) k with h1 | h1
    · exact h.sall j hj h1
    · exact (hno j hj (by omega)).elim, by have := h.lx; omega, by have := h.lc; omega, h.sl, h.sd, h.cnt⟩
/-- what a step leaves, before what is seen is marked -/
theorem OS.step {w : World} {D : List Dl} {m k q : Nat} {x : List Ft} {ra : Option Addr} {c : Cx} {qa : Option Addr} {qk : Nat} {S : Nat → Prop} {sn : List Bool} {n : Nat} {U W : World} {e : Dl} {o c' : Cx} {ra' qa' : Option Addr} {qk' : Nat}
    (h : OS w D m k x ra c qa qk S sn n U) (he : D[q]? = some e) (ho : ownB D q e = true) (hq : ∀ j, OwnP D j → j + m = k → j = q) (hof : OfK e o) (hj : JoinOf c o c') (hll : e.l.length ≤ 8) (hgl : e.g.length ≤ 20) (hol : o.l.length ≤ e.g.length + 1) (hcl : c'.l.length ≤ c.l.length + o.l.length)
    (low : Go.RowKit.Below w.heap.size w W) (row : CRow W w.heap.size c'.v (.slice qa' c'.l.length qk')) (seen : Blk W (w.heap.size + 1) 46 (bls sn)) (fx : FFrom W (w.heap.size + 2) ra' (joinK x c e.l o)) (mc : Made (w.heap.size + 2) W c' qa') :
    OS w D m (k + 1) (joinK x c e.l o) ra' c' qa' qk' (fun i => S i ∨ i = q) sn n W :=
  ⟨low, row, seen, fx, mc, InvK.step (ownK_of D) h.sown h.inv ⟨e, he, ho⟩ he hof hj, hj.clean, fun i hi => by
    rcases hi with hi | rfl
    · exact h.sown i hi
    · exact ⟨e, he, ho⟩, fun j hj' hl => by
    rcases Nat.lt_or_ge (j + m) k with h1 | h1
    · exact .inl (h.sall j hj' h1)
    · exact .inr (hq j hj' (by omega)), by have h1 := joinK_len x c e.l o; have h2 := h.lx; omega, by have h1 := h.lc; omega, h.sl, h.sd, h.cnt⟩
theorem OS.mark {w : World} {D : List Dl} {m k q : Nat} {x : List Ft} {ra : Option Addr} {c : Cx} {qa : Option Addr} {qk : Nat} {S : Nat → Prop} {sn : List Bool} {n : Nat} {U : World} (h : OS w D m k x ra c qa qk S sn n U) (hs : sn[q]? = some false) (hq : q < D.length) :
    OS w D m k x ra c qa qk S (sn.set q true) (n + 1) (U.setCell ⟨w.heap.size + 1, q, none⟩ (.bool true)) :=
  ⟨h.low.setCell (Nat.le_succ _) _, h.row.other (by omega) _ _, by rw [← bls_set]; exact h.seen.setc _, h.fx.setc (by omega) _ _, h.mc.setc (by omega) _ _, h.inv, h.cl, h.sown, h.sall, h.lx, h.lc, by rw [List.length_set]; exact h.sl, fun j hj hj2 => by
    rw [List.getElem?_set] at hj2
    split at hj2
    · omega
    · exact h.sd j hj hj2, by rw [count_set hs, h.cnt]⟩
/-- what the call in the midst leaves -/
def CutO (x : List Ft) (c : Cx) (e : Dl) (wx : World) (y p : Value) (U : World) : Prop :=
  ∃ (gd : Nat) (o c' : Cx) (ra qa : Option Addr) (rk qk : Nat), y = .slice ra (joinK x c e.l o).length rk ∧ p = .pointer (some ⟨gd, 0, none⟩) ∧ OfK e o ∧ o.l.length ≤ e.g.length + 1 ∧ JoinOf c o c' ∧ CRow U gd c'.v (.slice qa c'.l.length qk) ∧ FFrom U wx.heap.size ra (joinK x c e.l o) ∧ Made wx.heap.size U c' qa ∧ c'.l.length ≤ c.l.length + o.l.length ∧ Go.RowKit.Below wx.heap.size wx U
theorem ownP_iff {D : List Dl} {q : Nat} {e : Dl} (he : D[q]? = some e) : OwnP D q ↔ ownB D q e = true := by
  constructor
  · rintro ⟨e', h1, h2⟩
    rw [he] at h1
    rwa [Option.some.inj h1]
  · exact fun h => ⟨e, he, h⟩
theorem orders_x {D : List Dl} {S : Nat → Prop} {x want : List Ft} {c : Cx} {dots : List Dt} (h : InvK D S x c) (hS : ∀ i, S i ↔ OwnP D i) (hw : WantK D D.length want dots) : x = sortF want := by
  have hlt : ∀ i e, D[i]? = some e → i < D.length := fun i e h => (List.getElem?_eq_some_iff.1 h).1
  have hSo : ∀ i e, D[i]? = some e → (S i ↔ ownB D i e = true) := fun i e he => (hS i).trans (ownP_iff he)
  refine riseF_same h.rise (riseF_sortF _) fun f => ?_
  rw [h.mem, mem_sortF, hw.facts]
  constructor
  · rintro ⟨i, e, hi, he, h1, h2⟩
    refine ⟨i, e, hlt i e he, he, (hSo i e he).1 hi, Bool.eq_false_iff.2 fun ht => ?_, h1⟩
    obtain ⟨j, y, hj, hy, h3, h4⟩ := takenB_iff.1 ht
    exact h2 j y ((hSo j y hy).2 h3) hy h4
  · rintro ⟨i, e, hi, he, h1, h2, h3⟩
    refine ⟨i, e, (hSo i e he).2 h1, he, h3, fun j y hj hy hd => ?_⟩
    have := takenB_iff.2 ⟨j, y, hlt j y hy, hy, (hSo j y hy).1 hj, hd⟩
    rw [h2] at this; cases this
theorem dfew_ok {D : List Dl} (h : dfewP D = true) : D.length ≤ 16 ∧ ∀ e ∈ D, e.l.length ≤ 8 ∧ e.g.length ≤ 20 := by
  unfold dfewP at h
  rw [Bool.and_eq_true, decide_eq_true_eq, List.all_eq_true] at h
  refine ⟨h.1, fun e he => ?_⟩
  have := h.2 e he
  unfold dfewOne at this
  rw [Bool.and_eq_true, Bool.and_eq_true, decide_eq_true_eq, decide_eq_true_eq] at this
  exact ⟨this.1, this.2.1⟩
theorem yield_BZ {ops : Array Oper} {S : World → Prop} {o : Oper} {a : Act} (hw : Region.wanted o (yielded ops a.tmps) = true) (ho : o.op = .build 27 #[]) : YieldsIf Tryz.prog ops S o (.agg (ccs zV nilS)) a := by
  refine .inl ⟨hw, fun w _ => ?_⟩
  have h := buildZ w
  unfold execOp
  simp only [ho, List.map_toArray, List.map_nil, Sem.run_bind, Sem.run_pure, Result.andThen_ok, h]
theorem OwnD.keepF {B C : Nat} {v v2 : Value} {l : List Dt} {f : List Ft} {w w' : World} (h : OwnD B v l w) (h2 : OwnF C v2 f w) (hg : w.grownBy w' v2.ownBlock) : OwnD B v l w' := by
  refine ⟨h.1, ?_⟩
  rcases h.2 with hn | ⟨g, cap, cur, hv, hB, hb, rest⟩
  · exact .inl hn
  · exact .inr ⟨g, cap, cur, hv, hB, by rw [hg.block g (lt_of_block hb) (h2.notype hb (by decide))]; exact hb, rest⟩
theorem OwnF.keepD {B C : Nat} {v v2 : Value} {l : List Ft} {f : List Dt} {w w' : World} (h : OwnF B v l w) (h2 : OwnD C v2 f w) (hg : w.grownBy w' v2.ownBlock) : OwnF B v l w' := by
  refine ⟨h.1, ?_⟩
  rcases h.2 with hn | ⟨g, cap, cur, hv, hB, hb, rest⟩
  · exact .inl hn
  · exact .inr ⟨g, cap, cur, hv, hB, by rw [hg.block g (lt_of_block hb) (h2.notype hb (by decide))]; exact hb, rest⟩
theorem appD3 {w : World} {B c : Nat} {v : Value} {xs ys : List Dt} {p : Option Addr} (h : OwnD B v xs w) (hp : DIn w p ys) (hb : B ≤ w.heap.size) (n : Nat) (hn : xs.length + ys.length = n) (hl : n ≤ 200000) :
    ∃ p' c' w', (Builtin.append_ #[25, 25] 25 #[v, .slice p ys.length c]).run Tryz.prog w = .ok (.slice p' n c') w' ∧ OwnD B (.slice p' n c') (xs ++ ys) w' ∧ Go.RowKit.Below B w w' ∧ w.grownBy w' v.ownBlock := by
  obtain ⟨i0, hi, hz0, hz1, hz2⟩ := info_parts dotInfo
  have hsrc : Src Tryz.prog 2 25 (.slice p ys.length c) ys.length (rowD ys) w := by
    cases p with
    | none =>
      have : ys = [] := by
        rcases hp with h | ⟨_, _, h, _⟩
        · exact h
        · cases h
      subst this
      exact Src.ofNil _ Tryz.underlying25 c
    | some x => exact Src.ofSlice _ Tryz.underlying25 x ys.length c _ (rowD_len ys) (hp.cells rfl) (rowD_cell ys)
  obtain ⟨v', w', hr, ho, hg, -, -⟩ := run_append_sf (P := Tryz.prog) w B 25 25 25 50 i0 _ 2 16 Tryz.underlying25 hi hz0 hz1 hz2 rfl v xs.length (rowD xs) h _ ys.length (rowD ys) hsrc (by unfold maxLen; omega) (by omega) hb
  have ho' : OwnD B v' (xs ++ ys) w' := by
    unfold OwnD
    rw [List.length_append, rowD_append]
    exact ho
  obtain ⟨p', c', rfl, -, -⟩ := ho'.din
  rw [List.length_append, hn] at ho' hr
  exact ⟨p', c', w', hr, ho', (Below.refl _ _).grown hg hb (fun j hj => (World.ownsRow.lt h j hj).1), hg⟩

set_option maxHeartbeats 32000000 in
theorem korders_row (a : Option Addr) (len cap : Nat) (D : List Dl) (oa : Option Addr) (olen ocap : Nat) (z : List Int) (w : World) (hD : DlArg w a len D) (hz : IsRow .u8 w oa olen ocap z) :
    Calls Tryz.prog 5 #[.slice a len cap, .slice oa olen ocap] w fun e w' => e = .returned (.bool true) ∧ Go.RowKit.Below w.heap.size w w' := by
  obtain ⟨rfl, hlm, hdin⟩ := hD
  have hlm0 := hlm
  unfold maxLen at hlm0
  have hom : olen ≤ maxLen := by
    rcases hz with ⟨-, rfl, -⟩ | ⟨x, -, h1, h2, -⟩
    · exact Nat.zero_le _
    · omega
  unfold maxLen at hom
  have HD := Lib.hid hdin
  have HF := Lib.hid (dfewC D a cap w hdin hlm)
  rcases hf : dfewP D with _ | _
  · rw [hf] at HF
    clear hf hdin hz
    go_enter Tryz.func5, Tryz.ntmps5
    go_wp2_with fail
    refine HF.out.mono ?_
    rintro e w1 ⟨rfl, rfl⟩
    go_wp2_with fail
    refine (kernAwake _).mono ?_
    rintro e wz ⟨rfl, hb⟩
    have HZ := Lib.hid hb
    clear hb
    go_wp2_with fail
    go_ret
    exact ⟨rfl, HZ.out⟩
  rw [hf] at HF
  obtain ⟨hD16, hsm⟩ := dfew_ok hf
  have HSM := Lib.hid hsm
  by_cases ho40 : 40 < olen
  · have hbi : (40 : Int) < (olen : Int) := by omega
    clear hf hdin hz ho40 hsm
    go_enter Tryz.func5, Tryz.ntmps5
    go_wp2_with fail
    refine HF.out.mono ?_
    rintro e w1 ⟨rfl, rfl⟩
    go_wp2_with fail
    refine (kernAwake _).mono ?_
    rintro e wz ⟨rfl, hb⟩
    have HZ := Lib.hid hb
    clear hb
    go_wp2_with fail
    go_ret
    exact ⟨rfl, HZ.out⟩
  have hbi : ¬ (40 : Int) < (olen : Int) := by omega
  have HOR := Lib.hid (show ∀ k, k < olen → ∃ b o n, oa = some ⟨b, o, none⟩ ∧ b < w.heap.size ∧ 0 ≤ n ∧ n ≤ 255 ∧ w.cell? ⟨b, o + k, none⟩ = some (.int .u8 n) from fun k hk => by
    rcases hz with ⟨-, rfl, -⟩ | ⟨x, rfl, h1, h2, h3, h4, h5⟩
    · omega
    · have hkz : k < z.length := by omega
      have hc := h4 k hkz
      have hc0 := h4 0 (by omega)
      have hm : z.getD k 0 ∈ z := by rw [List.getD_eq_getElem?_getD, List.getElem?_eq_getElem hkz]; exact List.getElem_mem _
      have hw := bounds_u8 (h5 _ hm)
      obtain ⟨b, o, sp⟩ := x
      have hspot : sp = none := by simpa [Addr.add] using World.cell?_spot hc0
      subst hspot
      rw [Addr.add_mid] at hc
      exact ⟨b, o, z.getD k 0, rfl, World.block_lt_of_cell? w _ hc, by omega, by omega, hc⟩)
  have e1 : (w.alloc (.cells (ccs zV nilS) 27)).heap.size = w.heap.size + 1 := World.size_alloc _ _
  have hsb := Blk.new (w.alloc (.cells (ccs zV nilS) 27)) 46 (bls (List.replicate 16 false))
  rw [e1] at hsb
  have H0 : Hid (OS w D olen 0 [] none zC none 0 (fun _ => False) (List.replicate 16 false) 0 ((w.alloc (.cells (ccs zV nilS) 27)).alloc (.cells (bls (List.replicate 16 false)) 46))) :=
    Lib.hid ⟨(lowA w _).alloc (by rw [e1]; omega) _, (CRow.new w zV nilS).alloc _, hsb, .inl rfl, ⟨rfl, .inl rfl, by decide⟩, InvK.start D, zC_clean, fun _ h => h.elim, fun j _ h => absurd h (Nat.not_lt_zero _), by simp, by simp [zC], by simp, fun j _ h => by
      rw [List.getElem?_replicate] at h
      split at h <;> simp at h, by decide⟩
  clear hf hdin hz ho40 hsm e1 hsb
  go_enter Tryz.func5, Tryz.ntmps5
  go_wp2_with fail
  refine HF.out.mono ?_
  rintro e w1 ⟨rfl, rfl⟩
  clear HF
  go_upto_region 7 with fail
  change Code.wp _ _ _ _ ((w.alloc (.cells (ccs zV nilS) 27)).alloc (.cells (bls (List.replicate 16 false)) 46))
  generalize (w.alloc (.cells (ccs zV nilS) 27)).alloc (.cells (bls (List.replicate 16 false)) 46) = W0 at *
  go_wp2_with fail
  go_loopw [9, 5, 7] (fun i y t wr => ∃ (k n : Nat) (x : List Ft) (ra : Option Addr) (rk : Nat) (c : Cx) (qa : Option Addr) (qk : Nat) (S : Nat → Prop) (sn : List Bool), k ≤ olen + D.length ∧ i = .int .i64 k ∧ y = .slice ra x.length rk ∧ t = .int .i64 n ∧ OS w D olen k x ra c qa qk S sn n wr) (fun i _ _ _ => olen + D.length - (intOf i).toNat)
  case atStart => exact ⟨0, 0, [], none, 0, zC, none, 0, _, _, Nat.zero_le _, rfl, rfl, rfl, H0.out⟩
  case round =>
    obtain ⟨k, n, x, ra, rk, c, qa, qk, S, sn, hk, rfl, rfl, rfl, hos⟩ := hrel
    have HS := Lib.hid hos
    clear hos H0
    by_cases hlt : k < olen + D.length
    · have hi1 : (k : Int) < (olen : Int) + (D.length : Int) := by omega
      have hiw : IntKind.i64.wrap ((olen : Int) + (D.length : Int)) = (olen : Int) + (D.length : Int) := by simp [IntKind.wrap, IntKind.bits, IntKind.signed]; omega
      have hxl := HS.out.lx
      have hcl := HS.out.lc
      by_cases hA : k < olen
      · have hsub : IntKind.i64.wrap ((k : Int) - (olen : Int)) = (k : Int) - (olen : Int) := by simp [IntKind.wrap, IntKind.bits, IntKind.signed]; omega
        have hneg : (k : Int) - (olen : Int) < 0 := by omega
        have hneg2 : (k : Int) < (olen : Int) := by omega
        by_cases hD0 : D.length = 0
        · have hD1 : ¬ (0 : Int) < (D.length : Int) := by omega
          have hD2 : ¬ 0 < D.length := by omega
          have HS1 := Lib.hid (HS.out.skip (fun j hj hjk => by omega))
          clear hD0
          go_wp2_with fail
          go_roundw
          case rel => exact ⟨k + 1, n, x, ra, rk, c, qa, qk, S, sn, by omega, by go_num, rfl, rfl, HS1.out⟩
          case measure => simp [intOf]; omega
        · obtain ⟨ob, oo, zi, hox, hoxl, hz0, hz1, hzc⟩ := HOR.out k hA
          obtain ⟨q, hq⟩ : ∃ q : Nat, Int.tmod zi (D.length : Int) = (q : Int) := ⟨(Int.tmod zi (D.length : Int)).toNat, by rw [Int.toNat_of_nonneg (Int.tmod_nonneg _ hz0)]⟩
          have hqD : q < D.length := by
            have h1 := Int.tmod_lt_of_pos zi (show (0 : Int) < (D.length : Int) by omega)
            omega
          have hqi : (q : Int) < (D.length : Int) := by omega
          have hq0 : (0 : Int) ≤ (q : Int) := by omega
          have hD1 : (0 : Int) < (D.length : Int) := by omega
          have hD2 : 0 < D.length := by omega
          have hD3 : ((D.length : Int) == 0) = false := by rw [beq_eq_false_iff_ne]; omega
          have hzw : IntKind.i64.wrap zi = zi := by simp [IntKind.wrap, IntKind.bits, IntKind.signed]; omega
          have hqw : IntKind.i64.wrap (q : Int) = (q : Int) := by simp [IntKind.wrap, IntKind.bits, IntKind.signed]; omega
          have hki : (k : Int) < (olen : Int) := by omega
          have hzcell : wr.cell? ⟨ob, oo + k, none⟩ = some (.int .u8 zi) := by rw [HS.out.low.cell (p := ⟨ob, oo + k, none⟩) hoxl]; exact hzc
          have HZC := Lib.hid hzc
          subst hox
          clear hzc
          have HD0 := Lib.hid hD0
          clear hD0
          go_upto_region 13 with fail
          clear hzcell hq hzw hqw hsub hneg hneg2
          have HQ := Lib.hid (show ∀ j, OwnP D j → j + olen = k → j = q from fun j hj hjk => by omega)
          obtain ⟨e, he⟩ : ∃ e, D[q]? = some e := ⟨_, List.getElem?_eq_getElem hqD⟩
          have HE := Lib.hid he
          have HOC := Lib.hid (ownC D a cap q e wr (HD.out.below HS.out.low) hlm he)
          have hee := HSM.out e (List.mem_of_getElem? he)
          have hll := hee.1
          have hgl := hee.2
          clear he hee
          rcases hown : ownB D q e with _ | _
          · have HNO := Lib.hid (show ∀ j, OwnP D j → j + olen = k → False from fun j hj hjk => by
              obtain rfl := HQ.out j hj hjk
              rw [(ownP_iff HE.out).1 hj] at hown
              cases hown)
            rw [hown] at HOC
            clear hown
            go_wp2_with fail
            refine HOC.out.mono ?_
            rintro r w1 ⟨rfl, hb1⟩
            have HS1 := Lib.hid ((HS.out.below hb1).skip HNO.out)
            clear hb1 HOC
            go_wp2_with fail
            go_roundw
            case rel => exact ⟨k + 1, n, x, ra, rk, c, qa, qk, S, sn, by omega, by go_num, rfl, rfl, HS1.out⟩
            case measure => simp [intOf]; omega
          have HOW := Lib.hid hown
          rw [hown] at HOC
          clear hown
          go_wp2_with fail
          refine HOC.out.mono ?_
          rintro r wx ⟨rfl, hb1⟩
          have HX := Lib.hid (HS.out.below hb1)
          clear hb1 HOC HS
          obtain ⟨eb, eo, la, lk, ga, gk, hae, hebl, hat⟩ := (HD.out.below HX.out.low).at HE.out
          have HAT := Lib.hid hat
          have hgE : e.l.length ≤ 20000 := by omega
          have hVc := Lib.hid HX.out.mc.v16
          subst hae
          clear hat
          go_upto_region 14 with fail
          go_cut [11, 12] (fun y p U => CutO x c e wx y p U)
          case first =>
            refine wp_region_held (S := fun U => Go.RowKit.Below wx.heap.size wx U) (by kernel_rfl) ?_
            change wpAnyH _ _ _ _ _ _ _ _ wx.drew
            have K0 : (fun U => Go.RowKit.Below wx.heap.size wx U) wx.drew := (Below.refl _ _).drew
            refine wpAnyH_take (i := 0) (oi := { dst := some 62, op := _, type := _, pos := _, after := _, guard := _ }) (v := ?v1) rfl (by kernel_rfl) (by kernel_rfl) (by kernel_rfl) (fun _ _ _ h => h) (Or.inl ⟨by rfl, ?hy1⟩) K0 ?rest1
            case hy1 => (intro w hSw; (try dsimp only at hSw); first | (go_simp; done) | (go_simp; with_reducible rfl))
            try simp only [Act.put, List.setIfInBounds_toArray, List.set_cons_zero, List.set_cons_succ]
            refine wpAnyH_take (i := 1) (oi := { dst := some 63, op := _, type := _, pos := _, after := _, guard := _ }) rfl (by kernel_rfl) (by kernel_rfl) (by kernel_rfl) (fun _ _ _ h => h) (yield_C (by rfl) (.tmp 6) rfl w.heap.size c.v (.slice qa c.l.length qk) rfl (fun U hU => HX.out.row.keep hU) hVc.out) K0 ?_
            try simp only [Act.put, List.setIfInBounds_toArray, List.set_cons_zero, List.set_cons_succ]
            refine wpAnyH_take (i := 2) (oi := { dst := some 64, op := _, type := _, pos := _, after := _, guard := _ }) (v := ?v3) rfl (by kernel_rfl) (by kernel_rfl) (by kernel_rfl) (fun _ _ _ h => h) (Or.inl ⟨by rfl, ?hy3⟩) K0 ?rest3
            case hy3 => (intro w hSw; (try dsimp only at hSw); first | (go_simp; done) | (go_simp; with_reducible rfl))
            try simp only [Act.put, List.setIfInBounds_toArray, List.set_cons_zero, List.set_cons_succ]
            refine wpAnyH_take (i := 3) (oi := { dst := some 65, op := _, type := _, pos := _, after := _, guard := _ }) (v := ?v4) rfl (by kernel_rfl) (by kernel_rfl) (by kernel_rfl) (fun _ _ _ h => h) (Or.inl ⟨by rfl, ?hy4⟩) K0 ?rest4
            case hy4 => (intro w hSw; (try dsimp only at hSw); first | (go_simp; done) | (go_simp; with_reducible rfl))
            try simp only [Act.put, List.setIfInBounds_toArray, List.set_cons_zero, List.set_cons_succ]
            refine wpAnyH_take (i := 4) (oi := { dst := some 66, op := _, type := _, pos := _, after := _, guard := _ }) (v := ?v5) rfl (by kernel_rfl) (by kernel_rfl) (by kernel_rfl) (fun _ _ _ h => h) (Or.inl ⟨by rfl, ?hy5⟩) K0 ?rest5
            case hy5 => (intro w hSw; (try dsimp only at hSw); first | (go_simp; done) | (go_simp; with_reducible rfl))
            try simp only [Act.put, List.setIfInBounds_toArray, List.set_cons_zero, List.set_cons_succ]
            refine wpAnyH_take (i := 5) (oi := { dst := some 67, op := _, type := _, pos := _, after := _, guard := _ }) rfl (by kernel_rfl) (by kernel_rfl) (by kernel_rfl) (fun _ _ _ h => h) (b_yield (by rfl) 54 (.tmp 66) rfl eb (eo + q * 7) (dlc e la lk ga gk) rfl (fun U hU => (HAT.out.below hU hebl).row) Tryz.underlying54 rfl (infoD _ _ _ _ _)) K0 ?_
            try simp only [Act.put, List.setIfInBounds_toArray, List.set_cons_zero, List.set_cons_succ]
            refine wpAnyH_ready (rs := [6, 10]) (by kernel_rfl) (by simp) ?_
            refine AllReadyH.cons (o := { dst := some 68, op := _, type := _, pos := _, after := _, guard := _ }) rfl (fun K hK => ?_) (AllReadyH.cons (o := { dst := some 12, op := _, type := _, pos := _, after := _, guard := _ }) rfl (fun K hK => ?_) AllReadyH.nil)
            · go_simp
              refine (applyKC x ra rk c qa qk e la lk ga gk _ (HX.out.fx.fin.below K0) (by omega) (HX.out.mc.cin.below K0) (HAT.out.fin.below K0) hgE (HAT.out.din.below K0) (by omega)).mono ?_
              rintro r u6 ⟨⟨o, hof, hol, c2, r2, q2, k2, m2, rfl, hj, hff, hmd, hjl⟩, hb⟩
              have K6 := K0.trans (hb.mono K0.size)
              have HJ := Lib.hid (And.intro hof (And.intro hol (And.intro hj (And.intro hff (And.intro hmd hjl)))))
              have HS6 := Lib.hid hb.size
              have HB6 := Lib.hid hb
              clear hof hol hj hff hmd hjl hb
              refine hK.out _ _ K6 (fun _ => ?_)
              clear hK K
              try simp only [Act.put, List.setIfInBounds_toArray, List.set_cons_zero, List.set_cons_succ]
              refine wpAnyH_take (i := 7) (oi := { dst := some 61, op := _, type := _, pos := _, after := _, guard := _ }) (v := ?v7) rfl (by kernel_rfl) (by kernel_rfl) (by kernel_rfl) (fun _ _ _ h => h) (Or.inl ⟨by rfl, ?hy7⟩) K6 ?rest7
              case hy7 => (intro w hSw; (try dsimp only at hSw); first | (go_simp; done) | (go_simp; with_reducible rfl))
              try simp only [Act.put, List.setIfInBounds_toArray, List.set_cons_zero, List.set_cons_succ]
              refine wpAnyH_take (i := 8) (oi := { dst := some 69, op := _, type := _, pos := _, after := _, guard := _ }) (v := ?v8) rfl (by kernel_rfl) (by kernel_rfl) (by kernel_rfl) (fun _ _ _ h => h) (Or.inl ⟨by rfl, ?hy8⟩) K6 ?rest8
              case hy8 => (intro w hSw; (try dsimp only at hSw); first | (go_simp; done) | (go_simp; with_reducible rfl))
              try simp only [Act.put, List.setIfInBounds_toArray, List.set_cons_zero, List.set_cons_succ]
              refine wpAnyH_take (i := 9) (oi := { dst := some 70, op := _, type := _, pos := _, after := _, guard := _ }) (v := ?v9) rfl (by kernel_rfl) (by kernel_rfl) (by kernel_rfl) (fun _ _ _ h => h) (Or.inl ⟨by rfl, ?hy9⟩) K6 ?rest9
              case hy9 => (intro w hSw; (try dsimp only at hSw); first | (go_simp; done) | (go_simp; with_reducible rfl))
              try simp only [Act.put, List.setIfInBounds_toArray, List.set_cons_zero, List.set_cons_succ]
              refine wpAnyH_ready (rs := [10]) (by kernel_rfl) (by simp) ?_
              refine AllReadyH.cons (o := { dst := some 12, op := _, type := _, pos := _, after := _, guard := _ }) rfl (fun K hK => ?_) AllReadyH.nil
              go_simp
              have HA := Lib.hid (CRow.new (u6) zV nilS)
              have K10 : (fun U => Go.RowKit.Below wx.heap.size wx U) ((u6).alloc (.cells (ccs zV nilS) 27)) := K6.alloc K6.size _
              refine hK.out _ _ K10 (fun _ => ?_)
              clear hK K
              try simp only [Act.put, List.setIfInBounds_toArray, List.set_cons_zero, List.set_cons_succ]
              refine wpAnyH_take (i := 11) (oi := { dst := some 11, op := _, type := _, pos := _, after := _, guard := _ }) (v := ?v10) rfl (by kernel_rfl) (by kernel_rfl) (by kernel_rfl) (fun _ _ _ h => h) (Or.inl ⟨by rfl, ?hy10⟩) K10 ?rest10
              case hy10 => (intro w hSw; (try dsimp only at hSw); first | (go_simp; done) | (go_simp; with_reducible rfl))
              try simp only [Act.put, List.setIfInBounds_toArray, List.set_cons_zero, List.set_cons_succ]
              refine wpAnyH_ready (rs := [12]) (by kernel_rfl) (by simp) ?_
              refine AllReadyH.cons (o := { dst := none, op := _, type := _, pos := _, after := _, guard := _ }) rfl (fun K hK => ?_) AllReadyH.nil
              refine draw_storeC rfl (.tmp 12) (.tmp 70) rfl (u6.heap.size) rfl c2.v q2 c2.l.length m2 rfl HJ.out.2.2.2.2.1.v16 ⟨_, _, HA.out, rfl⟩ ?_
              have hge : wx.heap.size ≤ u6.heap.size := by first | exact Nat.le_refl _ | exact K6.size
              have K12 : (fun U => Go.RowKit.Below wx.heap.size wx U) (((u6.alloc (.cells (ccs zV nilS) 27))).setRow (u6.heap.size) (ccs c2.v (.slice q2 c2.l.length m2))) := belowRow K10 hge _
              have Z := Lib.hid (show CutO x c e wx (.slice r2 (joinK x c e.l o).length k2) (.pointer (some ⟨u6.heap.size, 0, none⟩)) (((u6.alloc (.cells (ccs zV nilS) 27))).setRow (u6.heap.size) (ccs c2.v (.slice q2 c2.l.length m2))) from ⟨_, o, c2, r2, q2, k2, m2, rfl, rfl, HJ.out.1, HJ.out.2.1, HJ.out.2.2.1, CRow.of_put HA.out _ _, (HJ.out.2.2.2.1.cross2 (lowA u6 _) (by first | (left; simp; done) | (left; simp; omega) | (right; exact Nat.le_refl _) | (right; simp; done) | (right; simp; omega)) _).mono (by first | exact Nat.le_refl _ | (simp; done) | (simp; omega)), (HJ.out.2.2.2.2.1.cross2 (lowA u6 _) (by first | (left; simp; done) | (left; simp; omega) | (right; exact Nat.le_refl _) | (right; simp; done) | (right; simp; omega)) _).mono (by first | exact Nat.le_refl _ | (simp; done) | (simp; omega)), HJ.out.2.2.2.2.2, K12⟩)
              clear hge
              refine hK.out _ _ K12 (fun _ => ?_)
              clear hK K
              try simp only [Act.put, List.setIfInBounds_toArray, List.set_cons_zero, List.set_cons_succ]
              refine wpAnyH_done (by kernel_rfl) ?_ _
              try simp only [Act.put, List.setIfInBounds_toArray, List.set_cons_zero, List.set_cons_succ]
              go_wp2_with fail
              go_meet
              exact Z.out
            · go_simp
              have HA := Lib.hid (CRow.new (wx.drew) zV nilS)
              have K10 : (fun U => Go.RowKit.Below wx.heap.size wx U) ((wx.drew).alloc (.cells (ccs zV nilS) 27)) := K0.alloc K0.size _
              refine hK.out _ _ K10 (fun _ => ?_)
              clear hK K
              try simp only [Act.put, List.setIfInBounds_toArray, List.set_cons_zero, List.set_cons_succ]
              refine wpAnyH_ready (rs := [6]) (by kernel_rfl) (by simp) ?_
              refine AllReadyH.cons (o := { dst := some 68, op := _, type := _, pos := _, after := _, guard := _ }) rfl (fun K hK => ?_) AllReadyH.nil
              go_simp
              refine (applyKC x ra rk c qa qk e la lk ga gk _ (HX.out.fx.fin.below K10) (by omega) (HX.out.mc.cin.below K10) (HAT.out.fin.below K10) hgE (HAT.out.din.below K10) (by omega)).mono ?_
              rintro r u6 ⟨⟨o, hof, hol, c2, r2, q2, k2, m2, rfl, hj, hff, hmd, hjl⟩, hb⟩
              have K6 := K10.trans (hb.mono K10.size)
              have HJ := Lib.hid (And.intro hof (And.intro hol (And.intro hj (And.intro hff (And.intro hmd hjl)))))
              have HS6 := Lib.hid hb.size
              have HB6 := Lib.hid hb
              replace HA := Lib.hid (HA.out.keep hb)
              clear hof hol hj hff hmd hjl hb
              refine hK.out _ _ K6 (fun _ => ?_)
              clear hK K
              try simp only [Act.put, List.setIfInBounds_toArray, List.set_cons_zero, List.set_cons_succ]
              refine wpAnyH_take (i := 7) (oi := { dst := some 61, op := _, type := _, pos := _, after := _, guard := _ }) (v := ?v11) rfl (by kernel_rfl) (by kernel_rfl) (by kernel_rfl) (fun _ _ _ h => h) (Or.inl ⟨by rfl, ?hy11⟩) K6 ?rest11
              case hy11 => (intro w hSw; (try dsimp only at hSw); first | (go_simp; done) | (go_simp; with_reducible rfl))
              try simp only [Act.put, List.setIfInBounds_toArray, List.set_cons_zero, List.set_cons_succ]
              refine wpAnyH_take (i := 8) (oi := { dst := some 69, op := _, type := _, pos := _, after := _, guard := _ }) (v := ?v12) rfl (by kernel_rfl) (by kernel_rfl) (by kernel_rfl) (fun _ _ _ h => h) (Or.inl ⟨by rfl, ?hy12⟩) K6 ?rest12
              case hy12 => (intro w hSw; (try dsimp only at hSw); first | (go_simp; done) | (go_simp; with_reducible rfl))
              try simp only [Act.put, List.setIfInBounds_toArray, List.set_cons_zero, List.set_cons_succ]
              refine wpAnyH_take (i := 9) (oi := { dst := some 70, op := _, type := _, pos := _, after := _, guard := _ }) (v := ?v13) rfl (by kernel_rfl) (by kernel_rfl) (by kernel_rfl) (fun _ _ _ h => h) (Or.inl ⟨by rfl, ?hy13⟩) K6 ?rest13
              case hy13 => (intro w hSw; (try dsimp only at hSw); first | (go_simp; done) | (go_simp; with_reducible rfl))
              try simp only [Act.put, List.setIfInBounds_toArray, List.set_cons_zero, List.set_cons_succ]
              refine wpAnyH_take (i := 11) (oi := { dst := some 11, op := _, type := _, pos := _, after := _, guard := _ }) (v := ?v14) rfl (by kernel_rfl) (by kernel_rfl) (by kernel_rfl) (fun _ _ _ h => h) (Or.inl ⟨by rfl, ?hy14⟩) K6 ?rest14
              case hy14 => (intro w hSw; (try dsimp only at hSw); first | (go_simp; done) | (go_simp; with_reducible rfl))
              try simp only [Act.put, List.setIfInBounds_toArray, List.set_cons_zero, List.set_cons_succ]
              refine wpAnyH_ready (rs := [12]) (by kernel_rfl) (by simp) ?_
              refine AllReadyH.cons (o := { dst := none, op := _, type := _, pos := _, after := _, guard := _ }) rfl (fun K hK => ?_) AllReadyH.nil
              refine draw_storeC rfl (.tmp 12) (.tmp 70) rfl (wx.heap.size) rfl c2.v q2 c2.l.length m2 rfl HJ.out.2.2.2.2.1.v16 ⟨_, _, HA.out, rfl⟩ ?_
              have hge : wx.heap.size ≤ wx.heap.size := by first | exact Nat.le_refl _ | exact K6.size
              have K12 : (fun U => Go.RowKit.Below wx.heap.size wx U) ((u6).setRow (wx.heap.size) (ccs c2.v (.slice q2 c2.l.length m2))) := belowRow K6 hge _
              have Z := Lib.hid (show CutO x c e wx (.slice r2 (joinK x c e.l o).length k2) (.pointer (some ⟨wx.heap.size, 0, none⟩)) ((u6).setRow (wx.heap.size) (ccs c2.v (.slice q2 c2.l.length m2))) from ⟨_, o, c2, r2, q2, k2, m2, rfl, rfl, HJ.out.1, HJ.out.2.1, HJ.out.2.2.1, CRow.of_put HA.out _ _, (HJ.out.2.2.2.1.cross2 (Below.refl _ _) (by first | (left; simp; done) | (left; simp; omega) | (right; exact Nat.le_refl _) | (right; simp; done) | (right; simp; omega)) _).mono (by first | exact Nat.le_refl _ | (simp; done) | (simp; omega)), (HJ.out.2.2.2.2.1.cross2 (Below.refl _ _) (by first | (left; simp; done) | (left; simp; omega) | (right; exact Nat.le_refl _) | (right; simp; done) | (right; simp; omega)) _).mono (by first | exact Nat.le_refl _ | (simp; done) | (simp; omega)), HJ.out.2.2.2.2.2, K12⟩)
              clear hge
              refine hK.out _ _ K12 (fun _ => ?_)
              clear hK K
              try simp only [Act.put, List.setIfInBounds_toArray, List.set_cons_zero, List.set_cons_succ]
              refine wpAnyH_done (by kernel_rfl) ?_ _
              try simp only [Act.put, List.setIfInBounds_toArray, List.set_cons_zero, List.set_cons_succ]
              go_wp2_with fail
              go_meet
              exact Z.out
          case rest =>
            rename World => W14
            obtain ⟨gd, o, c2, r2, q2, k2, m2, rfl, rfl, hof, hol, hj, hrow, hff, hmd, hjl, hb14⟩ := hcut
            have hsz : w.heap.size + 2 ≤ wx.heap.size := by have := HX.out.seen.lt; omega
            have hgd : CRow W14 gd c2.v (.slice q2 c2.l.length m2) := hrow
            have hV2 := Lib.hid hmd.v16
            have HR := Lib.hid hrow
            have H14 := Lib.hid (HX.out.below hb14)
            have HOS := Lib.hid (HX.out.step (W := W14.setRow w.heap.size (ccs c2.v (.slice q2 c2.l.length m2))) HE.out HOW.out HQ.out hof hj hll hgl hol hjl (belowRow (HX.out.below hb14).low (Nat.le_refl _) _) (CRow.of_put (HX.out.below hb14).row _ _) ((HX.out.below hb14).seen.other (by omega) _) ((hff.mono hsz).setRow (by omega) _) ((hmd.mono hsz).setRow (by omega) _))
            clear hof hol hj hrow hff hmd hjl hb14 hgd HX HAT hgE hebl
            have hjx : (joinK x c e.l o).length ≤ 8 * (k + 1) := HOS.out.lx
            generalize joinK x c e.l o = x2 at *
            go_upto_region 17 with (first
              | ((with_reducible refine cl_load ?_ (.tmp 12) ?_ gd c2.v (.slice q2 c2.l.length m2) ?_ ?_ ?_ ?_); rfl; rfl; rfl; exact HR.out; exact hV2.out; simp only [Act.put, List.setIfInBounds_toArray, List.set_cons_zero, List.set_cons_succ])
              | ((with_reducible refine cl_store ?_ (.tmp 6) (.tmp 72) ?_ w.heap.size c2.v q2 c2.l.length m2 ?_ ?_ ?_ ?_ ?_); rfl; rfl; rfl; rfl; exact ⟨_, _, H14.out.row, H14.out.mc.v16⟩; exact hV2.out; simp only [Act.put, List.setIfInBounds_toArray, List.set_cons_zero, List.set_cons_succ]))
            change Code.wp _ _ _ _ (W14.setRow w.heap.size (ccs c2.v (.slice q2 c2.l.length m2)))
            generalize W14.setRow w.heap.size (ccs c2.v (.slice q2 c2.l.length m2)) = W16 at *
            clear H14 HR
            obtain ⟨u, hu⟩ : ∃ u, sn[q]? = some u := ⟨_, List.getElem?_eq_getElem (by have := HOS.out.sl; omega)⟩
            have hcell : W16.cell? ⟨w.heap.size + 1, q, none⟩ = some (.bool u) := HOS.out.seen.cell (bls_get hu)
            have hfree : W16.frozen? ⟨w.heap.size + 1, q, none⟩ = false := Joins.unfrozen_of_block HOS.out.seen q
            have hslt := HOS.out.seen.lt
            have hq16 : (q : Int) < 16 := by omega
            have hn16 := count_seen HOS.out.sd
            have hnc := HOS.out.cnt
            have hn17 : n ≤ 16 := by omega
            clear hn16 hnc
            cases u with
            | true =>
              clear hu hfree
              go_wp2_with fail
              go_roundw
              case rel => exact ⟨k + 1, n, x2, r2, k2, c2, q2, m2, _, sn, by omega, by go_num, rfl, rfl, HOS.out⟩
              case measure => simp [intOf]; omega
            | false =>
              have HMK := Lib.hid (HOS.out.mark hu hqD)
              clear hu HOS
              go_wp2_with fail
              go_roundw
              case rel => exact ⟨k + 1, n + 1, x2, r2, k2, c2, q2, m2, _, sn.set q true, by omega, by go_num, rfl, by go_num, HMK.out⟩
              case measure => simp [intOf]; omega
      · obtain ⟨q, hkq⟩ : ∃ q, k = olen + q := ⟨k - olen, by omega⟩
        have hqD : q < D.length := by omega
        have hsub : IntKind.i64.wrap ((k : Int) - (olen : Int)) = (q : Int) := by simp [IntKind.wrap, IntKind.bits, IntKind.signed]; omega
        have hsub2 : (k : Int) - (olen : Int) = (q : Int) := by omega
        have hqi : (q : Int) < (D.length : Int) := by omega
        have hq0 : (0 : Int) ≤ (q : Int) := by omega
        have hqn : ¬ (q : Int) < 0 := by omega
        have hqn2 : ¬ (k : Int) < (olen : Int) := by omega
        have HKQ := Lib.hid hkq
        clear hkq
        go_upto_region 13 with fail
        clear hsub hsub2 hqn hqn2
        have HQ := Lib.hid (show ∀ j, OwnP D j → j + olen = k → j = q from fun j hj hjk => by have := HKQ.out; omega)
        obtain ⟨e, he⟩ : ∃ e, D[q]? = some e := ⟨_, List.getElem?_eq_getElem hqD⟩
        have HE := Lib.hid he
        have HOC := Lib.hid (ownC D a cap q e wr (HD.out.below HS.out.low) hlm he)
        have hee := HSM.out e (List.mem_of_getElem? he)
        have hll := hee.1
        have hgl := hee.2
        clear he hee
        rcases hown : ownB D q e with _ | _
        · have HNO := Lib.hid (show ∀ j, OwnP D j → j + olen = k → False from fun j hj hjk => by
            obtain rfl := HQ.out j hj hjk
            rw [(ownP_iff HE.out).1 hj] at hown
            cases hown)
          rw [hown] at HOC
          clear hown
          go_wp2_with fail
          refine HOC.out.mono ?_
          rintro r w1 ⟨rfl, hb1⟩
          have HS1 := Lib.hid ((HS.out.below hb1).skip HNO.out)
          clear hb1 HOC
          go_wp2_with fail
          go_roundw
          case rel => exact ⟨k + 1, n, x, ra, rk, c, qa, qk, S, sn, by omega, by go_num, rfl, rfl, HS1.out⟩
          case measure => simp [intOf]; omega
        have HOW := Lib.hid hown
        rw [hown] at HOC
        clear hown
        go_wp2_with fail
        refine HOC.out.mono ?_
        rintro r wx ⟨rfl, hb1⟩
        have HX := Lib.hid (HS.out.below hb1)
        clear hb1 HOC HS
        obtain ⟨eb, eo, la, lk, ga, gk, hae, hebl, hat⟩ := (HD.out.below HX.out.low).at HE.out
        have HAT := Lib.hid hat
        have hgE : e.l.length ≤ 20000 := by omega
        have hVc := Lib.hid HX.out.mc.v16
        subst hae
        clear hat
        go_upto_region 14 with fail
        go_cut [11, 12] (fun y p U => CutO x c e wx y p U)
        case first =>
          refine wp_region_held (S := fun U => Go.RowKit.Below wx.heap.size wx U) (by kernel_rfl) ?_
          change wpAnyH _ _ _ _ _ _ _ _ wx.drew
          have K0 : (fun U => Go.RowKit.Below wx.heap.size wx U) wx.drew := (Below.refl _ _).drew
          refine wpAnyH_take (i := 0) (oi := { dst := some 62, op := _, type := _, pos := _, after := _, guard := _ }) (v := ?v15) rfl (by kernel_rfl) (by kernel_rfl) (by kernel_rfl) (fun _ _ _ h => h) (Or.inl ⟨by rfl, ?hy15⟩) K0 ?rest15
          case hy15 => (intro w hSw; (try dsimp only at hSw); first | (go_simp; done) | (go_simp; with_reducible rfl))
          try simp only [Act.put, List.setIfInBounds_toArray, List.set_cons_zero, List.set_cons_succ]
          refine wpAnyH_take (i := 1) (oi := { dst := some 63, op := _, type := _, pos := _, after := _, guard := _ }) rfl (by kernel_rfl) (by kernel_rfl) (by kernel_rfl) (fun _ _ _ h => h) (yield_C (by rfl) (.tmp 6) rfl w.heap.size c.v (.slice qa c.l.length qk) rfl (fun U hU => HX.out.row.keep hU) hVc.out) K0 ?_
          try simp only [Act.put, List.setIfInBounds_toArray, List.set_cons_zero, List.set_cons_succ]
          refine wpAnyH_take (i := 2) (oi := { dst := some 64, op := _, type := _, pos := _, after := _, guard := _ }) (v := ?v17) rfl (by kernel_rfl) (by kernel_rfl) (by kernel_rfl) (fun _ _ _ h => h) (Or.inl ⟨by rfl, ?hy17⟩) K0 ?rest17
          case hy17 => (intro w hSw; (try dsimp only at hSw); first | (go_simp; done) | (go_simp; with_reducible rfl))
          try simp only [Act.put, List.setIfInBounds_toArray, List.set_cons_zero, List.set_cons_succ]
          refine wpAnyH_take (i := 3) (oi := { dst := some 65, op := _, type := _, pos := _, after := _, guard := _ }) (v := ?v18) rfl (by kernel_rfl) (by kernel_rfl) (by kernel_rfl) (fun _ _ _ h => h) (Or.inl ⟨by rfl, ?hy18⟩) K0 ?rest18
          case hy18 => (intro w hSw; (try dsimp only at hSw); first | (go_simp; done) | (go_simp; with_reducible rfl))
          try simp only [Act.put, List.setIfInBounds_toArray, List.set_cons_zero, List.set_cons_succ]
          refine wpAnyH_take (i := 4) (oi := { dst := some 66, op := _, type := _, pos := _, after := _, guard := _ }) (v := ?v19) rfl (by kernel_rfl) (by kernel_rfl) (by kernel_rfl) (fun _ _ _ h => h) (Or.inl ⟨by rfl, ?hy19⟩) K0 ?rest19
          case hy19 => (intro w hSw; (try dsimp only at hSw); first | (go_simp; done) | (go_simp; with_reducible rfl))
          try simp only [Act.put, List.setIfInBounds_toArray, List.set_cons_zero, List.set_cons_succ]
          refine wpAnyH_take (i := 5) (oi := { dst := some 67, op := _, type := _, pos := _, after := _, guard := _ }) rfl (by kernel_rfl) (by kernel_rfl) (by kernel_rfl) (fun _ _ _ h => h) (b_yield (by rfl) 54 (.tmp 66) rfl eb (eo + q * 7) (dlc e la lk ga gk) rfl (fun U hU => (HAT.out.below hU hebl).row) Tryz.underlying54 rfl (infoD _ _ _ _ _)) K0 ?_
          try simp only [Act.put, List.setIfInBounds_toArray, List.set_cons_zero, List.set_cons_succ]
          refine wpAnyH_ready (rs := [6, 10]) (by kernel_rfl) (by simp) ?_
          refine AllReadyH.cons (o := { dst := some 68, op := _, type := _, pos := _, after := _, guard := _ }) rfl (fun K hK => ?_) (AllReadyH.cons (o := { dst := some 12, op := _, type := _, pos := _, after := _, guard := _ }) rfl (fun K hK => ?_) AllReadyH.nil)
          · go_simp
            refine (applyKC x ra rk c qa qk e la lk ga gk _ (HX.out.fx.fin.below K0) (by omega) (HX.out.mc.cin.below K0) (HAT.out.fin.below K0) hgE (HAT.out.din.below K0) (by omega)).mono ?_
            rintro r u6 ⟨⟨o, hof, hol, c2, r2, q2, k2, m2, rfl, hj, hff, hmd, hjl⟩, hb⟩
            have K6 := K0.trans (hb.mono K0.size)
            have HJ := Lib.hid (And.intro hof (And.intro hol (And.intro hj (And.intro hff (And.intro hmd hjl)))))
            have HS6 := Lib.hid hb.size
            have HB6 := Lib.hid hb
            clear hof hol hj hff hmd hjl hb
            refine hK.out _ _ K6 (fun _ => ?_)
            clear hK K
            try simp only [Act.put, List.setIfInBounds_toArray, List.set_cons_zero, List.set_cons_succ]
            refine wpAnyH_take (i := 7) (oi := { dst := some 61, op := _, type := _, pos := _, after := _, guard := _ }) (v := ?v21) rfl (by kernel_rfl) (by kernel_rfl) (by kernel_rfl) (fun _ _ _ h => h) (Or.inl ⟨by rfl, ?hy21⟩) K6 ?rest21
            case hy21 => (intro w hSw; (try dsimp only at hSw); first | (go_simp; done) | (go_simp; with_reducible rfl))
            try simp only [Act.put, List.setIfInBounds_toArray, List.set_cons_zero, List.set_cons_succ]
            refine wpAnyH_take (i := 8) (oi := { dst := some 69, op := _, type := _, pos := _, after := _, guard := _ }) (v := ?v22) rfl (by kernel_rfl) (by kernel_rfl) (by kernel_rfl) (fun _ _ _ h => h) (Or.inl ⟨by rfl, ?hy22⟩) K6 ?rest22
            case hy22 => (intro w hSw; (try dsimp only at hSw); first | (go_simp; done) | (go_simp; with_reducible rfl))
            try simp only [Act.put, List.setIfInBounds_toArray, List.set_cons_zero, List.set_cons_succ]
            refine wpAnyH_take (i := 9) (oi := { dst := some 70, op := _, type := _, pos := _, after := _, guard := _ }) (v := ?v23) rfl (by kernel_rfl) (by kernel_rfl) (by kernel_rfl) (fun _ _ _ h => h) (Or.inl ⟨by rfl, ?hy23⟩) K6 ?rest23
            case hy23 => (intro w hSw; (try dsimp only at hSw); first | (go_simp; done) | (go_simp; with_reducible rfl))
            try simp only [Act.put, List.setIfInBounds_toArray, List.set_cons_zero, List.set_cons_succ]
            refine wpAnyH_ready (rs := [10]) (by kernel_rfl) (by simp) ?_
            refine AllReadyH.cons (o := { dst := some 12, op := _, type := _, pos := _, after := _, guard := _ }) rfl (fun K hK => ?_) AllReadyH.nil
            go_simp
            have HA := Lib.hid (CRow.new (u6) zV nilS)
            have K10 : (fun U => Go.RowKit.Below wx.heap.size wx U) ((u6).alloc (.cells (ccs zV nilS) 27)) := K6.alloc K6.size _
            refine hK.out _ _ K10 (fun _ => ?_)
            clear hK K
            try simp only [Act.put, List.setIfInBounds_toArray, List.set_cons_zero, List.set_cons_succ]
            refine wpAnyH_take (i := 11) (oi := { dst := some 11, op := _, type := _, pos := _, after := _, guard := _ }) (v := ?v24) rfl (by kernel_rfl) (by kernel_rfl) (by kernel_rfl) (fun _ _ _ h => h) (Or.inl ⟨by rfl, ?hy24⟩) K10 ?rest24
            case hy24 => (intro w hSw; (try dsimp only at hSw); first | (go_simp; done) | (go_simp; with_reducible rfl))
            try simp only [Act.put, List.setIfInBounds_toArray, List.set_cons_zero, List.set_cons_succ]
            refine wpAnyH_ready (rs := [12]) (by kernel_rfl) (by simp) ?_
            refine AllReadyH.cons (o := { dst := none, op := _, type := _, pos := _, after := _, guard := _ }) rfl (fun K hK => ?_) AllReadyH.nil
            refine draw_storeC rfl (.tmp 12) (.tmp 70) rfl (u6.heap.size) rfl c2.v q2 c2.l.length m2 rfl HJ.out.2.2.2.2.1.v16 ⟨_, _, HA.out, rfl⟩ ?_
            have hge : wx.heap.size ≤ u6.heap.size := by first | exact Nat.le_refl _ | exact K6.size
            have K12 : (fun U => Go.RowKit.Below wx.heap.size wx U) (((u6.alloc (.cells (ccs zV nilS) 27))).setRow (u6.heap.size) (ccs c2.v (.slice q2 c2.l.length m2))) := belowRow K10 hge _
            have Z := Lib.hid (show CutO x c e wx (.slice r2 (joinK x c e.l o).length k2) (.pointer (some ⟨u6.heap.size, 0, none⟩)) (((u6.alloc (.cells (ccs zV nilS) 27))).setRow (u6.heap.size) (ccs c2.v (.slice q2 c2.l.length m2))) from ⟨_, o, c2, r2, q2, k2, m2, rfl, rfl, HJ.out.1, HJ.out.2.1, HJ.out.2.2.1, CRow.of_put HA.out _ _, (HJ.out.2.2.2.1.cross2 (lowA u6 _) (by first | (left; simp; done) | (left; simp; omega) | (right; exact Nat.le_refl _) | (right; simp; done) | (right; simp; omega)) _).mono (by first | exact Nat.le_refl _ | (simp; done) | (simp; omega)), (HJ.out.2.2.2.2.1.cross2 (lowA u6 _) (by first | (left; simp; done) | (left; simp; omega) | (right; exact Nat.le_refl _) | (right; simp; done) | (right; simp; omega)) _).mono (by first | exact Nat.le_refl _ | (simp; done) | (simp; omega)), HJ.out.2.2.2.2.2, K12⟩)
            clear hge
            refine hK.out _ _ K12 (fun _ => ?_)
            clear hK K
            try simp only [Act.put, List.setIfInBounds_toArray, List.set_cons_zero, List.set_cons_succ]
            refine wpAnyH_done (by kernel_rfl) ?_ _
            try simp only [Act.put, List.setIfInBounds_toArray, List.set_cons_zero, List.set_cons_succ]
            go_wp2_with fail
            go_meet
            exact Z.out
          · go_simp
            have HA := Lib.hid (CRow.new (wx.drew) zV nilS)
            have K10 : (fun U => Go.RowKit.Below wx.heap.size wx U) ((wx.drew).alloc (.cells (ccs zV nilS) 27)) := K0.alloc K0.size _
            refine hK.out _ _ K10 (fun _ => ?_)
            clear hK K
            try simp only [Act.put, List.setIfInBounds_toArray, List.set_cons_zero, List.set_cons_succ]
            refine wpAnyH_ready (rs := [6]) (by kernel_rfl) (by simp) ?_
            refine AllReadyH.cons (o := { dst := some 68, op := _, type := _, pos := _, after := _, guard := _ }) rfl (fun K hK => ?_) AllReadyH.nil
            go_simp
            refine (applyKC x ra rk c qa qk e la lk ga gk _ (HX.out.fx.fin.below K10) (by omega) (HX.out.mc.cin.below K10) (HAT.out.fin.below K10) hgE (HAT.out.din.below K10) (by omega)).mono ?_
            rintro r u6 ⟨⟨o, hof, hol, c2, r2, q2, k2, m2, rfl, hj, hff, hmd, hjl⟩, hb⟩
            have K6 := K10.trans (hb.mono K10.size)
            have HJ := Lib.hid (And.intro hof (And.intro hol (And.intro hj (And.intro hff (And.intro hmd hjl)))))
            have HS6 := Lib.hid hb.size
            have HB6 := Lib.hid hb
            replace HA := Lib.hid (HA.out.keep hb)
            clear hof hol hj hff hmd hjl hb
            refine hK.out _ _ K6 (fun _ => ?_)
            clear hK K
            try simp only [Act.put, List.setIfInBounds_toArray, List.set_cons_zero, List.set_cons_succ]
            refine wpAnyH_take (i := 7) (oi := { dst := some 61, op := _, type := _, pos := _, after := _, guard := _ }) (v := ?v25) rfl (by kernel_rfl) (by kernel_rfl) (by kernel_rfl) (fun _ _ _ h => h) (Or.inl ⟨by rfl, ?hy25⟩) K6 ?rest25
            case hy25 => (intro w hSw; (try dsimp only at hSw); first | (go_simp; done) | (go_simp; with_reducible rfl))
            try simp only [Act.put, List.setIfInBounds_toArray, List.set_cons_zero, List.set_cons_succ]
            refine wpAnyH_take (i := 8) (oi := { dst := some 69, op := _, type := _, pos := _, after := _, guard := _ }) (v := ?v26) rfl (by kernel_rfl) (by kernel_rfl) (by kernel_rfl) (fun _ _ _ h => h) (Or.inl ⟨by rfl, ?hy26⟩) K6 ?rest26
            case hy26 => (intro w hSw; (try dsimp only at hSw); first | (go_simp; done) | (go_simp; with_reducible rfl))
            try simp only [Act.put, List.setIfInBounds_toArray, List.set_cons_zero, List.set_cons_succ]
            refine wpAnyH_take (i := 9) (oi := { dst := some 70, op := _, type := _, pos := _, after := _, guard := _ }) (v := ?v27) rfl (by kernel_rfl) (by kernel_rfl) (by kernel_rfl) (fun _ _ _ h => h) (Or.inl ⟨by rfl, ?hy27⟩) K6 ?rest27
            case hy27 => (intro w hSw; (try dsimp only at hSw); first | (go_simp; done) | (go_simp; with_reducible rfl))
            try simp only [Act.put, List.setIfInBounds_toArray, List.set_cons_zero, List.set_cons_succ]
            refine wpAnyH_take (i := 11) (oi := { dst := some 11, op := _, type := _, pos := _, after := _, guard := _ }) (v := ?v28) rfl (by kernel_rfl) (by kernel_rfl) (by kernel_rfl) (fun _ _ _ h => h) (Or.inl ⟨by rfl, ?hy28⟩) K6 ?rest28
            case hy28 => (intro w hSw; (try dsimp only at hSw); first | (go_simp; done) | (go_simp; with_reducible rfl))
            try simp only [Act.put, List.setIfInBounds_toArray, List.set_cons_zero, List.set_cons_succ]
            refine wpAnyH_ready (rs := [12]) (by kernel_rfl) (by simp) ?_
            refine AllReadyH.cons (o := { dst := none, op := _, type := _, pos := _, after := _, guard := _ }) rfl (fun K hK => ?_) AllReadyH.nil
            refine draw_storeC rfl (.tmp 12) (.tmp 70) rfl (wx.heap.size) rfl c2.v q2 c2.l.length m2 rfl HJ.out.2.2.2.2.1.v16 ⟨_, _, HA.out, rfl⟩ ?_
            have hge : wx.heap.size ≤ wx.heap.size := by first | exact Nat.le_refl _ | exact K6.size
            have K12 : (fun U => Go.RowKit.Below wx.heap.size wx U) ((u6).setRow (wx.heap.size) (ccs c2.v (.slice q2 c2.l.length m2))) := belowRow K6 hge _
            have Z := Lib.hid (show CutO x c e wx (.slice r2 (joinK x c e.l o).length k2) (.pointer (some ⟨wx.heap.size, 0, none⟩)) ((u6).setRow (wx.heap.size) (ccs c2.v (.slice q2 c2.l.length m2))) from ⟨_, o, c2, r2, q2, k2, m2, rfl, rfl, HJ.out.1, HJ.out.2.1, HJ.out.2.2.1, CRow.of_put HA.out _ _, (HJ.out.2.2.2.1.cross2 (Below.refl _ _) (by first | (left; simp; done) | (left; simp; omega) | (right; exact Nat.le_refl _) | (right; simp; done) | (right; simp; omega)) _).mono (by first | exact Nat.le_refl _ | (simp; done) | (simp; omega)), (HJ.out.2.2.2.2.1.cross2 (Below.refl _ _) (by first | (left; simp; done) | (left; simp; omega) | (right; exact Nat.le_refl _) | (right; simp; done) | (right; simp; omega)) _).mono (by first | exact Nat.le_refl _ | (simp; done) | (simp; omega)), HJ.out.2.2.2.2.2, K12⟩)
            clear hge
            refine hK.out _ _ K12 (fun _ => ?_)
            clear hK K
            try simp only [Act.put, List.setIfInBounds_toArray, List.set_cons_zero, List.set_cons_succ]
            refine wpAnyH_done (by kernel_rfl) ?_ _
            try simp only [Act.put, List.setIfInBounds_toArray, List.set_cons_zero, List.set_cons_succ]
            go_wp2_with fail
            go_meet
            exact Z.out
        case rest =>
          rename World => W14
          obtain ⟨gd, o, c2, r2, q2, k2, m2, rfl, rfl, hof, hol, hj, hrow, hff, hmd, hjl, hb14⟩ := hcut
          have hsz : w.heap.size + 2 ≤ wx.heap.size := by have := HX.out.seen.lt; omega
          have hgd : CRow W14 gd c2.v (.slice q2 c2.l.length m2) := hrow
          have hV2 := Lib.hid hmd.v16
          have HR := Lib.hid hrow
          have H14 := Lib.hid (HX.out.below hb14)
          have HOS := Lib.hid (HX.out.step (W := W14.setRow w.heap.size (ccs c2.v (.slice q2 c2.l.length m2))) HE.out HOW.out HQ.out hof hj hll hgl hol hjl (belowRow (HX.out.below hb14).low (Nat.le_refl _) _) (CRow.of_put (HX.out.below hb14).row _ _) ((HX.out.below hb14).seen.other (by omega) _) ((hff.mono hsz).setRow (by omega) _) ((hmd.mono hsz).setRow (by omega) _))
          clear hof hol hj hrow hff hmd hjl hb14 hgd HX HAT hgE hebl
          have hjx : (joinK x c e.l o).length ≤ 8 * (k + 1) := HOS.out.lx
          generalize joinK x c e.l o = x2 at *
          go_upto_region 17 with (first
            | ((with_reducible refine cl_load ?_ (.tmp 12) ?_ gd c2.v (.slice q2 c2.l.length m2) ?_ ?_ ?_ ?_); rfl; rfl; rfl; exact HR.out; exact hV2.out; simp only [Act.put, List.setIfInBounds_toArray, List.set_cons_zero, List.set_cons_succ])
            | ((with_reducible refine cl_store ?_ (.tmp 6) (.tmp 72) ?_ w.heap.size c2.v q2 c2.l.length m2 ?_ ?_ ?_ ?_ ?_); rfl; rfl; rfl; rfl; exact ⟨_, _, H14.out.row, H14.out.mc.v16⟩; exact hV2.out; simp only [Act.put, List.setIfInBounds_toArray, List.set_cons_zero, List.set_cons_succ]))
          change Code.wp _ _ _ _ (W14.setRow w.heap.size (ccs c2.v (.slice q2 c2.l.length m2)))
          generalize W14.setRow w.heap.size (ccs c2.v (.slice q2 c2.l.length m2)) = W16 at *
          clear H14 HR
          obtain ⟨u, hu⟩ : ∃ u, sn[q]? = some u := ⟨_, List.getElem?_eq_getElem (by have := HOS.out.sl; omega)⟩
          have hcell : W16.cell? ⟨w.heap.size + 1, q, none⟩ = some (.bool u) := HOS.out.seen.cell (bls_get hu)
          have hfree : W16.frozen? ⟨w.heap.size + 1, q, none⟩ = false := Joins.unfrozen_of_block HOS.out.seen q
          have hslt := HOS.out.seen.lt
          have hq16 : (q : Int) < 16 := by omega
          have hn16 := count_seen HOS.out.sd
          have hnc := HOS.out.cnt
          have hn17 : n ≤ 16 := by omega
          clear hn16 hnc
          cases u with
          | true =>
            clear hu hfree
            go_wp2_with fail
            go_roundw
            case rel => exact ⟨k + 1, n, x2, r2, k2, c2, q2, m2, _, sn, by omega, by go_num, rfl, rfl, HOS.out⟩
            case measure => simp [intOf]; omega
          | false =>
            have HMK := Lib.hid (HOS.out.mark hu hqD)
            clear hu HOS
            go_wp2_with fail
            go_roundw
            case rel => exact ⟨k + 1, n + 1, x2, r2, k2, c2, q2, m2, _, sn.set q true, by omega, by go_num, rfl, by go_num, HMK.out⟩
            case measure => simp [intOf]; omega
    · obtain rfl : k = olen + D.length := by omega
      have hi2 : ¬ (olen : Int) + (D.length : Int) < (olen : Int) + (D.length : Int) := by omega
      have hiw : IntKind.i64.wrap ((olen : Int) + (D.length : Int)) = (olen : Int) + (D.length : Int) := by simp [IntKind.wrap, IntKind.bits, IntKind.signed]; omega
      generalize hwx : wr = w5 at *
      clear hwx
      have HSE := Lib.hid (show ∀ i, S i ↔ OwnP D i from fun i => ⟨HS.out.sown i, fun h => HS.out.sall i h (by obtain ⟨e, he, -⟩ := h; have := (List.getElem?_eq_some_iff.1 he).1; omega)⟩)
      have hn16 := count_seen HS.out.sd
      have hnc := HS.out.cnt
      have hnD : n ≤ D.length := by omega
      have hxl := HS.out.lx
      have hcl := HS.out.lc
      clear hn16 hnc
      go_wp2_with fail
      clear hiw hi2
      go_loopw [15, 13, 14] (fun i y t wk => ∃ (k : Nat) (want : List Ft) (dots : List Dt), k ≤ D.length ∧ i = .int .i64 k ∧ Hid (WantK D k want dots) ∧ OwnF w5.heap.size y want wk ∧ OwnD w5.heap.size t dots wk ∧ want.length ≤ 8 * k ∧ dots.length ≤ 21 * k ∧ Go.RowKit.Below w5.heap.size w5 wk) (fun i _ _ _ => D.length - (intOf i).toNat)
      case atStart => exact ⟨0, [], [], Nat.zero_le _, rfl, Lib.hid (WantK.start D), ownF_nil _ _, ownD_nil _ _, by simp, by simp, Below.refl _ _⟩
      case round =>
        rename World => wk
        obtain ⟨k, want, dots, hk, rfl, HW, hoF, hoD, hwl, hdl, hb⟩ := hrel
        have HB := Lib.hid hb
        have HOF := Lib.hid hoF
        have HOD := Lib.hid hoD
        have hbs := hb.size
        have HLO := Lib.hid (HS.out.low.trans (hb.mono HS.out.low.size))
        clear hb
        by_cases hlt : k < D.length
        · clear hoF hoD
          obtain ⟨e, he⟩ : ∃ e, D[k]? = some e := ⟨_, List.getElem?_eq_getElem hlt⟩
          have HE := Lib.hid he
          have HOC := Lib.hid (ownC D a cap k e wk (HD.out.below HLO.out) hlm he)
          have hee := HSM.out e (List.mem_of_getElem? he)
          have hll := hee.1
          have hgl := hee.2
          have hi1 : (k : Int) < (D.length : Int) := by omega
          have hi0 : (0 : Int) ≤ (k : Int) := by omega
          clear he hee
          rcases hown : ownB D k e with _ | _
          · have HW2 := Lib.hid (HW.out.pass HE.out hown)
            rw [hown] at HOC
            clear hown
            go_wp2_with fail
            refine HOC.out.mono ?_
            rintro r w1 ⟨rfl, hb1⟩
            have HX := Lib.hid (And.intro (HOF.out.below hb1 (Nat.le_refl _)) (And.intro (HOD.out.below hb1 (Nat.le_refl _)) (HB.out.trans (hb1.mono hbs))))
            clear hb1 HOC
            go_wp2_with fail
            go_roundw
            case rel => exact ⟨k + 1, want, dots, by omega, by go_num, HW2, HX.out.1, HX.out.2.1, by omega, by omega, HX.out.2.2⟩
            case measure => simp [intOf]; omega
          have HW2 := Lib.hid (HW.out.take HE.out hown)
          rw [hown] at HOC
          clear hown
          go_wp2_with fail
          refine HOC.out.mono ?_
          rintro r w1 ⟨rfl, hb1⟩
          have hB1 : Go.RowKit.Below w5.heap.size w5 w1 := HB.out.trans (hb1.mono hbs)
          have hF1 := HOF.out.below hb1 (Nat.le_refl _)
          have hD1 := HOD.out.below hb1 (Nat.le_refl _)
          obtain ⟨eb, eo, la, lk, ga, gk, hae, hebl, hat⟩ := HD.out.at HE.out
          have hL1 : Go.RowKit.Below w.heap.size w w1 := HS.out.low.trans (hB1.mono HS.out.low.size)
          have hA1 := hat.below hL1 hebl
          have x0 := hA1.d0
          have x1 := hA1.d1
          have HAT := Lib.hid hat
          have hs1 := hB1.size
          obtain ⟨p2, c2, w2, hr2, ho2, hb2, hg2⟩ := appD3 (c := 1) (hD1.alloc (.cells #[.int .i64 e.d.1, .int .i64 e.d.2] 50)) (din_new w1 e.d) (by simp; omega) (dots.length + 1) (by simp) (by omega)
          have hF2 := (hF1.alloc (.cells #[.int .i64 e.d.1, .int .i64 e.d.2] 50)).keepD (hD1.alloc (.cells #[.int .i64 e.d.1, .int .i64 e.d.2] 50)) hg2
          have hB2 : Go.RowKit.Below w5.heap.size w5 w2 := (hB1.alloc hs1 _).trans hb2
          have hL2 : Go.RowKit.Below w.heap.size w w2 := HS.out.low.trans (hB2.mono HS.out.low.size)
          have hA2 := HAT.out.below hL2 hebl
          have x6 := hA2.cg
          obtain ⟨p3, c3, w3, hr3, ho3, hb3, hg3⟩ := appD3 (c := gk) ho2 hA2.din hB2.size (dots.length + 1 + e.g.length) (by simp) (by omega)
          have hF3 := hF2.keepD ho2 hg3
          have hB3 : Go.RowKit.Below w5.heap.size w5 w3 := hB2.trans hb3
          have HR2 := Lib.hid hr2
          have HR3 := Lib.hid hr3
          have H3 := Lib.hid (And.intro hF3 (And.intro ho3 hB3))
          clear hb1 HOC hB1 hF1 hD1 hL1 hA1 hat ho2 hb2 hg2 hF2 hB2 hL2 hA2 hr2 hr3 ho3 hb3 hg3 hF3 hB3 HOF HOD HB HLO
          subst hae
          go_upto_region 27 with (at_builtin; refine wpList_append_run rfl _ _ 25 25 rfl _ (.slice (some ⟨w1.heap.size, 0, none⟩) 1 1) _ w2 rfl rfl HR2.out ?_)
          clear x0 x1
          go_upto_region 28 with (at_builtin; refine wpList_append_run rfl _ _ 25 25 rfl _ (.slice ga e.g.length gk) _ w3 rfl rfl HR3.out ?_)
          clear x6
          have hL3 : Go.RowKit.Below w.heap.size w w3 := HS.out.low.trans (H3.out.2.2.mono HS.out.low.size)
          have hA3 := HAT.out.below hL3 hebl
          have y0 := hA3.d0
          have y1 := hA3.d1
          have HTK := Lib.hid (takenC D (some ⟨eb, eo, none⟩) cap e.d w3 (HD.out.below hL3) hlm)
          clear hL3 hA3
          rcases htk : takenB D e.d D.length with _ | _
          · rw [htk] at HTK
            rw [htk, if_neg (by simp)] at HW2
            clear htk
            go_wp2_with fail
            refine HTK.out.mono ?_
            rintro r w4 ⟨rfl, hb4⟩
            have hB4 : Go.RowKit.Below w5.heap.size w5 w4 := H3.out.2.2.trans (hb4.mono H3.out.2.2.size)
            have hF4 := H3.out.1.below hb4 (Nat.le_refl _)
            have hD4 := H3.out.2.1.below hb4 (Nat.le_refl _)
            have hL4 : Go.RowKit.Below w.heap.size w w4 := HS.out.low.trans (hB4.mono HS.out.low.size)
            have hA4 := HAT.out.below hL4 hebl
            have x5 := hA4.cl
            obtain ⟨p6, c6, w6, hr6, ho6, hb6, hg6⟩ := appF3 (c := lk) hF4 hA4.fin hB4.size (want.length + e.l.length) rfl (by omega)
            have HR6 := Lib.hid hr6
            have HX := Lib.hid (And.intro ho6 (And.intro (hD4.keepF hF4 hg6) (hB4.trans hb6)))
            clear hb4 HTK y0 y1 hB4 hF4 hD4 hL4 hA4 hr6 ho6 hb6 hg6 H3
            go_wp2_with (at_builtin; refine wpList_append_run rfl _ _ 22 22 rfl _ (.slice la e.l.length lk) _ w6 rfl rfl HR6.out ?_)
            go_roundw
            case rel => exact ⟨k + 1, want ++ e.l, dots ++ [e.d] ++ e.g, by omega, by go_num, HW2, HX.out.1, HX.out.2.1, by simp; omega, by simp; omega, HX.out.2.2⟩
            case measure => simp [intOf]; omega
          · rw [htk] at HTK
            rw [htk, if_pos rfl] at HW2
            clear htk
            go_wp2_with fail
            refine HTK.out.mono ?_
            rintro r w4 ⟨rfl, hb4⟩
            have HX := Lib.hid (And.intro (H3.out.1.below hb4 (Nat.le_refl _)) (And.intro (H3.out.2.1.below hb4 (Nat.le_refl _)) (H3.out.2.2.trans (hb4.mono H3.out.2.2.size))))
            clear hb4 HTK y0 y1 H3
            go_wp2_with fail
            go_roundw
            case rel => exact ⟨k + 1, want, dots ++ [e.d] ++ e.g, by omega, by go_num, HW2, HX.out.1, HX.out.2.1, by omega, by simp; omega, HX.out.2.2⟩
            case measure => simp [intOf]; omega
        · obtain rfl : k = D.length := by omega
          have hi2 : ¬ (D.length : Int) < (D.length : Int) := by omega
          obtain ⟨ya, yk, rfl, hyf, -⟩ := hoF.fin
          obtain ⟨da, dk, rfl, hdf, -, -⟩ := hoD.din2
          have HYF := Lib.hid (And.intro hyf hdf)
          have HXW := Lib.hid (orders_x HS.out.inv HSE.out HW.out)
          have HCO := Lib.hid (fun o (h : AddOf zC dots o) => (orders_end HS.out.inv HSE.out HS.out.cl HW.out h).2)
          have HS2 := Lib.hid (HS.out.below HB.out)
          have hVc := Lib.hid HS.out.mc.v16
          have hnDi : (n : Int) ≤ (D.length : Int) := by omega
          clear hoF hoD hyf hdf HOF HOD HS HSE HW
          go_upto_region 30 with fail
          refine wp_region_held (S := fun U => Go.RowKit.Below wk.heap.size wk U) (by kernel_rfl) ?_
          change wpAnyH _ _ _ _ _ _ _ _ wk.drew
          have K0 : (fun U => Go.RowKit.Below wk.heap.size wk U) wk.drew := (Below.refl _ _).drew
          refine wpAnyH_take (i := 0) (oi := { dst := some 121, op := _, type := _, pos := _, after := _, guard := _ }) (v := ?v29) rfl (by kernel_rfl) (by kernel_rfl) (by kernel_rfl) (fun _ _ _ h => h) (Or.inl ⟨by rfl, ?hy29⟩) K0 ?rest29
          case hy29 => (intro w hSw; (try dsimp only at hSw); first | (go_simp; done) | (go_simp; with_reducible rfl))
          try simp only [Act.put, List.setIfInBounds_toArray, List.set_cons_zero, List.set_cons_succ]
          refine wpAnyH_take (i := 1) (oi := { dst := some 122, op := _, type := _, pos := _, after := _, guard := _ }) (v := ?v30) rfl (by kernel_rfl) (by kernel_rfl) (by kernel_rfl) (fun _ _ _ h => h) (Or.inl ⟨by rfl, ?hy30⟩) K0 ?rest30
          case hy30 => (intro w hSw; (try dsimp only at hSw); first | (go_simp; done) | (go_simp; with_reducible rfl))
          try simp only [Act.put, List.setIfInBounds_toArray, List.set_cons_zero, List.set_cons_succ]
          refine wpAnyH_ready (rs := [2]) (by kernel_rfl) (by simp) ?_
          refine AllReadyH.cons (o := { dst := some 123, op := _, type := _, pos := _, after := _, guard := _ }) rfl (fun K hK => ?_) AllReadyH.nil
          go_simp
          refine (sortFR want ya yk wk.drew HYF.out.1 (by omega)).mono ?_
          rintro r u2 ⟨v2, rfl, hown, hb⟩
          have K2 := K0.trans (hb.mono K0.size)
          obtain ⟨sa, sk, rfl, hsf, -⟩ := hown.fin
          have HSF := Lib.hid hsf
          clear hown hsf hb
          refine hK.out _ _ K2 (fun _ => ?_)
          clear hK K
          try simp only [Act.put, List.setIfInBounds_toArray, List.set_cons_zero, List.set_cons_succ]
          refine wpAnyH_ready (rs := [3]) (by kernel_rfl) (by simp) ?_
          refine AllReadyH.cons (o := { dst := some 124, op := _, type := _, pos := _, after := _, guard := _ }) rfl (fun K hK => ?_) AllReadyH.nil
          go_simp
          have hsm := sameRF x (sortF want) ra sa rk sk u2 (HS2.out.fx.fin.below K2) HSF.out (by unfold maxLen; omega)
          rw [decide_eq_true HXW.out] at hsm
          refine hsm.mono ?_
          rintro r u3 ⟨rfl, hb⟩
          have K3 := K2.trans (hb.mono K2.size)
          clear hsm hb
          refine hK.out _ _ K3 (fun _ => ?_)
          clear hK K
          try simp only [Act.put, List.setIfInBounds_toArray, List.set_cons_zero, List.set_cons_succ]
          refine wpAnyH_take (i := 4) (oi := { dst := some 125, op := _, type := _, pos := _, after := _, guard := _ }) (v := ?v31) rfl (by kernel_rfl) (by kernel_rfl) (by kernel_rfl) (fun _ _ _ h => h) (Or.inl ⟨by rfl, ?hy31⟩) K3 ?rest31
          case hy31 => (intro w hSw; (try dsimp only at hSw); first | (go_simp; done) | (go_simp; with_reducible rfl))
          try simp only [Act.put, List.setIfInBounds_toArray, List.set_cons_zero, List.set_cons_succ]
          refine wpAnyH_take (i := 5) (oi := { dst := some 126, op := _, type := _, pos := _, after := _, guard := _ }) rfl (by kernel_rfl) (by kernel_rfl) (by kernel_rfl) (fun _ _ _ h => h) (yield_C (by rfl) (.tmp 6) rfl w.heap.size c.v (.slice qa c.l.length qk) rfl (fun U hU => HS2.out.row.keep hU) hVc.out) K3 ?_
          try simp only [Act.put, List.setIfInBounds_toArray, List.set_cons_zero, List.set_cons_succ]
          refine wpAnyH_take (i := 6) (oi := { dst := some 127, op := _, type := _, pos := _, after := _, guard := _ }) rfl (by kernel_rfl) (by kernel_rfl) (by kernel_rfl) (fun _ _ _ h => h) (yield_BZ (by rfl) rfl) K3 ?_
          try simp only [Act.put, List.setIfInBounds_toArray, List.set_cons_zero, List.set_cons_succ]
          refine wpAnyH_take (i := 7) (oi := { dst := some 128, op := _, type := _, pos := _, after := _, guard := _ }) (v := ?v34) rfl (by kernel_rfl) (by kernel_rfl) (by kernel_rfl) (fun _ _ _ h => h) (Or.inl ⟨by rfl, ?hy34⟩) K3 ?rest34
          case hy34 => (intro w hSw; (try dsimp only at hSw); first | (go_simp; done) | (go_simp; with_reducible rfl))
          try simp only [Act.put, List.setIfInBounds_toArray, List.set_cons_zero, List.set_cons_succ]
          refine wpAnyH_ready (rs := [8]) (by kernel_rfl) (by simp) ?_
          refine AllReadyH.cons (o := { dst := some 129, op := _, type := _, pos := _, after := _, guard := _ }) rfl (fun K hK => ?_) AllReadyH.nil
          go_simp
          refine (addRC zC dots none da 0 dk _ ⟨rfl, .inl rfl, by decide⟩ (HYF.out.2.below K3) (by show 0 + dots.length ≤ 32768; omega)).mono ?_
          rintro r u8 ⟨⟨o, qa2, qk2, rfl, hof, hmd, -⟩, hb⟩
          have K8 := K3.trans (hb.mono K3.size)
          obtain rfl := HCO.out o hof
          have HM8 := Lib.hid hmd.cin
          clear hof hmd hb
          refine hK.out _ _ K8 (fun _ => ?_)
          clear hK K
          try simp only [Act.put, List.setIfInBounds_toArray, List.set_cons_zero, List.set_cons_succ]
          refine wpAnyH_ready (rs := [9]) (by kernel_rfl) (by simp) ?_
          refine AllReadyH.cons (o := { dst := some 130, op := _, type := _, pos := _, after := _, guard := _ }) rfl (fun K hK => ?_) AllReadyH.nil
          go_simp
          have hsm := sameRC c c qa qa2 qk qk2 u8 (HS2.out.mc.cin.below K8) HM8.out
          rw [decide_eq_true (show c = c from rfl)] at hsm
          refine hsm.mono ?_
          rintro r u9 ⟨rfl, hb⟩
          have K9 := K8.trans (hb.mono K8.size)
          clear hsm hb
          refine hK.out _ _ K9 (fun _ => ?_)
          clear hK K
          try simp only [Act.put, List.setIfInBounds_toArray, List.set_cons_zero, List.set_cons_succ]
          refine wpAnyH_take (i := 10) (oi := { dst := some 131, op := _, type := _, pos := _, after := _, guard := _ }) (v := ?v35) rfl (by kernel_rfl) (by kernel_rfl) (by kernel_rfl) (fun _ _ _ h => h) (Or.inl ⟨by rfl, ?hy35⟩) K9 ?rest35
          case hy35 => (intro w hSw; (try dsimp only at hSw); first | (go_simp; done) | (go_simp; with_reducible rfl))
          try simp only [Act.put, List.setIfInBounds_toArray, List.set_cons_zero, List.set_cons_succ]
          refine wpAnyH_take (i := 11) (oi := { dst := some 132, op := _, type := _, pos := _, after := _, guard := _ }) (v := ?v36) rfl (by kernel_rfl) (by kernel_rfl) (by kernel_rfl) (fun _ _ _ h => h) (Or.inl ⟨by rfl, ?hy36⟩) K9 ?rest36
          case hy36 => (intro w hSw; (try dsimp only at hSw); first | (go_simp; done) | (go_simp; with_reducible rfl))
          try simp only [Act.put, List.setIfInBounds_toArray, List.set_cons_zero, List.set_cons_succ]
          refine wpAnyH_take (i := 12) (oi := { dst := some 133, op := _, type := _, pos := _, after := _, guard := _ }) (v := ?v37) rfl (by kernel_rfl) (by kernel_rfl) (by kernel_rfl) (fun _ _ _ h => h) (Or.inl ⟨by rfl, ?hy37⟩) K9 ?rest37
          case hy37 => (intro w hSw; (try dsimp only at hSw); first | (go_simp; done) | (go_simp; with_reducible rfl))
          try simp only [Act.put, List.setIfInBounds_toArray, List.set_cons_zero, List.set_cons_succ]
          refine wpAnyH_take (i := 13) (oi := { dst := some 134, op := _, type := _, pos := _, after := _, guard := _ }) (v := ?v38) rfl (by kernel_rfl) (by kernel_rfl) (by kernel_rfl) (fun _ _ _ h => h) (Or.inl ⟨by rfl, ?hy38⟩) K9 ?rest38
          case hy38 => (intro w hSw; (try dsimp only at hSw); first | (go_simp; done) | (go_simp; with_reducible rfl))
          try simp only [Act.put, List.setIfInBounds_toArray, List.set_cons_zero, List.set_cons_succ]
          refine wpAnyH_take (i := 14) (oi := { dst := some 135, op := _, type := _, pos := _, after := _, guard := _ }) (v := ?v39) rfl (by kernel_rfl) (by kernel_rfl) (by kernel_rfl) (fun _ _ _ h => h) (Or.inl ⟨by rfl, ?hy39⟩) K9 ?rest39
          case hy39 => (intro w hSw; (try dsimp only at hSw); first | (go_simp; done) | (go_simp; with_reducible rfl))
          try simp only [Act.put, List.setIfInBounds_toArray, List.set_cons_zero, List.set_cons_succ]
          refine wpAnyH_take (i := 15) (oi := { dst := some 136, op := _, type := _, pos := _, after := _, guard := _ }) (v := ?v40) rfl (by kernel_rfl) (by kernel_rfl) (by kernel_rfl) (fun _ _ _ h => h) (Or.inl ⟨by rfl, ?hy40⟩) K9 ?rest40
          case hy40 => (intro w hSw; (try dsimp only at hSw); first | (go_simp; done) | (go_simp; with_reducible rfl))
          try simp only [Act.put, List.setIfInBounds_toArray, List.set_cons_zero, List.set_cons_succ]
          refine wpAnyH_take (i := 16) (oi := { dst := some 137, op := _, type := _, pos := _, after := _, guard := _ }) (v := ?v41) rfl (by kernel_rfl) (by kernel_rfl) (by kernel_rfl) (fun _ _ _ h => h) (Or.inl ⟨by rfl, ?hy41⟩) K9 ?rest41
          case hy41 => (intro w hSw; (try dsimp only at hSw); first | (go_simp; done) | (go_simp; with_reducible rfl))
          try simp only [Act.put, List.setIfInBounds_toArray, List.set_cons_zero, List.set_cons_succ]
          refine wpAnyH_take (i := 17) (oi := { dst := some 138, op := _, type := _, pos := _, after := _, guard := _ }) (v := ?v42) rfl (by kernel_rfl) (by kernel_rfl) (by kernel_rfl) (fun _ _ _ h => h) (Or.inl ⟨by rfl, ?hy42⟩) K9 ?rest42
          case hy42 => (intro w hSw; (try dsimp only at hSw); first | (go_simp; done) | (go_simp; with_reducible rfl))
          try simp only [Act.put, List.setIfInBounds_toArray, List.set_cons_zero, List.set_cons_succ]
          refine wpAnyH_ready (rs := [18]) (by kernel_rfl) (by simp) ?_
          refine AllReadyH.cons (o := { dst := some 139, op := _, type := _, pos := _, after := _, guard := _ }) rfl (fun K hK => ?_) AllReadyH.nil
          go_simp
          refine (kernAwake _).mono ?_
          rintro r u18 ⟨rfl, hb⟩
          have K18 := K9.trans (hb.mono K9.size)
          clear hb
          refine hK.out _ _ K18 (fun _ => ?_)
          clear hK K
          try simp only [Act.put, List.setIfInBounds_toArray, List.set_cons_zero, List.set_cons_succ]
          refine wpAnyH_take (i := 19) (oi := { dst := some 140, op := _, type := _, pos := _, after := _, guard := _ }) (v := ?v43) rfl (by kernel_rfl) (by kernel_rfl) (by kernel_rfl) (fun _ _ _ h => h) (Or.inl ⟨by rfl, ?hy43⟩) K18 ?rest43
          case hy43 => (intro w hSw; (try dsimp only at hSw); first | (go_simp; done) | (go_simp; with_reducible rfl))
          try simp only [Act.put, List.setIfInBounds_toArray, List.set_cons_zero, List.set_cons_succ]
          refine wpAnyH_take (i := 20) (oi := { dst := some 4, op := _, type := _, pos := _, after := _, guard := _ }) (v := ?v44) rfl (by kernel_rfl) (by kernel_rfl) (by kernel_rfl) (fun _ _ _ h => h) (Or.inl ⟨by rfl, ?hy44⟩) K18 ?rest44
          case hy44 => (intro w hSw; (try dsimp only at hSw); first | (go_simp; done) | (go_simp; with_reducible rfl))
          try simp only [Act.put, List.setIfInBounds_toArray, List.set_cons_zero, List.set_cons_succ]
          refine wpAnyH_done (by kernel_rfl) ?_ _
          try simp only [Act.put, List.setIfInBounds_toArray, List.set_cons_zero, List.set_cons_succ]
          have HZ := Lib.hid (HS2.out.low.trans (K18.mono HS2.out.low.size))
          clear K0 K2 K3 K8 K9 K18
          go_wp2_with fail
          go_ret
          exact ⟨rfl, HZ.out⟩
end Go.Proofs.YtcedliaeipabnaaGreat
