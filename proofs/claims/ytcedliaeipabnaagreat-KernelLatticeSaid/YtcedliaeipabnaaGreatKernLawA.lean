/-
  almonrylaw16: few, dots, whole.
-/
import Derived.Test.YtcedliaeipabnaaGreatKernArg
import Derived.Test.YtcedliaeipabnaaGreatGKernT
import Derived.Test.YtcedliaeipabnaaGreatGKernU
import Derived.Test.YtcedliaeipabnaaGreatGKernQ
namespace Go.Proofs.YtcedliaeipabnaaGreat
set_option linter.unusedSimpArgs false
set_option linter.unusedVariables false
set_option maxRecDepth 100000
open Go.RowKit Go.Sort

def fewS (l : List Ft) (c : Cx) : Bool := fewP l && decide (c.l.length ≤ 40)
set_option maxHeartbeats 4000000 in
theorem fewSC (l : List Ft) (la : Option Addr) (lk : Nat) (c : Cx) (pa : Option Addr) (ca : Nat) (w : World) (h : SideArg w l la c pa) :
    Calls Tryz.prog 6 #[.agg (sdc l la lk c pa ca)] w fun e w' => e = .returned (.bool (fewS l c)) ∧ Go.RowKit.Below w.heap.size w w' := by
  have hA := Blk.new w 29 (sdc l la lk c pa ca)
  have hlow := lowA w (.cells (sdc l la lk c pa ca) 29)
  have hc0 := sd_facts hA.all
  have HR := Lib.hid hA.all
  have HV := Lib.hid h.ctx.v16
  have HB := Lib.hid hlow
  have HF1 := Lib.hid (fun W => ffewC l la lk W)
  have HF := Lib.hid (ffewC l la lk (w.alloc (.cells (sdc l la lk c pa ca) 29)) (h.fin.below hlow) h.flen h.txt)
  have HC := Lib.hid (fun W => fewC c pa ca W h.ctx.v16 h.ctx.len)
  have HE := Lib.hid (show fewS l c = (fewP l && decide (c.l.length ≤ 40)) from rfl)
  clear h hA hlow HF1
  generalize fewP l = u1 at *
  generalize decide (c.l.length ≤ 40) = u2 at *
  go_enter Tryz.func6, Tryz.ntmps6
  go_upto_region 1 with fail
  generalize w.alloc (.cells (sdc l la lk c pa ca) 29) = W at *
  go_wp2_with fail
  refine HF.out.mono ?_
  rintro e w1 ⟨rfl, rfl⟩
  clear HF
  cases u1 with
  | false =>
    go_wp2_with fail
    go_ret
    exact ⟨by rw [HE.out]; rfl, HB.out⟩
  | true =>
    go_wp2_with ((with_reducible refine bl_load ?_ 27 (.tmp 7) ?_ w.heap.size 1 (ccs c.v (.slice pa c.l.length ca)) ?_ ?_ Tryz.underlying27 ?_ ?_ ?_); rfl; rfl; rfl; exact sd_ctx HR.out; rfl; exact infoC _ HV.out; simp only [Act.put, List.setIfInBounds_toArray, List.set_cons_zero, List.set_cons_succ])
    refine (HC.out W).mono ?_
    rintro e w1 ⟨rfl, hb1⟩
    have HB1 := Lib.hid (HB.out.trans (hb1.mono HB.out.size))
    clear hb1 hc0
    go_wp2_with fail
    go_ret
    exact ⟨by rw [HE.out]; rfl, HB1.out⟩

/-! dots -/
def dotsOk (l : List Ft) : Bool := decide (∀ f ∈ l, chkD f.d = 0)
theorem chkD_of {d : Dt} (h1 : ¬ d.1 < 0) (h2 : ¬ 15 < d.1) (h3 : ¬ d.2 < 1) (h4 : ¬ 1099511627776 < d.2) : chkD d = 0 := by
  unfold chkD
  rw [if_neg]
  omega
theorem chkD_no {d : Dt} (h : d.1 < 0 ∨ 15 < d.1 ∨ d.2 < 1 ∨ 1099511627776 < d.2) : chkD d ≠ 0 := fun k => by
  have := chkD_ok k
  omega
set_option maxHeartbeats 4000000 in
theorem dotsOkC (l : List Ft) (a : Option Addr) (cap : Nat) (w : World) (h : FIn w a l) (hl : l.length ≤ maxLen) :
    Calls Tryz.prog 14 #[.slice a l.length cap] w fun e w' => e = .returned (.bool (dotsOk l)) ∧ w = w' := by
  have H := Lib.hid h
  unfold maxLen at hl
  clear h
  go_enter Tryz.func14, Tryz.ntmps14
  go_wp2_with fail
  go_loopw [3] (fun i wr => ∃ k : Nat, k ≤ l.length ∧ i = .int .i64 k ∧ Hid (∀ j x, j < k → l[j]? = some x → chkD x.d = 0) ∧ w = wr) (fun i _ => l.length - (intOf i).toNat)
  case atStart => exact ⟨0, Nat.zero_le _, rfl, Lib.hid (fun j x hj => by omega), rfl⟩
  case round =>
    obtain ⟨k, hk, rfl, HP, rfl⟩ := hrel
    by_cases hlt : k < l.length
    · obtain ⟨f, hf⟩ : ∃ f, l[k]? = some f := ⟨_, List.getElem?_eq_getElem hlt⟩
      obtain ⟨fb, off, rfl, hbl, c0⟩ := H.out.at hf
      have hi1 : (k : Int) < (l.length : Int) := by omega
      have q0 := range_one c0 0 (v := .int .i64 f.d.1) rfl
      have q1 := range_one c0 1 (v := .int .i64 f.d.2) rfl
      rw [Nat.add_zero] at q0
      have HN := Lib.hid (show chkD f.d = 0 → ∀ j x, j < k + 1 → l[j]? = some x → chkD x.d = 0 from fun he j x hj hx => by
        rcases Nat.lt_or_ge j k with h1 | h1
        · exact HP.out j x h1 hx
        · obtain rfl : j = k := by omega
          rw [hf] at hx
          rw [← Option.some.inj hx]; exact he)
      have HM := Lib.hid (show chkD f.d ≠ 0 → dotsOk l = false from fun he => decide_eq_false fun hh => he (hh f (List.mem_of_getElem? hf)))
      have HD := Lib.hid (fun h1 h2 h3 h4 => chkD_of (d := f.d) h1 h2 h3 h4)
      have HDN := Lib.hid (fun h => chkD_no (d := f.d) h)
      clear c0 hf
      generalize f.d.1 = dr at *
      generalize f.d.2 = dq at *
      by_cases h1 : dr < 0
      · have HX := Lib.hid (HM.out (HDN.out (.inl h1)))
        clear HN HM HD HDN
        go_wp2_with fail
        go_ret
        exact ⟨by rw [HX.out]; rfl, rfl⟩
      by_cases h2 : 15 < dr
      · have HX := Lib.hid (HM.out (HDN.out (.inr (.inl h2))))
        clear HN HM HD HDN
        go_wp2_with fail
        go_ret
        exact ⟨by rw [HX.out]; rfl, rfl⟩
      by_cases h3 : dq < 1
      · have HX := Lib.hid (HM.out (HDN.out (.inr (.inr (.inl h3)))))
        clear HN HM HD HDN
        go_wp2_with fail
        go_ret
        exact ⟨by rw [HX.out]; rfl, rfl⟩
      by_cases h4 : 1099511627776 < dq
      · have HX := Lib.hid (HM.out (HDN.out (.inr (.inr (.inr h4)))))
        clear HN HM HD HDN
        go_wp2_with fail
        go_ret
        exact ⟨by rw [HX.out]; rfl, rfl⟩
      have HN2 := Lib.hid (HN.out (HD.out h1 h2 h3 h4))
      clear HN HM HD HDN
      go_wp2_with fail
      go_roundw
      case rel => exact ⟨k + 1, by omega, by go_num, HN2, by first | rfl | trivial⟩
      case measure => simp [intOf]; omega
    · obtain rfl : k = l.length := by omega
      have hi2 : ¬ (l.length : Int) < (l.length : Int) := by omega
      have HX := Lib.hid (show dotsOk l = true from decide_eq_true fun f hf => by
        obtain ⟨j, hj, hje⟩ := List.mem_iff_getElem.1 hf
        exact HP.out j f hj (by rw [List.getElem?_eq_getElem hj, hje]))
      clear HP
      go_wp2_with fail
      go_ret
      exact ⟨by rw [HX.out]; rfl, rfl⟩

/-! whole -/
theorem builtSd (l : List Ft) (la : Option Addr) (lk : Nat) {c : Cx} (h : c.v.length = 16) (pa : Option Addr) (ca : Nat) : Tryz.prog.built 29 [(0, .slice la l.length lk), (1, .agg (ccs c.v (.slice pa c.l.length ca)))] = some (sdc l la lk c pa ca) := by
  unfold sdc
  generalize l.length = n
  generalize c.l.length = m
  generalize c.v = v at h ⊢
  obtain ⟨x0, x1, x2, x3, x4, x5, x6, x7, x8, x9, x10, x11, x12, x13, x14, x15, rfl⟩ := list16 h
  kernel_rfl
theorem yield_BSd {ops : Array Oper} {S : World → Prop} {o : Oper} {a : Act} (hw : Region.wanted o (yielded ops a.tmps) = true) (x y : Operand) (ho : o.op = .build 29 #[(0, x), (1, y)]) (l : List Ft) (la : Option Addr) (lk : Nat) (c : Cx) (pa : Option Addr) (ca : Nat)
    (hx : a.eval x = .slice la l.length lk) (hy : a.eval y = .agg (ccs c.v (.slice pa c.l.length ca))) (hl : c.v.length = 16) : YieldsIf Tryz.prog ops S o (.agg (sdc l la lk c pa ca)) a := by
  refine .inl ⟨hw, fun w _ => ?_⟩
  have h := run_build (P := Tryz.prog) w 29 #[(0, .slice la l.length lk), (1, .agg (ccs c.v (.slice pa c.l.length ca)))] _ (builtSd l la lk hl pa ca)
  unfold execOp
  simp only [ho, List.map_toArray, List.map_cons, List.map_nil, hx, hy, Sem.run_bind, Sem.run_pure, Result.andThen_ok, h]
structure HoldW (w : World) (A : Array Value) (U : World) : Prop where
  blk : Blk U w.heap.size 29 A
  res : ∃ old, Blk U (w.heap.size + 1) 29 old ∧ old.size = 18
  low : Go.RowKit.Below w.heap.size w U
theorem HoldW.below {w U U' : World} {A : Array Value} (h : HoldW w A U) (hb : Go.RowKit.Below U.heap.size U U') : HoldW w A U' :=
  ⟨h.blk.keep hb, by obtain ⟨o, h1, h2⟩ := h.res; exact ⟨o, h1.keep hb, h2⟩, h.low.trans (hb.mono h.low.size)⟩

set_option maxHeartbeats 8000000 in
theorem wholeC (l : List Ft) (la : Option Addr) (lk : Nat) (c : Cx) (pa : Option Addr) (ca : Nat) (w : World) (hf : FIn w la l) (hl : l.length ≤ 20000) (hc : CIn w c pa) (hs : c.l.length + l.length ≤ 32768) :
    Calls Tryz.prog 15 #[.agg (sdc l la lk c pa ca)] w fun e w' => (∃ (o : Cx) (fa : Option Addr) (fk : Nat) (qa : Option Addr) (qk : Nat), e = .returned (.agg (sdc (sortF l) fa fk o qa qk)) ∧ AddOf c (sortD (l.map (·.d))) o ∧ FFrom w' w.heap.size fa (sortF l) ∧ Made w.heap.size w' o qa ∧ o.l.length ≤ c.l.length + l.length) ∧ Go.RowKit.Below w.heap.size w w' := by
  have HV := Lib.hid hc.v16
  have HI := Lib.hid (And.intro hf hc)
  have e1 : (w.alloc (.cells (sdc l la lk c pa ca) 29)).heap.size = w.heap.size + 1 := World.size_alloc _ _
  have h0 := (Blk.new w 29 (sdc l la lk c pa ca)).alloc (.cells (sdc [] none 0 zC none 0) 29)
  have h1 := Blk.new (w.alloc (.cells (sdc l la lk c pa ca) 29)) 29 (sdc [] none 0 zC none 0)
  rw [e1] at h1
  have H0 : Hid (HoldW w (sdc l la lk c pa ca) ((w.alloc (.cells (sdc l la lk c pa ca) 29)).alloc (.cells (sdc [] none 0 zC none 0) 29))) := Lib.hid ⟨h0, ⟨_, h1, by rw [sdc_size]; rfl⟩, (lowA w _).alloc (by rw [e1]; omega) _⟩
  have hml : (l.map (·.d)).length = l.length := List.length_map _
  have hsd := sortD_len (l.map (·.d))
  have hdk := fun W hh => dotsKR l la lk W hh (by omega)
  have hsk := fun W hh => sortFR l la lk W hh (by omega)
  have hsd2 : (sortD (l.map (·.d))).length ≤ l.length := by omega
  obtain ⟨ds, hds⟩ : ∃ ds, ds = sortD (l.map (·.d)) := ⟨_, rfl⟩
  obtain ⟨sf, hsf⟩ : ∃ sf, sf = sortF l := ⟨_, rfl⟩
  rw [← hds] at hdk hsd2
  rw [← hsf] at hsk
  have HDS := Lib.hid (And.intro hds hsf)
  have HDK := Lib.hid hdk
  have HSK := Lib.hid hsk
  have HSD := Lib.hid hsd2
  clear hf hc e1 h0 h1 hml hsd hdk hsk hsd2 hds hsf
  go_enter Tryz.func15, Tryz.ntmps15
  go_upto_region 1 with fail
  change Code.wp _ _ _ _ ((w.alloc (.cells (sdc l la lk c pa ca) 29)).alloc (.cells (sdc [] none 0 zC none 0) 29))
  generalize (w.alloc (.cells (sdc l la lk c pa ca) 29)).alloc (.cells (sdc [] none 0 zC none 0) 29) = W at *
  refine wp_region_held (S := fun U => HoldW w (sdc l la lk c pa ca) U) (by kernel_rfl) ?_
  change wpAnyH _ _ _ _ _ _ _ _ W.drew
  have K0 : (fun U => HoldW w (sdc l la lk c pa ca) U) W.drew := H0.out.below (Below.refl _ _).drew
  refine wpAnyH_take (i := 0) (oi := { dst := some 3, op := _, type := _, pos := _, after := _, guard := _ }) (v := ?v1) rfl (by kernel_rfl) (by kernel_rfl) (by kernel_rfl) (fun _ _ _ h => h) (Or.inl ⟨by rfl, ?hy1⟩) K0 ?rest1
  case hy1 => (intro w hSw; (try dsimp only at hSw); first | (go_simp; done) | (go_simp; with_reducible rfl))
  try simp only [Act.put, List.setIfInBounds_toArray, List.set_cons_zero, List.set_cons_succ]
  refine wpAnyH_take (i := 1) (oi := { dst := some 4, op := _, type := _, pos := _, after := _, guard := _ }) rfl (by kernel_rfl) (by kernel_rfl) (by kernel_rfl) (fun _ _ _ h => h) (yield_cF (by rfl) (.tmp 3) rfl w.heap.size 0 la l.length lk rfl (fun U hU => sd_facts hU.blk.all)) K0 ?_
  try simp only [Act.put, List.setIfInBounds_toArray, List.set_cons_zero, List.set_cons_succ]
  refine wpAnyH_take (i := 3) (oi := { dst := some 6, op := _, type := _, pos := _, after := _, guard := _ }) (v := ?v3) rfl (by kernel_rfl) (by kernel_rfl) (by kernel_rfl) (fun _ _ _ h => h) (Or.inl ⟨by rfl, ?hy3⟩) K0 ?rest3
  case hy3 => (intro w hSw; (try dsimp only at hSw); first | (go_simp; done) | (go_simp; with_reducible rfl))
  try simp only [Act.put, List.setIfInBounds_toArray, List.set_cons_zero, List.set_cons_succ]
  refine wpAnyH_take (i := 4) (oi := { dst := some 7, op := _, type := _, pos := _, after := _, guard := _ }) rfl (by kernel_rfl) (by kernel_rfl) (by kernel_rfl) (fun _ _ _ h => h) (b_yield (by rfl) 27 (.tmp 6) rfl w.heap.size 1 (ccs c.v (.slice pa c.l.length ca)) rfl (fun U hU => sd_ctx hU.blk.all) Tryz.underlying27 rfl (infoC _ HV.out)) K0 ?_
  try simp only [Act.put, List.setIfInBounds_toArray, List.set_cons_zero, List.set_cons_succ]
  refine wpAnyH_take (i := 5) (oi := { dst := some 8, op := _, type := _, pos := _, after := _, guard := _ }) (v := ?v5) rfl (by kernel_rfl) (by kernel_rfl) (by kernel_rfl) (fun _ _ _ h => h) (Or.inl ⟨by rfl, ?hy5⟩) K0 ?rest5
  case hy5 => (intro w hSw; (try dsimp only at hSw); first | (go_simp; done) | (go_simp; with_reducible rfl))
  try simp only [Act.put, List.setIfInBounds_toArray, List.set_cons_zero, List.set_cons_succ]
  refine wpAnyH_take (i := 6) (oi := { dst := some 9, op := _, type := _, pos := _, after := _, guard := _ }) rfl (by kernel_rfl) (by kernel_rfl) (by kernel_rfl) (fun _ _ _ h => h) (yield_cF (by rfl) (.tmp 8) rfl w.heap.size 0 la l.length lk rfl (fun U hU => sd_facts hU.blk.all)) K0 ?_
  try simp only [Act.put, List.setIfInBounds_toArray, List.set_cons_zero, List.set_cons_succ]
  refine wpAnyH_ready (rs := [2]) (by kernel_rfl) (by simp) ?_
  refine AllReadyH.cons (o := { dst := some 5, op := _, type := _, pos := _, after := _, guard := _ }) rfl (fun K hK => ?_) AllReadyH.nil
  go_simp
  refine (HSK.out _ (HI.out.1.below K0.low)).mono ?_
  rintro e u2 ⟨v2, rfl, hown, hb⟩
  have K2 := K0.below hb
  obtain ⟨fa, fk, rfl, hff, -⟩ := hown.from
  have HF2 := Lib.hid hff
  have HS2 := Lib.hid hb.size
  clear hff hb hown
  refine hK.out _ _ K2 (fun _ => ?_)
  clear hK K
  try simp only [Act.put, List.setIfInBounds_toArray, List.set_cons_zero, List.set_cons_succ]
  refine wpAnyH_ready (rs := [7]) (by kernel_rfl) (by simp) ?_
  refine AllReadyH.cons (o := { dst := some 10, op := _, type := _, pos := _, after := _, guard := _ }) rfl (fun K hK => ?_) AllReadyH.nil
  go_simp
  refine (HDK.out _ (HI.out.1.below K2.low)).mono ?_
  rintro e u7 ⟨v7, rfl, hown, hb⟩
  have K7 := K2.below hb
  obtain ⟨da, dk, rfl, hdi, -, -⟩ := hown.din2
  have HD7 := Lib.hid hdi
  have HB7 := Lib.hid hb
  clear hdi hb hown
  refine hK.out _ _ K7 (fun _ => ?_)
  clear hK K
  try simp only [Act.put, List.setIfInBounds_toArray, List.set_cons_zero, List.set_cons_succ]
  refine wpAnyH_ready (rs := [8]) (by kernel_rfl) (by simp) ?_
  refine AllReadyH.cons (o := { dst := some 11, op := _, type := _, pos := _, after := _, guard := _ }) rfl (fun K hK => ?_) AllReadyH.nil
  go_simp
  refine (addRC c ds pa da ca dk _ (HI.out.2.below K7.low) HD7.out (by have := HSD.out; omega)).mono ?_
  rintro e u8 ⟨⟨o, oa, oc, rfl, hof, hmd, hol⟩, hb⟩
  have K8 := K7.below hb
  have HO := Lib.hid (And.intro hof (And.intro hmd (show o.l.length ≤ c.l.length + l.length by have := HSD.out; omega)))
  have HB8 := Lib.hid hb
  clear hof hmd hol hb
  refine hK.out _ _ K8 (fun _ => ?_)
  clear hK K
  try simp only [Act.put, List.setIfInBounds_toArray, List.set_cons_zero, List.set_cons_succ]
  refine wpAnyH_take (i := 9) (oi := { dst := some 12, op := _, type := _, pos := _, after := _, guard := _ }) rfl (by kernel_rfl) (by kernel_rfl) (by kernel_rfl) (fun _ _ _ h => h) (yield_BSd (by rfl) (.tmp 5) (.tmp 11) rfl sf fa fk o oa oc rfl rfl HO.out.2.1.v16) K8 ?_
  try simp only [Act.put, List.setIfInBounds_toArray, List.set_cons_zero, List.set_cons_succ]
  refine wpAnyH_ready (rs := [10]) (by kernel_rfl) (by simp) ?_
  refine AllReadyH.cons (o := { dst := none, op := _, type := _, pos := _, after := _, guard := _ }) rfl (fun K hK => ?_) AllReadyH.nil
  refine draw_storeB rfl 29 (.tmp 2) (.tmp 12) rfl (w.heap.size + 1) (sdc sf fa fk o oa oc) rfl rfl (infoSd HO.out.2.1.v16) (sdc_one _ _ _ _ _ _) (by rw [sdc_size, HO.out.2.1.v16]; exact K8.res) ?_
  have HRR := Lib.hid (show Blk (u8.setRow (w.heap.size + 1) (sdc sf fa fk o oa oc)) (w.heap.size + 1) 29 (sdc sf fa fk o oa oc) from by obtain ⟨old, h1, -⟩ := K8.res; exact h1.put _)
  have K10 : HoldW w (sdc l la lk c pa ca) (u8.setRow (w.heap.size + 1) (sdc sf fa fk o oa oc)) := ⟨K8.blk.other (by omega) _, ⟨_, HRR.out, by rw [sdc_size, HO.out.2.1.v16]⟩, belowRow K8.low (by omega) _⟩
  refine hK.out _ _ K10 (fun _ => ?_)
  clear hK K
  try simp only [Act.put, List.setIfInBounds_toArray, List.set_cons_zero, List.set_cons_succ]
  refine wpAnyH_done (by kernel_rfl) ?_ _
  try simp only [Act.put, List.setIfInBounds_toArray, List.set_cons_zero, List.set_cons_succ]
  have HZ := Lib.hid K10.low
  have hs0 : w.heap.size + 2 ≤ W.heap.size := by obtain ⟨_, h1, _⟩ := H0.out.res; have := h1.lt; omega
  have HS0 := Lib.hid hs0
  have HF9 := Lib.hid (And.intro ((HF2.out.below HB7.out).below HB8.out) HO.out.2.1)
  clear K0 K2 K7 K8 K10 hs0
  go_wp2_with fail
  exact bodyPost_ret (results_cell_row rfl _ _ (w.heap.size + 1) 29 (sdc sf fa fk o oa oc) (0, 0) _ rfl HRR.out Tryz.underlying29 rfl (infoSd HO.out.2.1.v16)) rfl ⟨⟨o, fa, fk, oa, oc, by rw [← HDS.out.2], by rw [← HDS.out.1]; exact HO.out.1,
    by rw [← HDS.out.2]; exact (HF9.out.1.setRow (show w.heap.size + 1 < W.drew.heap.size by have h := HS0.out; show _ < W.heap.size; omega) _).mono (show w.heap.size ≤ W.drew.heap.size by have h := HS0.out; show _ ≤ W.heap.size; omega),
    (HF9.out.2.setRow (show w.heap.size + 1 < u7.heap.size by have h := HS0.out; have h2 : W.heap.size ≤ u2.heap.size := HS2.out; have h3 := HB7.out.size; omega) _).mono (show w.heap.size ≤ u7.heap.size by have h := HS0.out; have h2 : W.heap.size ≤ u2.heap.size := HS2.out; have h3 := HB7.out.size; omega), HO.out.2.2⟩, HZ.out⟩
end Go.Proofs.YtcedliaeipabnaaGreat
