/-
  list.Has at facts: list.Compare, its closure, a fact looked for among facts that rise.
  What is left of facts, as plain lists: two sides put together; that it does not hang on the order, nor on how often; deltas applied in whatever order.
  What is left, as the program reckons it: each side sorted, and gone over; two facts that say the same, told by a list that gets shorter; deltas that may be, as the statement asks.
  What the statements' proofs share: how arguments that came in are opened.
  How a name that came in is opened.
-/
import Derived.Test.YtcedliaeipabnaaGreatGKernO
import Derived.Shelf.Abstract
import Derived.Test.YtcedliaeipabnaaGreatGKernC
import Derived.Test.YtcedliaeipabnaaGreatGKernG
import Derived.Test.YtcedliaeipabnaaGreatGKernA
import Derived.ProofKit
import Derived.OpenShut
import Derived.ShutString
import Derived.ChangeOld
import Derived.Below
import Derived.SliceStrings
import Derived.Carry
import Derived.LaidMore
import Derived.MakeChecks
import Derived.Stop.Joined
import Derived.Lib.LaidTab
import Derived.Test.YtcedliaeipabnaaGreatGKernB
import Derived.LaidLaws
namespace Go.Proofs.YtcedliaeipabnaaGreat
set_option linter.unusedSimpArgs false
set_option linter.unusedVariables false
set_option maxRecDepth 100000
open Go.RowKit Go.Sort Go.Shelf

structure LessF (w : World) (b : Nat) : Prop where
  cell : w.cell? ⟨b, 0, none⟩ = some (.func (.func 36) #[] #[])
  lt : b < w.heap.size
theorem LessF.below {w w' : World} {b : Nat} (h : LessF w b) (hb : Go.RowKit.Below w.heap.size w w') : LessF w' b :=
  ⟨by rw [hb.cell (p := ⟨b, 0, none⟩) h.lt]; exact h.cell, Nat.lt_of_lt_of_le h.lt hb.size⟩
theorem ent_hasF : ∀ args w, (callFunc 77 args).run Tryz.prog w = .ok (.enter 77 args) w := enters_of Tryz.func77 (by kernel_rfl) rfl
theorem boxF2_low (w : World) (a b : Ft) : Go.RowKit.Below w.heap.size w (boxF (boxF w a) b) := ((boxF_gr w a).trans (boxF_gr _ b)).below

/-- list.Compare of facts -/
theorem cmpF_val (a b : Ft) : cmpF a b = if ltF a b = true then -1 else if ltF b a = true then 1 else 0 := rfl
set_option maxHeartbeats 2000000 in
theorem compareF (a b : Ft) (w : World) : Calls Tryz.prog 78 #[.func (.func 36) #[] #[], .agg (fcs a).toArray, .agg (fcs b).toArray] w fun e w' => e = .returned (.int .i64 (cmpF a b)) ∧ Go.RowKit.Below w.heap.size w w' := by
  have hl := fun W => lessFC a b W
  have hm := fun W => lessFC b a W
  have hin := boxF2_in w a b
  have hlow := boxF2_low w a b
  have hlt : w.heap.size < (boxF (boxF w a) b).heap.size ∧ w.heap.size + 1 < (boxF (boxF w a) b).heap.size := by rw [boxF_size, boxF_size]; omega
  rw [cmpF_val]
  generalize ltF a b = p at *
  generalize ltF b a = q at *
  have HL := Lib.hid hl
  have HM := Lib.hid hm
  have HIN := Lib.hid hin
  have HLO := Lib.hid hlow
  have HLT := Lib.hid hlt
  clear hl hm hin hlow hlt
  cases p with
  | true =>
    rw [if_pos rfl]
    clear HM
    go_enter Tryz.func78, Tryz.ntmps78
    go_upto_region 1 with fail
    change Code.wp _ _ _ _ (boxF (boxF w a) b)
    generalize boxF (boxF w a) b = W at *
    go_wp2_with (first
      | ((with_reducible refine fl_load ?_ (.tmp 4) ?_ w.heap.size 0 a ?_ ?_ ?_); rfl; rfl; rfl; exact HIN.out.1)
      | ((with_reducible refine fl_load ?_ (.tmp 5) ?_ (w.heap.size + 1) 0 b ?_ ?_ ?_); rfl; rfl; rfl; exact HIN.out.2))
    refine (HL.out _).mono ?_
    rintro e w1 ⟨rfl, hb⟩
    have H := Lib.hid (HLO.out.trans (hb.mono HLO.out.size))
    clear hb
    go_wp2_with fail
    go_ret
    exact ⟨rfl, H.out⟩
  | false =>
    rw [if_neg (by simp)]
    go_enter Tryz.func78, Tryz.ntmps78
    go_upto_region 1 with fail
    change Code.wp _ _ _ _ (boxF (boxF w a) b)
    generalize boxF (boxF w a) b = W at *
    go_wp2_with (first
      | ((with_reducible refine fl_load ?_ (.tmp 4) ?_ w.heap.size 0 a ?_ ?_ ?_); rfl; rfl; rfl; exact HIN.out.1)
      | ((with_reducible refine fl_load ?_ (.tmp 5) ?_ (w.heap.size + 1) 0 b ?_ ?_ ?_); rfl; rfl; rfl; exact HIN.out.2))
    refine (HL.out _).mono ?_
    rintro e w1 ⟨rfl, hb⟩
    have HIN1 := Lib.hid (And.intro (range_below HIN.out.1 hb HLT.out.1) (range_below HIN.out.2 hb HLT.out.2))
    have H := Lib.hid (HLO.out.trans (hb.mono HLO.out.size))
    clear hb HIN HL
    go_wp2_with (first
      | ((with_reducible refine fl_load ?_ (.tmp 4) ?_ w.heap.size 0 a ?_ ?_ ?_); rfl; rfl; rfl; exact HIN1.out.1)
      | ((with_reducible refine fl_load ?_ (.tmp 5) ?_ (w.heap.size + 1) 0 b ?_ ?_ ?_); rfl; rfl; rfl; exact HIN1.out.2))
    refine (HM.out _).mono ?_
    rintro e w2 ⟨rfl, hb⟩
    have H2 := Lib.hid (H.out.trans (hb.mono H.out.size))
    clear hb
    cases q with
    | true =>
      go_wp2_with fail
      go_ret
      exact ⟨rfl, H2.out⟩
    | false =>
      go_wp2_with fail
      go_ret
      exact ⟨rfl, H2.out⟩

set_option maxHeartbeats 1000000 in
theorem hasF1 (a b : Ft) (bl : Nat) (w : World) (h : LessF w bl) : Calls Tryz.prog 77 #[.agg (fcs a).toArray, .agg (fcs b).toArray, .pointer (some ⟨bl, 0, none⟩)] w fun e w' => e = .returned (.int .i64 (cmpF a b)) ∧ Go.RowKit.Below w.heap.size w w' := by
  have hl := fun W => compareF a b W
  have hlow := boxF2_low w a b
  have hc := (h.below hlow).cell
  have hin := boxF2_in w a b
  have HB := Lib.hid hlow
  have HIN := Lib.hid hin
  have HL := Lib.hid hl
  clear h hlow hin hl
  generalize cmpF a b = c at *
  go_enter Tryz.func77, Tryz.ntmps77
  go_upto_region 1 with fail
  change Code.wp _ _ _ _ (boxF (boxF w a) b)
  generalize boxF (boxF w a) b = W at *
  go_wp2_with (first
    | ((with_reducible refine fl_load ?_ (.tmp 3) ?_ w.heap.size 0 a ?_ ?_ ?_); rfl; rfl; rfl; exact HIN.out.1)
    | ((with_reducible refine fl_load ?_ (.tmp 4) ?_ (w.heap.size + 1) 0 b ?_ ?_ ?_); rfl; rfl; rfl; exact HIN.out.2))
  refine (HL.out _).mono ?_
  rintro e w1 ⟨rfl, hb⟩
  have H := Lib.hid (HB.out.trans (hb.mono HB.out.size))
  clear hb
  go_wp2_with fail
  go_ret
  exact ⟨rfl, H.out⟩

theorem cmpF_neg (a b : Ft) : cmpF a b < 0 ↔ ltF a b = true := by
  have := cmpO_neg ltF a b
  rw [← this, decide_eq_true_eq]
theorem cmpF_zero (a b : Ft) : cmpF a b = 0 ↔ a = b := cmpO_zero ⟨ltF_irr, ltF_trans, ltF_tri⟩
/-- the place of the first one that is not less -/
theorem foundF_iff {l : List Ft} (hs : RiseF l) (d : Ft) {i : Nat} (h1 : ∀ (k : Nat) (x : Ft), k < i → l[k]? = some x → ltF x d = true) (h2 : ∀ (k : Nat) (x : Ft), i ≤ k → l[k]? = some x → ltF x d = false) :
    decide (d ∈ l) = true ↔ l[i]? = some d := by
  rw [decide_eq_true_eq]
  constructor
  · intro hd
    obtain ⟨j, hj, hjd⟩ := List.mem_iff_getElem.1 hd
    have hjd' : l[j]? = some d := by rw [List.getElem?_eq_getElem hj, hjd]
    rcases Nat.lt_or_ge j i with h | h
    · have := h1 j d h hjd'
      rw [ltF_irr] at this; cases this
    · rcases Nat.eq_or_lt_of_le h with e | h3
      · rw [e]; exact hjd'
      · obtain ⟨x, hx⟩ : ∃ x, l[i]? = some x := ⟨_, List.getElem?_eq_getElem (by omega)⟩
        have h4 := h2 i x (Nat.le_refl _) hx
        have h5 := List.pairwise_iff_getElem.1 hs i j (by omega) hj h3
        obtain ⟨hil, hxe⟩ := List.getElem?_eq_some_iff.1 hx
        rw [hxe, hjd, h4] at h5
        cases h5
  · exact fun h => List.mem_of_getElem? h

set_option maxHeartbeats 4000000 in
theorem searchF (l : List Ft) (d : Ft) (a : Option Addr) (cap : Nat) (w : World) (h : FIn w a l) (hl : l.length ≤ 65536) (hs : RiseF l) (bl : Nat) (hle : LessF w bl) :
    Calls Tryz.prog 76 #[.slice a l.length cap, .agg (fcs d).toArray, .func (.func 77) #[] #[.pointer (some ⟨bl, 0, none⟩)]] w fun e w' => (∃ i : Nat, e = .returned (.tuple #[.int .i64 (i : Int), .bool (decide (d ∈ l))])) ∧ Go.RowKit.Below w.heap.size w w' := by
  have hent := ent_hasF
  have H := Lib.hid h
  have HS := Lib.hid hs
  have hm : ∀ i : Nat, (∀ (k : Nat) (x : Ft), k < i → l[k]? = some x → ltF x d = true) → (∀ (k : Nat) (x : Ft), i ≤ k → l[k]? = some x → ltF x d = false) → (decide (d ∈ l) = true ↔ l[i]? = some d) := fun i h1 h2 => foundF_iff HS.out d h1 h2
  have HM := Lib.hid hm
  have hdp : ∃ u, u = decide (d ∈ l) := ⟨_, rfl⟩
  obtain ⟨u, hu⟩ := hdp
  rw [← hu] at HM
  rw [← hu]
  clear hu hm
  have hB0 := (boxF_gr w d).below
  have HQ := Lib.hid (And.intro (boxF_in w d) (And.intro trivial (And.intro hB0 (show w.heap.size < (boxF w d).heap.size by rw [boxF_size]; omega))))
  have HLE := Lib.hid (hle.below hB0)
  clear h hs hB0 hle
  have hX := fun x W (hW : LessF W bl) => hasF1 x d bl W hW
  have hN := fun x => cmpF_neg x d
  have hZ := fun x => cmpF_zero x d
  have HX := Lib.hid (And.intro hX (And.intro hN hZ))
  clear hX hN hZ
  go_enter Tryz.func76, Tryz.ntmps76
  go_upto_region 1 with fail
  change Code.wp _ _ _ _ (boxF w d)
  generalize hW0 : boxF w d = W0 at *
  clear hW0
  go_wp2_with fail
  go_loopw [9, 10] (fun x y wr => ∃ i j : Nat, i ≤ j ∧ j ≤ l.length ∧ x = .int .i64 i ∧ y = .int .i64 j ∧ Hid (∀ (k : Nat) (x : Ft), k < i → l[k]? = some x → ltF x d = true) ∧ Hid (∀ (k : Nat) (x : Ft), j ≤ k → l[k]? = some x → ltF x d = false) ∧ Go.RowKit.Below W0.heap.size W0 wr) (fun x y _ => (intOf y).toNat - (intOf x).toNat)
  case atStart => exact ⟨0, l.length, by omega, Nat.le_refl _, rfl, rfl, Lib.hid (fun k x hk => absurd hk (by omega)), Lib.hid (fun k x hk hf => absurd (List.getElem?_eq_some_iff.1 hf).1 (by omega)), Below.refl _ _⟩
  case round =>
    obtain ⟨i, j, hij, hj, rfl, rfl, h1, h2, hb⟩ := hrel
    have HB := Lib.hid hb
    have hbs := hb.size
    have HS0 := Lib.hid (range_regrown (range_below HQ.out.1 hb HQ.out.2.2.2) (Nat.lt_of_lt_of_le HQ.out.2.2.2 hbs))
    have hin : FIn wr a l := (H.out.below HQ.out.2.2.1).below hb
    have hle2 := HLE.out.below hb
    clear hb
    by_cases hlt : i < j
    · obtain ⟨x, hx⟩ : ∃ x, l[(i + j) / 2]? = some x := ⟨_, List.getElem?_eq_getElem (by omega)⟩
      obtain ⟨b, off, rfl, hbl, c0⟩ := hin.at hx
      have HR0 := Lib.hid (range_regrown c0 hbl)
      have cX := fun d os => Calls.regrown_of (HX.out.1 x (grow (redrawn wr d) os) (hle2.below (below_regrown wr d os)))
      have hneg := HX.out.2.1 x
      have HXX := Lib.hid hx
      generalize cmpF x d = c at *
      have HCX := Lib.hid cX
      clear hx cX hin hle2 c0
      have hm0 : (((i + j) / 2 : Nat) : Int) < (l.length : Int) := by omega
      have hm1 : (0 : Int) ≤ (((i + j) / 2 : Nat) : Int) := by omega
      by_cases hc : c < 0
      · have hd : decide (c < 0) = true := by simp [hc]
        have hlt1 : ltF x d = true := hneg.1 hc
        have HK2 := Lib.hid (show ∀ (k : Nat) (x : Ft), k < (i + j) / 2 + 1 → l[k]? = some x → ltF x d = true from fun k y hk hy => by
          by_cases e : k = (i + j) / 2
          · subst e
            rw [HXX.out] at hy
            obtain rfl := Option.some.inj hy
            exact hlt1
          · obtain ⟨hk1, hk2⟩ := List.getElem?_eq_some_iff.1 hy
            obtain ⟨hk3, hk4⟩ := List.getElem?_eq_some_iff.1 HXX.out
            have h5 := ltF_asym (List.pairwise_iff_getElem.1 HS.out k ((i + j) / 2) hk1 hk3 (by omega))
            rw [hk2, hk4] at h5
            rcases ltF_tri y d with h6 | h6 | h6
            · exact h6
            · subst h6; rw [hlt1] at h5; cases h5
            · have := ltF_trans hlt1 h6; rw [this] at h5; cases h5)
        clear hneg hlt1
        go_upto_region 5 with fail
        refine wp_region_quiet_below (by kernel_rfl) (by kernel_rfl) ?_
        repeat (first | ((with_reducible refine fq_load ?_ (.tmp 27) ?_ b (off + (i + j) / 2 * 8) x ?_ ?_ ?_); rfl; rfl; rfl; exact HR0.out; simp only [Act.put, List.setIfInBounds_toArray, List.set_cons_zero, List.set_cons_succ]) | ((with_reducible refine fq_load ?_ (.tmp 4) ?_ w.heap.size (0) d ?_ ?_ ?_); rfl; rfl; rfl; exact HS0.out; simp only [Act.put, List.setIfInBounds_toArray, List.set_cons_zero, List.set_cons_succ]) | go_big_quiet_step ((go_at_call 77; with_reducible exact HCX.out _ _)) | quiet_step ((go_at_call 77; with_reducible exact HCX.out _ _)))
        refine wpQuiet_nil ?_
        intro _ hw'
        obtain ⟨⟨dq', osq⟩, hw''⟩ := hw'
        subst hw''
        have HB9 := Lib.hid (HB.out.trans ((below_regrown wr dq' osq).mono hbs))
        clear HCX HR0 HS0
        generalize grow (redrawn wr dq') osq = W at *
        go_wp2_with fail
        go_roundw
        case rel => exact ⟨(i + j) / 2 + 1, j, by omega, hj, by go_num, rfl, HK2, h2, HB9.out⟩
        case measure => simp [intOf]; omega
      · have hd : decide (c < 0) = false := by simp; omega
        have hlt1 : ltF x d = false := Bool.eq_false_iff.2 (fun h => hc (hneg.2 h))
        have HK2 := Lib.hid (show ∀ (k : Nat) (x : Ft), (i + j) / 2 ≤ k → l[k]? = some x → ltF x d = false from fun k y hk hy => by
          by_cases e : k = (i + j) / 2
          · subst e
            rw [HXX.out] at hy
            obtain rfl := Option.some.inj hy
            exact hlt1
          · obtain ⟨hk1, hk2⟩ := List.getElem?_eq_some_iff.1 hy
            obtain ⟨hk3, hk4⟩ := List.getElem?_eq_some_iff.1 HXX.out
            have h5 := ltF_asym (List.pairwise_iff_getElem.1 HS.out ((i + j) / 2) k hk3 hk1 (by omega))
            rw [hk2, hk4] at h5
            refine Bool.eq_false_iff.2 fun h6 => ?_
            rcases ltF_tri x y with h7 | h7 | h7
            · have := ltF_trans h7 h6; rw [this] at hlt1; cases hlt1
            · rw [h7] at hlt1; rw [h6] at hlt1; cases hlt1
            · rw [h5] at h7; cases h7)
        clear hneg hlt1
        go_upto_region 5 with fail
        refine wp_region_quiet_below (by kernel_rfl) (by kernel_rfl) ?_
        repeat (first | ((with_reducible refine fq_load ?_ (.tmp 27) ?_ b (off + (i + j) / 2 * 8) x ?_ ?_ ?_); rfl; rfl; rfl; exact HR0.out; simp only [Act.put, List.setIfInBounds_toArray, List.set_cons_zero, List.set_cons_succ]) | ((with_reducible refine fq_load ?_ (.tmp 4) ?_ w.heap.size (0) d ?_ ?_ ?_); rfl; rfl; rfl; exact HS0.out; simp only [Act.put, List.setIfInBounds_toArray, List.set_cons_zero, List.set_cons_succ]) | go_big_quiet_step ((go_at_call 77; with_reducible exact HCX.out _ _)) | quiet_step ((go_at_call 77; with_reducible exact HCX.out _ _)))
        refine wpQuiet_nil ?_
        intro _ hw'
        obtain ⟨⟨dq', osq⟩, hw''⟩ := hw'
        subst hw''
        have HB9 := Lib.hid (HB.out.trans ((below_regrown wr dq' osq).mono hbs))
        clear HCX HR0 HS0
        generalize grow (redrawn wr dq') osq = W at *
        go_wp2_with fail
        go_roundw
        case rel => exact ⟨i, (i + j) / 2, by omega, by omega, rfl, by go_num, h1, HK2, HB9.out⟩
        case measure => simp [intOf]; omega
    · obtain rfl : i = j := by omega
      have hfound := HM.out i h1.out h2.out
      by_cases hil : i < l.length
      · obtain ⟨x, hx⟩ : ∃ x, l[i]? = some x := ⟨_, List.getElem?_eq_getElem hil⟩
        obtain ⟨b, off, rfl, hbl, c0⟩ := hin.at hx
        have HR0 := Lib.hid (range_regrown c0 hbl)
        have cX := fun d os => Calls.regrown_of (HX.out.1 x (grow (redrawn wr d) os) (hle2.below (below_regrown wr d os)))
        have hzero := HX.out.2.2 x
        have hue : (cmpF x d == 0) = u := by
          rw [Bool.eq_iff_iff]
          rw [hfound, hx]
          simp only [beq_iff_eq, Option.some.injEq]
          exact hzero
        generalize cmpF x d = c at *
        have HCX := Lib.hid cX
        have hm0 : (i : Int) < (l.length : Int) := by omega
        have hm2 : decide ((i : Int) < (l.length : Int)) = true := by simp; omega
        clear hx cX hin hzero hfound hlt hle2 c0
        go_upto_region 8 with fail
        refine wp_region_quiet_below (by kernel_rfl) (by kernel_rfl) ?_
        repeat (first | ((with_reducible refine fq_load ?_ (.tmp 43) ?_ b (off + i * 8) x ?_ ?_ ?_); rfl; rfl; rfl; exact HR0.out; simp only [Act.put, List.setIfInBounds_toArray, List.set_cons_zero, List.set_cons_succ]) | ((with_reducible refine fq_load ?_ (.tmp 4) ?_ w.heap.size (0) d ?_ ?_ ?_); rfl; rfl; rfl; exact HS0.out; simp only [Act.put, List.setIfInBounds_toArray, List.set_cons_zero, List.set_cons_succ]) | go_big_quiet_step ((go_at_call 77; with_reducible exact HCX.out _ _)) | quiet_step ((go_at_call 77; with_reducible exact HCX.out _ _)))
        refine wpQuiet_nil ?_
        intro _ hw'
        obtain ⟨⟨dq', osq⟩, hw''⟩ := hw'
        subst hw''
        have HB9 := Lib.hid (HQ.out.2.2.1.trans ((HB.out.trans ((below_regrown wr dq' osq).mono hbs)).mono HQ.out.2.2.1.size))
        clear HCX HR0 HS0
        generalize grow (redrawn wr dq') osq = W at *
        go_wp2_with fail
        go_ret2
        exact ⟨⟨i, by first | rfl | (rw [← hue]; rfl) | (rw [hue]; rfl)⟩, HB9.out⟩
      · have hue : u = false := by
          refine Bool.eq_false_iff.2 fun h => ?_
          have := (List.getElem?_eq_some_iff.1 (hfound.1 h)).1
          omega
        have hm2 : decide ((i : Int) < (l.length : Int)) = false := by simp; omega
        subst hue
        clear hin hfound hlt hle2
        go_upto_region 8 with fail
        refine wp_region_quiet_below (by kernel_rfl) (by kernel_rfl) ?_
        repeat (first | go_big_quiet_step (fail) | quiet_step (fail))
        refine wpQuiet_nil ?_
        intro _ hw'
        obtain ⟨⟨dq', osq⟩, hw''⟩ := hw'
        subst hw''
        have HB9 := Lib.hid (HQ.out.2.2.1.trans ((HB.out.trans ((below_regrown wr dq' osq).mono hbs)).mono HQ.out.2.2.1.size))
        clear HS0
        generalize grow (redrawn wr dq') osq = W at *
        go_wp2_with fail
        go_ret2
        exact ⟨⟨i, rfl⟩, HB9.out⟩

set_option maxHeartbeats 1000000 in
theorem lhasF (l : List Ft) (d : Ft) (a : Option Addr) (cap : Nat) (w : World) (h : FIn w a l) (hl : l.length ≤ 65536) (hs : RiseF l) :
    Calls Tryz.prog 47 #[.slice a l.length cap, .func (.func 36) #[] #[], .agg (fcs d).toArray] w fun e w' => e = .returned (.bool (decide (d ∈ l))) ∧ Go.RowKit.Below w.heap.size w w' := by
  have hB0 : Go.RowKit.Below w.heap.size w (boxF (w.alloc (.cells #[.func (.func 36) #[] #[]] 75)) d) := ((Below.refl _ w).alloc (Nat.le_refl _) _).trans ((boxF_gr _ d).below.mono (by simp))
  have hle : LessF (boxF (w.alloc (.cells #[.func (.func 36) #[] #[]] 75)) d) w.heap.size :=
    LessF.below ⟨by rw [Joins.cell_of_block (heap_alloc_new w _)]; rfl, by simp⟩ (boxF_gr _ d).below
  have HS := Lib.hid (searchF l d a cap _ (h.below hB0) hl hs w.heap.size hle)
  have HB := Lib.hid hB0
  have HR := Lib.hid (boxF_in (w.alloc (.cells #[.func (.func 36) #[] #[]] 75)) d)
  clear h hs hB0 hle
  generalize decide (d ∈ l) = u at *
  go_enter Tryz.func47, Tryz.ntmps47
  go_upto_region 1 with fail
  change Code.wp _ _ _ _ (boxF (w.alloc (.cells #[.func (.func 36) #[] #[]] 75)) d)
  have hsz : (w.alloc (.cells #[.func (.func 36) #[] #[]] 75)).heap.size = w.heap.size + 1 := by simp
  rw [hsz] at HR
  clear hsz
  generalize boxF (w.alloc (.cells #[.func (.func 36) #[] #[]] 75)) d = W at *
  go_wp2_with ((with_reducible refine fl_load ?_ (.tmp 5) ?_ (w.heap.size + 1) 0 d ?_ ?_ ?_); rfl; rfl; rfl; exact HR.out)
  refine HS.out.mono ?_
  rintro e w1 ⟨⟨i, rfl⟩, hb⟩
  have H1 := Lib.hid (HB.out.trans (hb.mono HB.out.size))
  clear hb HS
  go_wp2_with fail
  go_ret
  exact ⟨rfl, H1.out⟩
end Go.Proofs.YtcedliaeipabnaaGreat

namespace Go.Proofs.YtcedliaeipabnaaGreat
set_option linter.unusedSimpArgs false
set_option linter.unusedVariables false

/-- the facts that both have, and those of each whose dots the other has not -/
def keptK (a : List Ft) (ac : Cx) (b : List Ft) (bc : Cx) : List Ft := a.filter (fun f => decide (f ∈ b) || !hasC bc f.d) ++ b.filter (fun f => !hasC ac f.d)
def joinK (a : List Ft) (ac : Cx) (b : List Ft) (bc : Cx) : List Ft := sortF (keptK a ac b bc)
theorem mem_joinK {a b : List Ft} {ac bc : Cx} {f : Ft} : f ∈ joinK a ac b bc ↔ (f ∈ a ∧ (f ∈ b ∨ hasC bc f.d = false)) ∨ (f ∈ b ∧ hasC ac f.d = false) := by
  unfold joinK keptK
  rw [mem_sortF, List.mem_append, List.mem_filter, List.mem_filter]
  simp
theorem rise_joinK (a : List Ft) (ac : Cx) (b : List Ft) (bc : Cx) : RiseF (joinK a ac b bc) := riseF_sortF _
theorem joinK_len (a : List Ft) (ac : Cx) (b : List Ft) (bc : Cx) : (joinK a ac b bc).length ≤ a.length + b.length := by
  refine Nat.le_trans (sortF_len _) ?_
  unfold keptK
  rw [List.length_append]
  have h1 := List.length_filter_le (fun f => decide (f ∈ b) || !hasC bc f.d) a
  have h2 := List.length_filter_le (fun f : Ft => !hasC ac f.d) b
  omega

/-- a side whose context has the dots of its facts -/
structure Whole (l : List Ft) (c : Cx) : Prop where
  rise : RiseF l
  has : ∀ f ∈ l, hasC c f.d = true
theorem joinK_comm (a b : List Ft) (ac bc : Cx) : joinK a ac b bc = joinK b bc a ac :=
  riseF_same (rise_joinK _ _ _ _) (rise_joinK _ _ _ _) fun f => by
    rw [mem_joinK, mem_joinK]
    constructor
    · rintro (⟨h, k | k⟩ | ⟨h, k⟩)
      · exact .inl ⟨k, .inl h⟩
      · exact .inr ⟨h, k⟩
      · exact .inl ⟨h, .inr k⟩
    · rintro (⟨h, k | k⟩ | ⟨h, k⟩)
      · exact .inl ⟨k, .inl h⟩
      · exact .inr ⟨h, k⟩
      · exact .inl ⟨h, .inr k⟩
theorem Whole.join {a b : List Ft} {ac bc j : Cx} (ha : Whole a ac) (hb : Whole b bc) (hj : JoinOf ac bc j) : Whole (joinK a ac b bc) j :=
  ⟨rise_joinK _ _ _ _, fun f hf => by
    rw [hj.has]
    rcases mem_joinK.1 hf with ⟨h, -⟩ | ⟨h, -⟩
    · rw [ha.has f h, Bool.true_or]
    · rw [hb.has f h, Bool.or_true]⟩
theorem joinK_again {a b : List Ft} {ac bc j : Cx} (hb : Whole b bc) (hj : JoinOf ac bc j) : joinK (joinK a ac b bc) j b bc = joinK a ac b bc :=
  riseF_same (rise_joinK _ _ _ _) (rise_joinK _ _ _ _) fun f => by
    rw [mem_joinK, mem_joinK (a := a), hj.has]
    have hB := hb.has f
    constructor
    · rintro (⟨h, -⟩ | ⟨h, k⟩)
      · exact h
      · rw [hB h, Bool.or_true] at k; cases k
    · rintro (⟨h, k | k⟩ | ⟨h, k⟩)
      · exact .inl ⟨.inl ⟨h, .inl k⟩, .inl k⟩
      · exact .inl ⟨.inl ⟨h, .inr k⟩, .inr k⟩
      · exact .inl ⟨.inr ⟨h, k⟩, .inl h⟩
theorem joinK_assoc {a b c : List Ft} {ac bc cc j q : Cx} (ha : Whole a ac) (hb : Whole b bc) (hc : Whole c cc) (hj : JoinOf ac bc j) (hq : JoinOf bc cc q) :
    joinK (joinK a ac b bc) j c cc = joinK a ac (joinK b bc c cc) q :=
  riseF_same (rise_joinK _ _ _ _) (rise_joinK _ _ _ _) fun f => by
    rw [mem_joinK, mem_joinK (a := a), mem_joinK (a := a), mem_joinK (a := b), hj.has, hq.has]
    have hA := ha.has f
    have hB := hb.has f
    have hC := hc.has f
    generalize hasC ac f.d = x at *
    generalize hasC bc f.d = y at *
    generalize hasC cc f.d = z at *
    clear ha hb hc hj hq
    by_cases A : f ∈ a <;> by_cases B : f ∈ b <;> by_cases C : f ∈ c <;> cases x <;> cases y <;> cases z <;> simp_all

/-! deltas -/
structure Dl where
  d : Dt
  s : St
  l : List Ft
  g : List Dt
deriving DecidableEq
/-- what a delta's context has -/
structure OfK (e : Dl) (o : Cx) : Prop where
  has : ∀ z, hasC o z = (decide (chkD z = 0) && decide (z = e.d ∨ z ∈ e.g))
theorem hasC_zC (z : Dt) : hasC zC z = false := by
  rw [hasC_no]
  rintro ⟨h, k | k⟩
  · have h1 := chkD_ok h
    have : zC.v.getD z.1.toNat 0 = 0 := by
      show zV.getD z.1.toNat 0 = 0
      unfold zV
      rw [List.getD_eq_getElem?_getD, List.getElem?_replicate]
      split <;> rfl
    omega
  · exact absurd k (by simp [zC])
theorem OfK.of {e : Dl} {o : Cx} (h : AddOf zC (e.g ++ [e.d]) o) : OfK e o := ⟨fun z => by
  rw [h.has, hasC_zC, Bool.false_or]
  congr 1
  rw [decide_eq_decide, List.mem_append, List.mem_singleton, or_comm]⟩

/-- deltas that may be: facts of their dot alone, which they do not take back themselves, and dots unlike -/
structure OwnK (D : List Dl) (own : Nat → Prop) : Prop where
  ok : ∀ i e, own i → D[i]? = some e → chkD e.d = 0
  facts : ∀ i e, own i → D[i]? = some e → ∀ f ∈ e.l, f.d = e.d
  self : ∀ i e, own i → D[i]? = some e → e.d ∉ e.g
  unlike : ∀ i j e x, own i → own j → D[i]? = some e → D[j]? = some x → e.d = x.d → i = j
/-- what is there when those of S are applied -/
structure InvK (D : List Dl) (S : Nat → Prop) (x : List Ft) (c : Cx) : Prop where
  rise : RiseF x
  mem : ∀ f, f ∈ x ↔ ∃ i e, S i ∧ D[i]? = some e ∧ f ∈ e.l ∧ ∀ j y, S j → D[j]? = some y → e.d ∉ y.g
  has : ∀ z, hasC c z = true ↔ chkD z = 0 ∧ ∃ i e, S i ∧ D[i]? = some e ∧ (z = e.d ∨ z ∈ e.g)
theorem InvK.start (D : List Dl) : InvK D (fun _ => False) [] zC :=
  ⟨.nil, fun f => by simp, fun z => by simp [hasC_zC]⟩
theorem InvK.step {D : List Dl} {own S : Nat → Prop} {x : List Ft} {c o c' : Cx} {k : Nat} {e : Dl} (ho : OwnK D own) (hS : ∀ i, S i → own i) (h : InvK D S x c) (hk : own k) (he : D[k]? = some e) (hof : OfK e o) (hj : JoinOf c o c') :
    InvK D (fun i => S i ∨ i = k) (joinK x c e.l o) c' := by
  refine ⟨rise_joinK _ _ _ _, fun f => ?_, fun z => ?_⟩
  · have hx := h.mem f
    rw [mem_joinK]
    constructor
    · rintro (⟨h1, h2⟩ | ⟨h1, h2⟩)
      · obtain ⟨i, y, hi, hy, hf, hn⟩ := hx.1 h1
        refine ⟨i, y, .inl hi, hy, hf, ?_⟩
        have hfd := ho.facts i y (hS i hi) hy f hf
        rintro j w (hj | rfl) hw
        · exact hn j w hj hw
        · obtain rfl := Option.some.inj (he.symm.trans hw)
          rcases h2 with h2 | h2
          · have := ho.facts _ e hk he f h2
            rw [← hfd, this]
            exact ho.self _ e hk he
          · intro hg
            have h3 := hof.has f.d
            rw [h2, hfd, decide_eq_true (ho.ok i y (hS i hi) hy), decide_eq_true (Or.inr hg)] at h3
            cases h3
      · have hfd := ho.facts k e hk he f h1
        refine ⟨k, e, .inr rfl, he, h1, ?_⟩
        rintro j w (hj | rfl) hw
        · intro hg
          have h3 := (h.has f.d).2 ⟨by rw [hfd]; exact ho.ok k e hk he, j, w, hj, hw, .inr (by rw [hfd]; exact hg)⟩
          rw [h2] at h3
          cases h3
        · obtain rfl := Option.some.inj (he.symm.trans hw)
          exact ho.self _ e hk he
    · rintro ⟨i, y, hi, hy, hf, hn⟩
      by_cases hSi : S i
      · have h1 : f ∈ x := hx.2 ⟨i, y, hSi, hy, hf, fun j w hj hw => hn j w (.inl hj) hw⟩
        refine .inl ⟨h1, ?_⟩
        have hfd := ho.facts i y (hS i hSi) hy f hf
        by_cases hd : y.d = e.d
        · obtain rfl := ho.unlike i k y e (hS i hSi) hk hy he hd
          obtain rfl := Option.some.inj (hy.symm.trans he)
          exact .inl hf
        · refine .inr ?_
          rw [hof.has, hfd, decide_eq_false (p := y.d = e.d ∨ y.d ∈ e.g) (by rintro (q | q); exact hd q; exact hn k e (.inr rfl) he q), Bool.and_false]
      · obtain rfl := hi.resolve_left hSi
        obtain rfl := Option.some.inj (hy.symm.trans he)
        refine .inr ⟨hf, ?_⟩
        have hfd := ho.facts i y hk hy f hf
        rcases hh : hasC c f.d with _ | _
        · rfl
        · obtain ⟨-, j, w, hj, hw, hz | hz⟩ := (h.has f.d).1 hh
          · rw [hfd] at hz
            obtain rfl := ho.unlike i j y w hk (hS j hj) hy hw hz
            exact absurd hj hSi
          · rw [hfd] at hz
            exact absurd hz (hn j w (.inl hj) hw)
  · rw [hj.has, Bool.or_eq_true, h.has, hof.has, Bool.and_eq_true, decide_eq_true_eq, decide_eq_true_eq]
    constructor
    · rintro (⟨h1, i, y, hi, hy, hz⟩ | ⟨h1, hz⟩)
      · exact ⟨h1, i, y, .inl hi, hy, hz⟩
      · exact ⟨h1, k, e, .inr rfl, he, hz⟩
    · rintro ⟨h1, i, y, hi | rfl, hy, hz⟩
      · exact .inl ⟨h1, i, y, hi, hy, hz⟩
      · obtain rfl := Option.some.inj (hy.symm.trans he)
        exact .inr ⟨h1, hz⟩
theorem InvK.congr {D : List Dl} {S T : Nat → Prop} {x : List Ft} {c : Cx} (h : InvK D S x c) (hST : ∀ i, S i ↔ T i) : InvK D T x c := by
  have : S = T := funext fun i => propext (hST i)
  rw [← this]; exact h
/-- what is left is what the statement wants: the facts that none takes back, and the dots -/
theorem InvK.all {D : List Dl} {S : Nat → Prop} {x want : List Ft} {c o : Cx} {dots : List Dt} (h : InvK D S x c) (hc : IsClean c)
    (hw : ∀ f, f ∈ want ↔ ∃ i e, S i ∧ D[i]? = some e ∧ f ∈ e.l ∧ ∀ j y, S j → D[j]? = some y → e.d ∉ y.g)
    (hd : ∀ z, z ∈ dots ↔ ∃ i e, S i ∧ D[i]? = some e ∧ (z = e.d ∨ z ∈ e.g)) (ho : AddOf zC dots o) : x = sortF want ∧ c = o := by
  refine ⟨riseF_same h.rise (riseF_sortF _) fun f => by rw [h.mem, mem_sortF, hw], clean_same hc ho.clean fun z => ?_⟩
  rw [ho.has, hasC_zC, Bool.false_or, Bool.eq_iff_iff, h.has, Bool.and_eq_true, decide_eq_true_eq, decide_eq_true_eq, hd]

/-! 16.1's Check -/
/-- two facts that say the same of one update, at whatever time -/
def likeF (f g : Ft) : Bool := decide (f.d = g.d) && (decide (f.k = g.k) && (decide (f.n = g.n) && decide (f.v = g.v)))
theorem likeF_iff (f g : Ft) : likeF f g = true ↔ f.d = g.d ∧ f.k = g.k ∧ f.n = g.n ∧ f.v = g.v := by simp [likeF]
def okFrom (c : Cx) : List Ft → List Ft → Bool
  | _, [] => true
  | pre, f :: r => hasC c f.d && (!pre.any (likeF f) && okFrom c (pre ++ [f]) r)
/-- each has its dot there, and no two are alike -/
def okK (l : List Ft) (c : Cx) : Bool := okFrom c [] l
theorem okFrom_iff {c : Cx} : ∀ (r pre : List Ft), okFrom c pre r = true ↔ (∀ f ∈ r, hasC c f.d = true) ∧ (∀ (i : Nat) (f : Ft), r[i]? = some f → ∀ g, (g ∈ pre ∨ ∃ k, k < i ∧ r[k]? = some g) → likeF f g = false) := by
  intro r
  induction r with
  | nil => intro pre; simp [okFrom]
  | cons x r ih =>
    intro pre
    unfold okFrom
    rw [Bool.and_eq_true, Bool.and_eq_true, ih]
    constructor
    · rintro ⟨h1, h2, h3, h4⟩
      refine ⟨fun f hf => ?_, fun i f hi g hg => ?_⟩
      · rcases List.mem_cons.1 hf with rfl | hf
        · exact h1
        · exact h3 f hf
      · cases i with
        | zero =>
          obtain rfl : x = f := by simpa using hi
          rcases hg with hg | ⟨k, hk, -⟩
          · simp only [Bool.not_eq_true', List.any_eq_false] at h2
            simpa using h2 g hg
          · omega
        | succ i =>
          refine h4 i f (by simpa using hi) g ?_
          rcases hg with hg | ⟨k, hk, hgk⟩
          · exact .inl (List.mem_append_left _ hg)
          · cases k with
            | zero => exact .inl (by simp at hgk; simp [hgk])
            | succ k => exact .inr ⟨k, by omega, by simpa using hgk⟩
    · rintro ⟨h1, h2⟩
      refine ⟨h1 x (by simp), ?_, fun f hf => h1 f (by simp [hf]), fun i f hi g hg => ?_⟩
      · simp only [Bool.not_eq_true', List.any_eq_false]
        intro g hg
        have := h2 0 x rfl g (.inl hg)
        simp [this]
      · refine h2 (i + 1) f (by simpa using hi) g ?_
        rcases hg with hg | ⟨k, hk, hgk⟩
        · rcases List.mem_append.1 hg with hg | hg
          · exact .inl hg
          · exact .inr ⟨0, by omega, by simp at hg; simp [hg]⟩
        · exact .inr ⟨k + 1, by omega, by simpa using hgk⟩
theorem okK_iff {l : List Ft} {c : Cx} : okK l c = true ↔ (∀ f ∈ l, hasC c f.d = true) ∧ ∀ (i : Nat) (f : Ft) (k : Nat) (g : Ft), k < i → l[i]? = some f → l[k]? = some g → likeF f g = false := by
  unfold okK
  rw [okFrom_iff]
  constructor
  · rintro ⟨h1, h2⟩
    exact ⟨h1, fun i f k g hk hi hg => h2 i f hi g (.inr ⟨k, hk, hg⟩)⟩
  · rintro ⟨h1, h2⟩
    refine ⟨h1, fun i f hi g hg => ?_⟩
    rcases hg with hg | ⟨k, hk, hgk⟩
    · simp at hg
    · exact h2 i f k g hk hi hgk
/-- its error -/
noncomputable def chkK (rd : ByteArray → Int) (l : List Ft) (c : Cx) : Int := if chkC c ≠ 0 then chkC c else if chkFs rd l ≠ 0 then chkFs rd l else if okK l c = true then 0 else 5
end Go.Proofs.YtcedliaeipabnaaGreat

namespace Go.Proofs.YtcedliaeipabnaaGreat
set_option linter.unusedSimpArgs false
set_option linter.unusedVariables false

/-! Join -/
/-- is a fact left that the other side has not? -/
def leavesK (b : List Ft) (bc : Cx) (f : Ft) : Bool := !hasC bc f.d || decide (f ∈ b)
theorem left_join (a b : List Ft) (ac bc : Cx) {l : List Ft} (h : l = (sortF a).filter (leavesK (sortF b) bc) ++ (sortF b).filter (leavesK (sortF a) ac)) : sortF l = joinK a ac b bc := by
  refine riseF_same (riseF_sortF _) (rise_joinK _ _ _ _) fun f => ?_
  rw [mem_sortF, mem_joinK, h, List.mem_append, List.mem_filter, List.mem_filter, mem_sortF, mem_sortF]
  unfold leavesK
  simp only [Bool.or_eq_true, decide_eq_true_eq, mem_sortF, Bool.not_eq_true']
  constructor
  · rintro (⟨h1, h2 | h2⟩ | ⟨h1, h2 | h2⟩)
    · exact .inl ⟨h1, .inr h2⟩
    · exact .inl ⟨h1, .inl h2⟩
    · exact .inr ⟨h1, h2⟩
    · exact .inl ⟨h2, .inl h1⟩
  · rintro (⟨h1, h2 | h2⟩ | ⟨h1, h2⟩)
    · exact .inl ⟨h1, .inr h2⟩
    · exact .inl ⟨h1, .inl h2⟩
    · exact .inr ⟨h1, .inl h2⟩
/-- what a clean context has: what its vector counts, and its others -/
theorem knows_clean {c o : Cx} (h : CleanOf c o) (d : Dt) : (hasC ⟨o.v, []⟩ d || decide (d ∈ o.l)) = hasC c d := by
  rw [← h.has, hasC_or, hasC_or o]
  simp only [List.not_mem_nil, decide_false, Bool.and_false, Bool.or_false]
  by_cases hd : d ∈ o.l
  · have := (h.clean.out d hd).1
    simp [hd, this]
  · simp [hd]
theorem filter_take {α : Type} (p : α → Bool) (l : List α) (k : Nat) (x : α) (h : l[k]? = some x) : (l.take (k + 1)).filter p = (l.take k).filter p ++ (if p x = true then [x] else []) := by
  obtain ⟨hk, e⟩ := List.getElem?_eq_some_iff.1 h
  rw [List.take_succ_eq_append_getElem hk, List.filter_append, e]
  congr 1
  by_cases hp : p x = true
  · rw [if_pos hp, List.filter_cons_of_pos hp]; rfl
  · rw [if_neg hp, List.filter_cons_of_neg hp]; rfl

/-! Check -/
def bareF (f : Ft) : Ft := ⟨f.d, ⟨0, 0, 0⟩, f.k, f.n, f.v⟩
theorem bare_like (f g : Ft) : likeF f g = true ↔ bareF f = bareF g := by
  rw [likeF_iff]
  unfold bareF
  constructor
  · rintro ⟨h1, h2, h3, h4⟩; rw [h1, h2, h3, h4]
  · intro h
    simp only [Ft.mk.injEq] at h
    exact ⟨h.1, h.2.2.1, h.2.2.2.1, h.2.2.2.2⟩
theorem insF_len_new {d : Ft} : ∀ {l : List Ft}, RiseF l → d ∉ l → (insF d l).length = l.length + 1 := by
  intro l
  induction l with
  | nil => intro _ _; rfl
  | cons x r ih =>
    intro h hd
    have h' := List.pairwise_cons.1 h
    unfold insF
    split
    · rw [List.length_cons, ih h'.2 (fun k => hd (by simp [k])), List.length_cons]
    · split
      · rename_i h2; exact absurd (by simp [h2]) hd
      · rfl
theorem sortF_nodup : ∀ {l : List Ft}, l.Nodup → (sortF l).length = l.length := by
  intro l
  suffices ∀ (l acc : List Ft), RiseF acc → l.Nodup → (∀ x ∈ l, x ∉ acc) → (l.foldl (fun acc d => insF d acc) acc).length = acc.length + l.length by
    intro h; simpa [sortF] using this l [] .nil h (by simp)
  intro l
  induction l with
  | nil => intro acc _ _ _; rfl
  | cons d r ih =>
    intro acc hr hn ha
    obtain ⟨h1, h2⟩ := List.nodup_cons.1 hn
    rw [List.foldl_cons, ih (insF d acc) (riseF_insF hr) h2 (fun x hx hxi => by
      rcases mem_insF.1 hxi with rfl | hxa
      · exact h1 hx
      · exact ha x (by simp [hx]) hxa), insF_len_new hr (ha d (by simp)), List.length_cons]
    omega
theorem sortF_dup {l : List Ft} (h : ¬ l.Nodup) : (sortF l).length < l.length := by
  suffices ∀ (l acc : List Ft), RiseF acc → (¬ l.Nodup ∨ ∃ x ∈ l, x ∈ acc) → (l.foldl (fun acc d => insF d acc) acc).length < acc.length + l.length by
    simpa [sortF] using this l [] .nil (.inl h)
  clear h
  intro l
  induction l with
  | nil => intro acc _ h; simp at h
  | cons d r ih =>
    intro acc hr h
    have hle : ∀ (l acc : List Ft), (l.foldl (fun acc d => insF d acc) acc).length ≤ acc.length + l.length := by
      intro l
      induction l with
      | nil => simp
      | cons d r ih => intro acc; have h1 := ih (insF d acc); have h2 := insF_len d acc; simp only [List.foldl_cons, List.length_cons]; omega
    rw [List.foldl_cons, List.length_cons]
    by_cases hd : d ∈ acc
    · rw [insF_in hr hd]
      have := hle r acc
      omega
    · have h1 := insF_len d acc
      have h2 : ¬ r.Nodup ∨ ∃ x ∈ r, x ∈ insF d acc := by
        rcases h with h | ⟨x, hx, hxa⟩
        · rw [List.nodup_cons] at h
          by_cases hdr : d ∈ r
          · exact .inr ⟨d, hdr, mem_insF.2 (.inl rfl)⟩
          · exact .inl fun hn => h ⟨hdr, hn⟩
        · rcases List.mem_cons.1 hx with rfl | hx
          · exact absurd hxa hd
          · exact .inr ⟨x, hx, mem_insF.2 (.inr hxa)⟩
      have := ih (insF d acc) (riseF_insF hr) h2
      omega
/-- the program's way to tell whether two say the same -/
def twiceK (l : List Ft) : Bool := decide ((sortF (l.map bareF)).length < l.length)
theorem twiceK_iff (l : List Ft) : twiceK l = false ↔ ∀ (i : Nat) (f : Ft) (k : Nat) (g : Ft), k < i → l[i]? = some f → l[k]? = some g → likeF f g = false := by
  unfold twiceK
  rw [decide_eq_false_iff_not]
  have hm : (l.map bareF).length = l.length := List.length_map _
  have key : ¬ (sortF (l.map bareF)).length < l.length ↔ (l.map bareF).Nodup := by
    by_cases h : (l.map bareF).Nodup
    · have := sortF_nodup h
      exact ⟨fun _ => h, fun _ => by omega⟩
    · have := sortF_dup h
      exact ⟨fun k => absurd (by omega) k, fun k => absurd k h⟩
  rw [key, List.nodup_iff_pairwise_ne, List.pairwise_iff_getElem]
  constructor
  · intro h i f k g hki hf hg
    obtain ⟨hi, rfl⟩ := List.getElem?_eq_some_iff.1 hf
    obtain ⟨hk, rfl⟩ := List.getElem?_eq_some_iff.1 hg
    have h1 := h k i (by omega) (by omega) hki
    rw [List.getElem_map, List.getElem_map] at h1
    refine Bool.eq_false_iff.2 fun h2 => h1 ?_
    exact ((bare_like _ _).1 h2).symm
  · intro h i j hi hj hij e
    rw [List.getElem_map, List.getElem_map] at e
    have h1 := h j l[j] i l[i] hij (List.getElem?_eq_getElem (by omega)) (List.getElem?_eq_getElem (by omega))
    rw [(bare_like _ _).2 e.symm] at h1
    cases h1
/-- are all dots there? -/
def allK (c : Cx) (l : List Ft) : Bool := decide (∀ f ∈ l, hasC c f.d = true)
theorem okK_two (l : List Ft) (c : Cx) : okK l c = (!twiceK l && allK c l) := by
  rw [Bool.eq_iff_iff, okK_iff, Bool.and_eq_true, Bool.not_eq_true', twiceK_iff]
  unfold allK
  rw [decide_eq_true_eq, and_comm]
theorem allK_clean {c o : Cx} (h : CleanOf c o) (l : List Ft) : allK c l = !l.any (fun f => !(hasC ⟨o.v, []⟩ f.d || decide (f.d ∈ o.l))) := by
  rw [Bool.eq_iff_iff]
  unfold allK
  rw [decide_eq_true_eq, Bool.not_eq_true', List.any_eq_false]
  simp only [knows_clean h]
  simp

/-! deltas -/
theorem OfK.of2 {e : Dl} {o : Cx} (h : AddOf ⟨zV, e.g⟩ [e.d] o) : OfK e o := ⟨fun z => by
  have hz := hasC_zC z
  rw [h.has]
  unfold hasC at hz ⊢
  unfold zC at hz
  simp only [List.not_mem_nil, decide_false, Bool.or_false, List.mem_singleton] at hz ⊢
  cases hk : decide (chkD z = 0) with
  | false => rfl
  | true =>
    rw [hk, Bool.true_and] at hz
    rw [hz, Bool.true_and, Bool.true_and, Bool.true_and, Bool.false_or, Bool.eq_iff_iff]
    simp only [Bool.or_eq_true, decide_eq_true_eq]
    exact or_comm⟩
/-- may a delta be, as the statement asks? -/
def ownB (D : List Dl) (i : Nat) (e : Dl) : Bool := decide (chkD e.d = 0) && (decide (∀ f ∈ e.l, f.d = e.d) && (decide (e.d ∉ e.g) && decide (∀ k, k < i → ∀ y, D[k]? = some y → y.d ≠ e.d)))
theorem ownB_iff {D : List Dl} {i : Nat} {e : Dl} : ownB D i e = true ↔ chkD e.d = 0 ∧ (∀ f ∈ e.l, f.d = e.d) ∧ e.d ∉ e.g ∧ ∀ k, k < i → ∀ y, D[k]? = some y → y.d ≠ e.d := by
  unfold ownB
  simp only [Bool.and_eq_true, decide_eq_true_eq]
def OwnP (D : List Dl) (i : Nat) : Prop := ∃ e, D[i]? = some e ∧ ownB D i e = true
theorem ownK_of (D : List Dl) : OwnK D (OwnP D) := by
  have key : ∀ i e, OwnP D i → D[i]? = some e → ownB D i e = true := by
    rintro i e ⟨e', h1, h2⟩ h
    rw [h] at h1
    rwa [Option.some.inj h1]
  refine ⟨fun i e h1 h2 => (ownB_iff.1 (key i e h1 h2)).1, fun i e h1 h2 => (ownB_iff.1 (key i e h1 h2)).2.1, fun i e h1 h2 => (ownB_iff.1 (key i e h1 h2)).2.2.1, fun i j e x hi hj he hx hd => ?_⟩
  rcases Nat.lt_trichotomy i j with h | h | h
  · exact absurd hd ((ownB_iff.1 (key j x hj hx)).2.2.2 i h e he)
  · exact h
  · exact absurd hd.symm ((ownB_iff.1 (key i e hi he)).2.2.2 j h x hx)
/-- does one that may be take a dot back? -/
def takenB (D : List Dl) (d : Dt) (n : Nat) : Bool := (List.range n).any (fun i => match D[i]? with | none => false | some e => ownB D i e && decide (d ∈ e.g))
theorem takenB_iff {D : List Dl} {d : Dt} {n : Nat} : takenB D d n = true ↔ ∃ i e, i < n ∧ D[i]? = some e ∧ ownB D i e = true ∧ d ∈ e.g := by
  unfold takenB
  rw [List.any_eq_true]
  constructor
  · rintro ⟨i, hi, h⟩
    cases he : D[i]? with
    | none => rw [he] at h; cases h
    | some e =>
      rw [he] at h
      simp only [Bool.and_eq_true, decide_eq_true_eq] at h
      exact ⟨i, e, List.mem_range.1 hi, he, h.1, h.2⟩
  · rintro ⟨i, e, hi, he, h1, h2⟩
    refine ⟨i, List.mem_range.2 hi, ?_⟩
    rw [he]
    simp [h1, h2]
/-- what is wanted: of those ahead of n -/
structure WantK (D : List Dl) (n : Nat) (want : List Ft) (dots : List Dt) : Prop where
  facts : ∀ f, f ∈ want ↔ ∃ i e, i < n ∧ D[i]? = some e ∧ ownB D i e = true ∧ takenB D e.d D.length = false ∧ f ∈ e.l
  dots : ∀ z, z ∈ dots ↔ ∃ i e, i < n ∧ D[i]? = some e ∧ ownB D i e = true ∧ (z = e.d ∨ z ∈ e.g)
theorem WantK.start (D : List Dl) : WantK D 0 [] [] := ⟨fun f => by simp, fun z => by simp⟩
theorem WantK.pass {D : List Dl} {n : Nat} {want : List Ft} {dots : List Dt} {e : Dl} (h : WantK D n want dots) (he : D[n]? = some e) (ho : ownB D n e = false) : WantK D (n + 1) want dots := by
  have key : ∀ (P : Dl → Prop), (∃ i e, i < n ∧ D[i]? = some e ∧ ownB D i e = true ∧ P e) ↔ (∃ i e, i < n + 1 ∧ D[i]? = some e ∧ ownB D i e = true ∧ P e) := by
    intro P
    constructor
    · rintro ⟨i, x, hi, hx, h1, h2⟩; exact ⟨i, x, by omega, hx, h1, h2⟩
    · rintro ⟨i, x, hi, hx, h1, h2⟩
      rcases Nat.lt_or_ge i n with h3 | h3
      · exact ⟨i, x, h3, hx, h1, h2⟩
      · obtain rfl : i = n := by omega
        rw [he] at hx
        obtain rfl := Option.some.inj hx
        rw [ho] at h1; cases h1
  exact ⟨fun f => (h.facts f).trans (key (fun e => takenB D e.d D.length = false ∧ f ∈ e.l)), fun z => (h.dots z).trans (key (fun e => z = e.d ∨ z ∈ e.g))⟩
theorem WantK.take {D : List Dl} {n : Nat} {want : List Ft} {dots : List Dt} {e : Dl} (h : WantK D n want dots) (he : D[n]? = some e) (ho : ownB D n e = true) :
    WantK D (n + 1) (if takenB D e.d D.length = true then want else want ++ e.l) (dots ++ [e.d] ++ e.g) := by
  have key : ∀ (P : Dl → Prop), (∃ i e, i < n + 1 ∧ D[i]? = some e ∧ ownB D i e = true ∧ P e) ↔ (∃ i e, i < n ∧ D[i]? = some e ∧ ownB D i e = true ∧ P e) ∨ P e := by
    intro P
    constructor
    · rintro ⟨i, x, hi, hx, h1, h2⟩
      rcases Nat.lt_or_ge i n with h3 | h3
      · exact .inl ⟨i, x, h3, hx, h1, h2⟩
      · obtain rfl : i = n := by omega
        rw [he] at hx
        obtain rfl := Option.some.inj hx
        exact .inr h2
    · rintro (⟨i, x, hi, hx, h1, h2⟩ | h2)
      · exact ⟨i, x, by omega, hx, h1, h2⟩
      · exact ⟨n, e, by omega, he, ho, h2⟩
  refine ⟨fun f => ?_, fun z => ?_⟩
  · rw [key (fun e => takenB D e.d D.length = false ∧ f ∈ e.l), ← h.facts]
    cases ht : takenB D e.d D.length <;> simp
  · rw [key (fun e => z = e.d ∨ z ∈ e.g), ← h.dots, List.mem_append, List.mem_append, List.mem_singleton, or_assoc]
/-- at the end of both loops -/
theorem orders_end {D : List Dl} {S : Nat → Prop} {x want : List Ft} {c o : Cx} {dots : List Dt} (h : InvK D S x c) (hS : ∀ i, S i ↔ OwnP D i) (hc : IsClean c) (hw : WantK D D.length want dots) (ho : AddOf zC dots o) : x = sortF want ∧ c = o := by
  have hlt : ∀ i e, D[i]? = some e → i < D.length := fun i e h => (List.getElem?_eq_some_iff.1 h).1
  have hSo : ∀ i e, D[i]? = some e → (S i ↔ ownB D i e = true) := by
    intro i e he
    rw [hS]
    constructor
    · rintro ⟨e', h1, h2⟩; rw [he] at h1; rwa [Option.some.inj h1]
    · intro h; exact ⟨e, he, h⟩
  refine h.all hc (fun f => ?_) (fun z => ?_) ho
  · rw [hw.facts]
    constructor
    · rintro ⟨i, e, hi, he, h1, h2, h3⟩
      refine ⟨i, e, (hSo i e he).2 h1, he, h3, fun j y hj hy hd => ?_⟩
      have := takenB_iff.2 ⟨j, y, hlt j y hy, hy, (hSo j y hy).1 hj, hd⟩
      rw [h2] at this; cases this
    · rintro ⟨i, e, hi, he, h1, h2⟩
      refine ⟨i, e, hlt i e he, he, (hSo i e he).1 hi, Bool.eq_false_iff.2 fun ht => ?_, h1⟩
      obtain ⟨j, y, hj, hy, h3, h4⟩ := takenB_iff.1 ht
      exact h2 j y ((hSo j y hy).2 h3) hy h4
  · rw [hw.dots]
    constructor
    · rintro ⟨i, e, hi, he, h1, h2⟩; exact ⟨i, e, (hSo i e he).2 h1, he, h2⟩
    · rintro ⟨i, e, hi, he, h2⟩; exact ⟨i, e, hlt i e he, he, (hSo i e he).1 hi, h2⟩
theorem zC_clean : IsClean zC := ⟨rfl, fun i hi => by
    have : zC.v.getD i 0 = 0 := by show zV.getD i 0 = 0; unfold zV; rw [List.getD_eq_getElem?_getD, List.getElem?_replicate]; split <;> rfl
    rw [this]; exact ⟨by omega, by omega⟩, fun i hi => hasC_zC _, .nil, fun d hd => absurd hd (by simp [zC])⟩
/-- whole sides, as the second statement makes them -/
theorem whole_of {l : List Ft} {c o : Cx} (hd : ∀ f ∈ l, chkD f.d = 0) {m : List Dt} (hm : ∀ f ∈ l, f.d ∈ m) (h : AddOf c m o) : Whole (sortF l) o :=
  ⟨riseF_sortF _, fun f hf => by
    have hf' := mem_sortF.1 hf
    rw [h.has, decide_eq_true (hd f hf'), decide_eq_true (hm f hf')]
    simp⟩
/-- how many were seen -/
theorem count_seen {sn : List Bool} {m : Nat} (h : ∀ k, m ≤ k → sn[k]? ≠ some true) : sn.count true ≤ m := by
  have e : sn.count true = (sn.take m).count true + (sn.drop m).count true := by rw [← List.count_append, List.take_append_drop]
  have h0 : (sn.drop m).count true = 0 := by
    rw [List.count_eq_zero]
    intro hm
    obtain ⟨i, hi⟩ := List.mem_iff_getElem?.1 hm
    rw [List.getElem?_drop] at hi
    exact h (m + i) (by omega) hi
  have h1 : (sn.take m).count true ≤ (sn.take m).length := List.count_le_length
  have h2 : (sn.take m).length ≤ m := by rw [List.length_take]; omega
  omega
theorem count_set {sn : List Bool} {k : Nat} (h : sn[k]? = some false) : (sn.set k true).count true = sn.count true + 1 := by
  obtain ⟨hk, e⟩ := List.getElem?_eq_some_iff.1 h
  rw [List.count_set hk, e]
  simp
end Go.Proofs.YtcedliaeipabnaaGreat

namespace Go.Proofs.YtcedliaeipabnaaGreat
open Go.ChangeShapes Go.WideShapes Go.ChangeAt Go.RowKit
open Go.ChangeMaps (open_string shut_string)
set_option linter.unusedVariables false

theorem own : ownKnob Tryz.prog.godebug = none := by kernel_rfl
theorem laidOut : laidOutB Tryz.prog = true := by kernel_rfl

/-- A slice of integers that came in: nil; or a row of cap cells, the numbers zs, of which the first len are its elements. -/
def IsRow (k : IntKind) (w : World) (a : Option Addr) (len cap : Nat) (zs : List Int) : Prop :=
  (a = none ∧ len = 0 ∧ cap = 0 ∧ zs = []) ∨
  ∃ x, a = some x ∧ len ≤ cap ∧ cap ≤ maxLen ∧ zs.length = cap ∧ (∀ i, i < zs.length → w.cell? (x.add i) = some (.int k (zs.getD i 0))) ∧ ∀ n ∈ zs, (Lit.int k n).wf = true

theorem isRow_of {H : Type} {enc : TypeId × Value → H} {P : Program} {w : World} {t e : TypeId} {k : IntKind} {a : Option Addr} {len cap : Nat} {d : DataW H} {p : List MemPlace}
    (ht : P.underlying t = some (.slice e)) (he : P.underlying e = some (.int k)) (hc : P.cellsOf e = 1)
    (h : DataW.Trod enc P w 0 (fun _ => true) true t (.slice a len cap) d p) : ∃ zs, IsRow k w a len cap zs := by
  obtain ⟨fuel, hf⟩ := h
  rcases open_ints ht he hc hf with ⟨hcs, _⟩ | ⟨x, l, c, zs, hcs, _, hl, hm, hz, _, hcell, hwz⟩
  · simp [Value.cells] at hcs
    obtain ⟨rfl, rfl, rfl⟩ := hcs
    exact ⟨[], .inl ⟨rfl, rfl, rfl, rfl⟩⟩
  · simp [Value.cells] at hcs
    obtain ⟨rfl, rfl, rfl⟩ := hcs
    exact ⟨zs, .inr ⟨_, rfl, hl, hm, by simpa using hz, hcell, hwz⟩⟩

/-- A slice of texts that came in: its elements are the texts ss. -/
def StrArg (w : World) (a : Option Addr) (len : Nat) (ss : List ByteArray) : Prop :=
  ss.length = len ∧ len ≤ maxLen ∧ StrRow w a ss ∧ ∀ s ∈ ss, s.size ≤ maxLen

theorem strArg_of {H : Type} {enc : TypeId × Value → H} {P : Program} {w : World} {t e : TypeId} {a : Option Addr} {len cap : Nat} {d : DataW H} {p : List MemPlace}
    (ht : P.underlying t = some (.slice e)) (he : P.underlying e = some .string) (hc : P.cellsOf e = 1)
    (h : DataW.Trod enc P w 0 (fun _ => true) true t (.slice a len cap) d p) : ∃ ss, StrArg w a len ss := by
  obtain ⟨fuel, hf⟩ := h
  rcases open_strings ht he hc hf with ⟨hcs, _⟩ | ⟨x, l, c, ss, hcs, _, hl, hm, hz, _, hcell, hws⟩
  · simp [Value.cells] at hcs
    obtain ⟨rfl, rfl, rfl⟩ := hcs
    exact ⟨[], rfl, by simp [maxLen], .inl rfl, fun s hs => absurd hs (by simp)⟩
  · simp [Value.cells] at hcs
    obtain ⟨rfl, rfl, rfl⟩ := hcs
    have hz' : ss.length = cap := by simpa using hz
    refine ⟨ss.take len, by rw [List.length_take]; omega, by omega, ?_, fun s hs => hws s (List.mem_of_mem_take hs)⟩
    by_cases h0 : len = 0
    · subst h0; exact .inl (by simp)
    · obtain ⟨b, off, spot⟩ := x
      have hc0 := hcell 0 (by omega)
      have hspot : spot = none := by simpa [Addr.add] using World.cell?_spot hc0
      subst hspot
      refine .inr ⟨b, off, rfl, by have := World.block_lt_of_cell? w _ hc0; simpa [Addr.add] using this, fun j hj => ?_⟩
      rw [List.length_take] at hj
      have h2 := hcell j (by omega)
      have e1 : (⟨b, off, none⟩ : Addr).add j = ⟨b, off + j, none⟩ := by cases j <;> simp [Addr.add]
      rw [e1] at h2
      rw [h2, List.getD_eq_getElem?_getD, List.getD_eq_getElem?_getD, List.getElem?_take_of_lt (by omega)]
end Go.Proofs.YtcedliaeipabnaaGreat

namespace Go.Proofs.YtcedliaeipabnaaGreat
set_option maxRecDepth 100000
open Go.ChangeShapes Go.WideShapes Go.ChangeAt Go.RowKit Go.Deep
open Go.ChangeMaps (open_string shut_string)

theorem pair_of {cs : List Value} {a b : Value} (h : cs.length = 2) (h0 : (cs.drop 0).take 1 = [a]) (h1 : (cs.drop 1).take 1 = [b]) : cs = [a, b] := by
  match cs, h with
  | [_, _], _ => simp_all

theorem dot_cells {H : Type} {enc : TypeId × Value → H} {W : World} {b0 : Nat} {sp : Nat → Bool} {held : Bool} {fuel : Nat} {cs : List Value} {x : DataW H × List MemPlace}
    (h : DataW.trod enc Tryz.prog W b0 sp held fuel 50 cs = some x) : ∃ d : Dt, cs = dcs d := by
  obtain ⟨xs, n, _, _, hlen, hxl, hf⟩ := DataW.trod_struct Tryz.underlying50 h
  have hc2 : Tryz.prog.cellsOf 50 = 2 := by kernel_rfl
  have hc1 : Tryz.prog.cellsOf 3 = 1 := by kernel_rfl
  rw [hc2] at hlen
  have get : ∀ i, i < 2 → ∃ y, xs[i]? = some y := fun i hi => ⟨_, List.getElem?_eq_getElem (by rw [hxl]; simpa using hi)⟩
  obtain ⟨y0, g0⟩ := get 0 (by omega)
  obtain ⟨y1, g1⟩ := get 1 (by omega)
  have f0 := (hf 0 _ rfl).trans g0
  have f1 := (hf 1 _ rfl).trans g1
  obtain ⟨k, e0, _, w0⟩ := DataW.trod_int Tryz.underlying3 f0
  obtain ⟨i, e1, _, w1⟩ := DataW.trod_int Tryz.underlying3 f1
  exact ⟨(k, i), pair_of hlen (by rw [← e0]; rfl) (by rw [← e1]; rfl)⟩

theorem open_dot {H : Type} {enc : TypeId × Value → H} {W : World} {base b0 : Nat} {sp : Nat → Bool} {held : Bool} {v : Value} {d : DataW H} {p : List MemPlace}
    (hv : Value.okWide Tryz.prog W .any base 50 v) (h : DataW.Trod enc Tryz.prog W b0 sp held 50 v d p) : ∃ x : Dt, v = dv x := by
  obtain ⟨cs, rfl, _⟩ := okWide_struct Tryz.underlying50 hv
  obtain ⟨fuel, hf⟩ := h
  obtain ⟨x, hx⟩ := dot_cells hf
  refine ⟨x, ?_⟩
  have hx' : cs.toList = dcs x := hx
  unfold dv
  congr 1
  exact Array.toList_inj.1 hx'
end Go.Proofs.YtcedliaeipabnaaGreat
