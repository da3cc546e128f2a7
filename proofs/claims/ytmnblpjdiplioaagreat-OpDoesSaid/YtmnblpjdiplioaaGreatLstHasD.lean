/-
  list.Has at names: its closure, a name looked for among names that stand in order.
-/
import Derived.Test.YtmnblpjdiplioaaGreatGOp22
import Derived.Shelf.Abstract
namespace Go.Proofs.YtmnblpjdiplioaaGreat
set_option linter.unusedSimpArgs false
set_option linter.unusedVariables false
set_option maxRecDepth 100000
open Go.RowKit Go.Sort Go.Shelf

/-- a block that holds dot.Less -/
structure LessD (w : World) (b : Nat) : Prop where
  cell : w.cell? ⟨b, 0, none⟩ = some (.func (.func 91) #[] #[])
  lt : b < w.heap.size
theorem LessD.below {w w' : World} {b : Nat} (h : LessD w b) (hb : Go.RowKit.Below w.heap.size w w') : LessD w' b :=
  ⟨by rw [hb.cell (p := ⟨b, 0, none⟩) h.lt]; exact h.cell, Nat.lt_of_lt_of_le h.lt hb.size⟩
theorem ent_hasD : ∀ args w, (callFunc 110 args).run Tryz.prog w = .ok (.enter 110 args) w := enters_of Tryz.func110 (by kernel_rfl) rfl

set_option maxHeartbeats 1000000 in
theorem hasD1 (a b : Dt) (bl : Nat) (w : World) (h : LessD w bl) : Calls Tryz.prog 110 #[.agg #[.int .i64 a.1, .int .i64 a.2], .agg #[.int .i64 b.1, .int .i64 b.2], .pointer (some ⟨bl, 0, none⟩)] w fun e w' => e = .returned (.int .i64 (cmpD a b)) ∧ Go.RowKit.Below w.heap.size w w' := by
  have hl := fun W => compareD a b W
  have h1 := boxD2_below w a b
  have hc := (h.below h1).cell
  have h2 := h1.trans ((cmpW_below (boxD (boxD w a) b) a b).mono (by simp [boxD_size]; omega))
  have HB := Lib.hid h2
  clear h1 h2 h
  unfold boxD at HB hc
  generalize cmpD a b = c at *
  obtain ⟨r, n⟩ := a
  obtain ⟨s, m⟩ := b
  simp only at *
  go_enter Tryz.func110, Tryz.ntmps110
  go_wp2_with fail
  refine (hl _).mono ?_
  rintro e w1 ⟨rfl, rfl⟩
  go_wp2
  go_ret
  exact ⟨rfl, HB.out⟩

set_option maxHeartbeats 4000000 in
theorem searchD (l : List Dt) (d : Dt) (a : Option Addr) (cap : Nat) (w : World) (h : DIn w a l) (hl : l.length ≤ 65536) (hs : Stands l) (bl : Nat) (hle : LessD w bl) :
    Calls Tryz.prog 109 #[.slice a l.length cap, .agg #[.int .i64 d.1, .int .i64 d.2], .func (.func 110) #[] #[.pointer (some ⟨bl, 0, none⟩)]] w fun e w' => (∃ i : Nat, e = .returned (.tuple #[.int .i64 (i : Int), .bool (decide (d ∈ l))])) ∧ Go.RowKit.Below w.heap.size w w' := by
  have hent := ent_hasD
  have H := Lib.hid h
  have HS := Lib.hid hs
  have hm : ∀ i : Nat, (∀ (k : Nat) (x : Dt), k < i → l[k]? = some x → ltD x d = true) → (∀ (k : Nat) (x : Dt), i ≤ k → l[k]? = some x → ltD x d = false) → (decide (d ∈ l) = true ↔ l[i]? = some d) := fun i h1 h2 => found_iff HS.out d h1 h2
  have HM := Lib.hid hm
  have hdp : ∃ u, u = decide (d ∈ l) := ⟨_, rfl⟩
  obtain ⟨u, hu⟩ := hdp
  rw [← hu] at HM
  rw [← hu]
  clear hu hm
  have hB0 := boxD_below w d
  have q0 : (boxD w d).cell? ⟨w.heap.size, 0, none⟩ = some (.int .i64 d.1) := by unfold boxD; rw [Joins.cell_of_block (heap_alloc_new w _)]; rfl
  have q1 : (boxD w d).cell? ⟨w.heap.size, 1, none⟩ = some (.int .i64 d.2) := by unfold boxD; rw [Joins.cell_of_block (heap_alloc_new w _)]; rfl
  have HQ := Lib.hid (And.intro q0 (And.intro q1 (And.intro hB0 (show w.heap.size < (boxD w d).heap.size by rw [boxD_size]; omega))))
  have HLE := Lib.hid (hle.below hB0)
  clear h hs hB0 q0 q1 hle
  have hX := fun x W (hW : LessD W bl) => hasD1 x d bl W hW
  have hN := fun x => cmpD_neg x d
  have hZ := fun x => cmpD_zero x d
  have HX := Lib.hid (And.intro hX (And.intro hN hZ))
  clear hX hN hZ
  unfold boxD at HQ HLE
  obtain ⟨dr, dq⟩ := d
  simp only at HQ HX HM HLE ⊢
  go_enter Tryz.func109, Tryz.ntmps109
  go_wp2_with fail
  generalize hW0 : w.alloc (.cells #[.int .i64 dr, .int .i64 dq] 36) = W0 at *
  clear hW0
  go_loopw [9, 10] (fun x y wr => ∃ i j : Nat, i ≤ j ∧ j ≤ l.length ∧ x = .int .i64 i ∧ y = .int .i64 j ∧ Hid (∀ (k : Nat) (x : Dt), k < i → l[k]? = some x → ltD x (dr, dq) = true) ∧ Hid (∀ (k : Nat) (x : Dt), j ≤ k → l[k]? = some x → ltD x (dr, dq) = false) ∧ Go.RowKit.Below W0.heap.size W0 wr) (fun x y _ => (intOf y).toNat - (intOf x).toNat)
  case atStart => exact ⟨0, l.length, by omega, Nat.le_refl _, rfl, rfl, Lib.hid (fun k x hk => absurd hk (by omega)), Lib.hid (fun k x hk hf => absurd (List.getElem?_eq_some_iff.1 hf).1 (by omega)), Below.refl _ _⟩
  case round =>
    obtain ⟨i, j, hij, hj, rfl, rfl, h1, h2, hb⟩ := hrel
    have HB := Lib.hid hb
    have hbs := hb.size
    have k0 : wr.cell? ⟨w.heap.size, 0, none⟩ = some (.int .i64 dr) := by rw [hb.cell (p := ⟨w.heap.size, 0, none⟩) HQ.out.2.2.2]; exact HQ.out.1
    have k1 : wr.cell? ⟨w.heap.size, 1, none⟩ = some (.int .i64 dq) := by rw [hb.cell (p := ⟨w.heap.size, 1, none⟩) HQ.out.2.2.2]; exact HQ.out.2.1
    have s0 := fun d os => cell_regrown k0 d os
    have s1 := fun d os => cell_regrown k1 d os
    have hin : DIn wr a l := (H.out.below HQ.out.2.2.1).below hb
    have hle2 := HLE.out.below hb
    clear hb
    by_cases hlt : i < j
    · obtain ⟨x, hx⟩ : ∃ x, l[(i + j) / 2]? = some x := ⟨_, List.getElem?_eq_getElem (by omega)⟩
      obtain ⟨b, off, rfl, hbl, c0, c1⟩ := hin.at hx
      have r0 := fun d os => cell_regrown c0 d os
      have r1 := fun d os => cell_regrown c1 d os
      have cX := fun d os => Calls.regrown_of (HX.out.1 x (grow (redrawn wr d) os) (hle2.below (below_regrown wr d os)))
      have hneg := HX.out.2.1 x
      have HXX := Lib.hid hx
      generalize cmpD x (dr, dq) = c at *
      have HCX := Lib.hid cX
      obtain ⟨xr, xq⟩ := x
      simp only at r0 r1 HCX
      clear hx cX hin hle2
      have hm0 : (((i + j) / 2 : Nat) : Int) < (l.length : Int) := by omega
      have hm1 : (0 : Int) ≤ (((i + j) / 2 : Nat) : Int) := by omega
      by_cases hc : c < 0
      · have hd : decide (c < 0) = true := by simp [hc]
        have hlt1 : ltD (xr, xq) (dr, dq) = true := hneg.1 hc
        have HK2 := Lib.hid (show ∀ (k : Nat) (x : Dt), k < (i + j) / 2 + 1 → l[k]? = some x → ltD x (dr, dq) = true from fun k y hk hy => by
          by_cases e : k = (i + j) / 2
          · subst e
            rw [HXX.out] at hy
            obtain rfl := Option.some.inj hy
            exact hlt1
          · obtain ⟨hk1, hk2⟩ := List.getElem?_eq_some_iff.1 hy
            obtain ⟨hk3, hk4⟩ := List.getElem?_eq_some_iff.1 HXX.out
            have h5 := List.pairwise_iff_getElem.1 HS.out k ((i + j) / 2) hk1 hk3 (by omega)
            rw [hk2, hk4] at h5
            rcases ltD_tri y (dr, dq) with h6 | h6 | h6
            · exact h6
            · subst h6; rw [hlt1] at h5; cases h5
            · have := ltD_trans hlt1 h6; rw [this] at h5; cases h5)
        clear hneg hlt1
        go_upto_region 5 with fail
        clear c0 c1 k0 k1
        refine wp_region_quiet_below (by kernel_rfl) (by kernel_rfl) ?_
        repeat (first | go_big_quiet_step ((go_at_call 110; with_reducible exact HCX.out _ _)) | quiet_step ((go_at_call 110; with_reducible exact HCX.out _ _)))
        refine wpQuiet_nil ?_
        intro _ hw'
        obtain ⟨⟨dq', osq⟩, hw''⟩ := hw'
        subst hw''
        have HB9 := Lib.hid (HB.out.trans ((below_regrown wr dq' osq).mono hbs))
        clear HCX r0 r1 s0 s1
        generalize grow (redrawn wr dq') osq = W at *
        go_wp2_with fail
        go_roundw
        case rel => exact ⟨(i + j) / 2 + 1, j, by omega, hj, by go_num, rfl, HK2, h2, HB9.out⟩
        case measure => simp [intOf]; omega
      · have hd : decide (c < 0) = false := by simp; omega
        have hlt1 : ltD (xr, xq) (dr, dq) = false := Bool.eq_false_iff.2 (fun h => hc (hneg.2 h))
        have HK2 := Lib.hid (show ∀ (k : Nat) (x : Dt), (i + j) / 2 ≤ k → l[k]? = some x → ltD x (dr, dq) = false from fun k y hk hy => by
          by_cases e : k = (i + j) / 2
          · subst e
            rw [HXX.out] at hy
            obtain rfl := Option.some.inj hy
            exact hlt1
          · obtain ⟨hk1, hk2⟩ := List.getElem?_eq_some_iff.1 hy
            obtain ⟨hk3, hk4⟩ := List.getElem?_eq_some_iff.1 HXX.out
            have h5 := List.pairwise_iff_getElem.1 HS.out ((i + j) / 2) k hk3 hk1 (by omega)
            rw [hk2, hk4] at h5
            refine Bool.eq_false_iff.2 fun h6 => ?_
            rcases ltD_tri (xr, xq) y with h7 | h7 | h7
            · have := ltD_trans h7 h6; rw [this] at hlt1; cases hlt1
            · rw [h7] at hlt1; rw [h6] at hlt1; cases hlt1
            · rw [h5] at h7; cases h7)
        clear hneg hlt1
        go_upto_region 5 with fail
        clear c0 c1 k0 k1
        refine wp_region_quiet_below (by kernel_rfl) (by kernel_rfl) ?_
        repeat (first | go_big_quiet_step ((go_at_call 110; with_reducible exact HCX.out _ _)) | quiet_step ((go_at_call 110; with_reducible exact HCX.out _ _)))
        refine wpQuiet_nil ?_
        intro _ hw'
        obtain ⟨⟨dq', osq⟩, hw''⟩ := hw'
        subst hw''
        have HB9 := Lib.hid (HB.out.trans ((below_regrown wr dq' osq).mono hbs))
        clear HCX r0 r1 s0 s1
        generalize grow (redrawn wr dq') osq = W at *
        go_wp2_with fail
        go_roundw
        case rel => exact ⟨i, (i + j) / 2, by omega, by omega, rfl, by go_num, h1, HK2, HB9.out⟩
        case measure => simp [intOf]; omega
    · obtain rfl : i = j := by omega
      have hfound := HM.out i h1.out h2.out
      by_cases hil : i < l.length
      · obtain ⟨x, hx⟩ : ∃ x, l[i]? = some x := ⟨_, List.getElem?_eq_getElem hil⟩
        obtain ⟨b, off, rfl, hbl, c0, c1⟩ := hin.at hx
        have r0 := fun d os => cell_regrown c0 d os
        have r1 := fun d os => cell_regrown c1 d os
        have cX := fun d os => Calls.regrown_of (HX.out.1 x (grow (redrawn wr d) os) (hle2.below (below_regrown wr d os)))
        have hzero := HX.out.2.2 x
        have hue : (cmpD x (dr, dq) == 0) = u := by
          rw [Bool.eq_iff_iff]
          rw [hfound, hx]
          simp only [beq_iff_eq, Option.some.injEq]
          exact hzero
        generalize cmpD x (dr, dq) = c at *
        have HCX := Lib.hid cX
        obtain ⟨xr, xq⟩ := x
        simp only at r0 r1 HCX
        have hm0 : (i : Int) < (l.length : Int) := by omega
        have hm2 : decide ((i : Int) < (l.length : Int)) = true := by simp; omega
        clear hx cX hin hzero hfound hlt hle2
        go_upto_region 8 with fail
        clear c0 c1 k0 k1
        refine wp_region_quiet_below (by kernel_rfl) (by kernel_rfl) ?_
        repeat (first | go_big_quiet_step ((go_at_call 110; with_reducible exact HCX.out _ _)) | quiet_step ((go_at_call 110; with_reducible exact HCX.out _ _)))
        refine wpQuiet_nil ?_
        intro _ hw'
        obtain ⟨⟨dq', osq⟩, hw''⟩ := hw'
        subst hw''
        have HB9 := Lib.hid (HQ.out.2.2.1.trans ((HB.out.trans ((below_regrown wr dq' osq).mono hbs)).mono HQ.out.2.2.1.size))
        clear HCX r0 r1 s0 s1
        generalize grow (redrawn wr dq') osq = W at *
        go_wp2_with fail
        go_ret2
        exact ⟨⟨i, by first | rfl | (rw [← hue]; rfl) | (rw [hue]; rfl)⟩, HB9.out⟩
      · have hue : u = false := by
          refine Bool.eq_false_iff.2 fun h => ?_
          have := (List.getElem?_eq_some_iff.1 (hfound.1 h)).1
          omega
        have hm2 : decide ((i : Int) < (l.length : Int)) = false := by simp; omega
        subst hue
        clear hin hfound hlt hle2
        go_upto_region 8 with fail
        clear k0 k1
        refine wp_region_quiet_below (by kernel_rfl) (by kernel_rfl) ?_
        repeat (first | go_big_quiet_step (fail) | quiet_step (fail))
        refine wpQuiet_nil ?_
        intro _ hw'
        obtain ⟨⟨dq', osq⟩, hw''⟩ := hw'
        subst hw''
        have HB9 := Lib.hid (HQ.out.2.2.1.trans ((HB.out.trans ((below_regrown wr dq' osq).mono hbs)).mono HQ.out.2.2.1.size))
        clear s0 s1
        generalize grow (redrawn wr dq') osq = W at *
        go_wp2_with fail
        go_ret2
        exact ⟨⟨i, rfl⟩, HB9.out⟩

set_option maxHeartbeats 1000000 in
theorem lhasD (l : List Dt) (d : Dt) (a : Option Addr) (cap : Nat) (w : World) (h : DIn w a l) (hl : l.length ≤ 65536) (hs : Stands l) :
    Calls Tryz.prog 92 #[.slice a l.length cap, .func (.func 91) #[] #[], .agg #[.int .i64 d.1, .int .i64 d.2]] w fun e w' => e = .returned (.bool (decide (d ∈ l))) ∧ Go.RowKit.Below w.heap.size w w' := by
  have hB0 : Go.RowKit.Below w.heap.size w (boxD (w.alloc (.cells #[.func (.func 91) #[] #[]] 97)) d) := ((Below.refl _ w).alloc (Nat.le_refl _) _).trans ((boxD_below _ d).mono (by simp))
  have hle : LessD (boxD (w.alloc (.cells #[.func (.func 91) #[] #[]] 97)) d) w.heap.size :=
    LessD.below ⟨by rw [Joins.cell_of_block (heap_alloc_new w _)]; rfl, by simp⟩ (boxD_below _ d)
  have HS := Lib.hid (searchD l d a cap _ (h.below hB0) hl hs w.heap.size hle)
  have HB := Lib.hid hB0
  clear h hs hB0 hle
  unfold boxD at HS HB
  generalize decide (d ∈ l) = u at *
  obtain ⟨dr, dq⟩ := d
  simp only at HS HB ⊢
  go_enter Tryz.func92, Tryz.ntmps92
  go_wp2_with fail
  refine HS.out.mono ?_
  rintro e w1 ⟨⟨i, rfl⟩, hb⟩
  have H1 := Lib.hid (HB.out.trans (hb.mono HB.out.size))
  clear hb HS
  go_wp2_with fail
  go_ret
  exact ⟨rfl, H1.out⟩
end Go.Proofs.YtmnblpjdiplioaaGreat
