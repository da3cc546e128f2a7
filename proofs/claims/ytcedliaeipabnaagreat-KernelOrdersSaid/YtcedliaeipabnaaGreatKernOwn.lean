/-
  almonrylaw16: Few, own, taken.
-/
import Derived.Test.YtcedliaeipabnaaGreatKernArg
import Derived.Test.YtcedliaeipabnaaGreatGKernP
import Derived.Test.YtcedliaeipabnaaGreatGKernQ
namespace Go.Proofs.YtcedliaeipabnaaGreat
set_option linter.unusedSimpArgs false
set_option linter.unusedVariables false
set_option maxRecDepth 100000
open Go.RowKit Go.Sort

/-- deltas that came in -/
def DlArg (w : World) (a : Option Addr) (len : Nat) (D : List Dl) : Prop := D.length = len ∧ len ≤ maxLen ∧ DlIn w a D
theorem DlAt.d0 {w : World} {b o : Nat} {e : Dl} {la : Option Addr} {lk : Nat} {ga : Option Addr} {gk : Nat} (h : DlAt w b o e la lk ga gk) : w.cell? ⟨b, o, none⟩ = some (.int .i64 e.d.1) := h.row 0 _ rfl
theorem DlAt.d1 {w : World} {b o : Nat} {e : Dl} {la : Option Addr} {lk : Nat} {ga : Option Addr} {gk : Nat} (h : DlAt w b o e la lk ga gk) : w.cell? ⟨b, o + 1, none⟩ = some (.int .i64 e.d.2) := h.row 1 _ rfl
theorem DlAt.cl {w : World} {b o : Nat} {e : Dl} {la : Option Addr} {lk : Nat} {ga : Option Addr} {gk : Nat} (h : DlAt w b o e la lk ga gk) : w.cell? ⟨b, o + 5, none⟩ = some (.slice la e.l.length lk) := h.row 5 _ rfl
theorem DlAt.cg {w : World} {b o : Nat} {e : Dl} {la : Option Addr} {lk : Nat} {ga : Option Addr} {gk : Nat} (h : DlAt w b o e la lk ga gk) : w.cell? ⟨b, o + 6, none⟩ = some (.slice ga e.g.length gk) := h.row 6 _ rfl

/-! Few -/
def dfewOne (e : Dl) : Bool := decide (e.l.length ≤ 8) && (decide (e.g.length ≤ 20) && fewP e.l)
def dfewP (D : List Dl) : Bool := decide (D.length ≤ 16) && D.all dfewOne
set_option maxHeartbeats 4000000 in
theorem dfewC (D : List Dl) (a : Option Addr) (cap : Nat) (w : World) (h : DlIn w a D) (hl : D.length ≤ maxLen) :
    Calls Tryz.prog 16 #[.slice a D.length cap] w fun e w' => e = .returned (.bool (dfewP D)) ∧ w = w' := by
  have H := Lib.hid h
  unfold maxLen at hl
  clear h
  by_cases hbig : 16 < D.length
  · have HX := Lib.hid (show dfewP D = false from by unfold dfewP; rw [decide_eq_false (by omega)]; rfl)
    have hbi : (16 : Int) < (D.length : Int) := by omega
    clear hbig
    go_enter Tryz.func16, Tryz.ntmps16
    go_wp2_with fail
    go_ret
    exact ⟨by rw [HX.out]; rfl, rfl⟩
  have hbi : ¬ (16 : Int) < (D.length : Int) := by omega
  have HD := Lib.hid (show dfewP D = D.all dfewOne from by unfold dfewP; rw [decide_eq_true (by omega)]; rfl)
  go_enter Tryz.func16, Tryz.ntmps16
  go_wp2_with fail
  go_loopw [3] (fun i wr => ∃ k : Nat, k ≤ D.length ∧ i = .int .i64 k ∧ Hid (∀ j e, j < k → D[j]? = some e → dfewOne e = true) ∧ w = wr) (fun i _ => D.length - (intOf i).toNat)
  case atStart => exact ⟨0, Nat.zero_le _, rfl, Lib.hid (fun j e hj => by omega), rfl⟩
  case round =>
    obtain ⟨k, hk, rfl, HP, rfl⟩ := hrel
    by_cases hlt : k < D.length
    · obtain ⟨e, he⟩ : ∃ e, D[k]? = some e := ⟨_, List.getElem?_eq_getElem hlt⟩
      obtain ⟨b, off, la, lk, ga, gk, rfl, hbl, hat⟩ := H.out.at he
      have hi1 : (k : Int) < (D.length : Int) := by omega
      have c5 := hat.cl
      have c6 := hat.cg
      have hll := hat.flen
      have hgl := hat.glen
      unfold maxLen at hll hgl
      have HF := Lib.hid (ffewC e.l la lk w hat.fin hat.flen hat.txt)
      have HN := Lib.hid (show dfewOne e = true → ∀ j e, j < k + 1 → D[j]? = some e → dfewOne e = true from fun hh j x hj hx => by
        rcases Nat.lt_or_ge j k with h1 | h1
        · exact HP.out j x h1 hx
        · obtain rfl : j = k := by omega
          rw [he] at hx
          rw [← Option.some.inj hx]; exact hh)
      have HM := Lib.hid (show dfewOne e = false → dfewP D = false from fun hh => by
        rw [HD.out]
        exact Bool.eq_false_iff.2 fun q => by rw [List.all_eq_true.1 q e (List.mem_of_getElem? he)] at hh; cases hh)
      have HO := Lib.hid (show dfewOne e = (decide (e.l.length ≤ 8) && (decide (e.g.length ≤ 20) && fewP e.l)) from rfl)
      clear hat he
      by_cases h1 : 8 < e.l.length
      · have HX := Lib.hid (HM.out (by rw [HO.out, decide_eq_false (by omega)]; rfl))
        have hi2 : (8 : Int) < (e.l.length : Int) := by omega
        clear HN HM HO h1
        go_wp2_with fail
        go_ret
        exact ⟨by rw [HX.out]; rfl, rfl⟩
      have hi2 : ¬ (8 : Int) < (e.l.length : Int) := by omega
      by_cases h2 : 20 < e.g.length
      · have HX := Lib.hid (HM.out (by rw [HO.out, decide_eq_true (by omega), decide_eq_false (by omega)]; rfl))
        have hi3 : (20 : Int) < (e.g.length : Int) := by omega
        clear HN HM HO h1 h2
        go_wp2_with fail
        go_ret
        exact ⟨by rw [HX.out]; rfl, rfl⟩
      have hi3 : ¬ (20 : Int) < (e.g.length : Int) := by omega
      have HO2 := Lib.hid (show dfewOne e = fewP e.l from by rw [HO.out, decide_eq_true (by omega), decide_eq_true (by omega)]; rfl)
      clear HO h1 h2
      generalize fewP e.l = u at *
      go_wp2_with fail
      refine HF.out.mono ?_
      rintro e' w1 ⟨rfl, rfl⟩
      cases u with
      | false =>
        have HX := Lib.hid (HM.out HO2.out)
        clear HN HM HO2 HF
        go_wp2_with fail
        go_ret
        exact ⟨by rw [HX.out]; rfl, rfl⟩
      | true =>
        have HN2 := Lib.hid (HN.out HO2.out)
        clear HN HM HO2 HF
        go_wp2_with fail
        go_roundw
        case rel => exact ⟨k + 1, by omega, by go_num, HN2, by first | rfl | trivial⟩
        case measure => simp [intOf]; omega
    · obtain rfl : k = D.length := by omega
      have hi2 : ¬ (D.length : Int) < (D.length : Int) := by omega
      have HX := Lib.hid (show dfewP D = true from by
        rw [HD.out, List.all_eq_true]
        intro e he
        obtain ⟨j, hj, hje⟩ := List.mem_iff_getElem.1 he
        exact HP.out j e hj (by rw [List.getElem?_eq_getElem hj, hje]))
      clear HP
      go_wp2_with fail
      go_ret
      exact ⟨by rw [HX.out]; rfl, rfl⟩

/-! own -/
theorem chkD_of2 {d : Dt} (h1 : ¬ d.1 < 0) (h2 : ¬ 15 < d.1) (h3 : ¬ d.2 < 1) (h4 : ¬ 1099511627776 < d.2) : chkD d = 0 := by
  unfold chkD
  rw [if_neg]
  omega
theorem chkD_no2 {d : Dt} (h : d.1 < 0 ∨ 15 < d.1 ∨ d.2 < 1 ∨ 1099511627776 < d.2) : chkD d ≠ 0 := fun k => by
  have := chkD_ok k
  omega
theorem own_no1 {D : List Dl} {i : Nat} {e : Dl} (h : chkD e.d ≠ 0) : ownB D i e = false := Bool.eq_false_iff.2 fun q => h (ownB_iff.1 q).1
theorem own_no2 {D : List Dl} {i : Nat} {e : Dl} {f : Ft} (hf : f ∈ e.l) (h : f.d ≠ e.d) : ownB D i e = false := Bool.eq_false_iff.2 fun q => h ((ownB_iff.1 q).2.1 f hf)
theorem own_no3 {D : List Dl} {i : Nat} {e : Dl} {d : Dt} (hd : d ∈ e.g) (h : d = e.d) : ownB D i e = false := Bool.eq_false_iff.2 fun q => (ownB_iff.1 q).2.2.1 (h ▸ hd)
theorem own_no4 {D : List Dl} {i k : Nat} {e y : Dl} (hk : k < i) (hy : D[k]? = some y) (h : y.d = e.d) : ownB D i e = false := Bool.eq_false_iff.2 fun q => (ownB_iff.1 q).2.2.2 k hk y hy h

set_option maxHeartbeats 16000000 in
theorem ownC (D : List Dl) (a : Option Addr) (cap : Nat) (i : Nat) (e : Dl) (w : World) (h : DlIn w a D) (hl : D.length ≤ maxLen) (hi : D[i]? = some e) :
    Calls Tryz.prog 17 #[.slice a D.length cap, .int .i64 (i : Int)] w fun r w' => r = .returned (.bool (ownB D i e)) ∧ Go.RowKit.Below w.heap.size w w' := by
  unfold maxLen at hl
  have hil : i < D.length := (List.getElem?_eq_some_iff.1 hi).1
  obtain ⟨b, off, la, lk, ga, gk, rfl, hbl, hat⟩ := h.at hi
  have hB0 := boxD_below w e.d
  have x0 := hat.d0
  have x1 := hat.d1
  have q0 : (boxD w e.d).cell? ⟨w.heap.size, 0, none⟩ = some (.int .i64 e.d.1) := by unfold boxD; rw [Joins.cell_of_block (heap_alloc_new w _)]; rfl
  have q1 : (boxD w e.d).cell? ⟨w.heap.size, 1, none⟩ = some (.int .i64 e.d.2) := by unfold boxD; rw [Joins.cell_of_block (heap_alloc_new w _)]; rfl
  have hz0 : w.heap.size < (boxD w e.d).heap.size := by rw [boxD_size]; omega
  have hll := hat.flen
  have hgl := hat.glen
  unfold maxLen at hll hgl
  have hbl9 : b < (boxD w e.d).heap.size := Nat.lt_of_lt_of_le hbl hB0.size
  have HAT := Lib.hid (And.intro (hat.below hB0 hbl) (And.intro hbl9 (And.intro q0 (And.intro q1 hz0))))
  have HDI := Lib.hid (h.below hB0)
  have HB0 := Lib.hid hB0
  have HI := Lib.hid hi
  have HP := Lib.hid (ownB_iff (D := D) (i := i) (e := e))
  have hi1 : (i : Int) < (D.length : Int) := by omega
  have hi0 : (0 : Int) ≤ (i : Int) := by omega
  clear h hi hat hB0 hz0 hbl9
  obtain ⟨dr, dq, HDE⟩ : ∃ dr dq : Int, Hid (e.d = (dr, dq)) := ⟨_, _, Lib.hid rfl⟩
  have hd1 : e.d.1 = dr := by rw [HDE.out]
  have hd2 : e.d.2 = dq := by rw [HDE.out]
  unfold boxD at HAT HDI HB0 q0 q1
  simp only [hd1, hd2] at x0 x1 q0 q1 HAT HDI HB0
  clear hd1 hd2
  have HN1 := Lib.hid (fun (h : dr < 0 ∨ 15 < dr ∨ dq < 1 ∨ 1099511627776 < dq) => own_no1 (D := D) (i := i) (e := e) (by rw [HDE.out]; exact chkD_no2 (d := (dr, dq)) h))
  have HY1 := Lib.hid (fun (h1 : ¬ dr < 0) (h2 : ¬ 15 < dr) (h3 : ¬ dq < 1) (h4 : ¬ 1099511627776 < dq) => show chkD e.d = 0 by rw [HDE.out]; exact chkD_of2 (d := (dr, dq)) h1 h2 h3 h4)
  go_enter Tryz.func17, Tryz.ntmps17
  go_upto_region 2 with fail
  generalize w.alloc (.cells #[.int .i64 dr, .int .i64 dq] 50) = W at *
  clear x0 x1
  by_cases h0 : dr < 0
  · have HX := Lib.hid (HN1.out (.inl h0))
    clear HN1 HY1
    go_wp2_with fail
    go_ret
    exact ⟨by rw [HX.out]; rfl, HB0.out⟩
  by_cases h1 : 15 < dr
  · have HX := Lib.hid (HN1.out (.inr (.inl h1)))
    clear HN1 HY1
    go_wp2_with fail
    go_ret
    exact ⟨by rw [HX.out]; rfl, HB0.out⟩
  by_cases h2 : dq < 1
  · have HX := Lib.hid (HN1.out (.inr (.inr (.inl h2))))
    clear HN1 HY1
    go_wp2_with fail
    go_ret
    exact ⟨by rw [HX.out]; rfl, HB0.out⟩
  by_cases h3 : 1099511627776 < dq
  · have HX := Lib.hid (HN1.out (.inr (.inr (.inr h3))))
    clear HN1 HY1
    go_wp2_with fail
    go_ret
    exact ⟨by rw [HX.out]; rfl, HB0.out⟩
  have HY := Lib.hid (HY1.out h0 h1 h2 h3)
  clear HN1 HY1
  go_wp2_with fail
  clear q0 q1 h0 h1 h2 h3
  go_loopw [6] (fun z wr => ∃ k : Nat, k ≤ e.l.length ∧ z = .int .i64 k ∧ Hid (∀ j f, j < k → e.l[j]? = some f → f.d = e.d) ∧ Go.RowKit.Below W.heap.size W wr) (fun z _ => e.l.length - (intOf z).toNat)
  case atStart => exact ⟨0, Nat.zero_le _, rfl, Lib.hid (fun j f hj => by omega), Below.refl _ _⟩
  case round =>
    obtain ⟨k, hk, rfl, HK, hb⟩ := hrel
    have HB := Lib.hid hb
    have hat := HAT.out.1.below hb HAT.out.2.1
    have c5 := hat.cl
    clear hb
    by_cases hlt : k < e.l.length
    · obtain ⟨f, hf⟩ : ∃ f, e.l[k]? = some f := ⟨_, List.getElem?_eq_getElem hlt⟩
      obtain ⟨fb, fo, hfe, hfl, p0⟩ := hat.fin.at hf
      have hi2 : (k : Int) < (e.l.length : Int) := by omega
      have y0 := range_one p0 0 (v := .int .i64 f.d.1) rfl
      have y1 := range_one p0 1 (v := .int .i64 f.d.2) rfl
      rw [Nat.add_zero] at y0
      have z0 : wr.cell? ⟨w.heap.size, 0, none⟩ = some (.int .i64 dr) := by rw [HB.out.cell (p := ⟨w.heap.size, 0, none⟩) HAT.out.2.2.2.2]; exact HAT.out.2.2.1
      have z1 : wr.cell? ⟨w.heap.size, 1, none⟩ = some (.int .i64 dq) := by rw [HB.out.cell (p := ⟨w.heap.size, 1, none⟩) HAT.out.2.2.2.2]; exact HAT.out.2.2.2.1
      have a0 := fun d os => cell_regrown y0 d os
      have a1 := fun d os => cell_regrown y1 d os
      have a5 := fun d os => cell_regrown c5 d os
      have b0 := fun d os => cell_regrown z0 d os
      have b1 := fun d os => cell_regrown z1 d os
      have hne := fun W => neqD f.d (dr, dq) W
      have HNO := Lib.hid (fun hh : f.d ≠ e.d => own_no2 (D := D) (i := i) (List.mem_of_getElem? hf) hh)
      have HYS := Lib.hid (fun hh : f.d = e.d => show ∀ j f, j < k + 1 → e.l[j]? = some f → f.d = e.d from fun j x hj hx => by
        rcases Nat.lt_or_ge j k with h1 | h1
        · exact HK.out j x h1 hx
        · obtain rfl : j = k := by omega
          rw [hf] at hx
          rw [← Option.some.inj hx]; exact hh)
      rw [HDE.out] at HNO HYS
      obtain ⟨t, ht⟩ : ∃ t, decide (f.d = (dr, dq)) = t := ⟨_, rfl⟩
      rw [ht] at hne
      have HT := Lib.hid ht
      subst hfe
      generalize f.d.1 = fr at *
      generalize f.d.2 = fq at *
      clear hf p0 y0 y1 z0 z1 ht hat
      simp only at hne
      cases t with
      | false =>
        have HX := Lib.hid (HNO.out (of_decide_eq_false HT.out))
        clear HNO HYS HT
        go_upto_region 7 with fail
        clear c5
        refine wp_region_quiet_below (by kernel_rfl) (by kernel_rfl) ?_
        repeat (first | go_big_quiet_step (fail) | quiet_step (fail))
        refine wpQuiet_nil ?_
        intro _ hw'
        obtain ⟨⟨dq', osq⟩, hw''⟩ := hw'
        subst hw''
        have HB9 := Lib.hid (HB.out.trans ((below_regrown wr dq' osq).mono HB.out.size))
        clear a0 a1 a5 b0 b1 hne
        generalize grow (redrawn wr dq') osq = W9 at *
        have HBF := Lib.hid (HB0.out.trans (HB9.out.mono HB0.out.size))
        go_wp2_with fail
        go_ret
        exact ⟨by rw [HX.out]; rfl, HBF.out⟩
      | true =>
        have HY2 := Lib.hid (HYS.out (of_decide_eq_true HT.out))
        clear HNO HYS HT
        go_upto_region 7 with fail
        clear c5
        refine wp_region_quiet_below (by kernel_rfl) (by kernel_rfl) ?_
        repeat (first | go_big_quiet_step (fail) | quiet_step (fail))
        refine wpQuiet_nil ?_
        intro _ hw'
        obtain ⟨⟨dq', osq⟩, hw''⟩ := hw'
        subst hw''
        have HB9 := Lib.hid (HB.out.trans ((below_regrown wr dq' osq).mono HB.out.size))
        clear a0 a1 a5 b0 b1 hne
        generalize grow (redrawn wr dq') osq = W9 at *
        go_wp2_with fail
        go_roundw
        case rel => exact ⟨k + 1, by omega, by go_num, by rw [HDE.out]; exact HY2, HB9.out⟩
        case measure => simp [intOf]; omega
    · obtain rfl : k = e.l.length := by omega
      have hi2 : ¬ (e.l.length : Int) < (e.l.length : Int) := by omega
      have HA2 := Lib.hid (show ∀ f ∈ e.l, f.d = e.d from fun f hf => by
        obtain ⟨j, hj, hje⟩ := List.mem_iff_getElem.1 hf
        exact HK.out j f hj (by rw [List.getElem?_eq_getElem hj, hje]))
      clear HK hat
      go_wp2_with fail
      clear c5
      go_loopw [7] (fun z wk => ∃ k : Nat, k ≤ e.g.length ∧ z = .int .i64 k ∧ Hid (∀ j d, j < k → e.g[j]? = some d → d ≠ e.d) ∧ Go.RowKit.Below W.heap.size W wk) (fun z _ => e.g.length - (intOf z).toNat)
      case atStart => exact ⟨0, Nat.zero_le _, rfl, Lib.hid (fun j f hj => by omega), HB.out⟩
      case round =>
        clear HB
        rename World => wr
        obtain ⟨k, hk, rfl, HK, hb⟩ := hrel
        have HB := Lib.hid hb
        have hat := HAT.out.1.below hb HAT.out.2.1
        have c6 := hat.cg
        clear hb
        by_cases hlt : k < e.g.length
        · obtain ⟨f, hf⟩ : ∃ f, e.g[k]? = some f := ⟨_, List.getElem?_eq_getElem hlt⟩
          obtain ⟨fb, fo, hfe, hfl, y0, y1⟩ := hat.din.at hf
          have hi2 : (k : Int) < (e.g.length : Int) := by omega
          have z0 : wr.cell? ⟨w.heap.size, 0, none⟩ = some (.int .i64 dr) := by rw [HB.out.cell (p := ⟨w.heap.size, 0, none⟩) HAT.out.2.2.2.2]; exact HAT.out.2.2.1
          have z1 : wr.cell? ⟨w.heap.size, 1, none⟩ = some (.int .i64 dq) := by rw [HB.out.cell (p := ⟨w.heap.size, 1, none⟩) HAT.out.2.2.2.2]; exact HAT.out.2.2.2.1
          have a0 := fun d os => cell_regrown y0 d os
          have a1 := fun d os => cell_regrown y1 d os
          have a5 := fun d os => cell_regrown c6 d os
          have b0 := fun d os => cell_regrown z0 d os
          have b1 := fun d os => cell_regrown z1 d os
          have hne := fun W => eqlD f (dr, dq) W
          have HNO := Lib.hid (fun hh : f = e.d => own_no3 (D := D) (i := i) (List.mem_of_getElem? hf) hh)
          have HYS := Lib.hid (fun hh : f ≠ e.d => show ∀ j d, j < k + 1 → e.g[j]? = some d → d ≠ e.d from fun j x hj hx => by
            rcases Nat.lt_or_ge j k with h1 | h1
            · exact HK.out j x h1 hx
            · obtain rfl : j = k := by omega
              rw [hf] at hx
              rw [← Option.some.inj hx]; exact hh)
          rw [HDE.out] at HNO HYS
          obtain ⟨t, ht⟩ : ∃ t, decide (f = (dr, dq)) = t := ⟨_, rfl⟩
          rw [ht] at hne
          have HT := Lib.hid ht
          subst hfe
          clear hf y0 y1 z0 z1 ht hat
          obtain ⟨fr, fq⟩ := f
          simp only at hne a0 a1
          cases t with
          | true =>
            have HX := Lib.hid (HNO.out (of_decide_eq_true HT.out))
            clear HNO HYS HT
            go_upto_region 12 with fail
            clear c6
            refine wp_region_quiet_below (by kernel_rfl) (by kernel_rfl) ?_
            repeat (first | go_big_quiet_step (fail) | quiet_step (fail))
            refine wpQuiet_nil ?_
            intro _ hw'
            obtain ⟨⟨dq', osq⟩, hw''⟩ := hw'
            subst hw''
            have HB9 := Lib.hid (HB.out.trans ((below_regrown wr dq' osq).mono HB.out.size))
            clear a0 a1 a5 b0 b1 hne
            generalize grow (redrawn wr dq') osq = W9 at *
            have HBF := Lib.hid (HB0.out.trans (HB9.out.mono HB0.out.size))
            go_wp2_with fail
            go_ret
            exact ⟨by rw [HX.out]; rfl, HBF.out⟩
          | false =>
            have HY2 := Lib.hid (HYS.out (of_decide_eq_false HT.out))
            clear HNO HYS HT
            go_upto_region 12 with fail
            clear c6
            refine wp_region_quiet_below (by kernel_rfl) (by kernel_rfl) ?_
            repeat (first | go_big_quiet_step (fail) | quiet_step (fail))
            refine wpQuiet_nil ?_
            intro _ hw'
            obtain ⟨⟨dq', osq⟩, hw''⟩ := hw'
            subst hw''
            have HB9 := Lib.hid (HB.out.trans ((below_regrown wr dq' osq).mono HB.out.size))
            clear a0 a1 a5 b0 b1 hne
            generalize grow (redrawn wr dq') osq = W9 at *
            go_wp2_with fail
            go_roundw
            case rel => exact ⟨k + 1, by omega, by go_num, by rw [HDE.out]; exact HY2, HB9.out⟩
            case measure => simp [intOf]; omega
        · obtain rfl : k = e.g.length := by omega
          have hi2 : ¬ (e.g.length : Int) < (e.g.length : Int) := by omega
          have HA3 := Lib.hid (show e.d ∉ e.g from fun hd => by
            obtain ⟨j, hj, hje⟩ := List.mem_iff_getElem.1 hd
            exact HK.out j e.d hj (by rw [List.getElem?_eq_getElem hj, hje]) rfl)
          clear HK hat
          go_wp2_with fail
          clear c6
          go_loopw [8] (fun z wk => ∃ k : Nat, k ≤ i ∧ z = .int .i64 k ∧ Hid (∀ j y, j < k → D[j]? = some y → y.d ≠ e.d) ∧ Go.RowKit.Below W.heap.size W wk) (fun z _ => i - (intOf z).toNat)
          case atStart => exact ⟨0, Nat.zero_le _, rfl, Lib.hid (fun j f hj => by omega), HB.out⟩
          case round =>
            clear HB
            rename World => wr
            obtain ⟨k, hk, rfl, HK, hb⟩ := hrel
            have HB := Lib.hid hb
            clear hb
            by_cases hlt : k < i
            · obtain ⟨f, hf⟩ : ∃ f, D[k]? = some f := ⟨_, List.getElem?_eq_getElem (by omega)⟩
              obtain ⟨fb, fo, l2, k2, g2, m2, hfe, hfl, hat2⟩ := (HDI.out.below HB.out).at hf
              have hi2 : (k : Int) < (i : Int) := by omega
              have hi3 : (k : Int) < (D.length : Int) := by omega
              have y0 := hat2.d0
              have y1 := hat2.d1
              have z0 : wr.cell? ⟨w.heap.size, 0, none⟩ = some (.int .i64 dr) := by rw [HB.out.cell (p := ⟨w.heap.size, 0, none⟩) HAT.out.2.2.2.2]; exact HAT.out.2.2.1
              have z1 : wr.cell? ⟨w.heap.size, 1, none⟩ = some (.int .i64 dq) := by rw [HB.out.cell (p := ⟨w.heap.size, 1, none⟩) HAT.out.2.2.2.2]; exact HAT.out.2.2.2.1
              have hfe2 := Option.some.inj hfe
              obtain ⟨rfl, rfl⟩ : b = fb ∧ off = fo := by injection hfe2 with h1 h2; exact ⟨h1, h2⟩
              have a0 := fun d os => cell_regrown y0 d os
              have a1 := fun d os => cell_regrown y1 d os
              have b0 := fun d os => cell_regrown z0 d os
              have b1 := fun d os => cell_regrown z1 d os
              have hne := fun W => eqlD f.d (dr, dq) W
              have HNO := Lib.hid (fun hh : f.d = e.d => own_no4 (D := D) (i := i) hlt hf hh)
              have HYS := Lib.hid (fun hh : f.d ≠ e.d => show ∀ j y, j < k + 1 → D[j]? = some y → y.d ≠ e.d from fun j x hj hx => by
                rcases Nat.lt_or_ge j k with h1 | h1
                · exact HK.out j x h1 hx
                · obtain rfl : j = k := by omega
                  rw [hf] at hx
                  rw [← Option.some.inj hx]; exact hh)
              rw [HDE.out] at HNO HYS
              obtain ⟨t, ht⟩ : ∃ t, decide (f.d = (dr, dq)) = t := ⟨_, rfl⟩
              rw [ht] at hne
              have HT := Lib.hid ht
              generalize f.d.1 = fr at *
              generalize f.d.2 = fq at *
              clear hf y0 y1 z0 z1 ht hat2 hfe hfe2
              simp only at hne
              cases t with
              | true =>
                have HX := Lib.hid (HNO.out (of_decide_eq_true HT.out))
                clear HNO HYS HT
                go_upto_region 17 with fail
                refine wp_region_quiet_below (by kernel_rfl) (by kernel_rfl) ?_
                repeat (first | go_big_quiet_step (fail) | quiet_step (fail))
                refine wpQuiet_nil ?_
                intro _ hw'
                obtain ⟨⟨dq', osq⟩, hw''⟩ := hw'
                subst hw''
                have HB9 := Lib.hid (HB.out.trans ((below_regrown wr dq' osq).mono HB.out.size))
                clear a0 a1 b0 b1 hne
                generalize grow (redrawn wr dq') osq = W9 at *
                have HBF := Lib.hid (HB0.out.trans (HB9.out.mono HB0.out.size))
                go_wp2_with fail
                go_ret
                exact ⟨by rw [HX.out]; rfl, HBF.out⟩
              | false =>
                have HY2 := Lib.hid (HYS.out (of_decide_eq_false HT.out))
                clear HNO HYS HT
                go_upto_region 17 with fail
                refine wp_region_quiet_below (by kernel_rfl) (by kernel_rfl) ?_
                repeat (first | go_big_quiet_step (fail) | quiet_step (fail))
                refine wpQuiet_nil ?_
                intro _ hw'
                obtain ⟨⟨dq', osq⟩, hw''⟩ := hw'
                subst hw''
                have HB9 := Lib.hid (HB.out.trans ((below_regrown wr dq' osq).mono HB.out.size))
                clear a0 a1 b0 b1 hne
                generalize grow (redrawn wr dq') osq = W9 at *
                go_wp2_with fail
                go_roundw
                case rel => exact ⟨k + 1, by omega, by go_num, by rw [HDE.out]; exact HY2, HB9.out⟩
                case measure => simp [intOf]; omega
            · obtain rfl : k = i := by omega
              have hi2 : ¬ (k : Int) < (k : Int) := by omega
              have HX := Lib.hid (show ownB D k e = true from HP.out.2 ⟨HY.out, HA2.out, HA3.out, fun j hj y hy => HK.out j y hj hy⟩)
              have HBF := Lib.hid (HB0.out.trans (HB.out.mono HB0.out.size))
              clear HK
              go_wp2_with fail
              go_ret
              exact ⟨by rw [HX.out]; rfl, HBF.out⟩

/-! taken -/
theorem taken_no {D : List Dl} {d : Dt} (h : ∀ i e, D[i]? = some e → ownB D i e = true → d ∉ e.g) : takenB D d D.length = false :=
  Bool.eq_false_iff.2 fun q => by
    obtain ⟨i, e, -, he, h1, h2⟩ := takenB_iff.1 q
    exact h i e he h1 h2
set_option maxHeartbeats 8000000 in
theorem takenC (D : List Dl) (a : Option Addr) (cap : Nat) (d : Dt) (w : World) (h : DlIn w a D) (hl : D.length ≤ maxLen) :
    Calls Tryz.prog 19 #[.slice a D.length cap, .agg #[.int .i64 d.1, .int .i64 d.2]] w fun r w' => r = .returned (.bool (takenB D d D.length)) ∧ Go.RowKit.Below w.heap.size w w' := by
  have hlm := hl
  unfold maxLen at hl
  have hB0 := boxD_below w d
  have q0 : (boxD w d).cell? ⟨w.heap.size, 0, none⟩ = some (.int .i64 d.1) := by unfold boxD; rw [Joins.cell_of_block (heap_alloc_new w _)]; rfl
  have q1 : (boxD w d).cell? ⟨w.heap.size, 1, none⟩ = some (.int .i64 d.2) := by unfold boxD; rw [Joins.cell_of_block (heap_alloc_new w _)]; rfl
  have hz0 : w.heap.size < (boxD w d).heap.size := by rw [boxD_size]; omega
  have HQ := Lib.hid (And.intro q0 (And.intro q1 hz0))
  have HDI := Lib.hid (h.below hB0)
  have HB0 := Lib.hid hB0
  have HIF := Lib.hid (fun k e (he : D[k]? = some e) h1 h2 => takenB_iff.2 (show ∃ i e, i < D.length ∧ D[i]? = some e ∧ ownB D i e = true ∧ d ∈ e.g from ⟨k, e, (List.getElem?_eq_some_iff.1 he).1, he, h1, h2⟩))
  have HNO := Lib.hid (fun h => taken_no (D := D) (d := d) h)
  clear h hB0 q0 q1 hz0
  unfold boxD at HQ HDI HB0
  obtain ⟨dr, dq⟩ := d
  simp only at HQ HDI HB0 HIF HNO ⊢
  go_enter Tryz.func19, Tryz.ntmps19
  go_upto_region 1 with fail
  generalize w.alloc (.cells #[.int .i64 dr, .int .i64 dq] 50) = W at *
  go_wp2_with fail
  go_loopw [5] (fun z wr => ∃ k : Nat, k ≤ D.length ∧ z = .int .i64 k ∧ Hid (∀ j e, j < k → D[j]? = some e → ownB D j e = true → (dr, dq) ∉ e.g) ∧ Go.RowKit.Below W.heap.size W wr) (fun z _ => D.length - (intOf z).toNat)
  case atStart => exact ⟨0, Nat.zero_le _, rfl, Lib.hid (fun j f hj => by omega), Below.refl _ _⟩
  case round =>
    obtain ⟨k, hk, rfl, HK, hb⟩ := hrel
    have HB := Lib.hid hb
    have hbs := hb.size
    clear hb
    by_cases hlt : k < D.length
    · obtain ⟨e, he⟩ : ∃ e, D[k]? = some e := ⟨_, List.getElem?_eq_getElem hlt⟩
      have hi1 : (k : Int) < (D.length : Int) := by omega
      have HE := Lib.hid he
      have HOC := Lib.hid (ownC D a cap k e wr (HDI.out.below HB.out) hlm he)
      clear he
      obtain ⟨u, hu⟩ : ∃ u, ownB D k e = u := ⟨_, rfl⟩
      have HU := Lib.hid hu
      rw [hu] at HOC
      clear hu
      go_wp2_with fail
      refine HOC.out.mono ?_
      rintro r w1 ⟨rfl, hb1⟩
      have HB1 := Lib.hid (HB.out.trans (hb1.mono hbs))
      clear hb1 HOC
      cases u with
      | false =>
        have HN := Lib.hid (show ∀ j e, j < k + 1 → D[j]? = some e → ownB D j e = true → (dr, dq) ∉ e.g from fun j x hj hx hox => by
          rcases Nat.lt_or_ge j k with h1 | h1
          · exact HK.out j x h1 hx hox
          · obtain rfl : j = k := by omega
            rw [HE.out] at hx
            obtain rfl := Option.some.inj hx
            rw [HU.out] at hox
            cases hox)
        go_wp2_with fail
        go_roundw
        case rel => exact ⟨k + 1, by omega, by go_num, HN, HB1.out⟩
        case measure => simp [intOf]; omega
      | true =>
        have hgl : e.g.length ≤ maxLen := by
          obtain ⟨b, off, la, lk, ga, gk, -, -, hat⟩ := (HDI.out.below HB1.out).at HE.out
          exact hat.glen
        unfold maxLen at hgl
        go_wp2_with fail
        go_loopw [6] (fun z wk => ∃ m : Nat, m ≤ e.g.length ∧ z = .int .i64 m ∧ Hid (∀ j x, j < m → e.g[j]? = some x → x ≠ (dr, dq)) ∧ Go.RowKit.Below W.heap.size W wk) (fun z _ => e.g.length - (intOf z).toNat)
        case atStart => exact ⟨0, Nat.zero_le _, rfl, Lib.hid (fun j f hj => by omega), HB1.out⟩
        case round =>
          clear HB HB1 hbs
          rename World => wr
          obtain ⟨m, hm, rfl, HM, hb⟩ := hrel
          have HB := Lib.hid hb
          obtain ⟨b, off, la, lk, ga, gk, hae, hbl, hat⟩ := (HDI.out.below hb).at HE.out
          have c6 := hat.cg
          have z0 : wr.cell? ⟨w.heap.size, 0, none⟩ = some (.int .i64 dr) := by rw [hb.cell (p := ⟨w.heap.size, 0, none⟩) HQ.out.2.2]; exact HQ.out.1
          have z1 : wr.cell? ⟨w.heap.size, 1, none⟩ = some (.int .i64 dq) := by rw [hb.cell (p := ⟨w.heap.size, 1, none⟩) HQ.out.2.2]; exact HQ.out.2.1
          clear hb
          by_cases hlt2 : m < e.g.length
          · obtain ⟨f, hf⟩ : ∃ f, e.g[m]? = some f := ⟨_, List.getElem?_eq_getElem hlt2⟩
            obtain ⟨fb, fo, hfe, hfl, y0, y1⟩ := hat.din.at hf
            have hi2 : (m : Int) < (e.g.length : Int) := by omega
            have a0 := fun d os => cell_regrown y0 d os
            have a1 := fun d os => cell_regrown y1 d os
            have a6 := fun d os => cell_regrown c6 d os
            have b0 := fun d os => cell_regrown z0 d os
            have b1 := fun d os => cell_regrown z1 d os
            have hne := fun W => eqlD f (dr, dq) W
            have HYS := Lib.hid (fun hh : f = (dr, dq) => HIF.out k e HE.out HU.out (hh ▸ List.mem_of_getElem? hf))
            have HNN := Lib.hid (fun hh : f ≠ (dr, dq) => show ∀ j x, j < m + 1 → e.g[j]? = some x → x ≠ (dr, dq) from fun j x hj hx => by
              rcases Nat.lt_or_ge j m with h1 | h1
              · exact HM.out j x h1 hx
              · obtain rfl : j = m := by omega
                rw [hf] at hx
                rw [← Option.some.inj hx]; exact hh)
            obtain ⟨t, ht⟩ : ∃ t, decide (f = (dr, dq)) = t := ⟨_, rfl⟩
            rw [ht] at hne
            have HT := Lib.hid ht
            subst hfe
            subst hae
            clear hf y0 y1 z0 z1 ht hat
            obtain ⟨fr, fq⟩ := f
            simp only at hne a0 a1
            cases t with
            | true =>
              have HX := Lib.hid (HYS.out (of_decide_eq_true HT.out))
              clear HYS HNN HT
              go_upto_region 8 with fail
              clear c6
              refine wp_region_quiet_below (by kernel_rfl) (by kernel_rfl) ?_
              repeat (first | go_big_quiet_step (fail) | quiet_step (fail))
              refine wpQuiet_nil ?_
              intro _ hw'
              obtain ⟨⟨dq', osq⟩, hw''⟩ := hw'
              subst hw''
              have HB9 := Lib.hid (HB.out.trans ((below_regrown wr dq' osq).mono HB.out.size))
              clear a0 a1 a6 b0 b1 hne
              generalize grow (redrawn wr dq') osq = W9 at *
              have HBF := Lib.hid (HB0.out.trans (HB9.out.mono HB0.out.size))
              go_wp2_with fail
              go_ret
              exact ⟨by rw [HX.out]; rfl, HBF.out⟩
            | false =>
              have HX := Lib.hid (HNN.out (of_decide_eq_false HT.out))
              clear HYS HNN HT
              go_upto_region 8 with fail
              clear c6
              refine wp_region_quiet_below (by kernel_rfl) (by kernel_rfl) ?_
              repeat (first | go_big_quiet_step (fail) | quiet_step (fail))
              refine wpQuiet_nil ?_
              intro _ hw'
              obtain ⟨⟨dq', osq⟩, hw''⟩ := hw'
              subst hw''
              have HB9 := Lib.hid (HB.out.trans ((below_regrown wr dq' osq).mono HB.out.size))
              clear a0 a1 a6 b0 b1 hne
              generalize grow (redrawn wr dq') osq = W9 at *
              go_wp2_with fail
              go_roundw
              case rel => exact ⟨m + 1, by omega, by go_num, HX, HB9.out⟩
              case measure => simp [intOf]; omega
          · obtain rfl : m = e.g.length := by omega
            have hi2 : ¬ (e.g.length : Int) < (e.g.length : Int) := by omega
            have HN := Lib.hid (show ∀ j e, j < k + 1 → D[j]? = some e → ownB D j e = true → (dr, dq) ∉ e.g from fun j x hj hx hox => by
              rcases Nat.lt_or_ge j k with h1 | h1
              · exact HK.out j x h1 hx hox
              · obtain rfl : j = k := by omega
                rw [HE.out] at hx
                obtain rfl := Option.some.inj hx
                intro hd
                obtain ⟨q, hq, hqe⟩ := List.mem_iff_getElem.1 hd
                exact HM.out q (dr, dq) hq (by rw [List.getElem?_eq_getElem hq, hqe]) rfl)
            subst hae
            clear z0 z1 hat
            go_wp2_with fail
            go_roundw
            case rel => exact ⟨k + 1, by omega, by go_num, HN, HB.out⟩
            case measure => simp [intOf]; omega
    · obtain rfl : k = D.length := by omega
      have hi2 : ¬ (D.length : Int) < (D.length : Int) := by omega
      have HX := Lib.hid (HNO.out (fun i e he ho => HK.out i e (List.getElem?_eq_some_iff.1 he).1 he ho))
      have HBF := Lib.hid (HB0.out.trans (HB.out.mono HB0.out.size))
      clear HK
      go_wp2_with fail
      go_ret
      exact ⟨by rw [HX.out]; rfl, HBF.out⟩
end Go.Proofs.YtcedliaeipabnaaGreat
