/-
  The document's Check.
-/
import Derived.Test.YtcedliaeipabnaaGreatKernRow
import Derived.Test.YtcedliaeipabnaaGreatGKernU
import Derived.Test.YtcedliaeipabnaaGreatGKernR
namespace Go.Proofs.YtcedliaeipabnaaGreat
set_option linter.unusedSimpArgs false
set_option linter.unusedVariables false
set_option maxRecDepth 100000
open Go.RowKit Go.Sort

theorem str_eq (x y : ByteArray) : (x.toList == y.toList) = decide (x = y) := by
  by_cases h : x = y
  · simp [h]
  · have : x.toList ≠ y.toList := fun e => h (by
      rw [ByteArray.toList_eq, ByteArray.toList_eq] at e
      obtain ⟨⟨a⟩⟩ := x
      obtain ⟨⟨b⟩⟩ := y
      simp only at e
      rw [e])
    simp [h, this]
/-- the first k are good -/
def GoodTo (c : Cx) (l : List Ft) (k : Nat) : Prop := ∀ (i : Nat) (f : Ft), i < k → l[i]? = some f → hasC c f.d = true ∧ ∀ (m : Nat) (g : Ft), m < i → l[m]? = some g → likeF f g = false
theorem good_all {c : Cx} {l : List Ft} (h : GoodTo c l l.length) : okK l c = true :=
  okK_iff.2 ⟨fun f hf => by
    obtain ⟨j, hj, hje⟩ := List.mem_iff_getElem.1 hf
    exact (h j f hj (by rw [List.getElem?_eq_getElem hj, hje])).1, fun i f k g hk hi hg => (h i f (List.getElem?_eq_some_iff.1 hi).1 hi).2 k g hk hg⟩
theorem bad_dot {c : Cx} {l : List Ft} {i : Nat} {f : Ft} (hf : l[i]? = some f) (h : hasC c f.d = false) : okK l c = false :=
  Bool.eq_false_iff.2 fun k => by rw [(okK_iff.1 k).1 f (List.mem_of_getElem? hf)] at h; cases h
theorem bad_like {c : Cx} {l : List Ft} {i k : Nat} {f g : Ft} (hf : l[i]? = some f) (hk : k < i) (hg : l[k]? = some g) (h : likeF f g = true) : okK l c = false :=
  Bool.eq_false_iff.2 fun q => by rw [(okK_iff.1 q).2 i f k g hk hf hg] at h; cases h

set_option maxHeartbeats 16000000 in
theorem kchkR (l : List Ft) (a : Option Addr) (cap : Nat) (c : Cx) (pa : Option Addr) (ca : Nat) (w : World) (hf : FIn w a l) (hl : l.length ≤ 60000) (hv : ∀ f ∈ l, f.v.size ≤ 5000) (h : CIn w c pa) :
    Calls Tryz.prog 13 #[.slice a l.length cap, .agg (ccs c.v (.slice pa c.l.length ca))] w fun e w' => e = .returned (.int .i64 (chkK rdM l c)) ∧ Go.RowKit.Below w.heap.size w w' := by
  have hbx := boxC_below w c.v (.slice pa c.l.length ca)
  have HR := Lib.hid (CRow.new w c.v (.slice pa c.l.length ca))
  have HV := Lib.hid h.v16
  have H0 := Lib.hid (And.intro (h.below hbx) (And.intro (hf.below hbx) hbx))
  have hlm : l.length ≤ maxLen := by unfold maxLen; omega
  have HC1 := Lib.hid (fun W hh => chkRC c pa ca W hh)
  have HC2 := Lib.hid (fun W hh => chkFsR l a cap W hh hlm hv)
  have HE := Lib.hid (show chkK rdM l c = if chkC c ≠ 0 then chkC c else if chkFs rdM l ≠ 0 then chkFs rdM l else if okK l c = true then 0 else 5 from rfl)
  clear h hf hbx hv hlm
  unfold boxC at H0
  generalize chkC c = e1 at *
  generalize chkFs rdM l = e2 at *
  go_enter Tryz.func13, Tryz.ntmps13
  go_upto_region 1 with fail
  generalize w.alloc (.cells (ccs c.v (.slice pa c.l.length ca)) 27) = W at *
  go_wp2_with ((with_reducible refine cl_load ?_ (.tmp 3) ?_ w.heap.size c.v (.slice pa c.l.length ca) ?_ ?_ ?_ ?_); rfl; rfl; rfl; exact HR.out; exact HV.out)
  refine (HC1.out W H0.out.1).mono ?_
  rintro e w1 ⟨rfl, hb1⟩
  have HB1 := Lib.hid (H0.out.2.2.trans (hb1.mono H0.out.2.2.size))
  have H1 := Lib.hid (And.intro (H0.out.1.below hb1) (And.intro (H0.out.2.1.below hb1) (HR.out.keep hb1)))
  clear hb1 H0 HC1 HR
  by_cases h1 : e1 = 0
  rotate_left
  · have hne : (e1 != 0) = true := by simp [h1]
    have hj := HE.out
    rw [if_pos h1] at hj
    have HJ := Lib.hid hj
    clear h1 hj
    go_wp2_with fail
    go_ret
    exact ⟨by rw [HJ.out]; rfl, HB1.out⟩
  subst h1
  have hj := HE.out
  rw [if_neg (by simp)] at hj
  have HJ := Lib.hid hj
  clear hj HE
  go_wp2_with fail
  refine (HC2.out w1 H1.out.2.1).mono ?_
  rintro e w2 ⟨rfl, hb2⟩
  have HB2 := Lib.hid (HB1.out.trans (hb2.mono HB1.out.size))
  have H2 := Lib.hid (And.intro (H1.out.1.below hb2) (And.intro (H1.out.2.1.below hb2) (H1.out.2.2.keep hb2)))
  clear hb2 H1 HC2 HB1
  by_cases h2 : e2 = 0
  rotate_left
  · have hne : (e2 != 0) = true := by simp [h2]
    have hj := HJ.out
    rw [if_pos h2] at hj
    have HJ := Lib.hid hj
    clear h2 hj
    go_wp2_with fail
    go_ret
    exact ⟨by rw [HJ.out]; rfl, HB2.out⟩
  subst h2
  have hj := HJ.out
  rw [if_neg (by simp)] at hj
  replace HJ := Lib.hid hj
  clear hj
  go_wp2_with fail
  go_loopw [7] (fun i wr => ∃ k : Nat, k ≤ l.length ∧ i = .int .i64 k ∧ Hid (GoodTo c l k) ∧ Go.RowKit.Below w2.heap.size w2 wr) (fun i _ => l.length - (intOf i).toNat)
  case atStart => exact ⟨0, Nat.zero_le _, rfl, Lib.hid (fun i f hi => by omega), Below.refl _ _⟩
  case round =>
    obtain ⟨k, hk, rfl, HG, hbw⟩ := hrel
    have HB := Lib.hid hbw
    have hbs := hbw.size
    clear hbw
    by_cases hlt : k < l.length
    · obtain ⟨f, hf⟩ : ∃ f, l[k]? = some f := ⟨_, List.getElem?_eq_getElem hlt⟩
      obtain ⟨lb, lo, hae, hlbk, c0⟩ := (H2.out.2.1.below HB.out).at hf
      have HX := Lib.hid hf
      have HAE := Lib.hid hae
      have hi1 : (k : Int) < (l.length : Int) := by omega
      have q0 := range_one c0 0 (v := .int .i64 f.d.1) rfl
      have q1 := range_one c0 1 (v := .int .i64 f.d.2) rfl
      rw [Nat.add_zero] at q0
      have r0 := fun d os => cell_regrown q0 d os
      have r1 := fun d os => cell_regrown q1 d os
      have HCL := Lib.hid c0
      have HCR := Lib.hid ((H2.out.2.2.keep HB.out).regrown)
      have HHS := Lib.hid (fun d os => Calls.regrown_of (hasRC c f.d pa ca (grow (redrawn wr d) os) (H2.out.1.below (HB.out.trans ((below_regrown wr d os).mono hbs)))))
      have HU := Lib.hid (show hasC c f.d = false → okK l c = false from fun hh => bad_dot HX.out hh)
      have HUT := Lib.hid (show hasC c f.d = true → hasC c f.d = true from id)
      obtain ⟨u, hu⟩ : ∃ u, hasC c f.d = u := ⟨_, rfl⟩
      have HUU := Lib.hid hu
      rw [hu] at HHS
      subst hae
      clear c0 hf q0 q1 hu
      go_upto_region 10 with fail
      generalize f.d.1 = dr at HHS r0 r1
      generalize f.d.2 = dq at HHS r0 r1
      refine wp_region_quiet_below (by kernel_rfl) (by kernel_rfl) ?_
      repeat (first
        | ((with_reducible refine cq_load ?_ (.tmp 3) ?_ (w.heap.size) c.v (.slice pa c.l.length ca) ?_ ?_ ?_ ?_); rfl; rfl; rfl; exact HCR.out; exact HV.out; simp only [Act.put, List.setIfInBounds_toArray, List.set_cons_zero, List.set_cons_succ])
        | go_big_quiet_step ((go_at_call 30; with_reducible exact HHS.out _ _)) | quiet_step ((go_at_call 30; with_reducible exact HHS.out _ _)))
      refine wpQuiet_nil ?_
      intro _ hw'
      obtain ⟨⟨dq', osq⟩, hw''⟩ := hw'
      subst hw''
      have HB9 := Lib.hid (HB.out.trans ((below_regrown wr dq' osq).mono hbs))
      clear HCR HHS r0 r1
      generalize grow (redrawn wr dq') osq = W9 at *
      cases u with
      | false =>
        have hj := HJ.out
        rw [HU.out HUU.out, if_neg (by simp)] at hj
        have HJ2 := Lib.hid hj
        clear hj HU
        have HBF := Lib.hid (HB2.out.trans (HB9.out.mono HB2.out.size))
        go_wp2_with fail
        go_ret
        exact ⟨by rw [HJ2.out]; rfl, HBF.out⟩
      | true =>
        clear HU HUT
        go_wp2_with fail
        go_loopw [8] (fun i wk => ∃ m : Nat, m ≤ k ∧ i = .int .i64 m ∧ Hid (∀ (j : Nat) (g : Ft), j < m → l[j]? = some g → likeF f g = false) ∧ Go.RowKit.Below w2.heap.size w2 wk) (fun i _ => k - (intOf i).toNat)
        case atStart => exact ⟨0, Nat.zero_le _, rfl, Lib.hid (fun j g hj => by omega), HB9.out⟩
        case round =>
          clear HB HB9 HCL hbs
          rename World => wr
          obtain ⟨m, hm, rfl, HL, hbw⟩ := hrel
          have HB := Lib.hid hbw
          have hbs := hbw.size
          clear hbw
          by_cases hlt2 : m < k
          · obtain ⟨g, hg⟩ : ∃ g, l[m]? = some g := ⟨_, List.getElem?_eq_getElem (by omega)⟩
            obtain ⟨lb2, lo2, hae2, hlb2, p0⟩ := (H2.out.2.1.below HB.out).at hg
            obtain ⟨lb1, lo1, hae1, hlb1, c0⟩ := (H2.out.2.1.below HB.out).at HX.out
            have e1 := Option.some.inj hae2
            have e2 := Option.some.inj hae1
            obtain ⟨rfl, rfl⟩ : lb = lb2 ∧ lo = lo2 := by injection e1 with h1 h2; exact ⟨h1, h2⟩
            obtain ⟨rfl, rfl⟩ : lb = lb1 ∧ lo = lo1 := by injection e2 with h1 h2; exact ⟨h1, h2⟩
            have HGX := Lib.hid hg
            have hi2 : (m : Int) < (k : Int) := by omega
            have hi3 : (m : Int) < (l.length : Int) := by omega
            have x0 := range_one c0 0 (v := .int .i64 f.d.1) rfl
            have x1 := range_one c0 1 (v := .int .i64 f.d.2) rfl
            have x5 := range_one c0 5 (v := .int .i64 f.k) rfl
            have x6 := range_one c0 6 (v := .string f.n) rfl
            have x7 := range_one c0 7 (v := .string f.v) rfl
            have y0 := range_one p0 0 (v := .int .i64 g.d.1) rfl
            have y1 := range_one p0 1 (v := .int .i64 g.d.2) rfl
            have y5 := range_one p0 5 (v := .int .i64 g.k) rfl
            have y6 := range_one p0 6 (v := .string g.n) rfl
            have y7 := range_one p0 7 (v := .string g.v) rfl
            rw [Nat.add_zero] at x0 y0
            have a0 := fun d os => cell_regrown x0 d os
            have a1 := fun d os => cell_regrown x1 d os
            have a5 := fun d os => cell_regrown x5 d os
            have a6 := fun d os => cell_regrown x6 d os
            have a7 := fun d os => cell_regrown x7 d os
            have b0 := fun d os => cell_regrown y0 d os
            have b1 := fun d os => cell_regrown y1 d os
            have b5 := fun d os => cell_regrown y5 d os
            have b6 := fun d os => cell_regrown y6 d os
            have b7 := fun d os => cell_regrown y7 d os
            have heq := fun W => eqlD f.d g.d W
            have hk5 : (f.k == g.k) = decide (f.k = g.k) := by by_cases h : f.k = g.k <;> simp [h]
            have hk6 := str_eq f.n g.n
            have hk7 := str_eq f.v g.v
            have HLK := Lib.hid (show likeF f g = (decide (f.d = g.d) && (decide (f.k = g.k) && (decide (f.n = g.n) && decide (f.v = g.v)))) from rfl)
            have HBAD := Lib.hid (fun hh : likeF f g = true => bad_like (c := c) HX.out hlt2 HGX.out hh)
            have HNX := Lib.hid (fun hh : likeF f g = false => show ∀ (j : Nat) (g : Ft), j < m + 1 → l[j]? = some g → likeF f g = false from fun j g' hj hjg => by
              rcases Nat.lt_or_ge j m with h1 | h1
              · exact HL.out j g' h1 hjg
              · obtain rfl : j = m := by omega
                rw [HGX.out] at hjg
                rw [← Option.some.inj hjg]; exact hh)
            clear hg p0 c0 e1 e2 hae1 hae2 x0 x1 x5 x6 x7 y0 y1 y5 y6 y7
            generalize decide (f.d = g.d) = t1 at *
            generalize decide (f.k = g.k) = t2 at *
            generalize decide (f.n = g.n) = t3 at *
            generalize decide (f.v = g.v) = t4 at *
            go_upto_region 15 with fail
            cases t1 with
            | false =>
              refine wp_region_quiet_below (by kernel_rfl) (by kernel_rfl) ?_
              repeat (first | go_big_quiet_step (fail) | quiet_step (fail))
              refine wpQuiet_nil ?_
              intro _ hw'
              obtain ⟨⟨dq', osq⟩, hw''⟩ := hw'
              subst hw''
              have HB9 := Lib.hid (HB.out.trans ((below_regrown wr dq' osq).mono hbs))
              clear a0 a1 a5 a6 a7 b0 b1 b5 b6 b7 heq hk5 hk6 hk7
              generalize grow (redrawn wr dq') osq = W9 at *
              have HN2 := Lib.hid (HNX.out (by rw [HLK.out]; rfl))
              go_wp2_with fail
              go_roundw
              case rel => exact ⟨m + 1, by omega, by go_num, HN2, HB9.out⟩
              case measure => simp [intOf]; omega
            | true =>
              cases t2 with
              | false =>
                refine wp_region_quiet_below (by kernel_rfl) (by kernel_rfl) ?_
                repeat (first | go_big_quiet_step (fail) | quiet_step (fail))
                refine wpQuiet_nil ?_
                intro _ hw'
                obtain ⟨⟨dq', osq⟩, hw''⟩ := hw'
                subst hw''
                have HB9 := Lib.hid (HB.out.trans ((below_regrown wr dq' osq).mono hbs))
                clear a0 a1 a5 a6 a7 b0 b1 b5 b6 b7 heq hk5 hk6 hk7
                generalize grow (redrawn wr dq') osq = W9 at *
                have HN2 := Lib.hid (HNX.out (by rw [HLK.out]; rfl))
                go_wp2_with fail
                go_roundw
                case rel => exact ⟨m + 1, by omega, by go_num, HN2, HB9.out⟩
                case measure => simp [intOf]; omega
              | true =>
                cases t3 with
                | false =>
                  refine wp_region_quiet_below (by kernel_rfl) (by kernel_rfl) ?_
                  repeat (first | go_big_quiet_step (fail) | quiet_step (fail))
                  refine wpQuiet_nil ?_
                  intro _ hw'
                  obtain ⟨⟨dq', osq⟩, hw''⟩ := hw'
                  subst hw''
                  have HB9 := Lib.hid (HB.out.trans ((below_regrown wr dq' osq).mono hbs))
                  clear a0 a1 a5 a6 a7 b0 b1 b5 b6 b7 heq hk5 hk6 hk7
                  generalize grow (redrawn wr dq') osq = W9 at *
                  have HN2 := Lib.hid (HNX.out (by rw [HLK.out]; rfl))
                  go_wp2_with fail
                  go_roundw
                  case rel => exact ⟨m + 1, by omega, by go_num, HN2, HB9.out⟩
                  case measure => simp [intOf]; omega
                | true =>
                  cases t4 with
                  | false =>
                    refine wp_region_quiet_below (by kernel_rfl) (by kernel_rfl) ?_
                    repeat (first | go_big_quiet_step (fail) | quiet_step (fail))
                    refine wpQuiet_nil ?_
                    intro _ hw'
                    obtain ⟨⟨dq', osq⟩, hw''⟩ := hw'
                    subst hw''
                    have HB9 := Lib.hid (HB.out.trans ((below_regrown wr dq' osq).mono hbs))
                    clear a0 a1 a5 a6 a7 b0 b1 b5 b6 b7 heq hk5 hk6 hk7
                    generalize grow (redrawn wr dq') osq = W9 at *
                    have HN2 := Lib.hid (HNX.out (by rw [HLK.out]; rfl))
                    go_wp2_with fail
                    go_roundw
                    case rel => exact ⟨m + 1, by omega, by go_num, HN2, HB9.out⟩
                    case measure => simp [intOf]; omega
                  | true =>
                    refine wp_region_quiet_below (by kernel_rfl) (by kernel_rfl) ?_
                    repeat (first | go_big_quiet_step (fail) | quiet_step (fail))
                    refine wpQuiet_nil ?_
                    intro _ hw'
                    obtain ⟨⟨dq', osq⟩, hw''⟩ := hw'
                    subst hw''
                    have HB9 := Lib.hid (HB.out.trans ((below_regrown wr dq' osq).mono hbs))
                    clear a0 a1 a5 a6 a7 b0 b1 b5 b6 b7 heq hk5 hk6 hk7
                    generalize grow (redrawn wr dq') osq = W9 at *
                    have hj := HJ.out
                    rw [HBAD.out (by rw [HLK.out]; rfl), if_neg (by simp)] at hj
                    have HJ2 := Lib.hid hj
                    clear hj
                    have HBF := Lib.hid (HB2.out.trans (HB9.out.mono HB2.out.size))
                    go_wp2_with fail
                    go_ret
                    exact ⟨by rw [HJ2.out]; rfl, HBF.out⟩
          · obtain rfl : m = k := by omega
            have hi2 : ¬ (m : Int) < (m : Int) := by omega
            have HG2 := Lib.hid (show GoodTo c l (m + 1) from fun i x hi hx => by
              rcases Nat.lt_or_ge i m with h1 | h1
              · exact HG.out i x h1 hx
              · obtain rfl : i = m := by omega
                rw [HX.out] at hx
                obtain rfl := Option.some.inj hx
                exact ⟨HUU.out, HL.out⟩)
            clear HG HL
            go_wp2_with fail
            go_roundw
            case rel => exact ⟨m + 1, by omega, by go_num, HG2, HB.out⟩
            case measure => simp [intOf]; omega
    · obtain rfl : k = l.length := by omega
      have hi2 : ¬ (l.length : Int) < (l.length : Int) := by omega
      have hj := HJ.out
      rw [good_all HG.out, if_pos rfl] at hj
      have HJ2 := Lib.hid hj
      have HBF := Lib.hid (HB2.out.trans (HB.out.mono HB2.out.size))
      clear hj HG
      go_wp2_with fail
      go_ret
      exact ⟨by rw [HJ2.out]; rfl, HBF.out⟩
end Go.Proofs.YtcedliaeipabnaaGreat
