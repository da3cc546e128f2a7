/-
  Check, Less, order, of the program; Check, Less, of the document.
  Whether names may be, and rise: checkList of the program, Checks of the document.
  slices.SortFunc at []api.Dot: its bodies are those that the library's contract was proved of.
-/
import Derived.Test.YtlcjiodbdopcdaaGCauD
import Derived.Shelf.SlSortCmp.QuietGrown
import Derived.Deep.Cut
import Derived.Deep.DeepCutAuto
import Derived.Test.YtlcjiodbdopcdaaGCauC
import Derived.Lib.QuietBelow
import Derived.BigQuiet
import Derived.Shelf.SlSortCmp.NoneTotal
namespace Go.Proofs.Ytlcjiodbdopcdaa
set_option maxRecDepth 100000
open Go.RowKit Go.Sort

set_option maxHeartbeats 1000000 in
set_option maxRecDepth 100000 in
theorem lessC (a b : Dt) (w : World) : Calls Try.prog 42 #[.agg #[.int .i64 a.1, .int .i64 a.2], .agg #[.int .i64 b.1, .int .i64 b.2]] w fun e w' => e = .returned (.bool (ltD a b)) ∧ boxD (boxD w a) b = w' := by
  obtain ⟨r, n⟩ := a
  obtain ⟨s, m⟩ := b
  have hl : ltD (r, n) (s, m) = (decide (r < s) || (decide (r = s) && decide (n < m))) := rfl
  unfold boxD
  simp only at *
  by_cases h : r = s
  · subst h
    have h1 : (r != r) = false := by simp
    have h2 : ltD (r, n) (r, m) = decide (n < m) := by rw [hl]; simp
    rw [h2]; clear h2 hl
    go_enter Try.func42, Try.ntmps42
    go_wp2
    go_ret
    exact ⟨rfl, rfl⟩
  · have h1 : (r != s) = true := by simp [h]
    have h2 : ltD (r, n) (s, m) = decide (r < s) := by rw [hl]; simp [h]
    rw [h2]; clear h2 hl
    go_enter Try.func42, Try.ntmps42
    go_wp2
    go_ret
    exact ⟨rfl, rfl⟩

set_option maxHeartbeats 1000000 in
set_option maxRecDepth 100000 in
theorem lessR (a b : Dt) (w : World) : Calls Try.prog 55 #[.agg #[.int .i64 a.1, .int .i64 a.2], .agg #[.int .i64 b.1, .int .i64 b.2]] w fun e w' => e = .returned (.bool (ltD a b)) ∧ boxD (boxD w a) b = w' := by
  obtain ⟨r, n⟩ := a
  obtain ⟨s, m⟩ := b
  have hl : ltD (r, n) (s, m) = (decide (r < s) || (decide (r = s) && decide (n < m))) := rfl
  unfold boxD
  simp only at *
  by_cases h : r < s
  · have h1 : decide (r < s) = true := by simp [h]
    have h2 : ltD (r, n) (s, m) = true := by rw [hl, h1]; rfl
    rw [h2]; clear h2 hl
    go_enter Try.func55, Try.ntmps55
    go_wp2
    go_ret
    exact ⟨rfl, rfl⟩
  · have h1 : decide (r < s) = false := by simp [h]
    by_cases e : r = s
    · have e1 : (r == s) = true := by simp [e]
      have h2 : ltD (r, n) (s, m) = decide (n < m) := by rw [hl, h1]; simp [e]
      rw [h2]; clear h2 hl e
      go_enter Try.func55, Try.ntmps55
      go_wp2
      go_ret
      exact ⟨rfl, rfl⟩
    · have e1 : (r == s) = false := by simp [e]
      have h2 : ltD (r, n) (s, m) = false := by rw [hl, h1]; simp [e]
      rw [h2]; clear h2 hl e
      go_enter Try.func55, Try.ntmps55
      go_wp2
      go_ret
      exact ⟨rfl, rfl⟩

/-- what order answers -/
def cmpD (a b : Dt) : Int := if a = b then 0 else if ltD a b = true then -1 else 1

set_option maxHeartbeats 1000000 in
set_option maxRecDepth 100000 in
theorem orderC (a b : Dt) (w : World) : Calls Try.prog 53 #[.agg #[.int .i64 a.1, .int .i64 a.2], .agg #[.int .i64 b.1, .int .i64 b.2]] w fun e w' => e = .returned (.int .i64 (cmpD a b)) ∧ ∃ q os, w' = grow (w.drewN q) os := by
  have hq := eqD a b
  have hl := fun W => lessC a b W
  unfold boxD at hl
  have hc : cmpD a b = if a = b then 0 else if ltD a b = true then -1 else 1 := rfl
  generalize cmpD a b = c at hc ⊢
  generalize ltD a b = l at hl hc
  by_cases h : a = b
  · rw [if_pos h] at hc
    have hdb : decide (a = b) = true := by simp [h]
    rw [hdb] at hq
    subst hc
    clear h hdb hl
    obtain ⟨r, n⟩ := a
    obtain ⟨s, m⟩ := b
    simp only at *
    go_enter Try.func53, Try.ntmps53
    go_wp2
    go_ret
    exact ⟨rfl, 0, _, by rw [alloc_eq_grow, alloc_eq_grow, grow_grow]; rfl⟩
  · rw [if_neg h] at hc
    have hdb : decide (a = b) = false := by simp [h]
    rw [hdb] at hq
    clear h hdb
    obtain ⟨r, n⟩ := a
    obtain ⟨s, m⟩ := b
    simp only at *
    cases l with
    | true =>
      obtain rfl : c = -1 := by rw [hc]; rfl
      go_enter Try.func53, Try.ntmps53
      go_wp2_with fail
      refine (hl _).mono ?_
      rintro e w1 ⟨rfl, rfl⟩
      go_wp2
      go_ret
      exact ⟨rfl, 0, _, by rw [alloc_eq_grow, alloc_eq_grow, alloc_eq_grow, alloc_eq_grow, grow_grow, grow_grow, grow_grow]; rfl⟩
    | false =>
      obtain rfl : c = 1 := by rw [hc]; rfl
      go_enter Try.func53, Try.ntmps53
      go_wp2_with fail
      refine (hl _).mono ?_
      rintro e w1 ⟨rfl, rfl⟩
      go_wp2
      go_ret
      exact ⟨rfl, 0, _, by rw [alloc_eq_grow, alloc_eq_grow, alloc_eq_grow, alloc_eq_grow, grow_grow, grow_grow, grow_grow]; rfl⟩
end Go.Proofs.Ytlcjiodbdopcdaa

namespace Go.Proofs.Ytlcjiodbdopcdaa
set_option maxRecDepth 100000
open Go.RowKit Go.Sort

theorem lessCb (a b : Dt) (w : World) : Calls Try.prog 42 #[.agg #[.int .i64 a.1, .int .i64 a.2], .agg #[.int .i64 b.1, .int .i64 b.2]] w fun e w' => e = .returned (.bool (ltD a b)) ∧ Go.RowKit.Below w.heap.size w w' :=
  (lessC a b w).mono fun _ _ ⟨he, hw⟩ => ⟨he, by rw [← hw]; exact boxD2_below w a b⟩
theorem lessRb (a b : Dt) (w : World) : Calls Try.prog 55 #[.agg #[.int .i64 a.1, .int .i64 a.2], .agg #[.int .i64 b.1, .int .i64 b.2]] w fun e w' => e = .returned (.bool (ltD a b)) ∧ Go.RowKit.Below w.heap.size w w' :=
  (lessR a b w).mono fun _ _ ⟨he, hw⟩ => ⟨he, by rw [← hw]; exact boxD2_below w a b⟩
theorem checkCb (a : Dt) (w : World) : Calls Try.prog 44 #[.agg #[.int .i64 a.1, .int .i64 a.2]] w fun e w' => e = .returned (.int .i64 (chkD a)) ∧ Go.RowKit.Below w.heap.size w w' :=
  (checkC a w).mono fun _ _ ⟨he, hw⟩ => ⟨he, by rw [← hw]; exact boxD_below w a⟩
theorem checkRb (a : Dt) (w : World) : Calls Try.prog 70 #[.agg #[.int .i64 a.1, .int .i64 a.2]] w fun e w' => e = .returned (.int .i64 (chkD a)) ∧ Go.RowKit.Below w.heap.size w w' :=
  (checkR a w).mono fun _ _ ⟨he, hw⟩ => ⟨he, by rw [← hw]; exact boxD_below w a⟩

set_option maxHeartbeats 4000000 in
set_option maxRecDepth 100000 in
theorem chkLC (l : List Dt) (a : Option Addr) (cap : Nat) (w : World) (h : DIn w a l) (hl : l.length ≤ maxLen) :
    Calls Try.prog 81 #[.slice a l.length cap, .func (.func 44) #[] #[], .func (.func 42) #[] #[]] w fun e w' => e = .returned (.int .i64 (chkL l)) ∧ Go.RowKit.Below w.heap.size w w' := by
  have H := Lib.hid h
  clear h
  unfold maxLen at hl
  go_enter Try.func81, Try.ntmps81
  go_wp2_with fail
  go_loopw [13] (fun i wr => ∃ k : Nat, k ≤ l.length ∧ i = .int .i64 k ∧ Hid (∀ j d, j < k → l[j]? = some d → chkD d = 0) ∧ Go.RowKit.Below w.heap.size w wr) (fun i _ => l.length - (intOf i).toNat)
  case atStart => exact ⟨0, Nat.zero_le _, rfl, Lib.hid (fun j d hj => by omega), Go.RowKit.Below.refl _ _⟩
  case round =>
    obtain ⟨k, hk, rfl, HK, hb⟩ := hrel
    have HB := Lib.hid hb
    have hbs := hb.size
    clear hb
    by_cases hlt : k < l.length
    · obtain ⟨d, hd⟩ : ∃ d, l[k]? = some d := ⟨_, List.getElem?_eq_getElem hlt⟩
      obtain ⟨b, off, rfl, hbl, c0, c1⟩ := (H.out.below HB.out).at hd
      have hi1 : (k : Int) < (l.length : Int) := by omega
      have hck := fun W => checkCb d W
      have HD := Lib.hid hd
      have hm : d ∈ l := List.mem_of_getElem? hd
      obtain ⟨r, q⟩ := d
      simp only at c0 c1 hck
      clear hd
      by_cases he : chkD (r, q) = 0
      · have HK2 := Lib.hid (show ∀ j d, j < k + 1 → l[j]? = some d → chkD d = 0 from fun j d hj hjd => by
          rcases Nat.lt_or_ge j k with h1 | h1
          · exact HK.out j d h1 hjd
          · obtain rfl : j = k := by omega
            rw [HD.out] at hjd
            rw [← Option.some.inj hjd]; exact he)
        rw [he] at hck
        clear he hm
        go_wp2_with fail
        refine (hck _).mono ?_
        rintro e w1 ⟨rfl, hb1⟩
        have HB1 := Lib.hid ((HB.out.alloc hbs _).trans (hb1.mono (by simp; omega)))
        clear hb1
        go_wp2_with fail
        go_roundw
        case rel => exact ⟨k + 1, by omega, by go_num, HK2, HB1.out⟩
        case measure => simp [intOf]; omega
      · have hfin := chkL_bad hm he
        have hne : (chkD (r, q) != 0) = true := by simp [he]
        generalize chkD (r, q) = E at *
        have HF := Lib.hid hfin
        clear hfin hm he
        go_wp2_with fail
        refine (hck _).mono ?_
        rintro e w1 ⟨rfl, hb1⟩
        have HB1 := Lib.hid ((HB.out.alloc hbs _).trans (hb1.mono (by simp; omega)))
        clear hb1
        go_wp2_with fail
        go_ret
        exact ⟨by rw [HF.out]; rfl, HB1.out⟩
    · have hkn : k = l.length := by omega
      have HG := Lib.hid (show ∀ d ∈ l, chkD d = 0 from fun d hd => by
        obtain ⟨j, hj, hjd⟩ := List.mem_iff_getElem.1 hd
        exact HK.out j d (by omega) (by rw [List.getElem?_eq_getElem hj, hjd]))
      clear hkn HK hk
      go_wp2_with fail
      go_loopw [10] (fun i wk => ∃ k : Nat, i = .int .i64 ((k : Int) + 1) ∧ k ≤ l.length ∧ Hid (∀ j, (h : j + 1 < l.length) → j < k → ltD l[j] l[j + 1] = true) ∧ Go.RowKit.Below w.heap.size w wk) (fun i _ => l.length + 1 - (intOf i).toNat)
      case atStart => exact ⟨0, by simp, Nat.zero_le _, Lib.hid (fun j _ hj => by omega), HB.out⟩
      case round =>
        obtain ⟨m, rfl, hm, HR, hb2⟩ := hrel
        have HB2 := Lib.hid hb2
        have hbs2 := hb2.size
        clear hb2
        by_cases hlt2 : m + 1 < l.length
        · obtain ⟨x, hx⟩ : ∃ x, l[m]? = some x := ⟨_, List.getElem?_eq_getElem (by omega)⟩
          obtain ⟨y, hy⟩ : ∃ y, l[m + 1]? = some y := ⟨_, List.getElem?_eq_getElem hlt2⟩
          obtain ⟨b, off, rfl, hbl, c0, c1⟩ := (H.out.below HB2.out).at hx
          obtain ⟨b', off', hbe, hbl', p0, p1⟩ := (H.out.below HB2.out).at hy
          have hbe2 := Option.some.inj hbe
          obtain ⟨rfl, rfl⟩ : b = b' ∧ off = off' := by injection hbe2 with h1 h2; exact ⟨h1, h2⟩
          have hxe : l[m]'(by omega) = x := by rw [List.getElem?_eq_getElem (by omega)] at hx; exact Option.some.inj hx
          have hye : l[m + 1] = y := by rw [List.getElem?_eq_getElem hlt2] at hy; exact Option.some.inj hy
          have HXE := Lib.hid hxe
          have HYE := Lib.hid hye
          have hi0 : (0 : Int) ≤ (m : Int) := by omega
          have hi1 : (m : Int) < (l.length : Int) := by omega
          have hi2 : (m : Int) + 1 < (l.length : Int) := by omega
          have hi3 : IntKind.i64.wrap (m : Int) = m := by simp [IntKind.wrap, IntKind.bits, IntKind.signed]; omega
          have hi4 : (0 : Int) ≤ (m : Int) + 1 := by omega
          have r0 := fun d os => cell_regrown c0 d os
          have r1 := fun d os => cell_regrown c1 d os
          have r2 := fun d os => cell_regrown p0 d os
          have r3 := fun d os => cell_regrown p1 d os
          have cX := fun d os => Calls.regrown_of (lessCb x y (grow (redrawn wr d) os))
          have HCX := Lib.hid cX
          have hno : ltD x y = true ∨ ltD x y = false := by cases ltD x y <;> simp
          have HNO := Lib.hid (show ltD x y = true → ∀ j, (h : j + 1 < l.length) → j < m + 1 → ltD l[j] l[j + 1] = true from fun hh j hj hjm => by
            rcases Nat.lt_or_ge j m with h1 | h1
            · exact HR.out j hj h1
            · obtain rfl : j = m := by omega
              rw [HXE.out, HYE.out]; exact hh)
          have HNF := Lib.hid (show ltD x y = false → chkL l = 5 from fun hh => chkL_flat HG.out (fun hr => by have := hr.near m hlt2; rw [HXE.out, HYE.out, hh] at this; cases this))
          generalize ltD x y = t at HNO HNF HCX hno
          obtain ⟨xr, xq⟩ := x
          obtain ⟨yr, yq⟩ := y
          clear hx hy hxe hye cX hbe hbe2 hbl'
          simp only at c0 c1 p0 p1 r0 r1 r2 r3 HCX
          rcases hno with rfl | rfl
          · have HN := Lib.hid (HNO.out rfl)
            clear HNO HNF
            go_upto_region 11 with fail
            clear c0 c1 p0 p1
            refine wp_region_quiet_below (by kernel_rfl) (by kernel_rfl) ?_
            repeat (first | go_big_quiet_step ((go_at_call 42; with_reducible exact HCX.out _ _)) | quiet_step ((go_at_call 42; with_reducible exact HCX.out _ _)))
            refine wpQuiet_nil ?_
            intro _ hw'
            obtain ⟨⟨dq, osq⟩, hw''⟩ := hw'
            subst hw''
            have HB9 := Lib.hid (HB2.out.trans ((below_regrown wr dq osq).mono HB2.out.size))
            clear HCX r0 r1 r2 r3
            generalize grow (redrawn wr dq) osq = W at *
            go_wp2_with fail
            go_roundw
            case rel => exact ⟨m + 1, by go_num, by omega, HN, HB9.out⟩
            case measure => simp [intOf]; omega
          · have HN := Lib.hid (HNF.out rfl)
            clear HNO HNF
            go_upto_region 11 with fail
            clear c0 c1 p0 p1
            refine wp_region_quiet_below (by kernel_rfl) (by kernel_rfl) ?_
            repeat (first | go_big_quiet_step ((go_at_call 42; with_reducible exact HCX.out _ _)) | quiet_step ((go_at_call 42; with_reducible exact HCX.out _ _)))
            refine wpQuiet_nil ?_
            intro _ hw'
            obtain ⟨⟨dq, osq⟩, hw''⟩ := hw'
            subst hw''
            have HB9 := Lib.hid (HB2.out.trans ((below_regrown wr dq osq).mono HB2.out.size))
            clear HCX r0 r1 r2 r3
            generalize grow (redrawn wr dq) osq = W at *
            go_wp2_with fail
            go_ret
            exact ⟨by rw [HN.out]; rfl, HB9.out⟩
        · have hfin : chkL l = 0 := chkL_good HG.out (rise_near l (fun j hj => HR.out j hj (by omega)))
          have HF := Lib.hid hfin
          have hi2 : ¬ (m : Int) + 1 < (l.length : Int) := by omega
          clear hfin
          go_wp2_with fail
          go_ret
          exact ⟨by rw [HF.out]; rfl, HB2.out⟩

set_option maxHeartbeats 4000000 in
set_option maxRecDepth 100000 in
theorem chkLR (l : List Dt) (a : Option Addr) (cap : Nat) (w : World) (h : DIn w a l) (hl : l.length ≤ maxLen) :
    Calls Try.prog 48 #[.slice a l.length cap] w fun e w' => e = .returned (.int .i64 (chkL l)) ∧ Go.RowKit.Below w.heap.size w w' := by
  have H := Lib.hid h
  clear h
  unfold maxLen at hl
  go_enter Try.func48, Try.ntmps48
  go_wp2_with fail
  go_loopw [3] (fun i wr => ∃ k : Nat, k ≤ l.length ∧ i = .int .i64 k ∧ Hid (∀ j d, j < k → l[j]? = some d → chkD d = 0) ∧ Go.RowKit.Below w.heap.size w wr) (fun i _ => l.length - (intOf i).toNat)
  case atStart => exact ⟨0, Nat.zero_le _, rfl, Lib.hid (fun j d hj => by omega), Go.RowKit.Below.refl _ _⟩
  case round =>
    obtain ⟨k, hk, rfl, HK, hb⟩ := hrel
    have HB := Lib.hid hb
    have hbs := hb.size
    clear hb
    by_cases hlt : k < l.length
    · obtain ⟨d, hd⟩ : ∃ d, l[k]? = some d := ⟨_, List.getElem?_eq_getElem hlt⟩
      obtain ⟨b, off, rfl, hbl, c0, c1⟩ := (H.out.below HB.out).at hd
      have hi1 : (k : Int) < (l.length : Int) := by omega
      have hck := fun W => checkRb d W
      have HD := Lib.hid hd
      have hm : d ∈ l := List.mem_of_getElem? hd
      obtain ⟨r, q⟩ := d
      simp only at c0 c1 hck
      clear hd
      by_cases he : chkD (r, q) = 0
      · have HK2 := Lib.hid (show ∀ j d, j < k + 1 → l[j]? = some d → chkD d = 0 from fun j d hj hjd => by
          rcases Nat.lt_or_ge j k with h1 | h1
          · exact HK.out j d h1 hjd
          · obtain rfl : j = k := by omega
            rw [HD.out] at hjd
            rw [← Option.some.inj hjd]; exact he)
        rw [he] at hck
        clear he hm
        go_wp2_with fail
        refine (hck _).mono ?_
        rintro e w1 ⟨rfl, hb1⟩
        have HB1 := Lib.hid (HB.out.trans (hb1.mono hbs))
        clear hb1
        go_wp2_with fail
        go_roundw
        case rel => exact ⟨k + 1, by omega, by go_num, HK2, HB1.out⟩
        case measure => simp [intOf]; omega
      · have hfin := chkL_bad hm he
        have hne : (chkD (r, q) != 0) = true := by simp [he]
        generalize chkD (r, q) = E at *
        have HF := Lib.hid hfin
        clear hfin hm he
        go_wp2_with fail
        refine (hck _).mono ?_
        rintro e w1 ⟨rfl, hb1⟩
        have HB1 := Lib.hid (HB.out.trans (hb1.mono hbs))
        clear hb1
        go_wp2_with fail
        go_ret
        exact ⟨by rw [HF.out]; rfl, HB1.out⟩
    · have hkn : k = l.length := by omega
      have HG := Lib.hid (show ∀ d ∈ l, chkD d = 0 from fun d hd => by
        obtain ⟨j, hj, hjd⟩ := List.mem_iff_getElem.1 hd
        exact HK.out j d (by omega) (by rw [List.getElem?_eq_getElem hj, hjd]))
      clear hkn HK hk
      go_wp2_with fail
      go_loopw [5] (fun i wk => ∃ k : Nat, i = .int .i64 ((k : Int) + 1) ∧ k ≤ l.length ∧ Hid (∀ j, (h : j + 1 < l.length) → j < k → ltD l[j] l[j + 1] = true) ∧ Go.RowKit.Below w.heap.size w wk) (fun i _ => l.length + 1 - (intOf i).toNat)
      case atStart => exact ⟨0, by simp, Nat.zero_le _, Lib.hid (fun j _ hj => by omega), HB.out⟩
      case round =>
        obtain ⟨m, rfl, hm, HR, hb2⟩ := hrel
        have HB2 := Lib.hid hb2
        have hbs2 := hb2.size
        clear hb2
        by_cases hlt2 : m + 1 < l.length
        · obtain ⟨x, hx⟩ : ∃ x, l[m]? = some x := ⟨_, List.getElem?_eq_getElem (by omega)⟩
          obtain ⟨y, hy⟩ : ∃ y, l[m + 1]? = some y := ⟨_, List.getElem?_eq_getElem hlt2⟩
          obtain ⟨b, off, rfl, hbl, c0, c1⟩ := (H.out.below HB2.out).at hx
          obtain ⟨b', off', hbe, hbl', p0, p1⟩ := (H.out.below HB2.out).at hy
          have hbe2 := Option.some.inj hbe
          obtain ⟨rfl, rfl⟩ : b = b' ∧ off = off' := by injection hbe2 with h1 h2; exact ⟨h1, h2⟩
          have hxe : l[m]'(by omega) = x := by rw [List.getElem?_eq_getElem (by omega)] at hx; exact Option.some.inj hx
          have hye : l[m + 1] = y := by rw [List.getElem?_eq_getElem hlt2] at hy; exact Option.some.inj hy
          have HXE := Lib.hid hxe
          have HYE := Lib.hid hye
          have hi0 : (0 : Int) ≤ (m : Int) := by omega
          have hi1 : (m : Int) < (l.length : Int) := by omega
          have hi2 : (m : Int) + 1 < (l.length : Int) := by omega
          have hi3 : IntKind.i64.wrap (m : Int) = m := by simp [IntKind.wrap, IntKind.bits, IntKind.signed]; omega
          have hi4 : (0 : Int) ≤ (m : Int) + 1 := by omega
          have r0 := fun d os => cell_regrown c0 d os
          have r1 := fun d os => cell_regrown c1 d os
          have r2 := fun d os => cell_regrown p0 d os
          have r3 := fun d os => cell_regrown p1 d os
          have cX := fun d os => Calls.regrown_of (lessRb x y (grow (redrawn wr d) os))
          have HCX := Lib.hid cX
          have hno : ltD x y = true ∨ ltD x y = false := by cases ltD x y <;> simp
          have HNO := Lib.hid (show ltD x y = true → ∀ j, (h : j + 1 < l.length) → j < m + 1 → ltD l[j] l[j + 1] = true from fun hh j hj hjm => by
            rcases Nat.lt_or_ge j m with h1 | h1
            · exact HR.out j hj h1
            · obtain rfl : j = m := by omega
              rw [HXE.out, HYE.out]; exact hh)
          have HNF := Lib.hid (show ltD x y = false → chkL l = 5 from fun hh => chkL_flat HG.out (fun hr => by have := hr.near m hlt2; rw [HXE.out, HYE.out, hh] at this; cases this))
          generalize ltD x y = t at HNO HNF HCX hno
          obtain ⟨xr, xq⟩ := x
          obtain ⟨yr, yq⟩ := y
          clear hx hy hxe hye cX hbe hbe2 hbl'
          simp only at c0 c1 p0 p1 r0 r1 r2 r3 HCX
          rcases hno with rfl | rfl
          · have HN := Lib.hid (HNO.out rfl)
            clear HNO HNF
            go_upto_region 10 with fail
            clear c0 c1 p0 p1
            refine wp_region_quiet_below (by kernel_rfl) (by kernel_rfl) ?_
            repeat (first | go_big_quiet_step ((go_at_call 55; with_reducible exact HCX.out _ _)) | quiet_step ((go_at_call 55; with_reducible exact HCX.out _ _)))
            refine wpQuiet_nil ?_
            intro _ hw'
            obtain ⟨⟨dq, osq⟩, hw''⟩ := hw'
            subst hw''
            have HB9 := Lib.hid (HB2.out.trans ((below_regrown wr dq osq).mono HB2.out.size))
            clear HCX r0 r1 r2 r3
            generalize grow (redrawn wr dq) osq = W at *
            go_wp2_with fail
            go_roundw
            case rel => exact ⟨m + 1, by go_num, by omega, HN, HB9.out⟩
            case measure => simp [intOf]; omega
          · have HN := Lib.hid (HNF.out rfl)
            clear HNO HNF
            go_upto_region 10 with fail
            clear c0 c1 p0 p1
            refine wp_region_quiet_below (by kernel_rfl) (by kernel_rfl) ?_
            repeat (first | go_big_quiet_step ((go_at_call 55; with_reducible exact HCX.out _ _)) | quiet_step ((go_at_call 55; with_reducible exact HCX.out _ _)))
            refine wpQuiet_nil ?_
            intro _ hw'
            obtain ⟨⟨dq, osq⟩, hw''⟩ := hw'
            subst hw''
            have HB9 := Lib.hid (HB2.out.trans ((below_regrown wr dq osq).mono HB2.out.size))
            clear HCX r0 r1 r2 r3
            generalize grow (redrawn wr dq) osq = W at *
            go_wp2_with fail
            go_ret
            exact ⟨by rw [HN.out]; rfl, HB9.out⟩
        · have hfin : chkL l = 0 := chkL_good HG.out (rise_near l (fun j hj => HR.out j hj (by omega)))
          have HF := Lib.hid hfin
          have hi2 : ¬ (m : Int) + 1 < (l.length : Int) := by omega
          clear hfin
          go_wp2_with fail
          go_ret
          exact ⟨by rw [HF.out]; rfl, HB2.out⟩
end Go.Proofs.Ytlcjiodbdopcdaa

namespace Go.Proofs.Ytlcjiodbdopcdaa
set_option maxRecDepth 100000
open Go.Shelf

def sortDl_ren : Go.Shelf.Ren := ⟨fun | 6 => 52 | 15 => 84 | 14 => 83 | 28 => 106 | 29 => 107 | 20 => 98 | 21 => 99 | 22 => 100 | 23 => 101 | 24 => 102 | 25 => 103 | 26 => 104 | 27 => 105 | 46 => 110 | 47 => 111 | 48 => 112 | 49 => 113 | 50 => 114 | 57 => 116 | n => n, fun | 22 => 22 | 24 => 49 | 25 => 81 | 3 => 3 | 39 => 114 | 0 => 0 | 53 => 143 | 55 => 145 | 4 => 4 | 46 => 137 | 45 => 136 | 50 => 129 | 5 => 5 | 9 => 9 | 66 => 148 | 70 => 152 | 76 => 156 | 77 => 157 | n => n, fun | n => n⟩
theorem sortDl : SlLaysF0.n6 Try.prog sortDl_ren := {
  mixed := by kernel_rfl
  f6 := ⟨Try.f52.name, by decide, Try.func52.trans (congrArg some (by kernel_rfl))⟩
  f14 := ⟨Try.f83.name, by decide, Try.func83.trans (congrArg some (by kernel_rfl))⟩
  f15 := Try.func84.trans (congrArg some (by kernel_rfl))
  f20 := ⟨Try.f98.name, by decide, Try.func98.trans (congrArg some (by kernel_rfl))⟩
  f21 := ⟨Try.f99.name, by decide, Try.func99.trans (congrArg some (by kernel_rfl))⟩
  f22 := ⟨Try.f100.name, by decide, Try.func100.trans (congrArg some (by kernel_rfl))⟩
  f23 := ⟨Try.f101.name, by decide, Try.func101.trans (congrArg some (by kernel_rfl))⟩
  f24 := ⟨Try.f102.name, by decide, Try.func102.trans (congrArg some (by kernel_rfl))⟩
  f25 := ⟨Try.f103.name, by decide, Try.func103.trans (congrArg some (by kernel_rfl))⟩
  f26 := ⟨Try.f104.name, by decide, Try.func104.trans (congrArg some (by kernel_rfl))⟩
  f27 := ⟨Try.f105.name, by decide, Try.func105.trans (congrArg some (by kernel_rfl))⟩
  f28 := Try.func106.trans (congrArg some (by kernel_rfl))
  f29 := Try.func107.trans (congrArg some (by kernel_rfl))
  f46 := ⟨Try.f110.name, by decide, Try.func110.trans (congrArg some (by kernel_rfl))⟩
  f47 := Try.func111.trans (congrArg some (by kernel_rfl))
  f48 := Try.func112.trans (congrArg some (by kernel_rfl))
  f49 := ⟨Try.f113.name, by decide, Try.func113.trans (congrArg some (by kernel_rfl))⟩
  f50 := ⟨Try.f114.name, by decide, Try.func114.trans (congrArg some (by kernel_rfl))⟩
  f57 := ⟨Try.f116.name, by decide, Try.func116.trans (congrArg some (by kernel_rfl))⟩
  t0 := Try.underlying0
  a0 := Try.isAgg0
  z0 := Try.sizeOf0
  v0 := Try.zeroValue0
  t3 := Try.underlying3
  a3 := Try.isAgg3
  z3 := Try.sizeOf3
  v3 := Try.zeroValue3
  t4 := Try.underlying4
  a4 := Try.isAgg4
  z4 := Try.sizeOf4
  v4 := Try.zeroValue4
  t5 := Try.underlying5
  a5 := Try.isAgg5
  z5 := Try.sizeOf5
  v5 := Try.zeroValue5
  t9 := Try.underlying9
  a9 := Try.isAgg9
  z9 := Try.sizeOf9
  v9 := Try.zeroValue9
  t22 := Try.underlying22
  a22 := Try.isAgg22
  z22 := Try.sizeOf22
  v22 := Try.zeroValue22
  t25 := Try.underlying81
  a25 := Try.isAgg81
  z25 := Try.sizeOf81
  v25 := Try.zeroValue81
  t39 := Try.underlying114
  a39 := Try.isAgg114
  z39 := Try.sizeOf114
  v39 := Try.zeroValue114
  t45 := Try.underlying136
  a45 := Try.isAgg136
  z45 := Try.sizeOf136
  v45 := Try.zeroValue136
  t46 := Try.underlying137
  a46 := Try.isAgg137
  z46 := Try.sizeOf137
  v46 := Try.zeroValue137
  t50 := Try.underlying129
  a50 := Try.isAgg129
  z50 := Try.sizeOf129
  v50 := Try.zeroValue129
  t53 := Try.underlying143
  a53 := Try.isAgg143
  z53 := Try.sizeOf143
  v53 := Try.zeroValue143
  t55 := Try.underlying145
  a55 := Try.isAgg145
  z55 := Try.sizeOf145
  v55 := Try.zeroValue145
  t66 := Try.underlying148
  a66 := Try.isAgg148
  z66 := Try.sizeOf148
  v66 := Try.zeroValue148
  t70 := Try.underlying152
  a70 := Try.isAgg152
  z70 := Try.sizeOf152
  v70 := Try.zeroValue152
  t76 := Try.underlying156
  a76 := Try.isAgg156
  z76 := Try.sizeOf156
  v76 := Try.zeroValue156
  t77 := Try.underlying157
  a77 := Try.isAgg157
  z77 := Try.sizeOf157
  v77 := Try.zeroValue157 }
end Go.Proofs.Ytlcjiodbdopcdaa
