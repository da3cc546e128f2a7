/-
  The document's Dots.
  An update in memory: seven cells.
  list.Check of facts: whether each may be, and whether they rise.
  order; whether names stand in their order.
-/
import Derived.Test.YtmnblpjdiplioaaGreatGOp14
import Derived.Test.YtmnblpjdiplioaaGreatGOp21
import Derived.Test.YtmnblpjdiplioaaGreatGOp05
import Derived.Test.YtmnblpjdiplioaaGreatGOp02
import Derived.Test.YtmnblpjdiplioaaGreatGOp03
import Derived.Test.YtmnblpjdiplioaaGreatGOp11
import Derived.Lib.QuietBelow
import Derived.BigQuiet
import Derived.Deep.Cut
import Derived.Deep.DeepCutAuto
import Derived.Test.YtmnblpjdiplioaaGreatGOp20
import Derived.Test.YtmnblpjdiplioaaGreatGOp06
import Derived.Shelf.Abstract
namespace Go.Proofs.YtmnblpjdiplioaaGreat
set_option linter.unusedSimpArgs false
set_option linter.unusedVariables false
set_option maxRecDepth 100000
open Go.RowKit Go.Sort

set_option maxHeartbeats 4000000 in
theorem dotsKR (l : List Ft) (a : Option Addr) (cap : Nat) (w : World) (h : FIn w a l) (hl : l.length ≤ 60000) :
    Calls Tryz.prog 18 #[.slice a l.length cap] w fun e w' => ∃ v', e = .returned v' ∧ OwnD w.heap.size v' (sortD (l.map (·.d))) w' ∧ Go.RowKit.Below w.heap.size w w' := by
  have H := Lib.hid h
  clear h
  go_enter Tryz.func18, Tryz.ntmps18
  go_wp2_with fail
  go_loopw [3, 4] (fun v i wr => ∃ k : Nat, k ≤ l.length ∧ i = .int .i64 k ∧ OwnD w.heap.size v ((l.take k).map (·.d)) wr ∧ Go.RowKit.Below w.heap.size w wr) (fun _ i _ => l.length - (intOf i).toNat)
  case atStart => exact ⟨0, Nat.zero_le _, rfl, by rw [List.take_zero]; exact ownD_nil _ _, Below.refl _ _⟩
  case round =>
    obtain ⟨k, hk, rfl, hown, hb⟩ := hrel
    have HB := Lib.hid hb
    have HOW := Lib.hid hown
    have hbs := hb.size
    clear hb hown
    by_cases hlt : k < l.length
    · obtain ⟨f, hf⟩ : ∃ f, l[k]? = some f := ⟨_, List.getElem?_eq_getElem hlt⟩
      obtain ⟨fb, off, rfl, hbl, c0⟩ := (H.out.below HB.out).at hf
      have hi1 : (k : Int) < (l.length : Int) := by omega
      have q0 := range_one c0 0 (v := .int .i64 f.d.1) rfl
      have q1 := range_one c0 1 (v := .int .i64 f.d.2) rfl
      rw [Nat.add_zero] at q0
      have HNX := Lib.hid (show (l.take (k + 1)).map (·.d) = (l.take k).map (·.d) ++ [f.d] from by
        obtain ⟨e1, e2⟩ := List.getElem?_eq_some_iff.1 hf
        rw [List.take_succ_eq_append_getElem hlt, List.map_append, e2]; rfl)
      have hln : ((l.take k).map (·.d)).length ≤ 60000 := by rw [List.length_map, List.length_take]; omega
      have hone := din_new wr f.d
      generalize (l.take k).map (·.d) = G at *
      obtain ⟨q2, d2, w8, hr8, ho8, hb8⟩ := appD (c := 1) (HOW.out.alloc (.cells #[.int .i64 f.d.1, .int .i64 f.d.2] 36)) hone (by simp; omega) (G.length + 1) (by simp) (by omega)
      have HR8 := Lib.hid hr8
      have HX8 := Lib.hid (And.intro (show OwnD w.heap.size (.slice q2 (G.length + 1) d2) ((l.take (k + 1)).map (·.d)) w8 from by rw [HNX.out]; exact ho8) ((HB.out.alloc hbs _).trans hb8))
      clear c0 hf hr8 ho8 hb8 hone HNX
      generalize f.d.1 = dr at *
      generalize f.d.2 = dq at *
      go_wp2_with (at_builtin; refine wpList_append_run rfl _ _ 41 41 rfl _ (.slice (some ⟨wr.heap.size, 0, none⟩) 1 1) _ w8 rfl rfl HR8.out ?_)
      go_roundw
      case rel => exact ⟨k + 1, by omega, by go_num, HX8.out.1, HX8.out.2⟩
      case measure => simp [intOf]; omega
    · obtain rfl : k = l.length := by omega
      have hi2 : ¬ (l.length : Int) < (l.length : Int) := by omega
      have hown := HOW.out
      rw [List.take_length] at hown
      have hml : (l.map (·.d)).length ≤ 60000 := by rw [List.length_map]; exact hl
      obtain ⟨ds, hds⟩ : ∃ ds, ds = l.map (·.d) := ⟨_, rfl⟩
      rw [← hds] at hown hml
      have HDS := Lib.hid hds
      clear hds
      obtain ⟨va, vc, rfl, hdi, -, -⟩ := hown.din2
      have hsr := sortR ds va vc wr hdi (by omega)
      have HSR := Lib.hid hsr
      clear hown hdi hsr HOW
      go_wp2_with fail
      refine HSR.out.mono ?_
      rintro e w3 ⟨v3, rfl, hown3, hb3⟩
      have HF := Lib.hid (And.intro (hown3.mono hbs) (HB.out.trans (hb3.mono hbs)))
      clear hown3 hb3
      go_wp2_with fail
      go_ret
      exact ⟨_, rfl, by rw [← HDS.out]; exact HF.out.1, HF.out.2⟩
end Go.Proofs.YtmnblpjdiplioaaGreat

namespace Go.Proofs.YtmnblpjdiplioaaGreat
set_option linter.unusedSimpArgs false
set_option linter.unusedVariables false
set_option maxRecDepth 100000
open Go.RowKit Go.Sort

/-- a delta's cells -/
def dlc (e : Dl) (la : Option Addr) (lk : Nat) (ga : Option Addr) (gk : Nat) : Array Value := #[.int .i64 e.d.1, .int .i64 e.d.2, .int .i64 e.s.t, .int .i64 e.s.c, .int .i64 e.s.r, .slice la e.l.length lk, .slice ga e.g.length gk]
theorem deltaSize : (Tryz.prog.info? 43).map (·.size) = some 7 := by kernel_rfl
/-- one cell that holds a slice, a name: in a region that draws -/
theorem yield_cF {ops : Array Oper} {S : World → Prop} {o : Oper} {a : Act} (hw : Region.wanted o (yielded ops a.tmps) = true) (x : Operand) (ho : o.op = .load 22 x) (g off : Nat) (p : Option Addr) (n c : Nat) (hx : a.eval x = .pointer (some ⟨g, off, none⟩))
    (hg : ∀ w, S w → w.cell? ⟨g, off, none⟩ = some (.slice p n c)) : YieldsIf Tryz.prog ops S o (.slice p n c) a := by
  refine .inl ⟨hw, fun w hS => ?_⟩
  have h0 := hg w hS
  unfold execOp
  simp only [ho, hx]
  go_simp
theorem dl_one (e : Dl) (la : Option Addr) (lk : Nat) (ga : Option Addr) (gk : Nat) : (dlc e la lk ga gk).all (·.oneCell') = true := by simp [dlc, Value.oneCell']
theorem infoD (e : Dl) (la : Option Addr) (lk : Nat) (ga : Option Addr) (gk : Nat) : (Tryz.prog.info? 43).map (·.size) = some (dlc e la lk ga gk).size := by rw [deltaSize]; rfl
/-- a delta's block -/
abbrev DBlk (w : World) (b : Nat) (e : Dl) (la : Option Addr) (lk : Nat) (ga : Option Addr) (gk : Nat) : Prop := Blk w b 43 (dlc e la lk ga gk)
/-- its lists, where they lie; the facts' values are no longer than the contracts want -/
structure DlMem (w : World) (e : Dl) (la ga : Option Addr) : Prop where
  fin : FIn w la e.l
  din : DIn w ga e.g
  flen : e.l.length ≤ 65536
  glen : e.g.length ≤ 65536
  val : ∀ f ∈ e.l, f.v.size ≤ 5000
theorem DlMem.below {w w' : World} {e : Dl} {la ga : Option Addr} (h : DlMem w e la ga) (hb : Go.RowKit.Below w.heap.size w w') : DlMem w' e la ga :=
  ⟨h.fin.below hb, h.din.below hb, h.flen, h.glen, h.val⟩
theorem DlMem.flen' {w : World} {e : Dl} {la ga : Option Addr} (h : DlMem w e la ga) : e.l.length ≤ maxLen := Nat.le_trans h.flen (by simp [maxLen])
theorem DlMem.glen' {w : World} {e : Dl} {la ga : Option Addr} (h : DlMem w e la ga) : e.g.length ≤ maxLen := Nat.le_trans h.glen (by simp [maxLen])
end Go.Proofs.YtmnblpjdiplioaaGreat

namespace Go.Proofs.YtmnblpjdiplioaaGreat
set_option maxRecDepth 100000
open Go.RowKit Go.Sort

theorem firstF_atJ {rd : ByteArray → Int} {l : List Ft} {k : Nat} {d : Ft} (h : ∀ j d, j < k → l[j]? = some d → chkF rd d = 0) (hd : l[k]? = some d) (he : chkF rd d ≠ 0) : chkFs rd l = chkF rd d := by
  have h1 := firstF_at hd he (fun i g hi hg => h i g hi hg)
  rw [chkFs_bad (by rw [h1]; exact he), h1]
theorem chkFs_flatJ {rd : ByteArray → Int} {l : List Ft} (h : ∀ d ∈ l, chkF rd d = 0) (hr : ¬ RiseF l) : chkFs rd l = 5 := chkFs_flat (firstF_ok.2 h) hr
theorem chkFs_goodJ {rd : ByteArray → Int} {l : List Ft} (h : ∀ d ∈ l, chkF rd d = 0) (hr : RiseF l) : chkFs rd l = 0 := chkFs_good (firstF_ok.2 h) hr

set_option maxHeartbeats 4000000 in
set_option maxRecDepth 100000 in
theorem chkFsC (l : List Ft) (a : Option Addr) (cap : Nat) (w : World) (h : FIn w a l) (hl : l.length ≤ maxLen) (hv : ∀ f ∈ l, f.v.size ≤ 5000) :
    Calls Tryz.prog 87 #[.slice a l.length cap, .func (.func 88) #[] #[], .func (.func 89) #[] #[]] w fun e w' => e = .returned (.int .i64 (chkFs rdM l)) ∧ Go.RowKit.Below w.heap.size w w' := by
  have H := Lib.hid h
  clear h
  unfold maxLen at hl
  go_enter Tryz.func87, Tryz.ntmps87
  go_wp2_with fail
  go_loopw [13] (fun i wr => ∃ k : Nat, k ≤ l.length ∧ i = .int .i64 k ∧ Hid (∀ j d, j < k → l[j]? = some d → chkFm d = 0) ∧ Go.RowKit.Below w.heap.size w wr) (fun i _ => l.length - (intOf i).toNat)
  case atStart => exact ⟨0, Nat.zero_le _, rfl, Lib.hid (fun j d hj => by omega), Go.RowKit.Below.refl _ _⟩
  case round =>
    obtain ⟨k, hk, rfl, HK, hb⟩ := hrel
    have HB := Lib.hid hb
    have hbs := hb.size
    clear hb
    by_cases hlt : k < l.length
    · obtain ⟨d, hd⟩ : ∃ d, l[k]? = some d := ⟨_, List.getElem?_eq_getElem hlt⟩
      obtain ⟨b, off, rfl, hbl, c0⟩ := (H.out.below HB.out).at hd
      have c0 := Lib.hid c0
      have hi1 : (k : Int) < (l.length : Int) := by omega
      have hck := fun W => fchkC d (hv d (List.mem_of_getElem? hd)) W
      have HD := Lib.hid hd
      have hch : ∀ he : chkFm d ≠ 0, chkFs rdM l = chkFm d := fun he => firstF_atJ HK.out HD.out he
      have HCH := Lib.hid hch
      have HK3 := Lib.hid (show chkFm d = 0 → ∀ j d, j < k + 1 → l[j]? = some d → chkFm d = 0 from fun he j d hj hjd => by
        rcases Nat.lt_or_ge j k with h1 | h1
        · exact HK.out j d h1 hjd
        · obtain rfl : j = k := by omega
          rw [HD.out] at hjd
          rw [← Option.some.inj hjd]; exact he)
      generalize hE : chkFm d = E at hck HCH HK3
      clear hd hch hE
      by_cases he : E = 0
      · have HK2 := Lib.hid (HK3.out he)
        subst he
        clear HK3
        go_wp2_with (first
          | ((with_reducible refine fl_load ?_ (.tmp 15) ?_ b (off + k * 8) d ?_ ?_ ?_); rfl; rfl; rfl; exact c0.out)
          | ((with_reducible refine fl_store ?_ (.tmp 8) (.tmp 16) ?_ wr.heap.size d ?_ ?_ ?_ ?_); rfl; rfl; rfl; rfl; exact boxZ_old wr)
          | ((with_reducible refine fl_load ?_ (.tmp 8) ?_ wr.heap.size 0 d ?_ ?_ ?_); rfl; rfl; rfl; exact (boxZ_row wr d).range))
        refine (hck _).mono ?_
        rintro e w1 ⟨rfl, hb1⟩
        have HB1 := Lib.hid (HB.out.trans (((boxZ_below wr d).trans (hb1.mono (boxZ_below wr d).size)).mono hbs))
        clear hb1
        go_wp2_with fail
        go_roundw
        case rel => exact ⟨k + 1, by omega, by go_num, HK2, HB1.out⟩
        case measure => simp [intOf]; omega
      · have HF := Lib.hid (HCH.out he)
        have hne : (E != 0) = true := by simp [he]
        clear he HK3 HCH
        go_wp2_with (first
          | ((with_reducible refine fl_load ?_ (.tmp 15) ?_ b (off + k * 8) d ?_ ?_ ?_); rfl; rfl; rfl; exact c0.out)
          | ((with_reducible refine fl_store ?_ (.tmp 8) (.tmp 16) ?_ wr.heap.size d ?_ ?_ ?_ ?_); rfl; rfl; rfl; rfl; exact boxZ_old wr)
          | ((with_reducible refine fl_load ?_ (.tmp 8) ?_ wr.heap.size 0 d ?_ ?_ ?_); rfl; rfl; rfl; exact (boxZ_row wr d).range))
        refine (hck _).mono ?_
        rintro e w1 ⟨rfl, hb1⟩
        have HB1 := Lib.hid (HB.out.trans (((boxZ_below wr d).trans (hb1.mono (boxZ_below wr d).size)).mono hbs))
        clear hb1
        go_wp2_with fail
        go_ret
        exact ⟨by rw [HF.out]; rfl, HB1.out⟩
    · have hkn : k = l.length := by omega
      have HG := Lib.hid (show ∀ d ∈ l, chkFm d = 0 from fun d hd => by
        obtain ⟨j, hj, hjd⟩ := List.mem_iff_getElem.1 hd
        exact HK.out j d (by omega) (by rw [List.getElem?_eq_getElem hj, hjd]))
      clear hkn HK hk
      go_wp2_with fail
      go_loopw [10] (fun i wk => ∃ k : Nat, i = .int .i64 ((k : Int) + 1) ∧ k ≤ l.length ∧ Hid (∀ j, (h : j + 1 < l.length) → j < k → ltF l[j] l[j + 1] = true) ∧ Go.RowKit.Below w.heap.size w wk) (fun i _ => l.length + 1 - (intOf i).toNat)
      case atStart => exact ⟨0, by simp, Nat.zero_le _, Lib.hid (fun j _ hj => by omega), HB.out⟩
      case round =>
        obtain ⟨m, rfl, hm, HR, hb2⟩ := hrel
        have HB2 := Lib.hid hb2
        have hbs2 := hb2.size
        clear hb2
        by_cases hlt2 : m + 1 < l.length
        · obtain ⟨x, hx⟩ : ∃ x, l[m]? = some x := ⟨_, List.getElem?_eq_getElem (by omega)⟩
          obtain ⟨y, hy⟩ : ∃ y, l[m + 1]? = some y := ⟨_, List.getElem?_eq_getElem hlt2⟩
          obtain ⟨b, off, rfl, hbl, c0⟩ := (H.out.below HB2.out).at hx
          obtain ⟨b', off', hbe, hbl', p0⟩ := (H.out.below HB2.out).at hy
          have hbe2 := Option.some.inj hbe
          obtain ⟨rfl, rfl⟩ : b = b' ∧ off = off' := by injection hbe2 with h1 h2; exact ⟨h1, h2⟩
          have hxe : l[m]'(by omega) = x := by rw [List.getElem?_eq_getElem (by omega)] at hx; exact Option.some.inj hx
          have hye : l[m + 1] = y := by rw [List.getElem?_eq_getElem hlt2] at hy; exact Option.some.inj hy
          have HXE := Lib.hid hxe
          have HYE := Lib.hid hye
          have hi0 : (0 : Int) ≤ (m : Int) := by omega
          have hi1 : (m : Int) < (l.length : Int) := by omega
          have hi2 : (m : Int) + 1 < (l.length : Int) := by omega
          have hi3 : IntKind.i64.wrap (m : Int) = m := by simp [IntKind.wrap, IntKind.bits, IntKind.signed]; omega
          have hi4 : (0 : Int) ≤ (m : Int) + 1 := by omega
          have HR0 := Lib.hid (range_regrown c0 hbl)
          have HR1 := Lib.hid (range_regrown p0 hbl)
          have cX := fun d os => Calls.regrown_of (lessFC x y (grow (redrawn wr d) os))
          have HCX := Lib.hid cX
          have hno : ltF x y = true ∨ ltF x y = false := by cases ltF x y <;> simp
          have HNO := Lib.hid (show ltF x y = true → ∀ j, (h : j + 1 < l.length) → j < m + 1 → ltF l[j] l[j + 1] = true from fun hh j hj hjm => by
            rcases Nat.lt_or_ge j m with h1 | h1
            · exact HR.out j hj h1
            · obtain rfl : j = m := by omega
              rw [HXE.out, HYE.out]; exact hh)
          have HNF := Lib.hid (show ltF x y = false → chkFs rdM l = 5 from fun hh => chkFs_flatJ HG.out (fun hr => by have := hr.near m hlt2; rw [HXE.out, HYE.out, hh] at this; cases this))
          generalize ltF x y = t at HNO HNF HCX hno
          clear hx hy hxe hye cX hbe hbe2 hbl' c0 p0
          rcases hno with rfl | rfl
          · have HN := Lib.hid (HNO.out rfl)
            clear HNO HNF
            go_upto_region 11 with fail
            refine wp_region_quiet_below (by kernel_rfl) (by kernel_rfl) ?_
            repeat (first
              | ((with_reducible refine fq_load ?_ (.tmp 34) ?_ b (off + m * 8) x ?_ ?_ ?_); rfl; rfl; rfl; exact HR0.out; simp only [Act.put, List.setIfInBounds_toArray, List.set_cons_zero, List.set_cons_succ])
              | ((with_reducible refine fq_load ?_ (.tmp 38) ?_ b (off + (m + 1) * 8) y ?_ ?_ ?_); rfl; rfl; rfl; exact HR1.out; simp only [Act.put, List.setIfInBounds_toArray, List.set_cons_zero, List.set_cons_succ])
              | go_big_quiet_step ((go_at_call 89; with_reducible exact HCX.out _ _)) | quiet_step ((go_at_call 89; with_reducible exact HCX.out _ _)))
            refine wpQuiet_nil ?_
            intro _ hw'
            obtain ⟨⟨dq, osq⟩, hw''⟩ := hw'
            subst hw''
            have HB9 := Lib.hid (HB2.out.trans ((below_regrown wr dq osq).mono HB2.out.size))
            clear HCX HR0 HR1
            generalize grow (redrawn wr dq) osq = W at *
            go_wp2_with fail
            go_roundw
            case rel => exact ⟨m + 1, by go_num, by omega, HN, HB9.out⟩
            case measure => simp [intOf]; omega
          · have HN := Lib.hid (HNF.out rfl)
            clear HNO HNF
            go_upto_region 11 with fail
            refine wp_region_quiet_below (by kernel_rfl) (by kernel_rfl) ?_
            repeat (first
              | ((with_reducible refine fq_load ?_ (.tmp 34) ?_ b (off + m * 8) x ?_ ?_ ?_); rfl; rfl; rfl; exact HR0.out; simp only [Act.put, List.setIfInBounds_toArray, List.set_cons_zero, List.set_cons_succ])
              | ((with_reducible refine fq_load ?_ (.tmp 38) ?_ b (off + (m + 1) * 8) y ?_ ?_ ?_); rfl; rfl; rfl; exact HR1.out; simp only [Act.put, List.setIfInBounds_toArray, List.set_cons_zero, List.set_cons_succ])
              | go_big_quiet_step ((go_at_call 89; with_reducible exact HCX.out _ _)) | quiet_step ((go_at_call 89; with_reducible exact HCX.out _ _)))
            refine wpQuiet_nil ?_
            intro _ hw'
            obtain ⟨⟨dq, osq⟩, hw''⟩ := hw'
            subst hw''
            have HB9 := Lib.hid (HB2.out.trans ((below_regrown wr dq osq).mono HB2.out.size))
            clear HCX HR0 HR1
            generalize grow (redrawn wr dq) osq = W at *
            go_wp2_with fail
            go_ret
            exact ⟨by rw [HN.out]; rfl, HB9.out⟩
        · have hfin : chkFs rdM l = 0 := chkFs_goodJ HG.out (riseF_near l (fun j hj => HR.out j hj (by omega)))
          have HF := Lib.hid hfin
          have hi2 : ¬ (m : Int) + 1 < (l.length : Int) := by omega
          clear hfin
          go_wp2_with fail
          go_ret
          exact ⟨by rw [HF.out]; rfl, HB2.out⟩
end Go.Proofs.YtmnblpjdiplioaaGreat

namespace Go.Proofs.YtmnblpjdiplioaaGreat
set_option maxRecDepth 100000
open Go.RowKit Go.Sort Go.Shelf

theorem cmpD_neg (a b : Dt) : cmpD a b < 0 ↔ ltD a b = true := by
  unfold cmpD
  by_cases h : a = b
  · subst h; simp [ltD_irr]
  · rw [if_neg h]
    by_cases h2 : ltD a b = true
    · simp [h2]
    · simp [h2]
theorem cmpD_zero (a b : Dt) : cmpD a b = 0 ↔ a = b := by
  unfold cmpD
  by_cases h : a = b
  · simp [h]
  · rw [if_neg h]
    split <;> simp [h]

/-- none is less than one ahead of it -/
def Stands (l : List Dt) : Prop := l.Pairwise (fun a b => ltD b a = false)
/-- the place of the first one that is not less -/
theorem found_iff {l : List Dt} (hs : Stands l) (d : Dt) {i : Nat} (h1 : ∀ (k : Nat) (x : Dt), k < i → l[k]? = some x → ltD x d = true) (h2 : ∀ (k : Nat) (x : Dt), i ≤ k → l[k]? = some x → ltD x d = false) :
    decide (d ∈ l) = true ↔ l[i]? = some d := by
  rw [decide_eq_true_eq]
  constructor
  · intro hd
    obtain ⟨j, hj, hjd⟩ := List.mem_iff_getElem.1 hd
    have hjd' : l[j]? = some d := by rw [List.getElem?_eq_getElem hj, hjd]
    rcases Nat.lt_or_ge j i with h | h
    · have := h1 j d h hjd'
      rw [ltD_irr] at this; cases this
    · rcases Nat.eq_or_lt_of_le h with e | h3
      · rw [e]; exact hjd'
      · obtain ⟨x, hx⟩ : ∃ x, l[i]? = some x := ⟨_, List.getElem?_eq_getElem (by omega)⟩
        have h4 := h2 i x (Nat.le_refl _) hx
        have h5 := List.pairwise_iff_getElem.1 hs i j (by omega) hj h3
        obtain ⟨hil, hxe⟩ := List.getElem?_eq_some_iff.1 hx
        rw [hxe, hjd] at h5
        rcases ltD_tri x d with h6 | h6 | h6
        · rw [h4] at h6; cases h6
        · rw [hx, h6]
        · rw [h5] at h6; cases h6
  · exact fun h => List.mem_of_getElem? h

end Go.Proofs.YtmnblpjdiplioaaGreat
