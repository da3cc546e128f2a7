/-
  op, the document's: facts.
  Whether names may be, and rise: checkList of the program, Checks of the document.
-/
import Derived.Test.YtmnblpjdiplioaaGreatGOp19
import Derived.Test.YtmnblpjdiplioaaGreatGOp06
import Derived.Lib.QuietBelow
import Derived.BigQuiet
namespace Go.Proofs.YtmnblpjdiplioaaGreat
set_option linter.unusedSimpArgs false
set_option linter.unusedVariables false
set_option maxRecDepth 100000
open Go.RowKit Go.Sort

theorem build1Fr (f : Ft) (w : World) : (Instr.buildSlice 22 1 #[(0, .agg (fcs f).toArray)]).run Tryz.prog w = .ok (.slice (some ⟨w.heap.size, 0, none⟩) 1 1) (w.alloc (.cells (fcs f).toArray 63)) := by
  obtain ⟨i0, hi, hz0, hz1, hz2⟩ := info_parts factInfo
  refine run_buildSlice w 22 63 1 _ (fcs f).toArray i0 zeroF Tryz.underlying22 hi hz0 (by rw [hz1]; decide) (by rw [hz1]; decide) ?_
  rw [hz1]
  kernel_rfl
theorem yield_fl {ops : Array Oper} {S : World → Prop} {o : Oper} {a : Act} (hw : Region.wanted o (yielded ops a.tmps) = true) (x : Operand) (ho : o.op = .load 23 x) (g off : Nat) (z : Nat) (hx : a.eval x = .pointer (some ⟨g, off, none⟩))
    (hg : ∀ w, S w → w.cell? ⟨g, off, none⟩ = some (.float .f64 z)) : YieldsIf Tryz.prog ops S o (.float .f64 z) a := by
  refine .inl ⟨hw, fun w hS => ?_⟩
  have h0 := hg w hS
  unfold execOp
  simp only [ho, hx]
  go_simp
abbrev zSt : St := ⟨0, 0, 0⟩
/-- what it says, without a name and a stamp -/
def bareO (o : Opp) (m : ByteArray) : List Ft := saysO o (0, 0) zSt m

set_option maxHeartbeats 16000000 in
theorem factsOR (o : Opp) (m : ByteArray) (h1 : 1 ≤ o.k) (h6 : o.k ≤ 6) (w : World) :
    Calls Tryz.prog 36 #[.agg (opc o), .string m] w fun v w' => (∃ a' c', v = .returned (.slice a' (bareO o m).length c') ∧ FFrom w' w.heap.size a' (bareO o m)) ∧ Go.RowKit.Below w.heap.size w w' := by
  have HO := Lib.hid (Blk.new w 25 (opc o))
  have HB := Lib.hid (lowA w (.cells (opc o) 25))
  have HE := Lib.hid (show bareO o m = if o.k = 1 then [⟨(0, 0), zSt, 1, o.n, m⟩] else if o.k = 2 then [⟨(0, 0), zSt, 3, o.n, o.v⟩] else if o.k = 4 then [⟨(0, 0), zSt, 2, o.n, o.v⟩] else if o.k = 5 then [⟨(0, 0), zSt, 4, o.n, putS o.p⟩] else [] from rfl)
  have HP := Lib.hid (fun W => flPutR o.p W)
  have hk := kinds6 h1 h6
  clear h1 h6
  generalize bareO o m = F at *
  generalize putS o.p = x at *
  obtain ⟨k, n, v, p, b⟩ := o
  simp only at hk HE HP
  rcases hk with rfl | rfl | rfl | rfl | rfl | rfl
  · go_enter Tryz.func36, Tryz.ntmps36
    go_upto_region 1 with fail
    change Code.wp _ _ _ _ (w.alloc (.cells (opc ⟨1, n, v, p, b⟩) 25))
    generalize w.alloc (.cells (opc ⟨1, n, v, p, b⟩) 25) = W at *
    have c0 : W.cell? ⟨w.heap.size, 0, none⟩ = some (.int .i64 1) := HO.out.cell rfl
    have c1 : W.cell? ⟨w.heap.size, 1, none⟩ = some (.string n) := HO.out.cell rfl
    have c2 : W.cell? ⟨w.heap.size, 2, none⟩ = some (.string v) := HO.out.cell rfl
    have HF := Lib.hid (show F = [⟨(0, 0), zSt, 1, n, m⟩] by rw [HE.out]; simp)
    clear HE
    go_wp2_with ((with_reducible refine wpList_build1F ?_ (.tmp 12) ?_ ⟨(0, 0), zSt, 1, n, m⟩ ?_ ?_); rfl; rfl; rfl; simp only [Act.put, List.setIfInBounds_toArray, List.set_cons_zero, List.set_cons_succ])
    go_ret
    exact ⟨⟨some ⟨W.heap.size, 0, none⟩, 1, by rw [HF.out]; rfl, by rw [HF.out]; exact FFrom.of (fin_new W ⟨(0, 0), zSt, 1, n, m⟩) HB.out.size⟩, HB.out.alloc HB.out.size _⟩
  · go_enter Tryz.func36, Tryz.ntmps36
    go_upto_region 1 with fail
    change Code.wp _ _ _ _ (w.alloc (.cells (opc ⟨2, n, v, p, b⟩) 25))
    generalize w.alloc (.cells (opc ⟨2, n, v, p, b⟩) 25) = W at *
    have c0 : W.cell? ⟨w.heap.size, 0, none⟩ = some (.int .i64 2) := HO.out.cell rfl
    have c1 : W.cell? ⟨w.heap.size, 1, none⟩ = some (.string n) := HO.out.cell rfl
    have c2 : W.cell? ⟨w.heap.size, 2, none⟩ = some (.string v) := HO.out.cell rfl
    have HF := Lib.hid (show F = [⟨(0, 0), zSt, 3, n, v⟩] by rw [HE.out]; simp)
    clear HE
    go_wp2_with ((with_reducible refine wpList_build1F ?_ (.tmp 20) ?_ ⟨(0, 0), zSt, 3, n, v⟩ ?_ ?_); rfl; rfl; rfl; simp only [Act.put, List.setIfInBounds_toArray, List.set_cons_zero, List.set_cons_succ])
    go_ret
    exact ⟨⟨some ⟨W.heap.size, 0, none⟩, 1, by rw [HF.out]; rfl, by rw [HF.out]; exact FFrom.of (fin_new W ⟨(0, 0), zSt, 3, n, v⟩) HB.out.size⟩, HB.out.alloc HB.out.size _⟩
  · go_enter Tryz.func36, Tryz.ntmps36
    go_upto_region 1 with fail
    change Code.wp _ _ _ _ (w.alloc (.cells (opc ⟨3, n, v, p, b⟩) 25))
    generalize w.alloc (.cells (opc ⟨3, n, v, p, b⟩) 25) = W at *
    have c0 : W.cell? ⟨w.heap.size, 0, none⟩ = some (.int .i64 3) := HO.out.cell rfl
    have c1 : W.cell? ⟨w.heap.size, 1, none⟩ = some (.string n) := HO.out.cell rfl
    have c2 : W.cell? ⟨w.heap.size, 2, none⟩ = some (.string v) := HO.out.cell rfl
    have HF := Lib.hid (show F = [] by rw [HE.out]; simp)
    clear HE
    go_wp2_with fail
    go_ret
    exact ⟨⟨none, 0, by rw [HF.out]; rfl, .inl HF.out⟩, HB.out⟩
  · go_enter Tryz.func36, Tryz.ntmps36
    go_upto_region 1 with fail
    change Code.wp _ _ _ _ (w.alloc (.cells (opc ⟨4, n, v, p, b⟩) 25))
    generalize w.alloc (.cells (opc ⟨4, n, v, p, b⟩) 25) = W at *
    have c0 : W.cell? ⟨w.heap.size, 0, none⟩ = some (.int .i64 4) := HO.out.cell rfl
    have c1 : W.cell? ⟨w.heap.size, 1, none⟩ = some (.string n) := HO.out.cell rfl
    have c2 : W.cell? ⟨w.heap.size, 2, none⟩ = some (.string v) := HO.out.cell rfl
    have HF := Lib.hid (show F = [⟨(0, 0), zSt, 2, n, v⟩] by rw [HE.out]; simp)
    clear HE
    go_wp2_with ((with_reducible refine wpList_build1F ?_ (.tmp 28) ?_ ⟨(0, 0), zSt, 2, n, v⟩ ?_ ?_); rfl; rfl; rfl; simp only [Act.put, List.setIfInBounds_toArray, List.set_cons_zero, List.set_cons_succ])
    go_ret
    exact ⟨⟨some ⟨W.heap.size, 0, none⟩, 1, by rw [HF.out]; rfl, by rw [HF.out]; exact FFrom.of (fin_new W ⟨(0, 0), zSt, 2, n, v⟩) HB.out.size⟩, HB.out.alloc HB.out.size _⟩
  · go_enter Tryz.func36, Tryz.ntmps36
    go_upto_region 1 with fail
    change Code.wp _ _ _ _ (w.alloc (.cells (opc ⟨5, n, v, p, b⟩) 25))
    generalize w.alloc (.cells (opc ⟨5, n, v, p, b⟩) 25) = W at *
    have c0 : W.cell? ⟨w.heap.size, 0, none⟩ = some (.int .i64 5) := HO.out.cell rfl
    have c1 : W.cell? ⟨w.heap.size, 1, none⟩ = some (.string n) := HO.out.cell rfl
    have c2 : W.cell? ⟨w.heap.size, 2, none⟩ = some (.string v) := HO.out.cell rfl
    have HF := Lib.hid (show F = [⟨(0, 0), zSt, 4, n, x⟩] by rw [HE.out]; simp)
    clear HE
    go_upto_region 9 with fail
    clear c0 c1 c2
    refine wp_region_held (S := fun U => OBlk U w.heap.size ⟨5, n, v, p, b⟩ ∧ Go.RowKit.Below w.heap.size w U) (by kernel_rfl) ?_
    change wpAnyH _ _ _ _ _ _ _ _ W.drew
    have K0 : (fun U => OBlk U w.heap.size ⟨5, n, v, p, b⟩ ∧ Go.RowKit.Below w.heap.size w U) W.drew := ⟨Blk.keep HO.out (Below.refl _ _).drew, HB.out.trans ((Below.refl _ _).drew)⟩
    refine wpAnyH_take (i := 0) (oi := { dst := some 32, op := _, type := _, pos := _, after := _, guard := _ }) (v := ?v1) rfl (by kernel_rfl) (by kernel_rfl) (by kernel_rfl) (fun _ _ _ h => h) (Or.inl ⟨by rfl, ?hy1⟩) K0 ?rest1
    case hy1 => (intro w hSw; (try dsimp only at hSw); first | (go_simp; done) | (go_simp; with_reducible rfl))
    try simp only [Act.put, List.setIfInBounds_toArray, List.set_cons_zero, List.set_cons_succ]
    refine wpAnyH_take (i := 1) (oi := { dst := some 33, op := _, type := _, pos := _, after := _, guard := _ }) rfl (by kernel_rfl) (by kernel_rfl) (by kernel_rfl) (fun _ _ _ h => h) (fyield_X (by rfl) (.tmp 32) rfl w.heap.size 1 n rfl (fun U hU => Blk.cell hU.1 rfl)) K0 ?_
    try simp only [Act.put, List.setIfInBounds_toArray, List.set_cons_zero, List.set_cons_succ]
    refine wpAnyH_take (i := 2) (oi := { dst := some 34, op := _, type := _, pos := _, after := _, guard := _ }) (v := ?v2) rfl (by kernel_rfl) (by kernel_rfl) (by kernel_rfl) (fun _ _ _ h => h) (Or.inl ⟨by rfl, ?hy2⟩) K0 ?rest2
    case hy2 => (intro w hSw; (try dsimp only at hSw); first | (go_simp; done) | (go_simp; with_reducible rfl))
    try simp only [Act.put, List.setIfInBounds_toArray, List.set_cons_zero, List.set_cons_succ]
    refine wpAnyH_take (i := 3) (oi := { dst := some 35, op := _, type := _, pos := _, after := _, guard := _ }) rfl (by kernel_rfl) (by kernel_rfl) (by kernel_rfl) (fun _ _ _ h => h) (yield_fl (by rfl) (.tmp 34) rfl w.heap.size 3 p rfl (fun U hU => Blk.cell hU.1 rfl)) K0 ?_
    try simp only [Act.put, List.setIfInBounds_toArray, List.set_cons_zero, List.set_cons_succ]
    refine wpAnyH_ready (rs := [4]) (by kernel_rfl) (by simp) ?_
    refine AllReadyH.cons (o := { dst := some 36, op := _, type := _, pos := _, after := _, guard := _ }) rfl (fun K hK => ?_) AllReadyH.nil
    go_simp
    refine (HP.out W.drew).mono ?_
    rintro y u4 ⟨rfl, hb⟩
    have K4 : (fun U => OBlk U w.heap.size ⟨5, n, v, p, b⟩ ∧ Go.RowKit.Below w.heap.size w U) u4 := ⟨Blk.keep K0.1 hb, K0.2.trans (hb.mono K0.2.size)⟩
    clear hb
    refine hK.out _ _ K4 (fun _ => ?_)
    clear hK K
    try simp only [Act.put, List.setIfInBounds_toArray, List.set_cons_zero, List.set_cons_succ]
    refine wpAnyH_take (i := 5) (oi := { dst := some 37, op := _, type := _, pos := _, after := _, guard := _ }) (v := ?v3) rfl (by kernel_rfl) (by kernel_rfl) (by kernel_rfl) (fun _ _ _ h => h) (Or.inl ⟨by rfl, ?hy3⟩) K4 ?rest3
    case hy3 => (intro w hSw; (try dsimp only at hSw); first | (go_simp; done) | (go_simp; with_reducible rfl))
    try simp only [Act.put, List.setIfInBounds_toArray, List.set_cons_zero, List.set_cons_succ]
    refine wpAnyH_ready (rs := [6]) (by kernel_rfl) (by simp) ?_
    refine AllReadyH.cons (o := { dst := some 38, op := _, type := _, pos := _, after := _, guard := _ }) rfl (fun K hK => ?_) AllReadyH.nil
    have hbs : ∀ X, (Instr.buildSlice 22 1 #[(0, .agg #[.int .i64 0, .int .i64 0, .int .i64 0, .int .i64 0, .int .i64 0, .int .i64 4, .string n, .string x])]).run Tryz.prog X = .ok (.slice (some ⟨X.heap.size, 0, none⟩) 1 1) (X.alloc (.cells (fcs ⟨(0, 0), zSt, 4, n, x⟩).toArray 63)) := fun X => build1Fr ⟨(0, 0), zSt, 4, n, x⟩ X
    go_simp
    clear hbs
    have K6 : (fun U => OBlk U w.heap.size ⟨5, n, v, p, b⟩ ∧ Go.RowKit.Below w.heap.size w U) (u4.alloc (.cells (fcs ⟨(0, 0), zSt, 4, n, x⟩).toArray 63)) := ⟨Blk.alloc K4.1 _, K4.2.alloc K4.2.size _⟩
    have HX := Lib.hid (fin_new u4 ⟨(0, 0), zSt, 4, n, x⟩)
    have HS4 := Lib.hid K4.2.size
    refine hK.out _ _ K6 (fun _ => ?_)
    clear hK K
    try simp only [Act.put, List.setIfInBounds_toArray, List.set_cons_zero, List.set_cons_succ]
    refine wpAnyH_take (i := 7) (oi := { dst := some 4, op := _, type := _, pos := _, after := _, guard := _ }) (v := ?v4) rfl (by kernel_rfl) (by kernel_rfl) (by kernel_rfl) (fun _ _ _ h => h) (Or.inl ⟨by rfl, ?hy4⟩) K6 ?rest4
    case hy4 => (intro w hSw; (try dsimp only at hSw); first | (go_simp; done) | (go_simp; with_reducible rfl))
    try simp only [Act.put, List.setIfInBounds_toArray, List.set_cons_zero, List.set_cons_succ]
    refine wpAnyH_done (by kernel_rfl) ?_ _
    try simp only [Act.put, List.setIfInBounds_toArray, List.set_cons_zero, List.set_cons_succ]
    have HZ := Lib.hid K6.2
    clear K0 K4 K6
    go_wp2_with fail
    go_ret
    exact ⟨⟨some ⟨u4.heap.size, 0, none⟩, 1, by rw [HF.out]; rfl, by rw [HF.out]; exact FFrom.of HX.out HS4.out⟩, HZ.out⟩
  · go_enter Tryz.func36, Tryz.ntmps36
    go_upto_region 1 with fail
    change Code.wp _ _ _ _ (w.alloc (.cells (opc ⟨6, n, v, p, b⟩) 25))
    generalize w.alloc (.cells (opc ⟨6, n, v, p, b⟩) 25) = W at *
    have c0 : W.cell? ⟨w.heap.size, 0, none⟩ = some (.int .i64 6) := HO.out.cell rfl
    have c1 : W.cell? ⟨w.heap.size, 1, none⟩ = some (.string n) := HO.out.cell rfl
    have c2 : W.cell? ⟨w.heap.size, 2, none⟩ = some (.string v) := HO.out.cell rfl
    have HF := Lib.hid (show F = [] by rw [HE.out]; simp)
    clear HE
    go_wp2_with fail
    go_ret
    exact ⟨⟨none, 0, by rw [HF.out]; rfl, .inl HF.out⟩, HB.out⟩
end Go.Proofs.YtmnblpjdiplioaaGreat

namespace Go.Proofs.YtmnblpjdiplioaaGreat
set_option maxRecDepth 100000
open Go.RowKit Go.Sort

set_option maxHeartbeats 4000000 in
set_option maxRecDepth 100000 in
theorem chkLC (l : List Dt) (a : Option Addr) (cap : Nat) (w : World) (h : DIn w a l) (hl : l.length ≤ maxLen) :
    Calls Tryz.prog 90 #[.slice a l.length cap, .func (.func 85) #[] #[], .func (.func 91) #[] #[]] w fun e w' => e = .returned (.int .i64 (chkL l)) ∧ Go.RowKit.Below w.heap.size w w' := by
  have H := Lib.hid h
  clear h
  unfold maxLen at hl
  go_enter Tryz.func90, Tryz.ntmps90
  go_wp2_with fail
  go_loopw [13] (fun i wr => ∃ k : Nat, k ≤ l.length ∧ i = .int .i64 k ∧ Hid (∀ j d, j < k → l[j]? = some d → chkD d = 0) ∧ Go.RowKit.Below w.heap.size w wr) (fun i _ => l.length - (intOf i).toNat)
  case atStart => exact ⟨0, Nat.zero_le _, rfl, Lib.hid (fun j d hj => by omega), Go.RowKit.Below.refl _ _⟩
  case round =>
    obtain ⟨k, hk, rfl, HK, hb⟩ := hrel
    have HB := Lib.hid hb
    have hbs := hb.size
    clear hb
    by_cases hlt : k < l.length
    · obtain ⟨d, hd⟩ : ∃ d, l[k]? = some d := ⟨_, List.getElem?_eq_getElem hlt⟩
      obtain ⟨b, off, rfl, hbl, c0, c1⟩ := (H.out.below HB.out).at hd
      have hi1 : (k : Int) < (l.length : Int) := by omega
      have hck := fun W => checkCb d W
      have HD := Lib.hid hd
      have hm : d ∈ l := List.mem_of_getElem? hd
      obtain ⟨r, q⟩ := d
      simp only at c0 c1 hck
      clear hd
      by_cases he : chkD (r, q) = 0
      · have HK2 := Lib.hid (show ∀ j d, j < k + 1 → l[j]? = some d → chkD d = 0 from fun j d hj hjd => by
          rcases Nat.lt_or_ge j k with h1 | h1
          · exact HK.out j d h1 hjd
          · obtain rfl : j = k := by omega
            rw [HD.out] at hjd
            rw [← Option.some.inj hjd]; exact he)
        rw [he] at hck
        clear he hm
        go_wp2_with fail
        refine (hck _).mono ?_
        rintro e w1 ⟨rfl, hb1⟩
        have HB1 := Lib.hid ((HB.out.alloc hbs _).trans (hb1.mono (by simp; omega)))
        clear hb1
        go_wp2_with fail
        go_roundw
        case rel => exact ⟨k + 1, by omega, by go_num, HK2, HB1.out⟩
        case measure => simp [intOf]; omega
      · have hfin := chkL_bad hm he
        have hne : (chkD (r, q) != 0) = true := by simp [he]
        generalize chkD (r, q) = E at *
        have HF := Lib.hid hfin
        clear hfin hm he
        go_wp2_with fail
        refine (hck _).mono ?_
        rintro e w1 ⟨rfl, hb1⟩
        have HB1 := Lib.hid ((HB.out.alloc hbs _).trans (hb1.mono (by simp; omega)))
        clear hb1
        go_wp2_with fail
        go_ret
        exact ⟨by rw [HF.out]; rfl, HB1.out⟩
    · have hkn : k = l.length := by omega
      have HG := Lib.hid (show ∀ d ∈ l, chkD d = 0 from fun d hd => by
        obtain ⟨j, hj, hjd⟩ := List.mem_iff_getElem.1 hd
        exact HK.out j d (by omega) (by rw [List.getElem?_eq_getElem hj, hjd]))
      clear hkn HK hk
      go_wp2_with fail
      go_loopw [10] (fun i wk => ∃ k : Nat, i = .int .i64 ((k : Int) + 1) ∧ k ≤ l.length ∧ Hid (∀ j, (h : j + 1 < l.length) → j < k → ltD l[j] l[j + 1] = true) ∧ Go.RowKit.Below w.heap.size w wk) (fun i _ => l.length + 1 - (intOf i).toNat)
      case atStart => exact ⟨0, by simp, Nat.zero_le _, Lib.hid (fun j _ hj => by omega), HB.out⟩
      case round =>
        obtain ⟨m, rfl, hm, HR, hb2⟩ := hrel
        have HB2 := Lib.hid hb2
        have hbs2 := hb2.size
        clear hb2
        by_cases hlt2 : m + 1 < l.length
        · obtain ⟨x, hx⟩ : ∃ x, l[m]? = some x := ⟨_, List.getElem?_eq_getElem (by omega)⟩
          obtain ⟨y, hy⟩ : ∃ y, l[m + 1]? = some y := ⟨_, List.getElem?_eq_getElem hlt2⟩
          obtain ⟨b, off, rfl, hbl, c0, c1⟩ := (H.out.below HB2.out).at hx
          obtain ⟨b', off', hbe, hbl', p0, p1⟩ := (H.out.below HB2.out).at hy
          have hbe2 := Option.some.inj hbe
          obtain ⟨rfl, rfl⟩ : b = b' ∧ off = off' := by injection hbe2 with h1 h2; exact ⟨h1, h2⟩
          have hxe : l[m]'(by omega) = x := by rw [List.getElem?_eq_getElem (by omega)] at hx; exact Option.some.inj hx
          have hye : l[m + 1] = y := by rw [List.getElem?_eq_getElem hlt2] at hy; exact Option.some.inj hy
          have HXE := Lib.hid hxe
          have HYE := Lib.hid hye
          have hi0 : (0 : Int) ≤ (m : Int) := by omega
          have hi1 : (m : Int) < (l.length : Int) := by omega
          have hi2 : (m : Int) + 1 < (l.length : Int) := by omega
          have hi3 : IntKind.i64.wrap (m : Int) = m := by simp [IntKind.wrap, IntKind.bits, IntKind.signed]; omega
          have hi4 : (0 : Int) ≤ (m : Int) + 1 := by omega
          have r0 := fun d os => cell_regrown c0 d os
          have r1 := fun d os => cell_regrown c1 d os
          have r2 := fun d os => cell_regrown p0 d os
          have r3 := fun d os => cell_regrown p1 d os
          have cX := fun d os => Calls.regrown_of (lessCb x y (grow (redrawn wr d) os))
          have HCX := Lib.hid cX
          have hno : ltD x y = true ∨ ltD x y = false := by cases ltD x y <;> simp
          have HNO := Lib.hid (show ltD x y = true → ∀ j, (h : j + 1 < l.length) → j < m + 1 → ltD l[j] l[j + 1] = true from fun hh j hj hjm => by
            rcases Nat.lt_or_ge j m with h1 | h1
            · exact HR.out j hj h1
            · obtain rfl : j = m := by omega
              rw [HXE.out, HYE.out]; exact hh)
          have HNF := Lib.hid (show ltD x y = false → chkL l = 5 from fun hh => chkL_flat HG.out (fun hr => by have := hr.near m hlt2; rw [HXE.out, HYE.out, hh] at this; cases this))
          generalize ltD x y = t at HNO HNF HCX hno
          obtain ⟨xr, xq⟩ := x
          obtain ⟨yr, yq⟩ := y
          clear hx hy hxe hye cX hbe hbe2 hbl'
          simp only at c0 c1 p0 p1 r0 r1 r2 r3 HCX
          rcases hno with rfl | rfl
          · have HN := Lib.hid (HNO.out rfl)
            clear HNO HNF
            go_upto_region 11 with fail
            clear c0 c1 p0 p1
            refine wp_region_quiet_below (by kernel_rfl) (by kernel_rfl) ?_
            repeat (first | go_big_quiet_step ((go_at_call 91; with_reducible exact HCX.out _ _)) | quiet_step ((go_at_call 91; with_reducible exact HCX.out _ _)))
            refine wpQuiet_nil ?_
            intro _ hw'
            obtain ⟨⟨dq, osq⟩, hw''⟩ := hw'
            subst hw''
            have HB9 := Lib.hid (HB2.out.trans ((below_regrown wr dq osq).mono HB2.out.size))
            clear HCX r0 r1 r2 r3
            generalize grow (redrawn wr dq) osq = W at *
            go_wp2_with fail
            go_roundw
            case rel => exact ⟨m + 1, by go_num, by omega, HN, HB9.out⟩
            case measure => simp [intOf]; omega
          · have HN := Lib.hid (HNF.out rfl)
            clear HNO HNF
            go_upto_region 11 with fail
            clear c0 c1 p0 p1
            refine wp_region_quiet_below (by kernel_rfl) (by kernel_rfl) ?_
            repeat (first | go_big_quiet_step ((go_at_call 91; with_reducible exact HCX.out _ _)) | quiet_step ((go_at_call 91; with_reducible exact HCX.out _ _)))
            refine wpQuiet_nil ?_
            intro _ hw'
            obtain ⟨⟨dq, osq⟩, hw''⟩ := hw'
            subst hw''
            have HB9 := Lib.hid (HB2.out.trans ((below_regrown wr dq osq).mono HB2.out.size))
            clear HCX r0 r1 r2 r3
            generalize grow (redrawn wr dq) osq = W at *
            go_wp2_with fail
            go_ret
            exact ⟨by rw [HN.out]; rfl, HB9.out⟩
        · have hfin : chkL l = 0 := chkL_good HG.out (rise_near l (fun j hj => HR.out j hj (by omega)))
          have HF := Lib.hid hfin
          have hi2 : ¬ (m : Int) + 1 < (l.length : Int) := by omega
          clear hfin
          go_wp2_with fail
          go_ret
          exact ⟨by rw [HF.out]; rfl, HB2.out⟩

set_option maxHeartbeats 4000000 in
set_option maxRecDepth 100000 in
theorem chkLR (l : List Dt) (a : Option Addr) (cap : Nat) (w : World) (h : DIn w a l) (hl : l.length ≤ maxLen) :
    Calls Tryz.prog 64 #[.slice a l.length cap] w fun e w' => e = .returned (.int .i64 (chkL l)) ∧ Go.RowKit.Below w.heap.size w w' := by
  have H := Lib.hid h
  clear h
  unfold maxLen at hl
  go_enter Tryz.func64, Tryz.ntmps64
  go_wp2_with fail
  go_loopw [3] (fun i wr => ∃ k : Nat, k ≤ l.length ∧ i = .int .i64 k ∧ Hid (∀ j d, j < k → l[j]? = some d → chkD d = 0) ∧ Go.RowKit.Below w.heap.size w wr) (fun i _ => l.length - (intOf i).toNat)
  case atStart => exact ⟨0, Nat.zero_le _, rfl, Lib.hid (fun j d hj => by omega), Go.RowKit.Below.refl _ _⟩
  case round =>
    obtain ⟨k, hk, rfl, HK, hb⟩ := hrel
    have HB := Lib.hid hb
    have hbs := hb.size
    clear hb
    by_cases hlt : k < l.length
    · obtain ⟨d, hd⟩ : ∃ d, l[k]? = some d := ⟨_, List.getElem?_eq_getElem hlt⟩
      obtain ⟨b, off, rfl, hbl, c0, c1⟩ := (H.out.below HB.out).at hd
      have hi1 : (k : Int) < (l.length : Int) := by omega
      have hck := fun W => checkRb d W
      have HD := Lib.hid hd
      have hm : d ∈ l := List.mem_of_getElem? hd
      obtain ⟨r, q⟩ := d
      simp only at c0 c1 hck
      clear hd
      by_cases he : chkD (r, q) = 0
      · have HK2 := Lib.hid (show ∀ j d, j < k + 1 → l[j]? = some d → chkD d = 0 from fun j d hj hjd => by
          rcases Nat.lt_or_ge j k with h1 | h1
          · exact HK.out j d h1 hjd
          · obtain rfl : j = k := by omega
            rw [HD.out] at hjd
            rw [← Option.some.inj hjd]; exact he)
        rw [he] at hck
        clear he hm
        go_wp2_with fail
        refine (hck _).mono ?_
        rintro e w1 ⟨rfl, hb1⟩
        have HB1 := Lib.hid (HB.out.trans (hb1.mono hbs))
        clear hb1
        go_wp2_with fail
        go_roundw
        case rel => exact ⟨k + 1, by omega, by go_num, HK2, HB1.out⟩
        case measure => simp [intOf]; omega
      · have hfin := chkL_bad hm he
        have hne : (chkD (r, q) != 0) = true := by simp [he]
        generalize chkD (r, q) = E at *
        have HF := Lib.hid hfin
        clear hfin hm he
        go_wp2_with fail
        refine (hck _).mono ?_
        rintro e w1 ⟨rfl, hb1⟩
        have HB1 := Lib.hid (HB.out.trans (hb1.mono hbs))
        clear hb1
        go_wp2_with fail
        go_ret
        exact ⟨by rw [HF.out]; rfl, HB1.out⟩
    · have hkn : k = l.length := by omega
      have HG := Lib.hid (show ∀ d ∈ l, chkD d = 0 from fun d hd => by
        obtain ⟨j, hj, hjd⟩ := List.mem_iff_getElem.1 hd
        exact HK.out j d (by omega) (by rw [List.getElem?_eq_getElem hj, hjd]))
      clear hkn HK hk
      go_wp2_with fail
      go_loopw [5] (fun i wk => ∃ k : Nat, i = .int .i64 ((k : Int) + 1) ∧ k ≤ l.length ∧ Hid (∀ j, (h : j + 1 < l.length) → j < k → ltD l[j] l[j + 1] = true) ∧ Go.RowKit.Below w.heap.size w wk) (fun i _ => l.length + 1 - (intOf i).toNat)
      case atStart => exact ⟨0, by simp, Nat.zero_le _, Lib.hid (fun j _ hj => by omega), HB.out⟩
      case round =>
        obtain ⟨m, rfl, hm, HR, hb2⟩ := hrel
        have HB2 := Lib.hid hb2
        have hbs2 := hb2.size
        clear hb2
        by_cases hlt2 : m + 1 < l.length
        · obtain ⟨x, hx⟩ : ∃ x, l[m]? = some x := ⟨_, List.getElem?_eq_getElem (by omega)⟩
          obtain ⟨y, hy⟩ : ∃ y, l[m + 1]? = some y := ⟨_, List.getElem?_eq_getElem hlt2⟩
          obtain ⟨b, off, rfl, hbl, c0, c1⟩ := (H.out.below HB2.out).at hx
          obtain ⟨b', off', hbe, hbl', p0, p1⟩ := (H.out.below HB2.out).at hy
          have hbe2 := Option.some.inj hbe
          obtain ⟨rfl, rfl⟩ : b = b' ∧ off = off' := by injection hbe2 with h1 h2; exact ⟨h1, h2⟩
          have hxe : l[m]'(by omega) = x := by rw [List.getElem?_eq_getElem (by omega)] at hx; exact Option.some.inj hx
          have hye : l[m + 1] = y := by rw [List.getElem?_eq_getElem hlt2] at hy; exact Option.some.inj hy
          have HXE := Lib.hid hxe
          have HYE := Lib.hid hye
          have hi0 : (0 : Int) ≤ (m : Int) := by omega
          have hi1 : (m : Int) < (l.length : Int) := by omega
          have hi2 : (m : Int) + 1 < (l.length : Int) := by omega
          have hi3 : IntKind.i64.wrap (m : Int) = m := by simp [IntKind.wrap, IntKind.bits, IntKind.signed]; omega
          have hi4 : (0 : Int) ≤ (m : Int) + 1 := by omega
          have r0 := fun d os => cell_regrown c0 d os
          have r1 := fun d os => cell_regrown c1 d os
          have r2 := fun d os => cell_regrown p0 d os
          have r3 := fun d os => cell_regrown p1 d os
          have cX := fun d os => Calls.regrown_of (lessRb x y (grow (redrawn wr d) os))
          have HCX := Lib.hid cX
          have hno : ltD x y = true ∨ ltD x y = false := by cases ltD x y <;> simp
          have HNO := Lib.hid (show ltD x y = true → ∀ j, (h : j + 1 < l.length) → j < m + 1 → ltD l[j] l[j + 1] = true from fun hh j hj hjm => by
            rcases Nat.lt_or_ge j m with h1 | h1
            · exact HR.out j hj h1
            · obtain rfl : j = m := by omega
              rw [HXE.out, HYE.out]; exact hh)
          have HNF := Lib.hid (show ltD x y = false → chkL l = 5 from fun hh => chkL_flat HG.out (fun hr => by have := hr.near m hlt2; rw [HXE.out, HYE.out, hh] at this; cases this))
          generalize ltD x y = t at HNO HNF HCX hno
          obtain ⟨xr, xq⟩ := x
          obtain ⟨yr, yq⟩ := y
          clear hx hy hxe hye cX hbe hbe2 hbl'
          simp only at c0 c1 p0 p1 r0 r1 r2 r3 HCX
          rcases hno with rfl | rfl
          · have HN := Lib.hid (HNO.out rfl)
            clear HNO HNF
            go_upto_region 10 with fail
            clear c0 c1 p0 p1
            refine wp_region_quiet_below (by kernel_rfl) (by kernel_rfl) ?_
            repeat (first | go_big_quiet_step ((go_at_call 66; with_reducible exact HCX.out _ _)) | quiet_step ((go_at_call 66; with_reducible exact HCX.out _ _)))
            refine wpQuiet_nil ?_
            intro _ hw'
            obtain ⟨⟨dq, osq⟩, hw''⟩ := hw'
            subst hw''
            have HB9 := Lib.hid (HB2.out.trans ((below_regrown wr dq osq).mono HB2.out.size))
            clear HCX r0 r1 r2 r3
            generalize grow (redrawn wr dq) osq = W at *
            go_wp2_with fail
            go_roundw
            case rel => exact ⟨m + 1, by go_num, by omega, HN, HB9.out⟩
            case measure => simp [intOf]; omega
          · have HN := Lib.hid (HNF.out rfl)
            clear HNO HNF
            go_upto_region 10 with fail
            clear c0 c1 p0 p1
            refine wp_region_quiet_below (by kernel_rfl) (by kernel_rfl) ?_
            repeat (first | go_big_quiet_step ((go_at_call 66; with_reducible exact HCX.out _ _)) | quiet_step ((go_at_call 66; with_reducible exact HCX.out _ _)))
            refine wpQuiet_nil ?_
            intro _ hw'
            obtain ⟨⟨dq, osq⟩, hw''⟩ := hw'
            subst hw''
            have HB9 := Lib.hid (HB2.out.trans ((below_regrown wr dq osq).mono HB2.out.size))
            clear HCX r0 r1 r2 r3
            generalize grow (redrawn wr dq) osq = W at *
            go_wp2_with fail
            go_ret
            exact ⟨by rw [HN.out]; rfl, HB9.out⟩
        · have hfin : chkL l = 0 := chkL_good HG.out (rise_near l (fun j hj => HR.out j hj (by omega)))
          have HF := Lib.hid hfin
          have hi2 : ¬ (m : Int) + 1 < (l.length : Int) := by omega
          clear hfin
          go_wp2_with fail
          go_ret
          exact ⟨by rw [HF.out]; rfl, HB2.out⟩
end Go.Proofs.YtmnblpjdiplioaaGreat
