/-
  almonrylaw16.awake: the chapter's example.
-/
import Derived.Test.YtcedliaeipabnaaGreatKernApp
import Derived.Test.YtcedliaeipabnaaGreatKernChk
import Derived.Test.YtcedliaeipabnaaGreatGKernT
namespace Go.Proofs.YtcedliaeipabnaaGreat
set_option linter.unusedSimpArgs false
set_option linter.unusedVariables false
set_option maxRecDepth 100000
open Go.RowKit Go.Sort

/-! plain -/
def tagT (r n : Int) (v : ByteArray) : Ft := ⟨(r, n), ⟨1, 0, r⟩, 3, ⟨#[97]⟩, v⟩
def tF : Ft := tagT 0 1 ⟨#[120]⟩
def kX : Dl := ⟨(0, 1), ⟨1, 0, 0⟩, [tF], []⟩
def kY : Dl := ⟨(1, 1), ⟨1, 0, 1⟩, [], [(0, 1)]⟩
def kD : List Dl := [kX, kY]
theorem kOwn : OwnK kD (fun i => i < 2) := by
  have key : ∀ i e, i < 2 → kD[i]? = some e → (i = 0 ∧ e = kX) ∨ (i = 1 ∧ e = kY) := by
    intro i e hi he
    match i, hi with
    | 0, _ => exact .inl ⟨rfl, by simpa [kD] using he.symm⟩
    | 1, _ => exact .inr ⟨rfl, by simpa [kD] using he.symm⟩
  refine ⟨fun i e hi he => ?_, fun i e hi he => ?_, fun i e hi he => ?_, fun i j e x hi hj he hx hd => ?_⟩
  · rcases key i e hi he with ⟨-, rfl⟩ | ⟨-, rfl⟩ <;> decide
  · rcases key i e hi he with ⟨-, rfl⟩ | ⟨-, rfl⟩
    · intro f hf
      obtain rfl : f = tF := by simpa [kX] using hf
      rfl
    · intro f hf; simp [kY] at hf
  · rcases key i e hi he with ⟨-, rfl⟩ | ⟨-, rfl⟩ <;> decide
  · rcases key i e hi he with ⟨rfl, rfl⟩ | ⟨rfl, rfl⟩ <;> rcases key j x hj hx with ⟨rfl, rfl⟩ | ⟨rfl, rfl⟩
    · rfl
    · exact absurd hd (by decide)
    · exact absurd hd (by decide)
    · rfl
abbrev S0 (i : Nat) : Prop := False ∨ i = 0
abbrev S1 (i : Nat) : Prop := False ∨ i = 1
abbrev S01 (i : Nat) : Prop := S0 i ∨ i = 1
abbrev S10 (i : Nat) : Prop := S1 i ∨ i = 0
theorem rise_tF : RiseF [tF] := by simp [RiseF]
theorem aw_1 {o c : Cx} (h : OfK kX o) (j : JoinOf zC o c) : joinK [] zC kX.l o = [tF] ∧ InvK kD S0 [tF] c := by
  have i := InvK.step (k := 0) (e := kX) kOwn (fun _ h => h.elim) (InvK.start kD) (by decide) rfl h j
  have e : joinK [] zC kX.l o = [tF] := riseF_same i.rise rise_tF fun f => by
    rw [i.mem, List.mem_singleton]
    constructor
    · rintro ⟨n, e, hn, he, hf, -⟩
      rcases hn with hn | rfl
      · exact hn.elim
      · obtain rfl : kX = e := by simpa [kD] using he
        simpa [kX] using hf
    · rintro rfl
      refine ⟨0, kX, .inr rfl, rfl, by simp [kX], fun n y hn hy => ?_⟩
      rcases hn with hn | rfl
      · exact hn.elim
      · obtain rfl : kX = y := by simpa [kD] using hy
        simp [kX]
  rw [e] at i
  exact ⟨e, i⟩
theorem aw_2 {o c c' : Cx} (i1 : InvK kD S0 [tF] c) (h : OfK kY o) (j : JoinOf c o c') : joinK [tF] c kY.l o = [] ∧ InvK kD S01 [] c' := by
  have i := InvK.step (k := 1) (e := kY) kOwn (fun n h => by rcases h with h | rfl; exact h.elim; decide) i1 (by decide) rfl h j
  have e : joinK [tF] c kY.l o = [] := riseF_same i.rise .nil fun f => by
    rw [i.mem]
    constructor
    · rintro ⟨n, e, hn, he, hf, hg⟩
      have hy := hg 1 kY (.inr rfl) rfl
      rcases hn with (hn | rfl) | rfl
      · exact hn.elim
      · obtain rfl : kX = e := by simpa [kD] using he
        exact absurd (by decide) hy
      · obtain rfl : kY = e := by simpa [kD] using he
        simp [kY] at hf
    · intro hf; simp at hf
  rw [e] at i
  exact ⟨e, i⟩
theorem aw_3 {o c : Cx} (h : OfK kY o) (j : JoinOf zC o c) : joinK [] zC kY.l o = [] ∧ InvK kD S1 [] c := by
  have i := InvK.step (k := 1) (e := kY) kOwn (fun _ h => h.elim) (InvK.start kD) (by decide) rfl h j
  have e : joinK [] zC kY.l o = [] := riseF_same i.rise .nil fun f => by
    rw [i.mem]
    constructor
    · rintro ⟨n, e, hn, he, hf, -⟩
      rcases hn with hn | rfl
      · exact hn.elim
      · obtain rfl : kY = e := by simpa [kD] using he
        simp [kY] at hf
    · intro hf; simp at hf
  rw [e] at i
  exact ⟨e, i⟩
theorem aw_4 {o c c' : Cx} (i1 : InvK kD S1 [] c) (h : OfK kX o) (j : JoinOf c o c') : joinK [] c kX.l o = [] ∧ InvK kD S10 [] c' := by
  have i := InvK.step (k := 0) (e := kX) kOwn (fun n h => by rcases h with h | rfl; exact h.elim; decide) i1 (by decide) rfl h j
  have e : joinK [] c kX.l o = [] := riseF_same i.rise .nil fun f => by
    rw [i.mem]
    constructor
    · rintro ⟨n, e, hn, he, hf, hg⟩
      have hy := hg 1 kY (.inl (.inr rfl)) rfl
      rcases hn with (hn | rfl) | rfl
      · exact hn.elim
      · obtain rfl : kY = e := by simpa [kD] using he
        simp [kY] at hf
      · obtain rfl : kX = e := by simpa [kD] using he
        exact absurd (by decide) hy
    · intro hf; simp at hf
  rw [e] at i
  exact ⟨e, i⟩
def vv : Vc := 1 :: 1 :: List.replicate 14 0
def cvv : Cx := ⟨vv, []⟩
theorem cvv_clean : IsClean cvv := ⟨rfl, by decide +kernel, by decide +kernel, .nil, fun d hd => absurd hd (by simp [cvv])⟩
theorem vv_get (n : Nat) : vv.getD n 0 = if n < 2 then 1 else 0 := by
  match n with
  | 0 => rfl
  | 1 => rfl
  | n + 2 =>
    show (List.replicate 14 (0 : Int)).getD n 0 = _
    rw [if_neg (by omega), List.getD_eq_getElem?_getD, List.getElem?_replicate]
    split <;> rfl
theorem has_cvv (z : Dt) : hasC cvv z = true ↔ chkD z = 0 ∧ (z = (0, 1) ∨ z = (1, 1)) := by
  rw [hasC_iff]
  show _ ∧ (z.2 ≤ vv.getD z.1.toNat 0 ∨ z ∈ ([] : List Dt)) ↔ _
  rw [vv_get]
  constructor
  · rintro ⟨h, h2 | h2⟩
    · refine ⟨h, ?_⟩
      have h3 := chkD_ok h
      split at h2
      · have e2 : z.2 = 1 := by omega
        rcases (show z.1 = 0 ∨ z.1 = 1 by omega) with e1 | e1
        · exact .inl (Prod.ext e1 e2)
        · exact .inr (Prod.ext e1 e2)
      · omega
    · simp at h2
  · rintro ⟨h, rfl | rfl⟩ <;> exact ⟨h, .inl (by decide)⟩
theorem both_has {S : Nat → Prop} {x : List Ft} {c : Cx} (h : InvK kD S x c) (h0 : S 0) (h1 : S 1) (hs : ∀ i, S i → i < 2) (hc : IsClean c) : c = cvv := clean_same hc cvv_clean fun z => by
  rw [Bool.eq_iff_iff, h.has, has_cvv]
  constructor
  · rintro ⟨hz, i, e, hi, he, hd⟩
    refine ⟨hz, ?_⟩
    have hi2 := hs i hi
    rcases (show i = 0 ∨ i = 1 by omega) with rfl | rfl
    · obtain rfl : kX = e := by simpa [kD] using he
      exact .inl (by simpa [kX] using hd)
    · obtain rfl : kY = e := by simpa [kD] using he
      have : z = (1, 1) ∨ z = (0, 1) := by simpa [kY] using hd
      exact this.symm
  · rintro ⟨hz, rfl | rfl⟩
    · exact ⟨hz, 0, kX, h0, rfl, .inl rfl⟩
    · exact ⟨hz, 1, kY, h1, rfl, .inl rfl⟩
theorem chkF_tF : chkFm tF = 0 := by decide +kernel
theorem chkFs_tF : chkFs rdM [tF] = 0 := by
  unfold chkFs firstF firstF
  rw [if_neg (by rw [show chkF rdM tF = 0 from chkF_tF]; simp), if_pos rise_tF]
theorem chk_yes {c : Cx} (h : InvK kD S0 [tF] c) (hc : IsClean c) : chkK rdM [tF] c = 0 := by
  unfold chkK
  rw [chkC_clean hc, chkFs_tF, if_neg (by simp), if_neg (by simp), if_pos]
  have h1 := (h.has (0, 1)).2 ⟨by decide, 0, kX, .inr rfl, rfl, .inl rfl⟩
  exact okK_iff.2 ⟨fun f hf => by obtain rfl : f = tF := by simpa using hf
                                  exact h1, fun i f k g hk hi hg => by
    have := (List.getElem?_eq_some_iff.1 hi).1
    simp at this
    omega⟩
theorem chk_no : chkK rdM [tF] zC = 5 := by
  unfold chkK
  rw [chkC_clean zC_clean, chkFs_tF, if_neg (by simp), if_neg (by simp), if_neg]
  intro h
  have := (okK_iff.1 h).1 tF (by simp)
  rw [hasC_zC] at this
  cases this

/-! the walk -/
set_option maxHeartbeats 1000000 in
theorem tagC (r n : Int) (v : ByteArray) (w : World) : Calls Tryz.prog 24 #[.int .i64 r, .int .i64 n, .string v] w fun e w' => e = .returned (.agg (fcs (tagT r n v)).toArray) ∧ Go.RowKit.Below w.heap.size w w' := by
  have hb := boxZ_below w (tagT r n v)
  have hr := boxZ_row w (tagT r n v)
  have HB := Lib.hid hb
  have HR := Lib.hid hr
  clear hb hr
  go_enter Tryz.func24, Tryz.ntmps24
  go_wp2_with ((with_reducible refine fl_store ?_ (.tmp 6) (.tmp 13) ?_ w.heap.size (tagT r n v) ?_ ?_ ?_ ?_); rfl; rfl; rfl; rfl; exact boxZ_old w)
  refine bodyPost_ret (results_cell_row rfl _ _ w.heap.size 61 (fcs (tagT r n v)).toArray (0, 0) _ rfl HR.out Tryz.underlying61 rfl factSize) rfl ?_
  exact ⟨rfl, HB.out⟩
theorem dl_one (e : Dl) (la : Option Addr) (lk : Nat) (ga : Option Addr) (gk : Nat) : (dlc e la lk ga gk).all (·.oneCell') = true := by simp [dlc, Value.oneCell']
theorem infoD (e : Dl) (la : Option Addr) (lk : Nat) (ga : Option Addr) (gk : Nat) : (Tryz.prog.info? 54).map (·.size) = some (dlc e la lk ga gk).size := by rw [deltaSize]; rfl
abbrev zD : Dl := ⟨(0, 0), ⟨0, 0, 0⟩, [], []⟩

structure AwW (w : World) (lX lY : Nat) (W : World) : Prop where
  low : Go.RowKit.Below w.heap.size w W
  dx : Blk W (lX + 1) 54 (dlc kX (some ⟨lX, 0, none⟩) 1 none 0)
  fx : FIn W (some ⟨lX, 0, none⟩) [tF]
  dy : Blk W (lY + 1) 54 (dlc kY none 0 (some ⟨lY, 0, none⟩) 1)
  dd : DIn W (some ⟨lY, 0, none⟩) [(0, 1)]
theorem AwW.below {w W W' : World} {lX lY : Nat} (h : AwW w lX lY W) (hb : Go.RowKit.Below W.heap.size W W') : AwW w lX lY W' :=
  ⟨h.low.trans (hb.mono h.low.size), h.dx.keep hb, h.fx.below hb, h.dy.keep hb, h.dd.below hb⟩
/-- a store that was answered -/
structure RX (W : World) (g : Nat) (x : List Ft) (ra : Option Addr) (j : Cx) (qa : Option Addr) (qk : Nat) : Prop where
  row : CRow W g j.v (.slice qa j.l.length qk)
  fin : FIn W ra x
  cin : CIn W j qa
theorem RX.below {W W' : World} {g : Nat} {x : List Ft} {ra : Option Addr} {j : Cx} {qa : Option Addr} {qk : Nat} (h : RX W g x ra j qa qk) (hb : Go.RowKit.Below W.heap.size W W') : RX W' g x ra j qa qk := ⟨h.row.keep hb, h.fin.below hb, h.cin.below hb⟩
theorem RX.new {lo : Nat} {u : World} {x : List Ft} {ra : Option Addr} {j : Cx} {qa : Option Addr} (qk : Nat) (hf : FFrom u lo ra x) (hm : Made lo u j qa) : RX (u.alloc (.cells (ccs j.v (.slice qa j.l.length qk)) 27)) u.heap.size x ra j qa qk :=
  ⟨CRow.new _ _ _, hf.fin.below (lowA u _), hm.cin.below (lowA u _)⟩

set_option maxHeartbeats 16000000 in
theorem kernAwake (w : World) : Calls Tryz.prog 7 #[] w fun e w' => e = .returned (.bool true) ∧ Go.RowKit.Below w.heap.size w w' := by
  have hbz := buildZ
  have hbv : ∀ W, (Instr.build 24 #[(0, .int .i64 1), (1, .int .i64 1)]).run Tryz.prog W = .ok (.agg (ics vv)) W := fun W => run_build W 24 _ _ (by kernel_rfl)
  have hbx : ∀ (g : Nat) (W : World), (Instr.build 54 #[(0, .agg #[.int .i64 0, .int .i64 1]), (1, .agg #[.int .i64 1, .int .i64 0, .int .i64 0]), (2, .slice (some ⟨g, 0, none⟩) 1 1)]).run Tryz.prog W = .ok (.agg (dlc kX (some ⟨g, 0, none⟩) 1 none 0)) W := fun g W => run_build W 54 _ _ (by kernel_rfl)
  have hby : ∀ (g : Nat) (W : World), (Instr.build 54 #[(0, .agg #[.int .i64 1, .int .i64 1]), (1, .agg #[.int .i64 1, .int .i64 0, .int .i64 1]), (3, .slice (some ⟨g, 0, none⟩) 1 1)]).run Tryz.prog W = .ok (.agg (dlc kY none 0 (some ⟨g, 0, none⟩) 1)) W := fun g W => run_build W 54 _ _ (by kernel_rfl)
  go_enter Tryz.func7, Tryz.ntmps7
  go_wp2_with fail
  refine (tagC 0 1 ⟨#[120]⟩ w).mono ?_
  rintro e w1 ⟨rfl, hb1⟩
  have e1 : (w1.alloc (.cells (fcs tF).toArray 61)).heap.size = w1.heap.size + 1 := World.size_alloc _ _
  have hZ := Blk.new (w1.alloc (.cells (fcs tF).toArray 61)) 54 (dlc zD none 0 none 0)
  rw [e1] at hZ
  have hU : Go.RowKit.Below (w1.alloc (.cells (fcs tF).toArray 61)).heap.size (w1.alloc (.cells (fcs tF).toArray 61)) (World.setRow ((w1.alloc (.cells (fcs tF).toArray 61)).alloc (.cells (dlc zD none 0 none 0) 54)) (w1.heap.size + 1) (dlc kX (some ⟨w1.heap.size, 0, none⟩) 1 none 0)) := belowRow (lowA _ _) (by rw [e1]; exact Nat.le_refl _) _
  have HZ := Lib.hid hZ
  have H1 := Lib.hid (And.intro ((hb1.trans ((lowA w1 _).mono hb1.size)).trans (hU.mono (by rw [e1]; have := hb1.size; omega))) (And.intro (hZ.put (dlc kX (some ⟨w1.heap.size, 0, none⟩) 1 none 0)) ((fin_new w1 tF).below hU)))
  clear hb1 e1 hZ hU
  go_upto_region 2 with (first
    | ((with_reducible refine wpList_build1F ?_ (.tmp 13) ?_ tF ?_ ?_); rfl; rfl; rfl; simp only [Act.put, List.setIfInBounds_toArray, List.set_cons_zero, List.set_cons_succ])
    | ((with_reducible refine bl_store ?_ 54 (.tmp 1) (.tmp 15) ?_ (w1.heap.size + 1) (dlc kX (some ⟨w1.heap.size, 0, none⟩) 1 none 0) ?_ ?_ ?_ ?_ ?_ ?_); rfl; rfl; rfl; rfl; exact ⟨_, HZ.out, rfl⟩; exact infoD _ _ _ _ _; exact dl_one _ _ _ _ _; simp only [Act.put, List.setIfInBounds_toArray, List.set_cons_zero, List.set_cons_succ]))
  change Code.wp _ _ _ _ (World.setRow ((w1.alloc (.cells (fcs tF).toArray 61)).alloc (.cells (dlc zD none 0 none 0) 54)) (w1.heap.size + 1) (dlc kX (some ⟨w1.heap.size, 0, none⟩) 1 none 0))
  generalize World.setRow ((w1.alloc (.cells (fcs tF).toArray 61)).alloc (.cells (dlc zD none 0 none 0) 54)) (w1.heap.size + 1) (dlc kX (some ⟨w1.heap.size, 0, none⟩) 1 none 0) = W2 at *
  have H1 := H1
  clear HZ
  generalize w1.heap.size = lX at *
  have e1 : (W2.alloc (.cells #[.int .i64 0, .int .i64 1] 50)).heap.size = W2.heap.size + 1 := World.size_alloc _ _
  have hZ := Blk.new (W2.alloc (.cells #[.int .i64 0, .int .i64 1] 50)) 54 (dlc zD none 0 none 0)
  rw [e1] at hZ
  have hU : Go.RowKit.Below (W2.alloc (.cells #[.int .i64 0, .int .i64 1] 50)).heap.size (W2.alloc (.cells #[.int .i64 0, .int .i64 1] 50)) (World.setRow ((W2.alloc (.cells #[.int .i64 0, .int .i64 1] 50)).alloc (.cells (dlc zD none 0 none 0) 54)) (W2.heap.size + 1) (dlc kY none 0 (some ⟨W2.heap.size, 0, none⟩) 1)) := belowRow (lowA _ _) (by rw [e1]; exact Nat.le_refl _) _
  have hU2 : Go.RowKit.Below W2.heap.size W2 (World.setRow ((W2.alloc (.cells #[.int .i64 0, .int .i64 1] 50)).alloc (.cells (dlc zD none 0 none 0) 54)) (W2.heap.size + 1) (dlc kY none 0 (some ⟨W2.heap.size, 0, none⟩) 1)) := (lowA W2 _).trans (hU.mono (by rw [e1]; omega))
  have HZ := Lib.hid hZ
  have H2 := Lib.hid (And.intro (H1.out.1.trans (hU2.mono H1.out.1.size)) (And.intro (H1.out.2.1.keep hU2) (And.intro (H1.out.2.2.below hU2) (And.intro (hZ.put (dlc kY none 0 (some ⟨W2.heap.size, 0, none⟩) 1)) ((din_new W2 (0, 1)).below hU)))))
  clear e1 hZ hU hU2 H1
  go_upto_region 3 with ((with_reducible refine bl_store ?_ 54 (.tmp 2) (.tmp 20) ?_ (W2.heap.size + 1) (dlc kY none 0 (some ⟨W2.heap.size, 0, none⟩) 1) ?_ ?_ ?_ ?_ ?_ ?_); rfl; rfl; rfl; rfl; exact ⟨_, HZ.out, rfl⟩; exact infoD _ _ _ _ _; exact dl_one _ _ _ _ _; simp only [Act.put, List.setIfInBounds_toArray, List.set_cons_zero, List.set_cons_succ])
  change Code.wp _ _ _ _ (World.setRow ((W2.alloc (.cells #[.int .i64 0, .int .i64 1] 50)).alloc (.cells (dlc zD none 0 none 0) 54)) (W2.heap.size + 1) (dlc kY none 0 (some ⟨W2.heap.size, 0, none⟩) 1))
  generalize World.setRow ((W2.alloc (.cells #[.int .i64 0, .int .i64 1] 50)).alloc (.cells (dlc zD none 0 none 0) 54)) (W2.heap.size + 1) (dlc kY none 0 (some ⟨W2.heap.size, 0, none⟩) 1) = W3 at *
  clear HZ
  generalize W2.heap.size = lY at *
  have HW : Hid (AwW w lX lY W3) := Lib.hid ⟨H2.out.1, H2.out.2.1, H2.out.2.2.1, H2.out.2.2.2.1, H2.out.2.2.2.2⟩
  clear H2 hbx hby
  go_wp2_with (first
    | ((with_reducible refine bl_load ?_ 54 (.tmp 1) ?_ (lX + 1) 0 (dlc kX (some ⟨lX, 0, none⟩) 1 none 0) ?_ ?_ Tryz.underlying54 ?_ ?_ ?_); rfl; rfl; rfl; exact HW.out.dx.all; rfl; exact infoD _ _ _ _ _; simp only [Act.put, List.setIfInBounds_toArray, List.set_cons_zero, List.set_cons_succ]))
  refine (applyKC [] none 0 zC none 0 kX (some ⟨lX, 0, none⟩) 1 none 0 W3 (.inl rfl) (by decide) ⟨rfl, .inl rfl, by decide⟩ HW.out.fx (by decide) (.inl rfl) (by decide)).mono ?_
  rintro e u1 ⟨⟨o1, hof, hol, j1, ra1, qa1, rk1, qk1, he, hj, hff, hmd, hjl⟩, hb⟩
  obtain ⟨ej, ij⟩ := aw_1 hof hj
  rw [ej] at he hff
  subst he
  have hol2 : o1.l.length ≤ 1 := hol
  have hle1 : j1.l.length ≤ 2 := by have h0 : j1.l.length ≤ 0 + o1.l.length := hjl; omega
  have I1 := Lib.hid ij
  have HC1 := Lib.hid hj.clean
  have hb9 := hb.trans ((lowA u1 (.cells (ccs j1.v (.slice qa1 j1.l.length qk1)) 27)).mono hb.size)
  have HV1 := Lib.hid hmd.v16
  have H1 := Lib.hid (RX.new qk1 hff hmd)
  replace HW := Lib.hid (HW.out.below hb9)
  clear hof hol hj hff hmd hjl hb ej ij hb9 hol2
  go_upto_region 4 with ((with_reducible refine cl_store ?_ (.tmp 4) (.tmp 26) ?_ u1.heap.size j1.v qa1 j1.l.length qk1 ?_ ?_ ?_ ?_ ?_); rfl; rfl; rfl; rfl; exact ⟨_, _, CRow.new u1 zV nilS, rfl⟩; exact HV1.out)
  change Code.wp _ _ _ _ ((u1.alloc (.cells (ccs zV nilS) 27)).setRow u1.heap.size (ccs j1.v (.slice qa1 j1.l.length qk1)))
  rw [World.setRow_alloc_new]
  generalize u1.alloc (.cells (ccs j1.v (.slice qa1 j1.l.length qk1)) 27) = A1 at *
  generalize u1.heap.size = g1 at *
  go_wp2_with (first
    | ((with_reducible refine bl_load ?_ 54 (.tmp 2) ?_ (lY + 1) 0 (dlc kY none 0 (some ⟨lY, 0, none⟩) 1) ?_ ?_ Tryz.underlying54 ?_ ?_ ?_); rfl; rfl; rfl; exact HW.out.dy.all; rfl; exact infoD _ _ _ _ _; simp only [Act.put, List.setIfInBounds_toArray, List.set_cons_zero, List.set_cons_succ])
    | ((with_reducible refine cl_load ?_ (.tmp 4) ?_ g1 j1.v (.slice qa1 j1.l.length qk1) ?_ ?_ ?_ ?_); rfl; rfl; rfl; exact H1.out.row; exact H1.out.cin.v16))
  refine (applyKC [tF] ra1 rk1 j1 qa1 qk1 kY none 0 (some ⟨lY, 0, none⟩) 1 A1 H1.out.fin (by decide) H1.out.cin (.inl rfl) (by decide) HW.out.dd (by have := hle1; show j1.l.length + (2) ≤ 32768; omega)).mono ?_
  rintro e u2 ⟨⟨o2, hof, hol, j2, ra2, qa2, rk2, qk2, he, hj, hff, hmd, hjl⟩, hb⟩
  obtain ⟨ej, ij⟩ := aw_2 I1.out hof hj
  rw [ej] at he hff
  subst he
  have hol2 : o2.l.length ≤ 2 := hol
  have hle2 : j2.l.length ≤ 4 := by have := hle1; omega
  have I2 := Lib.hid ij
  have HC2 := Lib.hid hj.clean
  have hb9 := hb.trans ((lowA u2 (.cells (ccs j2.v (.slice qa2 j2.l.length qk2)) 27)).mono hb.size)
  have HV2 := Lib.hid hmd.v16
  have H2 := Lib.hid (RX.new qk2 hff hmd)
  replace HW := Lib.hid (HW.out.below hb9)
  replace H1 := Lib.hid (H1.out.below hb9)
  clear hof hol hj hff hmd hjl hb ej ij hb9 hol2
  go_upto_region 5 with ((with_reducible refine cl_store ?_ (.tmp 6) (.tmp 33) ?_ u2.heap.size j2.v qa2 j2.l.length qk2 ?_ ?_ ?_ ?_ ?_); rfl; rfl; rfl; rfl; exact ⟨_, _, CRow.new u2 zV nilS, rfl⟩; exact HV2.out)
  change Code.wp _ _ _ _ ((u2.alloc (.cells (ccs zV nilS) 27)).setRow u2.heap.size (ccs j2.v (.slice qa2 j2.l.length qk2)))
  rw [World.setRow_alloc_new]
  generalize u2.alloc (.cells (ccs j2.v (.slice qa2 j2.l.length qk2)) 27) = A2 at *
  generalize u2.heap.size = g2 at *
  go_wp2_with (first
    | ((with_reducible refine bl_load ?_ 54 (.tmp 2) ?_ (lY + 1) 0 (dlc kY none 0 (some ⟨lY, 0, none⟩) 1) ?_ ?_ Tryz.underlying54 ?_ ?_ ?_); rfl; rfl; rfl; exact HW.out.dy.all; rfl; exact infoD _ _ _ _ _; simp only [Act.put, List.setIfInBounds_toArray, List.set_cons_zero, List.set_cons_succ]))
  refine (applyKC [] none 0 zC none 0 kY none 0 (some ⟨lY, 0, none⟩) 1 A2 (.inl rfl) (by decide) ⟨rfl, .inl rfl, by decide⟩ (.inl rfl) (by decide) HW.out.dd (by decide)).mono ?_
  rintro e u3 ⟨⟨o3, hof, hol, j3, ra3, qa3, rk3, qk3, he, hj, hff, hmd, hjl⟩, hb⟩
  obtain ⟨ej, ij⟩ := aw_3 hof hj
  rw [ej] at he hff
  subst he
  have hol2 : o3.l.length ≤ 2 := hol
  have hle3 : j3.l.length ≤ 2 := by have h0 : j3.l.length ≤ 0 + o3.l.length := hjl; omega
  have I3 := Lib.hid ij
  have HC3 := Lib.hid hj.clean
  have hb9 := hb.trans ((lowA u3 (.cells (ccs j3.v (.slice qa3 j3.l.length qk3)) 27)).mono hb.size)
  have HV3 := Lib.hid hmd.v16
  have H3 := Lib.hid (RX.new qk3 hff hmd)
  replace HW := Lib.hid (HW.out.below hb9)
  replace H1 := Lib.hid (H1.out.below hb9)
  replace H2 := Lib.hid (H2.out.below hb9)
  clear hof hol hj hff hmd hjl hb ej ij hb9 hol2
  go_upto_region 6 with ((with_reducible refine cl_store ?_ (.tmp 8) (.tmp 39) ?_ u3.heap.size j3.v qa3 j3.l.length qk3 ?_ ?_ ?_ ?_ ?_); rfl; rfl; rfl; rfl; exact ⟨_, _, CRow.new u3 zV nilS, rfl⟩; exact HV3.out)
  change Code.wp _ _ _ _ ((u3.alloc (.cells (ccs zV nilS) 27)).setRow u3.heap.size (ccs j3.v (.slice qa3 j3.l.length qk3)))
  rw [World.setRow_alloc_new]
  generalize u3.alloc (.cells (ccs j3.v (.slice qa3 j3.l.length qk3)) 27) = A3 at *
  generalize u3.heap.size = g3 at *
  go_wp2_with (first
    | ((with_reducible refine bl_load ?_ 54 (.tmp 1) ?_ (lX + 1) 0 (dlc kX (some ⟨lX, 0, none⟩) 1 none 0) ?_ ?_ Tryz.underlying54 ?_ ?_ ?_); rfl; rfl; rfl; exact HW.out.dx.all; rfl; exact infoD _ _ _ _ _; simp only [Act.put, List.setIfInBounds_toArray, List.set_cons_zero, List.set_cons_succ])
    | ((with_reducible refine cl_load ?_ (.tmp 8) ?_ g3 j3.v (.slice qa3 j3.l.length qk3) ?_ ?_ ?_ ?_); rfl; rfl; rfl; exact H3.out.row; exact H3.out.cin.v16))
  refine (applyKC [] ra3 rk3 j3 qa3 qk3 kX (some ⟨lX, 0, none⟩) 1 none 0 A3 H3.out.fin (by decide) H3.out.cin HW.out.fx (by decide) (.inl rfl) (by have := hle3; show j3.l.length + (1) ≤ 32768; omega)).mono ?_
  rintro e u4 ⟨⟨o4, hof, hol, j4, ra4, qa4, rk4, qk4, he, hj, hff, hmd, hjl⟩, hb⟩
  obtain ⟨ej, ij⟩ := aw_4 I3.out hof hj
  rw [ej] at he hff
  subst he
  have hol2 : o4.l.length ≤ 1 := hol
  have hle4 : j4.l.length ≤ 4 := by have := hle3; omega
  have I4 := Lib.hid ij
  have HC4 := Lib.hid hj.clean
  have hb9 := hb.trans ((lowA u4 (.cells (ccs j4.v (.slice qa4 j4.l.length qk4)) 27)).mono hb.size)
  have HV4 := Lib.hid hmd.v16
  have H4 := Lib.hid (RX.new qk4 hff hmd)
  replace HW := Lib.hid (HW.out.below hb9)
  replace H1 := Lib.hid (H1.out.below hb9)
  replace H2 := Lib.hid (H2.out.below hb9)
  replace H3 := Lib.hid (H3.out.below hb9)
  clear hof hol hj hff hmd hjl hb ej ij hb9 hol2
  go_upto_region 7 with ((with_reducible refine cl_store ?_ (.tmp 10) (.tmp 46) ?_ u4.heap.size j4.v qa4 j4.l.length qk4 ?_ ?_ ?_ ?_ ?_); rfl; rfl; rfl; rfl; exact ⟨_, _, CRow.new u4 zV nilS, rfl⟩; exact HV4.out)
  change Code.wp _ _ _ _ ((u4.alloc (.cells (ccs zV nilS) 27)).setRow u4.heap.size (ccs j4.v (.slice qa4 j4.l.length qk4)))
  rw [World.setRow_alloc_new]
  generalize u4.alloc (.cells (ccs j4.v (.slice qa4 j4.l.length qk4)) 27) = A4 at *
  generalize u4.heap.size = g4 at *
  have hj2 : j2 = cvv := both_has I2.out (.inl (.inr rfl)) (.inr rfl) (fun i h => by rcases h with (h | rfl) | rfl; exact h.elim; decide; decide) HC2.out
  have hj4 : j4 = cvv := both_has I4.out (.inr rfl) (.inl (.inr rfl)) (fun i h => by rcases h with (h | rfl) | rfl; exact h.elim; decide; decide) HC4.out
  have hsm := sameRC j2 j4 qa2 qa4 qk2 qk4 A4 H2.out.cin H4.out.cin
  rw [decide_eq_true (hj2.trans hj4.symm)] at hsm
  have heq := fun W => eqlV H2.out.cin.v16 (show vv.length = 16 from rfl) W
  rw [decide_eq_true (show j2.v = vv by rw [hj2]; rfl)] at heq
  have heq2 : ∀ W, (binOp .eql 24 (.agg (ics j2.v)) (.agg #[.int .i64 1, .int .i64 1, .int .i64 0, .int .i64 0, .int .i64 0, .int .i64 0, .int .i64 0, .int .i64 0, .int .i64 0, .int .i64 0, .int .i64 0, .int .i64 0, .int .i64 0, .int .i64 0, .int .i64 0, .int .i64 0])).run Tryz.prog W = .ok (.bool true) W := heq
  have HSM := Lib.hid hsm
  have hyes := chk_yes I1.out HC1.out
  have HK1 := Lib.hid (fun W h1 h2 => kchkC [tF] ra1 rk1 j1 qa1 qk1 W h1 (by decide) (fun f hf => by obtain rfl : f = tF := (by simpa using hf); decide) h2)
  rw [hyes] at HK1
  have HK2 := Lib.hid (fun W h1 => kchkC [tF] ra1 rk1 zC none 0 W h1 (by decide) (fun f hf => by obtain rfl : f = tF := (by simpa using hf); decide) ⟨rfl, .inl rfl, by decide⟩)
  rw [chk_no] at HK2
  clear hj2 hj4 hsm hyes
  go_wp2_with (first
    | ((with_reducible refine cl_load ?_ (.tmp 6) ?_ g2 j2.v (.slice qa2 j2.l.length qk2) ?_ ?_ ?_ ?_); rfl; rfl; rfl; exact H2.out.row; exact H2.out.cin.v16)
    | ((with_reducible refine cl_load ?_ (.tmp 10) ?_ g4 j4.v (.slice qa4 j4.l.length qk4) ?_ ?_ ?_ ?_); rfl; rfl; rfl; exact H4.out.row; exact H4.out.cin.v16))
  refine HSM.out.mono ?_
  rintro e v1 ⟨rfl, hb⟩
  replace HW := Lib.hid (HW.out.below hb)
  replace H1 := Lib.hid (H1.out.below hb)
  replace H2 := Lib.hid (H2.out.below hb)
  clear hb HSM
  go_wp2_with (first
    | ((with_reducible refine cl_loadV ?_ (.tmp 71) ?_ g2 j2.v (.slice qa2 j2.l.length qk2) ?_ ?_ ?_ ?_); rfl; rfl; rfl; exact H2.out.row; exact H2.out.cin.v16)
    | ((with_reducible refine cl_load ?_ (.tmp 4) ?_ g1 j1.v (.slice qa1 j1.l.length qk1) ?_ ?_ ?_ ?_); rfl; rfl; rfl; exact H1.out.row; exact H1.out.cin.v16))
  refine (HK1.out v1 H1.out.fin H1.out.cin).mono ?_
  rintro e v2 ⟨rfl, hb⟩
  replace HW := Lib.hid (HW.out.below hb)
  replace H1 := Lib.hid (H1.out.below hb)
  clear hb HK1
  go_wp2_with fail
  refine (HK2.out v2 H1.out.fin).mono ?_
  rintro e v3 ⟨rfl, hb⟩
  have HF := Lib.hid (HW.out.below hb).low
  clear hb HK2
  go_wp2_with fail
  go_ret
  exact ⟨rfl, HF.out⟩
end Go.Proofs.YtcedliaeipabnaaGreat
