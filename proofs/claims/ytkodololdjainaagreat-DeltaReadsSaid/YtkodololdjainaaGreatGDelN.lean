/-
  Same of facts, the document's; a slice of facts laid.
  almonrylaw15: Few; a fact loaded where a guard stands.
  Updates: what is asked of them in three parts; how great their bytes are; the chapter's example.
-/
import Derived.Test.YtkodololdjainaaGreatFactRow
import Derived.Deep.Cut
import Derived.Deep.DeepCutAuto
import Derived.BigQuiet
import Derived.Great.BuildSlice
import Derived.Test.YtkodololdjainaaGreatGDelM
import Derived.Test.YtkodololdjainaaGreatGDelB
import Derived.Test.YtkodololdjainaaGreatGDelK
namespace Go.Proofs.YtkodololdjainaaGreat
set_option maxRecDepth 100000
open Go.RowKit Go.Sort

set_option maxHeartbeats 4000000 in
theorem sameRF (x y : List Ft) (a b : Option Addr) (ca cb : Nat) (w : World) (hx : FIn w a x) (hy : FIn w b y) (hlx : x.length ≤ maxLen) :
    Calls Tryz.prog 47 #[.slice a x.length ca, .slice b y.length cb] w fun e w' => e = .returned (.bool (decide (x = y))) ∧ Below w.heap.size w w' := by
  unfold maxLen at hlx
  by_cases hl : x.length = y.length
  · have hn : ((x.length : Int) != (y.length : Int)) = false := by simp [hl]
    have HX := Lib.hid hx
    have HY := Lib.hid hy
    have HL := Lib.hid hl
    clear hx hy hl
    go_enter Tryz.func47, Tryz.ntmps47
    go_wp2_with fail
    go_loopw [5] (fun i wr => ∃ k : Nat, k ≤ x.length ∧ i = .int .i64 k ∧ Hid (∀ j, j < k → x[j]? = y[j]?) ∧ Hid (Below w.heap.size w wr)) (fun i _ => x.length - (intOf i).toNat)
    case atStart => exact ⟨0, Nat.zero_le _, rfl, Lib.hid (fun j hj => by omega), Lib.hid (Below.refl _ _)⟩
    case round =>
      obtain ⟨k, hk, rfl, HK, HB⟩ := hrel
      by_cases hlt : k < x.length
      · obtain ⟨d, hd⟩ : ∃ d, x[k]? = some d := ⟨_, List.getElem?_eq_getElem hlt⟩
        obtain ⟨f, hf⟩ : ∃ d, y[k]? = some d := ⟨_, List.getElem?_eq_getElem (by have := HL.out; omega)⟩
        obtain ⟨b1, o1, rfl, hb1, c0⟩ := (HX.out.below HB.out).at hd
        obtain ⟨b2, o2, rfl, hb2, p0⟩ := (HY.out.below HB.out).at hf
        have hi1 : (k : Int) < (x.length : Int) := by omega
        have hi2 : (k : Int) < (y.length : Int) := by have := HL.out; omega
        have HD := Lib.hid (And.intro hd hf)
        have HR0 := Lib.hid (range_regrown c0 hb1)
        have HR1 := Lib.hid (range_regrown p0 hb2)
        clear hd hf c0 p0 hb1 hb2
        by_cases he : d = f
        · have hnq := fun W => neqF d f W
          rw [decide_eq_true he] at hnq
          have HK2 := Lib.hid (show ∀ j, j < k + 1 → x[j]? = y[j]? from fun j hj => by
            rcases Nat.lt_or_ge j k with h1 | h1
            · exact HK.out j h1
            · obtain rfl : j = k := by omega
              rw [HD.out.1, HD.out.2, he])
          clear he
          go_upto_region 6 with fail
          refine wp_region_quiet_below (by kernel_rfl) (by kernel_rfl) ?_
          repeat (first
            | ((with_reducible refine fq_load ?_ (.tmp 19) ?_ b1 (o1 + k * 8) d ?_ ?_ ?_); rfl; rfl; rfl; exact HR0.out; simp only [Act.put, List.setIfInBounds_toArray, List.set_cons_zero, List.set_cons_succ])
            | ((with_reducible refine fq_load ?_ (.tmp 23) ?_ b2 (o2 + k * 8) f ?_ ?_ ?_); rfl; rfl; rfl; exact HR1.out; simp only [Act.put, List.setIfInBounds_toArray, List.set_cons_zero, List.set_cons_succ])
            | go_big_quiet_step (fail) | quiet_step (fail))
          refine wpQuiet_nil ?_
          intro _ hw'
          obtain ⟨⟨dq, osq⟩, hw''⟩ := hw'
          subst hw''
          have HB9 := Lib.hid (HB.out.trans ((below_regrown wr dq osq).mono HB.out.size))
          clear HR0 HR1 hnq HB
          generalize grow (redrawn wr dq) osq = W at *
          go_wp2_with fail
          go_roundw
          case rel => exact ⟨k + 1, by omega, by go_num, HK2, HB9⟩
          case measure => simp [intOf]; omega
        · have hnq := fun W => neqF d f W
          rw [decide_eq_false he] at hnq
          have hfin : decide (x = y) = false := by
            refine decide_eq_false fun hxy => he ?_
            have h := HD.out.1
            rw [hxy, HD.out.2] at h
            exact (Option.some.inj h).symm
          have HF := Lib.hid hfin
          clear he hfin
          go_upto_region 6 with fail
          refine wp_region_quiet_below (by kernel_rfl) (by kernel_rfl) ?_
          repeat (first
            | ((with_reducible refine fq_load ?_ (.tmp 19) ?_ b1 (o1 + k * 8) d ?_ ?_ ?_); rfl; rfl; rfl; exact HR0.out; simp only [Act.put, List.setIfInBounds_toArray, List.set_cons_zero, List.set_cons_succ])
            | ((with_reducible refine fq_load ?_ (.tmp 23) ?_ b2 (o2 + k * 8) f ?_ ?_ ?_); rfl; rfl; rfl; exact HR1.out; simp only [Act.put, List.setIfInBounds_toArray, List.set_cons_zero, List.set_cons_succ])
            | go_big_quiet_step (fail) | quiet_step (fail))
          refine wpQuiet_nil ?_
          intro _ hw'
          obtain ⟨⟨dq, osq⟩, hw''⟩ := hw'
          subst hw''
          have HB9 := Lib.hid (HB.out.trans ((below_regrown wr dq osq).mono HB.out.size))
          clear HR0 HR1 hnq HB
          generalize grow (redrawn wr dq) osq = W at *
          go_wp2_with fail
          go_ret
          exact ⟨by rw [HF.out]; rfl, HB9.out⟩
      · have hfin : decide (x = y) = true := by
          refine decide_eq_true (List.ext_getElem? fun j => ?_)
          rcases Nat.lt_or_ge j k with h1 | h1
          · exact HK.out j h1
          · rw [List.getElem?_eq_none (by omega), List.getElem?_eq_none (by have := HL.out; omega)]
        have HF := Lib.hid hfin
        have hi1 : ¬ (k : Int) < (x.length : Int) := by omega
        clear hfin
        go_wp2_with fail
        go_ret
        exact ⟨by rw [HF.out]; rfl, HB.out⟩
  · have hn : ((x.length : Int) != (y.length : Int)) = true := by simp; omega
    have hfin : decide (x = y) = false := decide_eq_false fun h => hl (by rw [h])
    rw [hfin]
    clear hfin hl
    go_enter Tryz.func47, Tryz.ntmps47
    go_wp2_with fail
    go_ret
    exact ⟨rfl, Below.refl _ _⟩

theorem same_anyF (x y : List Ft) (n m : Nat) (hn : x.length = n) (hm : y.length = m) (a b : Option Addr) (ca cb : Nat) (w : World) (hx : FIn w a x) (hy : FIn w b y) (hlx : n ≤ maxLen) (t : Bool) (ht : decide (x = y) = t) :
    Calls Tryz.prog 47 #[.slice a n ca, .slice b m cb] w fun e w' => e = .returned (.bool t) ∧ Below w.heap.size w w' := by
  subst hn hm ht
  exact sameRF x y a b ca cb w hx hy hlx

/-! a slice of some facts -/
theorem fin_cells (w : World) (l : List Ft) : FIn (w.alloc (.cells (rowF l).toArray 88)) (some ⟨w.heap.size, 0, none⟩) l := by
  refine .inr ⟨w.heap.size, 0, rfl, by simp, fun j f hj i u hu => ?_⟩
  have h1 := rowF_at l j f hj i u hu
  rw [Nat.zero_add, Joins.cell_of_block (heap_alloc_new w _)]
  simpa using h1
theorem build2F (a b : Ft) (w : World) : (Instr.buildSlice 26 2 #[(0, .agg (fcs a).toArray), (1, .agg (fcs b).toArray)]).run Tryz.prog w = .ok (.slice (some ⟨w.heap.size, 0, none⟩) 2 2) (w.alloc (.cells (rowF [a, b]).toArray 88)) := by
  obtain ⟨i0, hi, hz0, hz1, hz2⟩ := info_parts factInfo
  refine run_buildSlice w 26 88 2 _ (rowF [a, b]).toArray i0 zeroF Tryz.underlying26 hi hz0 (by rw [hz1]; decide) (by rw [hz1]; decide) ?_
  rw [hz1]
  kernel_rfl
theorem build3F (a b c : Ft) (w : World) : (Instr.buildSlice 26 3 #[(0, .agg (fcs a).toArray), (1, .agg (fcs b).toArray), (2, .agg (fcs c).toArray)]).run Tryz.prog w = .ok (.slice (some ⟨w.heap.size, 0, none⟩) 3 3) (w.alloc (.cells (rowF [a, b, c]).toArray 88)) := by
  obtain ⟨i0, hi, hz0, hz1, hz2⟩ := info_parts factInfo
  refine run_buildSlice w 26 88 3 _ (rowF [a, b, c]).toArray i0 zeroF Tryz.underlying26 hi hz0 (by rw [hz1]; decide) (by rw [hz1]; decide) ?_
  rw [hz1]
  kernel_rfl
end Go.Proofs.YtkodololdjainaaGreat

namespace Go.Proofs.YtkodololdjainaaGreat
open Go.RowKit Go.Sort
set_option maxRecDepth 100000

theorem fl_loadg {ops : Array Oper} {rest : List Oper} {o : Oper} {a : Act} {w : World} {Q : Exit → Act → World → Prop} (hw : Region.wanted o (yielded ops a.tmps) = true) (x : Operand) (ho : o.op = .load 88 x) (g off : Nat) (f : Ft)
    (hx : a.eval x = .pointer (some ⟨g, off, none⟩)) (hg : w.rangeAt g off (fcs f)) (h : wpList Tryz.prog ops Q rest (a.put o.dst (.agg (fcs f).toArray)) w) : wpList Tryz.prog ops Q (o :: rest) a w := by
  unfold wpList
  rw [if_pos hw]
  exact .inl (wp_load_mid 88 x ho g off hx (fcs f) _ hg Tryz.underlying88 rfl factSize h)

/-- three facts laid into a slice, in a walk -/
theorem wpList_build3F {ops : Array Oper} {rest : List Oper} {o : Oper} {a : Act} {w : World} {Q : Exit → Act → World → Prop} (hgd : o.guard = none) (x y z : Operand) (ho : o.op = .buildSlice 26 3 #[(0, x), (1, y), (2, z)]) (f g h : Ft)
    (hx : a.eval x = .agg (fcs f).toArray) (hy : a.eval y = .agg (fcs g).toArray) (hz : a.eval z = .agg (fcs h).toArray)
    (hk : wpList Tryz.prog ops Q rest (a.put o.dst (.slice (some ⟨w.heap.size, 0, none⟩) 3 3)) (w.alloc (.cells (rowF [f, g, h]).toArray 88))) : wpList Tryz.prog ops Q (o :: rest) a w := by
  refine wpList_plain hgd fun K hK => ?_
  have e : (#[(0, x), (1, y), (2, z)] : Array (Nat × Operand)).map (fun (i, x) => (i, a.eval x)) = #[(0, .agg (fcs f).toArray), (1, .agg (fcs g).toArray), (2, .agg (fcs h).toArray)] := by simp [hx, hy, hz]
  unfold Oper.wp execOp
  simp only [ho, Sem.run_bind]
  rw [e, build3F]
  exact hK _ _ hk

def fewOk (f : Ft) : Prop := f.n.size ≤ 100 ∧ f.v.size ≤ 1000
instance (f : Ft) : Decidable (fewOk f) := inferInstanceAs (Decidable (_ ∧ _))
def fewP (l : List Ft) : Bool := decide (l.length ≤ 30 ∧ ∀ f ∈ l, fewOk f)
theorem fewP_ok {l : List Ft} (h : fewP l = true) : l.length ≤ 30 ∧ ∀ f ∈ l, fewOk f := of_decide_eq_true h
theorem fewP_v {l : List Ft} (h : fewP l = true) : ∀ f ∈ l, f.v.size ≤ 5000 := fun f hf => by have := ((fewP_ok h).2 f hf).2; omega

set_option maxHeartbeats 2000000 in
theorem ffewC (l : List Ft) (a : Option Addr) (cap : Nat) (w : World) (h : FIn w a l) (hl : l.length ≤ maxLen) (hs : ∀ f ∈ l, f.n.size ≤ maxLen ∧ f.v.size ≤ maxLen) :
    Calls Tryz.prog 15 #[.slice a l.length cap] w fun e w' => e = .returned (.bool (fewP l)) ∧ w = w' := by
  unfold maxLen at hl
  by_cases hbig : 30 < l.length
  · have hbi : (30 : Int) < (l.length : Int) := by omega
    rw [show fewP l = false from decide_eq_false (fun k => by omega)]
    clear h hs hbig
    go_enter Tryz.func15, Tryz.ntmps15
    go_wp2_with fail
    go_ret
    exact ⟨rfl, rfl⟩
  · have hbi : ¬ (30 : Int) < (l.length : Int) := by omega
    have H := Lib.hid h
    have HS := Lib.hid hs
    clear h hs
    go_enter Tryz.func15, Tryz.ntmps15
    go_wp2_with fail
    go_loopw [3] (fun i wr => ∃ k : Nat, k ≤ l.length ∧ i = .int .i64 k ∧ Hid (∀ j d, j < k → l[j]? = some d → fewOk d) ∧ w = wr) (fun i _ => l.length - (intOf i).toNat)
    case atStart => exact ⟨0, Nat.zero_le _, rfl, Lib.hid (fun j d hj => by omega), rfl⟩
    case round =>
      obtain ⟨k, hk, rfl, HK, rfl⟩ := hrel
      by_cases hlt : k < l.length
      · obtain ⟨d, hd⟩ : ∃ d, l[k]? = some d := ⟨_, List.getElem?_eq_getElem hlt⟩
        obtain ⟨b, off, rfl, hbl, c0⟩ := H.out.at hd
        have hi1 : (k : Int) < (l.length : Int) := by omega
        have hm : d ∈ l := List.mem_of_getElem? hd
        have c6 := c0 6 _ rfl
        have c7 := c0 7 _ rfl
        have hz := HS.out d hm
        unfold maxLen at hz
        have HD := Lib.hid hd
        have HM := Lib.hid hm
        clear c0 hd hm
        by_cases hn : 100 < d.n.size
        · have g1 : decide ((100 : Int) < (d.n.size : Int)) = true := by simp; omega
          have HF := Lib.hid (show fewP l = false from decide_eq_false (fun k => by have := (k.2 d HM.out).1; omega))
          clear hn
          go_wp2_with fail
          go_ret
          exact ⟨by rw [HF.out]; rfl, rfl⟩
        · have g1 : decide ((100 : Int) < (d.n.size : Int)) = false := by simp; omega
          by_cases hv : 1000 < d.v.size
          · have g2 : decide ((1000 : Int) < (d.v.size : Int)) = true := by simp; omega
            have HF := Lib.hid (show fewP l = false from decide_eq_false (fun k => by have := (k.2 d HM.out).2; omega))
            clear hn hv
            go_wp2_with fail
            go_ret
            exact ⟨by rw [HF.out]; rfl, rfl⟩
          · have g2 : decide ((1000 : Int) < (d.v.size : Int)) = false := by simp; omega
            have HK2 := Lib.hid (show ∀ j x, j < k + 1 → l[j]? = some x → fewOk x from fun j x hj hx => by
              rcases Nat.lt_or_ge j k with h1 | h1
              · exact HK.out j x h1 hx
              · obtain rfl : j = k := by omega
                rw [HD.out] at hx
                obtain rfl := Option.some.inj hx
                exact ⟨by omega, by omega⟩)
            clear hn hv HK
            go_wp2_with fail
            exact ⟨⟨k + 1, by omega, by go_num, HK2, trivial⟩, by simp [intOf]; omega⟩
      · have hi1 : ¬ (k : Int) < (l.length : Int) := by omega
        have HF := Lib.hid (show fewP l = true from decide_eq_true ⟨by omega, fun f hf => by
          obtain ⟨j, hj, hjf⟩ := List.mem_iff_getElem.1 hf
          exact HK.out j f (by omega) (by rw [List.getElem?_eq_getElem hj, hjf])⟩)
        go_wp2_with fail
        go_ret
        exact ⟨by rw [HF.out]; rfl, rfl⟩
end Go.Proofs.YtkodololdjainaaGreat

namespace Go.Proofs.YtkodololdjainaaGreat
set_option linter.unusedSimpArgs false
set_option linter.unusedVariables false
set_option maxRecDepth 100000

/-- all say the update's name and stamp -/
def OwnE (e : Dl) : Prop := ∀ f ∈ e.l, f.d = e.d ∧ f.s = e.s
instance (e : Dl) : Decidable (OwnE e) := inferInstanceAs (Decidable (∀ f ∈ e.l, _))
def hdE (e : Dl) : Int := if chkD e.d ≠ 0 then chkD e.d else if chkS e.s ≠ 0 then chkS e.s else if e.d.1 ≠ e.s.r then 5 else 0
def faE (e : Dl) : Int := if chkFs rdM e.l ≠ 0 then chkFs rdM e.l else if OwnE e then 0 else 5
def goE (e : Dl) : Int := if chkL e.g ≠ 0 then chkL e.g else if e.d ∈ e.g then 5 else 0
def chkDm (e : Dl) : Int := chkDl rdM e
def lastE (e : Dl) : Int := if 256 < e.l.length ∨ 256 < e.g.length then 3 else 0
theorem ownDl_iff (e : Dl) : OwnDl e ↔ OwnE e ∧ RiseF e.l := Iff.rfl
theorem faE_ref (e : Dl) : faE e = if firstF rdM e.l ≠ 0 then firstF rdM e.l else if OwnE e then chkFs rdM e.l else 5 := by
  unfold faE chkFs
  by_cases h1 : firstF rdM e.l = 0
  · by_cases h2 : RiseF e.l
    · simp [h1, h2]
    · simp [h1, h2]
  · simp [h1]
theorem faE_def (e : Dl) : faE e = if firstF rdM e.l ≠ 0 then firstF rdM e.l else if ¬ OwnDl e then 5 else 0 := by
  rw [faE_ref]
  by_cases h1 : firstF rdM e.l = 0
  · by_cases h2 : RiseF e.l
    · by_cases h3 : OwnE e
      · rw [chkFs_good h1 h2]; simp [h1, ownDl_iff, h2, h3]
      · simp [h1, ownDl_iff, h3]
    · by_cases h3 : OwnE e
      · rw [chkFs_flat h1 h2]; simp [h1, ownDl_iff, h2, h3]
      · simp [h1, ownDl_iff, h3]
  · simp [h1]
theorem chkDm_of (e : Dl) : chkDm e = if hdE e ≠ 0 then hdE e else if faE e ≠ 0 then faE e else if goE e ≠ 0 then goE e else lastE e := by
  unfold chkDm chkDl
  by_cases h1 : chkD e.d = 0
  · by_cases h2 : chkS e.s = 0
    · by_cases h3 : e.d.1 = e.s.r
      · have hh : hdE e = 0 := by simp [hdE, h1, h2, h3]
        by_cases h4 : firstF rdM e.l = 0
        · by_cases h5 : OwnDl e
          · have hf : faE e = 0 := by rw [faE_def]; simp [h4, h5]
            by_cases h6 : chkL e.g = 0
            · by_cases h7 : e.d ∈ e.g
              · have hg : goE e = 5 := by simp [goE, h6, h7]
                simp [h1, h2, h3, h4, h5, h6, h7, hh, hf, hg]
              · have hg : goE e = 0 := by simp [goE, h6, h7]
                simp [h1, h2, h3, h4, h5, h6, h7, hh, hf, hg, lastE]
            · have hg : goE e = chkL e.g := by simp [goE, h6]
              simp [h1, h2, h3, h4, h5, h6, hh, hf, hg]
          · have hf : faE e = 5 := by rw [faE_def]; simp [h4, h5]
            simp [h1, h2, h3, h4, h5, hh, hf]
        · have hf : faE e = firstF rdM e.l := by rw [faE_def]; simp [h4]
          simp [h1, h2, h3, h4, hh, hf]
      · have hh : hdE e = 5 := by simp [hdE, h1, h2, h3]
        simp [h1, h2, h3, hh]
    · have hh : hdE e = chkS e.s := by simp [hdE, h1, h2]
      simp [h1, h2, hh]
  · have hh : hdE e = chkD e.d := by simp [hdE, h1]
    simp [h1, hh]

/-! how great the bytes are -/
theorem encF1_few (f : Ft) (h : chkFm f = 0) (hf : fewOk f) : (encF1 f).length ≤ 1200 := by
  obtain ⟨h1, h2, h3, h4, h5, h6, h7⟩ := chkF_ok h
  have k1 := chkD_ok h1
  have k2 := chkS_ok h2
  have u1 := Lib.uvarint_length64 (x := f.d.1.toNat) (by omega)
  have u2 := Lib.uvarint_length64 (x := f.d.2.toNat) (by omega)
  have u3 := Lib.uvarint_length64 (x := f.s.t.toNat) (by omega)
  have u4 := Lib.uvarint_length64 (x := f.s.c.toNat) (by omega)
  have u5 := Lib.uvarint_length64 (x := f.k.toNat) (by omega)
  have u6 := Lib.uvarint_length64 (x := f.n.size) (by omega)
  have u7 := Lib.uvarint_length64 (x := f.v.size) (by omega)
  have v6 := ba_len f.n
  have v7 := ba_len f.v
  obtain ⟨hn, hv⟩ := hf
  unfold encF1 encX
  simp only [List.length_append]
  omega
theorem encF_few : ∀ (l : List Ft), (∀ f ∈ l, chkFm f = 0) → (∀ f ∈ l, fewOk f) → (encF l).length ≤ l.length * 1200 := by
  intro l
  induction l with
  | nil => intro _ _; simp [encF]
  | cons s r ih =>
    intro h hf
    have h1 := ih (fun x hx => h x (by simp [hx])) (fun x hx => hf x (by simp [hx]))
    have h2 := encF1_few s (h s (by simp)) (hf s (by simp))
    have e : encF (s :: r) = encF1 s ++ encF r := rfl
    rw [e, List.length_append, List.length_cons]
    omega
theorem putF_few {l : List Ft} (h : fewP l = true) : (putF rdM l).1.size ≤ 65536 := by
  obtain ⟨hl, hf⟩ := fewP_ok h
  unfold putF
  split
  · simp [ByteArray.size]
  · split
    · rename_i hc
      have h1 := encF_few l (chkFs_ok hc).1 hf
      have h2 := Lib.uvarint_length64 (x := l.length) (by omega)
      simp only [ByteArray.size, List.size_toArray, encFs, List.length_append]
      omega
    · simp [ByteArray.size]
theorem putD_few {l : List Dt} (hl : l.length ≤ 3000) : (putD l).1.size ≤ 65536 := by
  unfold putD
  split
  · simp [ByteArray.size]
  · split
    · rename_i hc
      have h1 := encD_len l (chkL_ok hc).1
      have h2 := Lib.uvarint_length64 (x := l.length) (by omega)
      simp only [ByteArray.size, List.size_toArray, encDs, List.length_append]
      omega
    · simp [ByteArray.size]
/-- the update's texts may be put -/
def TextOk (e : Dl) : Prop := (factB rdM e).size ≤ 65536 ∧ (goneB e).size ≤ 65536
theorem textOk_few {e : Dl} (h : fewP e.l = true) (hg : e.g.length ≤ 30) : TextOk e := ⟨putF_few h, putD_few (by omega)⟩
theorem textOk_read {s : ByteArray} {e : Dl} (h : readDl rdM s = (e, 0)) : TextOk e := by
  have hp := putDl_read h
  unfold putDl at hp
  split at hp
  · rename_i h1; exact absurd (Prod.ext_iff.1 hp).2 h1
  · split at hp
    · cases hp
    · rename_i h2
      exact ⟨by omega, by omega⟩
theorem textOk_zero : TextOk zDl := by
  refine ⟨?_, ?_⟩
  · exact Nat.le_of_lt_succ (by decide +kernel)
  · exact Nat.le_of_lt_succ (by decide +kernel)
/-- of an update whose texts may be put -/
theorem putDl_text {e : Dl} (h : TextOk e) : putDl rdM e = if chkDm e ≠ 0 then (⟨#[]⟩, chkDm e) else (⟨(encDl rdM e).toArray⟩, 0) := by
  unfold putDl chkDm
  split
  · rfl
  · rw [if_neg (by have := h.1; have := h.2; omega)]
theorem s5_le (s : ByteArray) : (s5Dl s).1.size ≤ s.size := by
  have a1 := sNum_size (s, 0)
  have a2 := sNum_size (s1Dl s).2
  have a3 := sNum_size (s2Dl s).2
  have a4 := sNum_size (s3Dl s).2
  have a5 := sText_val (s4Dl s).2
  unfold s5Dl
  unfold s4Dl s3Dl s2Dl s1Dl at *
  simp only at a1
  omega
/-- the values that are read of few bytes -/
theorem s5_val {s : ByteArray} (hs : s.size ≤ 5000) : ∀ f ∈ (rdF (s5Dl s).1).1, f.v.size ≤ 5000 := fun f hf => Nat.le_trans (rdF_val _ f hf) (Nat.le_trans (s5_le s) hs)
/-- .. of what is read whole -/
theorem s5_read {s : ByteArray} {e : Dl} (h : readDl rdM s = (e, 0)) : (rdF (s5Dl s).1).1 = e.l := by
  unfold readDl at h
  split at h
  · rename_i h1; exact absurd (Prod.ext_iff.1 h).2 h1
  split at h
  · rename_i h1; exact absurd (Prod.ext_iff.1 h).2 h1
  rename_i h2
  split at h
  · rename_i h1; exact absurd (Prod.ext_iff.1 h).2 h1
  split at h
  · rename_i h1; exact absurd (Prod.ext_iff.1 h).2 h1
  obtain ⟨rfl, -⟩ := Prod.mk.inj h
  exact rdF_of (Prod.ext rfl (Classical.byContradiction h2))
/-- the values that are read of what few put -/
theorem s5_put {e : Dl} (h : fewP e.l = true) : ∀ f ∈ (rdF (s5Dl (putDl rdM e).1).1).1, f.v.size ≤ 5000 := by
  by_cases he : (putDl rdM e).2 = 0
  · rw [s5_read (readDl_put (Prod.ext rfl he : putDl rdM e = ((putDl rdM e).1, 0)))]
    exact fewP_v h
  · have hz : (putDl rdM e).1 = ⟨#[]⟩ := by
      unfold putDl at he ⊢
      split
      · rfl
      · split
        · rfl
        · rename_i h1 h2; rw [if_neg h1, if_neg h2] at he; exact absurd rfl he
    rw [hz]
    exact s5_val (by decide)
theorem putDl_size {e : Dl} (h : TextOk e) : (putDl rdM e).1.size ≤ 1000000 := by
  rw [putDl_text h]
  split
  · simp [ByteArray.size]
  · rename_i hz
    have hz : chkDm e = 0 := Classical.byContradiction hz
    obtain ⟨k1, k2, -⟩ := chkDl_ok (rd := rdM) hz
    have d1 := chkD_ok k1
    have d2 := chkS_ok k2
    have u1 := Lib.uvarint_length64 (x := e.d.1.toNat) (by omega)
    have u2 := Lib.uvarint_length64 (x := e.d.2.toNat) (by omega)
    have u3 := Lib.uvarint_length64 (x := e.s.t.toNat) (by omega)
    have u4 := Lib.uvarint_length64 (x := e.s.c.toNat) (by omega)
    have u5 := encX_len (factB rdM e) h.1
    have u6 := encX_len (goneB e) h.2
    simp only [ByteArray.size, List.size_toArray, encDl, List.length_append]
    omega
/-- of an update that was read: the texts may be put, the values are short -/
theorem read_ok {s : ByteArray} (hs : s.size ≤ 5000) : TextOk (readDl rdM s).1 := by
  by_cases he : (readDl rdM s).2 = 0
  · exact textOk_read (Prod.ext rfl he : readDl rdM s = ((readDl rdM s).1, 0))
  · have hz : (readDl rdM s).1 = zDl := by
      unfold readDl at he ⊢
      split
      · rfl
      · split
        · rfl
        · split
          · rfl
          · split
            · rfl
            · rename_i h1 h2 h3 h4; rw [if_neg h1, if_neg h2, if_neg h3, if_neg h4] at he; exact absurd rfl he
    rw [hz]; exact textOk_zero

/-! the example -/
def awE1 : Ft := ⟨(1, 2), ⟨5, 0, 1⟩, 3, ⟨#[97]⟩, ⟨#[120]⟩⟩
def oneE : Dl := ⟨(1, 2), ⟨5, 0, 1⟩, [awE1], [(0, 1)]⟩
def awEx : Dl := ⟨(1, 2), ⟨5, 0, 1⟩, [awE1], [(1, 2)]⟩
def awEy : Dl := ⟨(1, 2), ⟨5, 0, 2⟩, [awE1], [(0, 1)]⟩
def awEz : Dl := ⟨(0, 1), ⟨0, 0, 0⟩, [], []⟩
abbrev awDs : ByteArray := ⟨#[1, 2, 5, 0, 10, 1, 1, 2, 5, 0, 3, 1, 97, 1, 120, 3, 1, 0, 1]⟩
abbrev awDx : ByteArray := ⟨#[1, 2, 5, 0, 10, 1, 1, 2, 5, 0, 3, 1, 97, 1, 120, 3, 1, 0, 1, 120]⟩
theorem awD_few : fewP oneE.l = true := by decide +kernel
theorem awD_text : TextOk oneE := textOk_few awD_few (by decide)
theorem awD_put : putDl rdM oneE = (awDs, 0) := by decide +kernel
theorem awD_read : readDl rdM awDs = (oneE, 0) := readDl_put awD_put
theorem awD_bad : readDl rdM awDx = (zDl, 5) := by decide +kernel
theorem awD_x : chkDm awEx = 5 := by decide +kernel
theorem awD_y : chkDm awEy = 5 := by decide +kernel
theorem awD_z : chkDm awEz = 0 := by decide +kernel
theorem awD_lt : ltD awEz.d oneE.d = true := by decide +kernel
end Go.Proofs.YtkodololdjainaaGreat
