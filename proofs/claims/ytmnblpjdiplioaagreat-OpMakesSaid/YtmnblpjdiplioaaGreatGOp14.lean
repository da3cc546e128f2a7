/-
  fact, the document's: Less.
  Same of facts, the document's; a slice of facts laid.
  slices.Clone of facts.
  fact, the document's: In, Sort.
-/
import Derived.Test.YtmnblpjdiplioaaGreatFactOrd
import Derived.Test.YtmnblpjdiplioaaGreatGOp05
import Derived.Deep.Cut
import Derived.Deep.DeepCutAuto
import Derived.BigQuiet
import Derived.Great.BuildSlice
namespace Go.Proofs.YtmnblpjdiplioaaGreat
set_option maxRecDepth 100000
open Go.RowKit Go.Sort

theorem neqS (a b : St) (W : World) : (binOp .neq 38 (.agg #[.int .i64 a.t, .int .i64 a.c, .int .i64 a.r]) (.agg #[.int .i64 b.t, .int .i64 b.c, .int .i64 b.r])).run Tryz.prog W = .ok (.bool (!decide (a = b))) W := by
  rw [run_neq_struct, eqS]; rfl

set_option maxHeartbeats 4000000 in
/-- Less, the document's -/
theorem lessFR (a b : Ft) (w : World) : Calls Tryz.prog 43 #[.agg (fcs a).toArray, .agg (fcs b).toArray] w fun e w' => e = .returned (.bool (ltF a b)) ∧ Below w.heap.size w w' := by
  have hin := boxF2_in w a b
  have HGR := Lib.hid (show Below w.heap.size w (boxF (boxF w a) b) from ((boxF_gr w a).trans (boxF_gr _ b)).below)
  have ca : ∀ j v, (fcs a)[j]? = some v → (boxF (boxF w a) b).cell? ⟨w.heap.size, j, none⟩ = some v := fun j v hv => by have h := hin.1 j v hv; rwa [Nat.zero_add] at h
  have cb : ∀ j v, (fcs b)[j]? = some v → (boxF (boxF w a) b).cell? ⟨w.heap.size + 1, j, none⟩ = some v := fun j v hv => by have h := hin.2 j v hv; rwa [Nat.zero_add] at h
  have a0 := ca 0 _ rfl
  have a1 := ca 1 _ rfl
  have a2 := ca 2 _ rfl
  have a3 := ca 3 _ rfl
  have a4 := ca 4 _ rfl
  have a5 := ca 5 _ rfl
  have a6 := ca 6 _ rfl
  have a7 := ca 7 _ rfl
  have b0 := cb 0 _ rfl
  have b1 := cb 1 _ rfl
  have b2 := cb 2 _ rfl
  have b3 := cb 3 _ rfl
  have b4 := cb 4 _ rfl
  have b5 := cb 5 _ rfl
  have b6 := cb 6 _ rfl
  have b7 := cb 7 _ rfl
  have HLD := Lib.hid (fun W => lessRb a.d b.d W)
  have HLS := Lib.hid (fun W => tlessR a.s b.s W)
  have hqd := fun W => neqD a.d b.d W
  have hqs := fun W => neqS a.s b.s W
  have hl := ltF_if a b
  have hne : ∀ x y : ByteArray, x ≠ y → (x.toList == y.toList) = false := fun x y h => by
    simp only [beq_eq_false_iff_ne, ne_eq]
    intro e
    apply h
    rw [ByteArray.toList_eq, ByteArray.toList_eq] at e
    obtain ⟨⟨p⟩⟩ := x
    obtain ⟨⟨q⟩⟩ := y
    simp only at e
    rw [e]
  generalize ltF a b = R at *
  have HL := Lib.hid hl
  have HNE := Lib.hid hne
  clear hin ca cb hl hne
  unfold boxF at a0 a1 a2 a3 a4 a5 a6 a7 b0 b1 b2 b3 b4 b5 b6 b7 HGR
  by_cases hn : a.n = b.n
  case neg =>
    have HJ := Lib.hid (HL.out.trans (if_pos hn))
    have e1 := HNE.out _ _ hn
    have hx : ltX a.n b.n = Op.bytesLess a.n.toList b.n.toList := rfl
    rw [hx] at HJ
    clear hn hqd hqs hx
    go_enter Tryz.func43, Tryz.ntmps43
    go_wp2_with fail
    go_ret
    exact ⟨by rw [HJ.out]; rfl, HGR.out⟩
  have HJ1 := Lib.hid (HL.out.trans (if_neg (fun k => k hn)))
  have e1 : (a.n.toList == b.n.toList) = true := by simp [hn]
  by_cases hk : a.k = b.k
  case neg =>
    have HJ := Lib.hid (HJ1.out.trans (if_pos hk))
    have e2 : (a.k != b.k) = true := by simp [hk]
    clear hn hk hqd hqs
    go_enter Tryz.func43, Tryz.ntmps43
    go_wp2_with fail
    go_ret
    exact ⟨by rw [HJ.out]; rfl, HGR.out⟩
  have HJ2 := Lib.hid (HJ1.out.trans (if_neg (fun k => k hk)))
  have e2 : (a.k != b.k) = false := by simp [hk]
  by_cases hd : a.d = b.d
  case neg =>
    have HJ := Lib.hid (HJ2.out.trans (if_pos hd))
    rw [decide_eq_false hd] at hqd
    clear hn hk hd hqs
    go_enter Tryz.func43, Tryz.ntmps43
    go_wp2_with fail
    refine (HLD.out _).mono ?_
    rintro e w1 ⟨rfl, hb⟩
    have HB := Lib.hid (HGR.out.trans (hb.mono HGR.out.size))
    clear hb
    go_wp2_with fail
    go_ret
    exact ⟨by rw [HJ.out]; rfl, HB.out⟩
  have HJ3 := Lib.hid (HJ2.out.trans (if_neg (fun k => k hd)))
  rw [decide_eq_true hd] at hqd
  by_cases hs : a.s = b.s
  case neg =>
    have HJ := Lib.hid (HJ3.out.trans (if_pos hs))
    rw [decide_eq_false hs] at hqs
    clear hn hk hd hs
    go_enter Tryz.func43, Tryz.ntmps43
    go_wp2_with fail
    refine (HLS.out _).mono ?_
    rintro e w1 ⟨rfl, hb⟩
    have HB := Lib.hid (HGR.out.trans ((show Below _ _ w1 from hb ▸ boxS2_below _ a.s b.s).mono HGR.out.size))
    clear hb
    go_wp2_with fail
    go_ret
    exact ⟨by rw [HJ.out]; rfl, HB.out⟩
  have HJ := Lib.hid (HJ3.out.trans (if_neg (fun k => k hs)))
  rw [decide_eq_true hs] at hqs
  have hx : ltX a.v b.v = Op.bytesLess a.v.toList b.v.toList := rfl
  rw [hx] at HJ
  clear hn hk hd hs hx
  go_enter Tryz.func43, Tryz.ntmps43
  go_wp2_with fail
  go_ret
  exact ⟨by rw [HJ.out]; rfl, HGR.out⟩
end Go.Proofs.YtmnblpjdiplioaaGreat

namespace Go.Proofs.YtmnblpjdiplioaaGreat
set_option maxRecDepth 100000
open Go.RowKit Go.Sort

set_option maxHeartbeats 4000000 in
theorem sameRF (x y : List Ft) (a b : Option Addr) (ca cb : Nat) (w : World) (hx : FIn w a x) (hy : FIn w b y) (hlx : x.length ≤ maxLen) :
    Calls Tryz.prog 41 #[.slice a x.length ca, .slice b y.length cb] w fun e w' => e = .returned (.bool (decide (x = y))) ∧ Below w.heap.size w w' := by
  unfold maxLen at hlx
  by_cases hl : x.length = y.length
  · have hn : ((x.length : Int) != (y.length : Int)) = false := by simp [hl]
    have HX := Lib.hid hx
    have HY := Lib.hid hy
    have HL := Lib.hid hl
    clear hx hy hl
    go_enter Tryz.func41, Tryz.ntmps41
    go_wp2_with fail
    go_loopw [5] (fun i wr => ∃ k : Nat, k ≤ x.length ∧ i = .int .i64 k ∧ Hid (∀ j, j < k → x[j]? = y[j]?) ∧ Hid (Below w.heap.size w wr)) (fun i _ => x.length - (intOf i).toNat)
    case atStart => exact ⟨0, Nat.zero_le _, rfl, Lib.hid (fun j hj => by omega), Lib.hid (Below.refl _ _)⟩
    case round =>
      obtain ⟨k, hk, rfl, HK, HB⟩ := hrel
      by_cases hlt : k < x.length
      · obtain ⟨d, hd⟩ : ∃ d, x[k]? = some d := ⟨_, List.getElem?_eq_getElem hlt⟩
        obtain ⟨f, hf⟩ : ∃ d, y[k]? = some d := ⟨_, List.getElem?_eq_getElem (by have := HL.out; omega)⟩
        obtain ⟨b1, o1, rfl, hb1, c0⟩ := (HX.out.below HB.out).at hd
        obtain ⟨b2, o2, rfl, hb2, p0⟩ := (HY.out.below HB.out).at hf
        have hi1 : (k : Int) < (x.length : Int) := by omega
        have hi2 : (k : Int) < (y.length : Int) := by have := HL.out; omega
        have HD := Lib.hid (And.intro hd hf)
        have HR0 := Lib.hid (range_regrown c0 hb1)
        have HR1 := Lib.hid (range_regrown p0 hb2)
        clear hd hf c0 p0 hb1 hb2
        by_cases he : d = f
        · have hnq := fun W => neqF d f W
          rw [decide_eq_true he] at hnq
          have HK2 := Lib.hid (show ∀ j, j < k + 1 → x[j]? = y[j]? from fun j hj => by
            rcases Nat.lt_or_ge j k with h1 | h1
            · exact HK.out j h1
            · obtain rfl : j = k := by omega
              rw [HD.out.1, HD.out.2, he])
          clear he
          go_upto_region 6 with fail
          refine wp_region_quiet_below (by kernel_rfl) (by kernel_rfl) ?_
          repeat (first
            | ((with_reducible refine fq_load ?_ (.tmp 19) ?_ b1 (o1 + k * 8) d ?_ ?_ ?_); rfl; rfl; rfl; exact HR0.out; simp only [Act.put, List.setIfInBounds_toArray, List.set_cons_zero, List.set_cons_succ])
            | ((with_reducible refine fq_load ?_ (.tmp 23) ?_ b2 (o2 + k * 8) f ?_ ?_ ?_); rfl; rfl; rfl; exact HR1.out; simp only [Act.put, List.setIfInBounds_toArray, List.set_cons_zero, List.set_cons_succ])
            | go_big_quiet_step (fail) | quiet_step (fail))
          refine wpQuiet_nil ?_
          intro _ hw'
          obtain ⟨⟨dq, osq⟩, hw''⟩ := hw'
          subst hw''
          have HB9 := Lib.hid (HB.out.trans ((below_regrown wr dq osq).mono HB.out.size))
          clear HR0 HR1 hnq HB
          generalize grow (redrawn wr dq) osq = W at *
          go_wp2_with fail
          go_roundw
          case rel => exact ⟨k + 1, by omega, by go_num, HK2, HB9⟩
          case measure => simp [intOf]; omega
        · have hnq := fun W => neqF d f W
          rw [decide_eq_false he] at hnq
          have hfin : decide (x = y) = false := by
            refine decide_eq_false fun hxy => he ?_
            have h := HD.out.1
            rw [hxy, HD.out.2] at h
            exact (Option.some.inj h).symm
          have HF := Lib.hid hfin
          clear he hfin
          go_upto_region 6 with fail
          refine wp_region_quiet_below (by kernel_rfl) (by kernel_rfl) ?_
          repeat (first
            | ((with_reducible refine fq_load ?_ (.tmp 19) ?_ b1 (o1 + k * 8) d ?_ ?_ ?_); rfl; rfl; rfl; exact HR0.out; simp only [Act.put, List.setIfInBounds_toArray, List.set_cons_zero, List.set_cons_succ])
            | ((with_reducible refine fq_load ?_ (.tmp 23) ?_ b2 (o2 + k * 8) f ?_ ?_ ?_); rfl; rfl; rfl; exact HR1.out; simp only [Act.put, List.setIfInBounds_toArray, List.set_cons_zero, List.set_cons_succ])
            | go_big_quiet_step (fail) | quiet_step (fail))
          refine wpQuiet_nil ?_
          intro _ hw'
          obtain ⟨⟨dq, osq⟩, hw''⟩ := hw'
          subst hw''
          have HB9 := Lib.hid (HB.out.trans ((below_regrown wr dq osq).mono HB.out.size))
          clear HR0 HR1 hnq HB
          generalize grow (redrawn wr dq) osq = W at *
          go_wp2_with fail
          go_ret
          exact ⟨by rw [HF.out]; rfl, HB9.out⟩
      · have hfin : decide (x = y) = true := by
          refine decide_eq_true (List.ext_getElem? fun j => ?_)
          rcases Nat.lt_or_ge j k with h1 | h1
          · exact HK.out j h1
          · rw [List.getElem?_eq_none (by omega), List.getElem?_eq_none (by have := HL.out; omega)]
        have HF := Lib.hid hfin
        have hi1 : ¬ (k : Int) < (x.length : Int) := by omega
        clear hfin
        go_wp2_with fail
        go_ret
        exact ⟨by rw [HF.out]; rfl, HB.out⟩
  · have hn : ((x.length : Int) != (y.length : Int)) = true := by simp; omega
    have hfin : decide (x = y) = false := decide_eq_false fun h => hl (by rw [h])
    rw [hfin]
    clear hfin hl
    go_enter Tryz.func41, Tryz.ntmps41
    go_wp2_with fail
    go_ret
    exact ⟨rfl, Below.refl _ _⟩

theorem same_anyF (x y : List Ft) (n m : Nat) (hn : x.length = n) (hm : y.length = m) (a b : Option Addr) (ca cb : Nat) (w : World) (hx : FIn w a x) (hy : FIn w b y) (hlx : n ≤ maxLen) (t : Bool) (ht : decide (x = y) = t) :
    Calls Tryz.prog 41 #[.slice a n ca, .slice b m cb] w fun e w' => e = .returned (.bool t) ∧ Below w.heap.size w w' := by
  subst hn hm ht
  exact sameRF x y a b ca cb w hx hy hlx

/-! a slice of some facts -/
end Go.Proofs.YtmnblpjdiplioaaGreat

namespace Go.Proofs.YtmnblpjdiplioaaGreat
set_option maxRecDepth 100000
open Go.RowKit Go.Lib Go.Sort

theorem FIn.cells {w : World} {a : Option Addr} {l : List Ft} (h : FIn w a l) {x : Addr} (hx : a = some x) : ∀ j u, (rowF l)[j]? = some u → w.cell? (x.add j) = some u := by
  intro j u hj
  rcases h with rfl | ⟨b, off, ha, hlt, hc⟩
  · simp [rowF] at hj
  · obtain rfl := Option.some.inj (hx.symm.trans ha)
    have e1 : ∀ k, (⟨b, off, none⟩ : Addr).add k = ⟨b, off + k, none⟩ := fun k => by cases k <;> simp [Addr.add]
    rw [e1]
    obtain ⟨i, f, k, hi, rfl, hu⟩ := rowF_get l j u hj
    rw [← Nat.add_assoc]
    exact hc i f hi k u hu

end Go.Proofs.YtmnblpjdiplioaaGreat

namespace Go.Proofs.YtmnblpjdiplioaaGreat
set_option maxRecDepth 100000
open Go.RowKit Go.Sort

theorem wpList_build1F {ops : Array Oper} {rest : List Oper} {o : Oper} {a : Act} {w : World} {Q : Exit → Act → World → Prop} (hgd : o.guard = none) (x : Operand) (ho : o.op = .buildSlice 22 1 #[(0, x)]) (f : Ft)
    (hx : a.eval x = .agg (fcs f).toArray)
    (hk : wpList Tryz.prog ops Q rest (a.put o.dst (.slice (some ⟨w.heap.size, 0, none⟩) 1 1)) (w.alloc (.cells (fcs f).toArray 63))) : wpList Tryz.prog ops Q (o :: rest) a w := by
  refine wpList_plain hgd fun K hK => ?_
  have e : (#[(0, x)] : Array (Nat × Operand)).map (fun (i, x) => (i, a.eval x)) = #[(0, .agg (fcs f).toArray)] := by simp [hx]
  have hb : (Instr.buildSlice 22 1 #[(0, .agg (fcs f).toArray)]).run Tryz.prog w = .ok (.slice (some ⟨w.heap.size, 0, none⟩) 1 1) (w.alloc (.cells (fcs f).toArray 63)) := by
    obtain ⟨i0, hi, hz0, hz1, hz2⟩ := info_parts factInfo
    refine run_buildSlice w 22 63 1 _ (fcs f).toArray i0 zeroF Tryz.underlying22 hi hz0 (by rw [hz1]; decide) (by rw [hz1]; decide) ?_
    rw [hz1]
    kernel_rfl
  unfold Oper.wp execOp
  simp only [ho, Sem.run_bind]
  rw [e, hb]
  exact hK _ _ hk

set_option maxHeartbeats 4000000 in
theorem inFR (l : List Ft) (d : Ft) (a : Option Addr) (cap : Nat) (w : World) (h : FIn w a l) (hl : l.length ≤ maxLen) :
    Calls Tryz.prog 61 #[.slice a l.length cap, .agg (fcs d).toArray] w fun e w' => e = .returned (.bool (decide (d ∈ l))) ∧ Below w.heap.size w w' := by
  unfold maxLen at hl
  have H := Lib.hid h
  have HB0 := Lib.hid (boxF_gr w d).below
  have HR := Lib.hid (show FRow (boxF w d) w.heap.size d from FRow.new w d)
  clear h
  go_enter Tryz.func61, Tryz.ntmps61
  go_upto_region 1 with fail
  change Code.wp _ _ _ _ (boxF w d)
  generalize boxF w d = w1 at *
  go_wp2_with fail
  go_loopw [5] (fun i wr => ∃ k : Nat, k ≤ l.length ∧ i = .int .i64 k ∧ Hid (∀ j, j < k → l[j]? ≠ some d) ∧ Hid (Below w1.heap.size w1 wr)) (fun i _ => l.length - (intOf i).toNat)
  case atStart => exact ⟨0, Nat.zero_le _, rfl, Lib.hid (fun j hj => by omega), Lib.hid (Below.refl _ _)⟩
  case round =>
    obtain ⟨k, hk, rfl, HK, HB⟩ := hrel
    by_cases hlt : k < l.length
    · obtain ⟨f, hf⟩ : ∃ d, l[k]? = some d := ⟨_, List.getElem?_eq_getElem hlt⟩
      have hbt := HB0.out.trans (HB.out.mono HB0.out.size)
      obtain ⟨b, off, rfl, hbl, c0⟩ := (H.out.below hbt).at hf
      have hrow := HR.out.keep HB.out
      have hi1 : (k : Int) < (l.length : Int) := by omega
      have HF := Lib.hid hf
      have HM := Lib.hid (List.mem_of_getElem? hf)
      have HR0 := Lib.hid (range_regrown c0 hbl)
      have HR1 := Lib.hid (range_regrown hrow.range hrow.lt)
      clear hf c0 hbl hrow hbt
      by_cases he : f = d
      · have hnq := fun W => eqlF f d W
        rw [decide_eq_true he] at hnq
        have HFN := Lib.hid (show decide (d ∈ l) = true from decide_eq_true (he ▸ HM.out))
        clear he
        go_upto_region 4 with fail
        refine wp_region_quiet_below (by kernel_rfl) (by kernel_rfl) ?_
        repeat (first
          | ((with_reducible refine fq_load ?_ (.tmp 14) ?_ b (off + k * 8) f ?_ ?_ ?_); rfl; rfl; rfl; exact HR0.out; simp only [Act.put, List.setIfInBounds_toArray, List.set_cons_zero, List.set_cons_succ])
          | ((with_reducible refine fq_load ?_ (.tmp 3) ?_ w.heap.size 0 d ?_ ?_ ?_); rfl; rfl; rfl; exact HR1.out; simp only [Act.put, List.setIfInBounds_toArray, List.set_cons_zero, List.set_cons_succ])
          | go_big_quiet_step (fail) | quiet_step (fail))
        refine wpQuiet_nil ?_
        intro _ hw'
        obtain ⟨⟨dq, osq⟩, hw''⟩ := hw'
        subst hw''
        have HW9 := Lib.hid (HB.out.trans ((below_regrown wr dq osq).mono HB.out.size))
        have HB9 := Lib.hid (HB0.out.trans (HW9.out.mono HB0.out.size))
        clear HR0 HR1 hnq HB
        generalize grow (redrawn wr dq) osq = W at *
        go_wp2_with fail
        go_ret
        exact ⟨by rw [HFN.out]; rfl, HB9.out⟩
      · have hnq := fun W => eqlF f d W
        rw [decide_eq_false he] at hnq
        have HK2 := Lib.hid (show ∀ j, j < k + 1 → l[j]? ≠ some d from fun j hj hj2 => by
          rcases Nat.lt_or_ge j k with h1 | h1
          · exact HK.out j h1 hj2
          · obtain rfl : j = k := by omega
            rw [HF.out] at hj2
            exact he (Option.some.inj hj2))
        clear he
        go_upto_region 4 with fail
        refine wp_region_quiet_below (by kernel_rfl) (by kernel_rfl) ?_
        repeat (first
          | ((with_reducible refine fq_load ?_ (.tmp 14) ?_ b (off + k * 8) f ?_ ?_ ?_); rfl; rfl; rfl; exact HR0.out; simp only [Act.put, List.setIfInBounds_toArray, List.set_cons_zero, List.set_cons_succ])
          | ((with_reducible refine fq_load ?_ (.tmp 3) ?_ w.heap.size 0 d ?_ ?_ ?_); rfl; rfl; rfl; exact HR1.out; simp only [Act.put, List.setIfInBounds_toArray, List.set_cons_zero, List.set_cons_succ])
          | go_big_quiet_step (fail) | quiet_step (fail))
        refine wpQuiet_nil ?_
        intro _ hw'
        obtain ⟨⟨dq, osq⟩, hw''⟩ := hw'
        subst hw''
        have HW9 := Lib.hid (HB.out.trans ((below_regrown wr dq osq).mono HB.out.size))
        have HB9 := Lib.hid (HB0.out.trans (HW9.out.mono HB0.out.size))
        clear HR0 HR1 hnq HB
        generalize grow (redrawn wr dq) osq = W at *
        go_wp2_with fail
        go_roundw
        case rel => exact ⟨k + 1, by omega, by go_num, HK2, HW9⟩
        case measure => simp [intOf]; omega
    · have hfin : decide (d ∈ l) = false := by
        refine decide_eq_false fun hm => ?_
        obtain ⟨j, hj, hjd⟩ := List.mem_iff_getElem.1 hm
        exact HK.out j (by omega) (by rw [List.getElem?_eq_getElem hj, hjd])
      have HFN := Lib.hid hfin
      have hi1 : ¬ (k : Int) < (l.length : Int) := by omega
      clear hfin
      go_wp2_with fail
      go_ret
      exact ⟨by rw [HFN.out]; rfl, HB0.out.trans (HB.out.mono HB0.out.size)⟩

theorem OwnF.fin2 {B : Nat} {v : Value} {l : List Ft} {w : World} (h : OwnF B v l w) : ∃ a cap, v = .slice a l.length cap ∧ FIn w a l ∧ l.length ≤ cap ∧ cap ≤ maxLen := by
  obtain ⟨a, cap, hv, hd, -⟩ := h.fin
  refine ⟨a, cap, hv, hd, ?_⟩
  rcases h.2 with ⟨rfl, h0⟩ | ⟨g, cap', cur, rfl, hB, hg, hn, hm, hs, htk⟩
  · injection hv with h1 h2 h3; subst h3; exact ⟨by omega, by simp [maxLen]⟩
  · injection hv with h1 h2 h3; subst h3; exact ⟨hn, hm⟩
theorem FIn.take {w : World} {a : Option Addr} {l : List Ft} (h : FIn w a l) (k : Nat) : FIn w a (l.take k) := by
  rcases h with rfl | ⟨b, off, rfl, hlt, hc⟩
  · exact .inl (by simp)
  · refine .inr ⟨b, off, rfl, hlt, fun j d hj => hc j d ?_⟩
    by_cases hjk : j < k
    · rwa [List.getElem?_take_of_lt hjk] at hj
    · rw [List.getElem?_take_eq_none (by omega)] at hj; cases hj
theorem FIn.drop {w : World} {b off : Nat} {l : List Ft} (h : FIn w (some ⟨b, off, none⟩) l) (k : Nat) : FIn w (some ⟨b, off + k * 8, none⟩) (l.drop k) := by
  rcases h with rfl | ⟨b', off', he, hlt, hc⟩
  · exact .inl (by simp)
  · injection he with he; injection he with h1 h2; subst h1 h2
    refine .inr ⟨b, off + k * 8, rfl, hlt, fun j d hj => ?_⟩
    rw [List.getElem?_drop] at hj
    have := hc (k + j) d hj
    have e : off + (k + j) * 8 = off + k * 8 + j * 8 := by omega
    rwa [e] at this
theorem fin_new (w : World) (d : Ft) : FIn (w.alloc (.cells (fcs d).toArray 63)) (some ⟨w.heap.size, 0, none⟩) [d] :=
  .inr ⟨w.heap.size, 0, rfl, by simp, fun j x hj => by
    match j, hj with
    | 0, hj => simp at hj; subst hj; exact (FRow.new w d).range⟩

theorem appF {w : World} {B c : Nat} {v : Value} {xs ys : List Ft} {p : Option Addr} (h : OwnF B v xs w) (hp : FIn w p ys) (hb : B ≤ w.heap.size) (n : Nat) (hn : xs.length + ys.length = n) (hl : n ≤ 200000) :
    ∃ p' c' w', (Builtin.append_ #[22, 22] 22 #[v, .slice p ys.length c]).run Tryz.prog w = .ok (.slice p' n c') w' ∧ OwnF B (.slice p' n c') (xs ++ ys) w' ∧ Go.RowKit.Below B w w' := by
  obtain ⟨i0, hi, hz0, hz1, hz2⟩ := info_parts factInfo
  have hsrc : Src Tryz.prog 8 22 (.slice p ys.length c) ys.length (rowF ys) w := by
    cases p with
    | none =>
      have : ys = [] := by
        rcases hp with h | ⟨_, _, h, _⟩
        · exact h
        · cases h
      subst this
      exact Src.ofNil _ Tryz.underlying22 c
    | some x => exact Src.ofSlice _ Tryz.underlying22 x ys.length c _ (rowF_len ys) (hp.cells rfl) (rowF_cell ys)
  obtain ⟨v', w', hr, ho, hg, -, -⟩ := run_append_sf (P := Tryz.prog) w B 22 22 22 63 i0 _ 8 80 Tryz.underlying22 hi hz0 hz1 hz2 rfl v xs.length (rowF xs) h _ ys.length (rowF ys) hsrc (by unfold maxLen; omega) (by omega) hb
  have ho' : OwnF B v' (xs ++ ys) w' := by
    unfold OwnF
    rw [List.length_append, rowF_append]
    exact ho
  obtain ⟨p', c', rfl, -, -⟩ := ho'.fin
  rw [List.length_append, hn] at ho' hr
  exact ⟨p', c', w', hr, ho', (Below.refl _ _).grown hg hb (fun j hj => (World.ownsRow.lt h j hj).1)⟩

/-- a part of a row, from its beginning -/
theorem takeF (a : Option Addr) (n cap k : Nat) (hk : k ≤ n) (hn : n ≤ cap) (_hc : cap ≤ maxLen) :
    ∃ p : Option Addr, (∀ W, (Instr.slice 22 (.slice a n cap) none (some (.int .i64 (k : Int))) none).run Tryz.prog W = .ok (.slice p k cap) W) ∧ ∀ W (l : List Ft), l.length = n → FIn W a l → FIn W p (l.take k) := by
  have ht := Tryz.underlying22
  have ht' : Tryz.prog.underlying 22 = some (.slice (Tryz.prog.elem 22)) := by simp [Program.elem, ht]
  have he : Tryz.prog.elem 22 = 63 := by simp [Program.elem, ht]
  refine ⟨a, fun W => ?_, fun W l hl h => h.take k⟩
  rw [run_slice_h W _ _ _ _ ht' .i64 _ (by omega) (by omega), he, Tryz.sizeOf63]
  by_cases h0 : cap = 0
  · simp [Result.andThen, sliced, h0]
  · cases a <;> simp [Result.andThen, sliced, h0, Addr.add]
/-- a part of a row, to its end -/
theorem dropF (a : Option Addr) (n cap k : Nat) (hk : k ≤ n) (hn : n ≤ cap) (_hc : cap ≤ maxLen) :
    ∃ p : Option Addr, (∀ W, (Instr.slice 22 (.slice a n cap) (some (.int .i64 (k : Int))) none none).run Tryz.prog W = .ok (.slice p (n - k) (cap - k)) W) ∧ ∀ W (l : List Ft), l.length = n → FIn W a l → FIn W p (l.drop k) := by
  have ht := Tryz.underlying22
  have ht' : Tryz.prog.underlying 22 = some (.slice (Tryz.prog.elem 22)) := by simp [Program.elem, ht]
  have he : Tryz.prog.elem 22 = 63 := by simp [Program.elem, ht]
  refine ⟨if cap = k then a else a.map (·.add (k * 8)), fun W => ?_, fun W l hl h => ?_⟩
  · rw [run_slice_l W _ _ _ _ ht' .i64 _ (by omega) (by omega), he, Tryz.sizeOf63]
    simp [Result.andThen, sliced]
  · by_cases h0 : cap = k
    · exact .inl (List.drop_of_length_le (by omega))
    · rw [if_neg h0]
      rcases id h with rfl | ⟨b, off, rfl, hlt, hc⟩
      · exact .inl (by simp)
      · have h2 := h.drop k
        have e1 : (⟨b, off, none⟩ : Addr).add (k * 8) = ⟨b, off + k * 8, none⟩ := by simp only [Addr.add]; split <;> simp_all
        rw [Option.map_some, e1]
        exact h2

set_option maxHeartbeats 4000000 in
set_option maxRecDepth 100000 in
theorem sortFR (l : List Ft) (a : Option Addr) (cap : Nat) (w : World) (h : FIn w a l) (hl : l.length ≤ 65536) :
    Calls Tryz.prog 37 #[.slice a l.length cap] w fun e w' => ∃ v', e = .returned v' ∧ OwnF w.heap.size v' (sortF l) w' ∧ Go.RowKit.Below w.heap.size w w' := by
  have H := Lib.hid h
  clear h
  go_enter Tryz.func37, Tryz.ntmps37
  go_wp2_with fail
  go_loopw [3, 4] (fun v i wr => ∃ k : Nat, k ≤ l.length ∧ i = .int .i64 k ∧ OwnF w.heap.size v (sortF (l.take k)) wr ∧ Go.RowKit.Below w.heap.size w wr) (fun _ i _ => l.length - (intOf i).toNat)
  case atStart => exact ⟨0, Nat.zero_le _, rfl, by rw [List.take_zero]; exact ownF_nil _ _, Below.refl _ _⟩
  case round =>
    obtain ⟨i, hi, rfl, hown, hb⟩ := hrel
    have HOWN := Lib.hid hown
    have HB0 := Lib.hid hb
    obtain ⟨oa, oc, rfl, hdin, hoc, hocm⟩ := hown.fin2
    have hout : (sortF (l.take i)).length ≤ i := by have := sortF_len (l.take i); rw [List.length_take] at this; omega
    have hrise := riseF_sortF (l.take i)
    clear hown hb
    by_cases hlt : i < l.length
    · obtain ⟨d, hd⟩ : ∃ d, l[i]? = some d := ⟨_, List.getElem?_eq_getElem hlt⟩
      obtain ⟨lb, lo, rfl, hlb, cl0⟩ := (H.out.below HB0.out).at hd
      have hnx : sortF (l.take (i + 1)) = insF d (sortF (l.take i)) := by
        have e := List.getElem?_eq_some_iff.1 hd
        obtain ⟨e1, e2⟩ := e
        rw [List.take_succ_eq_append_getElem hlt, sortF_snoc, e2]
      have HNX := Lib.hid hnx
      have HRI := Lib.hid hrise
      clear hnx hrise
      generalize sortF (l.take i) = out at *
      have hi1 : (i : Int) < (l.length : Int) := by omega
      have CL := Lib.hid cl0
      have HDI := Lib.hid hdin
      have hin := inFR out d oa oc wr hdin (by unfold maxLen; omega)
      clear hd hdin cl0
      by_cases hm : d ∈ out
      · rw [decide_eq_true hm] at hin
        have hsame : insF d out = out := insF_in HRI.out hm
        have HS := Lib.hid hsame
        have HIN := Lib.hid hin
        clear hm hsame hin
        go_wp2_with (((with_reducible refine fl_load ?_ (.tmp 16) ?_ lb (lo + i * 8) d ?_ ?_ ?_); rfl; rfl; rfl; exact CL.out))
        refine HIN.out.mono ?_
        rintro e w1 ⟨rfl, hb1⟩
        have HFIN := Lib.hid (show OwnF w.heap.size (.slice oa out.length oc) (sortF (l.take (i + 1))) w1 ∧ Go.RowKit.Below w.heap.size w w1 from ⟨by rw [HNX.out, HS.out]; exact HOWN.out.below hb1 (Nat.le_refl _), HB0.out.trans (hb1.mono HB0.out.size)⟩)
        clear hb1 HIN
        go_wp2_with fail
        go_roundw
        case rel => exact ⟨i + 1, by omega, by go_num, HFIN.out.1, HFIN.out.2⟩
        case measure => simp [intOf]; omega
      · rw [decide_eq_false hm] at hin
        have HM := Lib.hid hm
        have HIN := Lib.hid hin
        clear hm hin
        go_wp2_with (((with_reducible refine fl_load ?_ (.tmp 16) ?_ lb (lo + i * 8) d ?_ ?_ ?_); rfl; rfl; rfl; exact CL.out))
        refine HIN.out.mono ?_
        rintro e w0 ⟨rfl, hb1⟩
        have HW0 := Lib.hid hb1
        clear hb1 HIN
        go_wp2_with fail
        go_loopw [5] (fun j wk => ∃ k : Nat, k ≤ out.length ∧ j = .int .i64 k ∧ Hid (∀ j (hj : j < out.length), j < k → ltF out[j] d = true) ∧ Go.RowKit.Below wr.heap.size wr wk) (fun j _ => out.length - (intOf j).toNat)
        case atStart => exact ⟨0, Nat.zero_le _, rfl, Lib.hid (fun j _ hj => by omega), HW0.out⟩
        case round =>
          rename World => wk
          obtain ⟨k, hk, rfl, HK, hbk⟩ := hrel
          have HW := Lib.hid (And.intro hbk True.intro)
          have hks := hbk.size
          clear hbk
          by_cases hlt2 : k < out.length
          · obtain ⟨f, hf⟩ : ∃ d, out[k]? = some d := ⟨_, List.getElem?_eq_getElem hlt2⟩
            obtain ⟨b2, o2, rfl, hlb2, p0⟩ := (HDI.out.below HW.out.1).at hf
            have k0 := range_below CL.out HW.out.1 hlb
            have hlbk : lb < wk.heap.size := by omega
            have hki : decide ((k : Int) < (out.length : Int)) = true := by simp; omega
            have hki2 : (k : Int) < (out.length : Int) := by omega
            have hfe : out[k] = f := by rw [List.getElem?_eq_getElem hlt2] at hf; exact Option.some.inj hf
            have HFE := Lib.hid hfe
            have HR0 := Lib.hid (range_regrown p0 hlb2)
            have HR1 := Lib.hid (range_regrown k0 hlbk)
            have cX := fun dq os => Calls.regrown_of (lessFR f d (grow (redrawn wk dq) os))
            have HCX := Lib.hid cX
            have hno : ltF f d = true ∨ ltF f d = false := by cases ltF f d <;> simp
            have HNO := Lib.hid (show ltF f d = true → ∀ j (hj : j < out.length), j < k + 1 → ltF out[j] d = true from fun hh j hj hjm => by
              rcases Nat.lt_or_ge j k with h1 | h1
              · exact HK.out j hj h1
              · obtain rfl : j = k := by omega
                rw [HFE.out]; exact hh)
            have HNF := Lib.hid (show ltF f d = false → out.take k ++ [d] ++ out.drop k = insF d out from fun hh => insF_at HRI.out HM.out k hk HK.out (fun _ => by rw [HFE.out]; exact hh))
            generalize ltF f d = t at HNO HNF HCX hno
            clear hf hfe cX p0 k0
            rcases hno with rfl | rfl
            · have HN := Lib.hid (HNO.out rfl)
              clear HNO HNF
              go_upto_region 7 with fail
              refine wp_region_quiet_below (by kernel_rfl) (by kernel_rfl) ?_
              repeat (first
                | ((with_reducible refine fq_load ?_ (.tmp 26) ?_ b2 (o2 + k * 8) f ?_ ?_ ?_); rfl; rfl; rfl; exact HR0.out; simp only [Act.put, List.setIfInBounds_toArray, List.set_cons_zero, List.set_cons_succ])
                | ((with_reducible refine fq_load ?_ (.tmp 30) ?_ lb (lo + i * 8) d ?_ ?_ ?_); rfl; rfl; rfl; exact HR1.out; simp only [Act.put, List.setIfInBounds_toArray, List.set_cons_zero, List.set_cons_succ])
                | go_big_quiet_step ((go_at_call 43; with_reducible exact HCX.out _ _)) | quiet_step ((go_at_call 43; with_reducible exact HCX.out _ _)))
              refine wpQuiet_nil ?_
              intro _ hw'
              obtain ⟨⟨dq, osq⟩, hw''⟩ := hw'
              subst hw''
              have HW9 := Lib.hid (HW.out.1.trans ((below_regrown wk dq osq).mono hks))
              clear HCX HR0 HR1
              generalize grow (redrawn wk dq) osq = W at *
              go_wp2_with fail
              go_roundw
              case rel => exact ⟨k + 1, by omega, by go_num, HN, HW9.out⟩
              case measure => simp [intOf]; omega
            · have HINS := Lib.hid (HNF.out rfl)
              clear HNO HNF
              go_upto_region 7 with fail
              refine wp_region_quiet_below (by kernel_rfl) (by kernel_rfl) ?_
              repeat (first
                | ((with_reducible refine fq_load ?_ (.tmp 26) ?_ b2 (o2 + k * 8) f ?_ ?_ ?_); rfl; rfl; rfl; exact HR0.out; simp only [Act.put, List.setIfInBounds_toArray, List.set_cons_zero, List.set_cons_succ])
                | ((with_reducible refine fq_load ?_ (.tmp 30) ?_ lb (lo + i * 8) d ?_ ?_ ?_); rfl; rfl; rfl; exact HR1.out; simp only [Act.put, List.setIfInBounds_toArray, List.set_cons_zero, List.set_cons_succ])
                | go_big_quiet_step ((go_at_call 43; with_reducible exact HCX.out _ _)) | quiet_step ((go_at_call 43; with_reducible exact HCX.out _ _)))
              refine wpQuiet_nil ?_
              intro _ hw'
              obtain ⟨⟨dq, osq⟩, hw''⟩ := hw'
              subst hw''
              have HW9 := Lib.hid (And.intro (HW.out.1.trans ((below_regrown wk dq osq).mono hks)) True.intro)
              clear HCX HR0 HR1 HW hks hlbk
              generalize grow (redrawn wk dq) osq = W at *
              have HW := HW9
              clear HW9
              obtain ⟨p1, hs1, hd1⟩ := takeF (some ⟨b2, o2, none⟩) out.length oc k hk hoc hocm
              obtain ⟨p2, hs2, hd2⟩ := dropF (some ⟨b2, o2, none⟩) out.length oc k hk hoc hocm
              have hl1 : (out.take k).length = k := by rw [List.length_take]; omega
              have hl2 : (out.drop k).length = out.length - k := List.length_drop
              have hdn := HDI.out.below (HW.out.1)
              have hWs := HW.out.1.size
              obtain ⟨q1, d1, w1, hr1, ho1, hb1⟩ := appF (c := oc) (ownF_nil W.heap.size W) (hd1 W out rfl hdn) (Nat.le_refl _) k (by rw [hl1]; simp) (by omega)
              rw [hl1] at hr1
              have HO1 := Lib.hid ho1
              have HB1 := Lib.hid hb1
              have HD2 := Lib.hid (hd2 W out rfl hdn)
              have CL1 := Lib.hid (range_below (range_below CL.out HW.out.1 hlb) (show Below W.heap.size W w1 from hb1) (Nat.lt_of_lt_of_le hlb hWs))
              have hs1' := hb1.size
              have hlb1 : lb < w1.heap.size := by omega
              clear ho1 hb1 hd1 hd2 hdn
              go_upto_region 11 with (at_builtin; refine wpList_append_run rfl _ _ 22 22 rfl (.slice none 0 0) (.slice p1 k oc) _ w1 rfl rfl hr1 ?_)
              have hone := fin_new w1 d
              obtain ⟨q2, d2, w2, hr2, ho2, hb2⟩ := appF (c := 1) (HO1.out.alloc (.cells (fcs d).toArray 63)) hone (by simp; omega) (k + 1) (by simp; omega) (by omega)
              have hr2' : (Builtin.append_ #[22, 22] 22 #[.slice q1 k d1, .slice (some ⟨w1.heap.size, 0, none⟩) 1 1]).run Tryz.prog (w1.alloc (.cells (fcs d).toArray 63)) = .ok (.slice q2 (k + 1) d2) w2 := hr2
              have HO2 := Lib.hid ho2
              have hb2' : Go.RowKit.Below W.heap.size W w2 := (HB1.out.alloc hs1' _).trans hb2
              have HB2 := Lib.hid hb2'
              have hs2' := hb2'.size
              have HD3 := Lib.hid (HD2.out.below hb2')
              clear ho2 hb2 hb2' hone hr2
              go_upto_region 12 with (first
                | ((with_reducible refine fl_load ?_ (.tmp 44) ?_ lb (lo + i * 8) d ?_ ?_ ?_); rfl; rfl; rfl; exact CL1.out; simp only [Act.put, List.setIfInBounds_toArray, List.set_cons_zero, List.set_cons_succ])
                | ((with_reducible refine wpList_build1F ?_ (.tmp 45) ?_ d ?_ ?_); rfl; rfl; rfl; simp only [Act.put, List.setIfInBounds_toArray, List.set_cons_zero, List.set_cons_succ])
                | (at_builtin; refine wpList_append_run rfl _ _ 22 22 rfl (.slice q1 k d1) (.slice (some ⟨w1.heap.size, 0, none⟩) 1 1) _ w2 rfl rfl hr2' ?_))
              obtain ⟨q3, d3, w3, hr3, ho3, hb3⟩ := appF (c := oc - k) HO2.out HD3.out hs2' (out.length + 1) (by simp; omega) (by omega)
              rw [hl2] at hr3
              have HFIN := Lib.hid (show OwnF w.heap.size (.slice q3 (out.length + 1) d3) (sortF (l.take (i + 1))) w3 ∧ Go.RowKit.Below w.heap.size w w3 from by
                refine ⟨?_, HB0.out.trans ((HW.out.1.trans ((HB2.out.trans hb3).mono hWs)).mono HB0.out.size)⟩
                rw [HNX.out, ← HINS.out]
                exact ho3.mono (by have := HB0.out.size; omega))
              clear ho3 hb3 hr1 hr2'
              go_wp2_with (at_builtin; refine wpList_append_run rfl _ _ 22 22 rfl (.slice q2 (k + 1) d2) (.slice p2 (out.length - k) (oc - k)) _ w3 rfl rfl hr3 ?_)
              go_wp2_with fail
              go_roundw
              case rel => exact ⟨i + 1, by omega, by go_num, HFIN.out.1, HFIN.out.2⟩
              case measure => simp [intOf]; omega
          · have HKE := Lib.hid (show k = out.length by omega)
            have HINS := Lib.hid (insF_at HRI.out HM.out k hk HK.out (fun hx => absurd hx hlt2))
            have hki : decide ((k : Int) < (out.length : Int)) = false := by simp; omega
            go_upto_region 7 with fail
            refine wp_region_quiet_below (by kernel_rfl) (by kernel_rfl) ?_
            repeat (first | go_big_quiet_step (fail) | quiet_step (fail))
            refine wpQuiet_nil ?_
            intro _ hw'
            obtain ⟨⟨dq, osq⟩, hw''⟩ := hw'
            subst hw''
            have HW9 := Lib.hid (And.intro (HW.out.1.trans ((below_regrown wk dq osq).mono hks)) True.intro)
            clear HW hks
            generalize grow (redrawn wk dq) osq = W at *
            have HW := HW9
            clear HW9
            obtain ⟨p1, hs1, hd1⟩ := takeF oa out.length oc k hk hoc hocm
            obtain ⟨p2, hs2, hd2⟩ := dropF oa out.length oc k hk hoc hocm
            have hl1 : (out.take k).length = k := by rw [List.length_take]; omega
            have hl2 : (out.drop k).length = out.length - k := List.length_drop
            have hdn := HDI.out.below (HW.out.1)
            have hWs := HW.out.1.size
            obtain ⟨q1, d1, w1, hr1, ho1, hb1⟩ := appF (c := oc) (ownF_nil W.heap.size W) (hd1 W out rfl hdn) (Nat.le_refl _) k (by rw [hl1]; simp) (by omega)
            rw [hl1] at hr1
            have HO1 := Lib.hid ho1
            have HB1 := Lib.hid hb1
            have HD2 := Lib.hid (hd2 W out rfl hdn)
            have CL1 := Lib.hid (range_below (range_below CL.out HW.out.1 hlb) (show Below W.heap.size W w1 from hb1) (Nat.lt_of_lt_of_le hlb hWs))
            have hs1' := hb1.size
            have hlb1 : lb < w1.heap.size := by omega
            clear ho1 hb1 hd1 hd2 hdn
            go_upto_region 11 with (at_builtin; refine wpList_append_run rfl _ _ 22 22 rfl (.slice none 0 0) (.slice p1 k oc) _ w1 rfl rfl hr1 ?_)
            have hone := fin_new w1 d
            obtain ⟨q2, d2, w2, hr2, ho2, hb2⟩ := appF (c := 1) (HO1.out.alloc (.cells (fcs d).toArray 63)) hone (by simp; omega) (k + 1) (by simp; omega) (by omega)
            have hr2' : (Builtin.append_ #[22, 22] 22 #[.slice q1 k d1, .slice (some ⟨w1.heap.size, 0, none⟩) 1 1]).run Tryz.prog (w1.alloc (.cells (fcs d).toArray 63)) = .ok (.slice q2 (k + 1) d2) w2 := hr2
            have HO2 := Lib.hid ho2
            have hb2' : Go.RowKit.Below W.heap.size W w2 := (HB1.out.alloc hs1' _).trans hb2
            have HB2 := Lib.hid hb2'
            have hs2' := hb2'.size
            have HD3 := Lib.hid (HD2.out.below hb2')
            clear ho2 hb2 hb2' hone hr2
            go_upto_region 12 with (first
                | ((with_reducible refine fl_load ?_ (.tmp 44) ?_ lb (lo + i * 8) d ?_ ?_ ?_); rfl; rfl; rfl; exact CL1.out; simp only [Act.put, List.setIfInBounds_toArray, List.set_cons_zero, List.set_cons_succ])
                | ((with_reducible refine wpList_build1F ?_ (.tmp 45) ?_ d ?_ ?_); rfl; rfl; rfl; simp only [Act.put, List.setIfInBounds_toArray, List.set_cons_zero, List.set_cons_succ])
                | (at_builtin; refine wpList_append_run rfl _ _ 22 22 rfl (.slice q1 k d1) (.slice (some ⟨w1.heap.size, 0, none⟩) 1 1) _ w2 rfl rfl hr2' ?_))
            obtain ⟨q3, d3, w3, hr3, ho3, hb3⟩ := appF (c := oc - k) HO2.out HD3.out hs2' (out.length + 1) (by simp; omega) (by omega)
            rw [hl2] at hr3
            have HFIN := Lib.hid (show OwnF w.heap.size (.slice q3 (out.length + 1) d3) (sortF (l.take (i + 1))) w3 ∧ Go.RowKit.Below w.heap.size w w3 from by
              refine ⟨?_, HB0.out.trans ((HW.out.1.trans ((HB2.out.trans hb3).mono hWs)).mono HB0.out.size)⟩
              rw [HNX.out, ← HINS.out]
              exact ho3.mono (by have := HB0.out.size; omega))
            clear ho3 hb3 hr1 hr2'
            go_wp2_with (at_builtin; refine wpList_append_run rfl _ _ 22 22 rfl (.slice q2 (k + 1) d2) (.slice p2 (out.length - k) (oc - k)) _ w3 rfl rfl hr3 ?_)
            go_wp2_with fail
            go_roundw
            case rel => exact ⟨i + 1, by omega, by go_num, HFIN.out.1, HFIN.out.2⟩
            case measure => simp [intOf]; omega
    · obtain rfl : i = l.length := by omega
      rw [List.take_length] at *
      have hi1 : ¬ (l.length : Int) < (l.length : Int) := by omega
      go_wp2_with fail
      go_ret
      exact ⟨_, rfl, HOWN.out, HB0.out⟩

end Go.Proofs.YtmnblpjdiplioaaGreat
