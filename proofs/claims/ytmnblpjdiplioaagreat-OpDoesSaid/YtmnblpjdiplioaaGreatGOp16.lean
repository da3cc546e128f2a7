/-
  op, the document's: May, of at most sixty facts; gone.
  op, the program's: isName, checkFields, hasOthers, Check.
-/
import Derived.Test.YtmnblpjdiplioaaGreatOpRefC
import Derived.Test.YtmnblpjdiplioaaGreatGOp15
import Derived.Test.YtmnblpjdiplioaaGreatRegRef
import Derived.Test.YtmnblpjdiplioaaGreatGOp13
namespace Go.Proofs.YtmnblpjdiplioaaGreat
set_option linter.unusedSimpArgs false
set_option linter.unusedVariables false
set_option maxRecDepth 100000
open Go.RowKit Go.Sort

theorem mayO_zero (l : List Ft) (o : Opp) : mayO l o 0 = if chkO o ≠ 0 then chkO o else if o.k = 1 ∧ thereO l o = true then 8 else if o.k ≠ 1 ∧ thereO l o = false then 7 else if o.k = 3 ∧ tagO l o = false then 7 else 0 := by
  unfold mayO
  have e2 : ¬ (o.k = 2 ∧ 64 ≤ 0 ∧ tagO l o = false) := fun h => by omega
  rw [if_neg e2]
/-- what a client asks for stands in a block; its fields are no greater than can be -/
structure OpArg (o : Opp) : Prop where
  n : o.n.size ≤ maxLen
  v : o.v.size ≤ maxLen
  b : o.b.size ≤ maxLen
  p : o.p < 18446744073709551616

set_option maxHeartbeats 16000000 in
theorem mayOR (l : List Ft) (a : Option Addr) (cap : Nat) (o : Opp) (w : World) (hf : FIn w a l) (hl : l.length ≤ 60) (ho : OpArg o) :
    Calls Tryz.prog 13 #[.slice a l.length cap, .agg (opc o)] w fun v w' => v = .returned (.int .i64 (mayO l o 0)) ∧ Go.RowKit.Below w.heap.size w w' := by
  have hb0 := lowA w (.cells (opc o) 25)
  have HO := Lib.hid (Blk.new w 25 (opc o))
  have HB := Lib.hid hb0
  have HI := Lib.hid (hf.below hb0)
  have HC := Lib.hid (fun W => chkOR o ho.n ho.v ho.b ho.p W)
  have HV := Lib.hid (mayO_zero l o)
  have H1 := Lib.hid (fun W hW => rofC l 1 o.n a cap W hW (by omega))
  have H3 := Lib.hid (fun W hW => rofC l 3 o.n a cap W hW (by omega))
  have HTH := Lib.hid (thereO_of l o)
  have HTG := Lib.hid (fun t (h : ElemsR (ofR 3 o.n l) t) => tagO_elems (l := l) (o := o) h)
  have HOK := Lib.hid (fun h : chkO o = 0 => chkO_ok h)
  have hm1 : (ofR 1 o.n l).length ≤ l.length := List.length_filter_le _ _
  have hm3 : (ofR 3 o.n l).length ≤ l.length := List.length_filter_le _ _
  clear hb0 hf ho
  generalize mayO l o 0 = V at *
  generalize chkO o = E at *
  generalize thereO l o = th at *
  generalize ofR 1 o.n l = F1 at *
  generalize ofR 3 o.n l = F3 at *
  generalize tagO l o = tg at *
  go_enter Tryz.func13, Tryz.ntmps13
  go_upto_region 1 with fail
  change Code.wp _ _ _ _ (w.alloc (.cells (opc o) 25))
  generalize w.alloc (.cells (opc o) 25) = W at *
  go_wp2_with ((with_reducible refine bl_load ?_ 25 (.tmp 3) ?_ w.heap.size 0 (opc o) ?_ ?_ Tryz.underlying25 ?_ ?_ ?_); rfl; rfl; rfl; exact HO.out.all; rfl; exact infoO _; simp only [Act.put, List.setIfInBounds_toArray, List.set_cons_zero, List.set_cons_succ])
  refine (HC.out W).mono ?_
  rintro v w1 ⟨rfl, hb1⟩
  have HO1 := Lib.hid (HO.out.keep hb1)
  have HB1 := Lib.hid (HB.out.trans (hb1.mono HB.out.size))
  have HI1 := Lib.hid (HI.out.below hb1)
  clear hb1 HO HB HI HC
  by_cases hE : E = 0
  case neg =>
    have hne : (E != 0) = true := by simp [hE]
    have HV2 := Lib.hid (show V = E by rw [HV.out]; simp [hE])
    clear hE HOK HV
    go_wp2_with fail
    go_ret
    exact ⟨by rw [HV2.out]; rfl, HB1.out⟩
  case pos =>
  have hkk := HOK.out hE
  have hk := kinds6 hkk.1 hkk.2.1
  subst hE
  clear HOK hkk
  have c1 : w1.cell? ⟨w.heap.size, 1, none⟩ = some (.string o.n) := HO1.out.cell rfl
  go_wp2_with fail
  refine (H1.out w1 HI1.out).mono ?_
  rintro v w2 ⟨v2, rfl, hown, hb2⟩
  obtain ⟨a2, k2, rfl, -, -⟩ := hown.fin
  have HO2 := Lib.hid (HO1.out.keep hb2)
  have HB2 := Lib.hid (HB1.out.trans (hb2.mono HB1.out.size))
  have HI2 := Lib.hid (HI1.out.below hb2)
  clear hb2 hown HO1 HB1 HI1 H1 c1
  have hth : decide (0 < F1.length) = th := HTH.out.symm
  clear HTH
  have c1 : w2.cell? ⟨w.heap.size, 1, none⟩ = some (.string o.n) := HO2.out.cell rfl
  go_wp2_with fail
  refine (H3.out w2 HI2.out).mono ?_
  rintro v w3 ⟨v3, rfl, hown, hb3⟩
  obtain ⟨a3, k3, rfl, hfin, -⟩ := hown.fin
  have HO3 := Lib.hid (HO2.out.keep hb3)
  have HB3 := Lib.hid (HB2.out.trans (hb3.mono HB2.out.size))
  have HE3 := Lib.hid (relemC F3 a3 k3 w3 hfin (by omega))
  clear hb3 hown hfin HO2 HB2 HI2 H3 c1
  go_wp2_with fail
  refine HE3.out.mono ?_
  rintro v w4 ⟨v4, t, rfl, hot, hel, hb4⟩
  obtain ⟨a4, k4, rfl, hrow, -, -⟩ := hot.fin2
  have HO4 := Lib.hid (HO3.out.keep hb4)
  have HB4 := Lib.hid (HB3.out.trans (hb4.mono HB3.out.size))
  have hlen := elems_len hel
  have hin := fun s => inOR t s a4 k4 w4 hrow (by unfold maxLen; omega)
  have htg := HTG.out t hel
  have hd64 : decide ((64 : Int) ≤ (t.length : Int)) = false := by simp; omega
  have HIN := Lib.hid hin
  have HTT := Lib.hid htg
  clear hot hel hb4 HO3 HB3 HE3 HTG hrow hlen hin htg hth hm1 hm3
  have c0 : w4.cell? ⟨w.heap.size, 0, none⟩ = some (.int .i64 o.k) := HO4.out.cell rfl
  have c2 : w4.cell? ⟨w.heap.size, 2, none⟩ = some (.string o.v) := HO4.out.cell rfl
  clear HO4
  obtain ⟨k, n, v, p, b⟩ := o
  simp only at hk c0 c2 HV HTT
  rcases hk with rfl | rfl | rfl | rfl | rfl | rfl
  · cases th with
    | true =>
      have HV2 := Lib.hid (show V = 8 by rw [HV.out]; simp)
      clear HV
      go_wp2_with fail
      go_ret
      exact ⟨by rw [HV2.out]; rfl, HB4.out⟩
    | false =>
      have HV2 := Lib.hid (show V = 0 by rw [HV.out]; simp)
      clear HV
      go_wp2_with fail
      go_ret
      exact ⟨by rw [HV2.out]; rfl, HB4.out⟩
  · cases th with
    | true =>
      have HV2 := Lib.hid (show V = 0 by rw [HV.out]; simp)
      clear HV
      go_wp2_with fail
      go_ret
      exact ⟨by rw [HV2.out]; rfl, HB4.out⟩
    | false =>
      have HV2 := Lib.hid (show V = 7 by rw [HV.out]; simp)
      clear HV
      go_wp2_with fail
      go_ret
      exact ⟨by rw [HV2.out]; rfl, HB4.out⟩
  · cases th with
    | true =>
      have hin := HIN.out v
      rw [← HTT.out] at hin
      have HIN2 := Lib.hid hin
      clear hin HIN HTT
      go_wp2_with fail
      refine HIN2.out.mono ?_
      rintro x y ⟨rfl, rfl⟩
      cases tg with
      | false =>
        have HV2 := Lib.hid (show V = 7 by rw [HV.out]; simp)
        clear HV
        go_wp2_with fail
        go_ret
        exact ⟨by rw [HV2.out]; rfl, HB4.out⟩
      | true =>
        have HV2 := Lib.hid (show V = 0 by rw [HV.out]; simp)
        clear HV
        go_wp2_with fail
        go_ret
        exact ⟨by rw [HV2.out]; rfl, HB4.out⟩
    | false =>
      have HV2 := Lib.hid (show V = 7 by rw [HV.out]; simp)
      clear HV
      go_wp2_with fail
      go_ret
      exact ⟨by rw [HV2.out]; rfl, HB4.out⟩
  · cases th with
    | true =>
      have HV2 := Lib.hid (show V = 0 by rw [HV.out]; simp)
      clear HV
      go_wp2_with fail
      go_ret
      exact ⟨by rw [HV2.out]; rfl, HB4.out⟩
    | false =>
      have HV2 := Lib.hid (show V = 7 by rw [HV.out]; simp)
      clear HV
      go_wp2_with fail
      go_ret
      exact ⟨by rw [HV2.out]; rfl, HB4.out⟩
  · cases th with
    | true =>
      have HV2 := Lib.hid (show V = 0 by rw [HV.out]; simp)
      clear HV
      go_wp2_with fail
      go_ret
      exact ⟨by rw [HV2.out]; rfl, HB4.out⟩
    | false =>
      have HV2 := Lib.hid (show V = 7 by rw [HV.out]; simp)
      clear HV
      go_wp2_with fail
      go_ret
      exact ⟨by rw [HV2.out]; rfl, HB4.out⟩
  · cases th with
    | true =>
      have HV2 := Lib.hid (show V = 0 by rw [HV.out]; simp)
      clear HV
      go_wp2_with fail
      go_ret
      exact ⟨by rw [HV2.out]; rfl, HB4.out⟩
    | false =>
      have HV2 := Lib.hid (show V = 7 by rw [HV.out]; simp)
      clear HV
      go_wp2_with fail
      go_ret
      exact ⟨by rw [HV2.out]; rfl, HB4.out⟩
end Go.Proofs.YtmnblpjdiplioaaGreat

namespace Go.Proofs.YtmnblpjdiplioaaGreat
set_option linter.unusedSimpArgs false
set_option linter.unusedVariables false
set_option maxRecDepth 100000
open Go.RowKit Go.Sort

theorem opNameC (s : ByteArray) (w : World) : Calls Tryz.prog 26 #[.string s] w fun e w' => e = .returned (.bool (decide (1 ≤ s.size ∧ s.size ≤ 64))) ∧ w = w' := by
  by_cases h1 : 1 ≤ s.size
  · have g1 : decide ((1 : Int) ≤ (s.size : Int)) = true := by simp; omega
    by_cases h2 : s.size ≤ 64
    · rw [decide_eq_true ⟨h1, h2⟩]
      have g2 : decide ((s.size : Int) ≤ 64) = true := by simp; omega
      clear h1 h2
      go_enter Tryz.func26, Tryz.ntmps26
      go_wp2
      go_ret
      exact ⟨rfl, rfl⟩
    · rw [decide_eq_false (fun h => h2 h.2)]
      have g2 : decide ((s.size : Int) ≤ 64) = false := by simp; omega
      clear h1 h2
      go_enter Tryz.func26, Tryz.ntmps26
      go_wp2
      go_ret
      exact ⟨rfl, rfl⟩
  · rw [decide_eq_false (fun h => h1 h.1)]
    have g1 : decide ((1 : Int) ≤ (s.size : Int)) = false := by simp; omega
    clear h1
    go_enter Tryz.func26, Tryz.ntmps26
    go_wp2
    go_ret
    exact ⟨rfl, rfl⟩

theorem run_store_fl (P : Program) (w : World) (a : Addr) (k : FloatKind) (b : Nat) (m : Mode) : (store a (.float k b) m).run P w = stored P w a (.float k b) m := run_store P w a _ m rfl
attribute [local go_sem] run_store_fl
theorem OBlk.setV {w : World} {b : Nat} {o : Opp} (h : OBlk w b o) (x : ByteArray) : OBlk (w.setCell ⟨b, 2, none⟩ (.string x)) b { o with v := x } := by
  have := Joins.block_setCell h (i := 2) (.string x)
  unfold OBlk Blk; rw [this]; rfl
theorem OBlk.setB {w : World} {b : Nat} {o : Opp} (h : OBlk w b o) (x : ByteArray) : OBlk (w.setCell ⟨b, 4, none⟩ (.string x)) b { o with b := x } := by
  have := Joins.block_setCell h (i := 4) (.string x)
  unfold OBlk Blk; rw [this]; rfl
theorem OBlk.setP {w : World} {b : Nat} {o : Opp} (h : OBlk w b o) (x : Nat) : OBlk (w.setCell ⟨b, 3, none⟩ (.float .f64 x)) b { o with p := x } := by
  have := Joins.block_setCell h (i := 3) (.float .f64 x)
  unfold OBlk Blk; rw [this]; rfl
/-- what is asked of the fields that a kind has -/
def fldO (o : Opp) : Int := if o.k = 1 then (if 32768 < o.b.size then 3 else 0) else if o.k = 4 then (if 256 < o.v.size then 3 else 0) else if o.k = 2 ∨ o.k = 3 then (if 1 ≤ o.v.size ∧ o.v.size ≤ 64 then 0 else 14) else 0
theorem chkO_eq (o : Opp) (h1 : 1 ≤ o.k) (h6 : o.k ≤ 6) : chkO o = if ¬ (1 ≤ o.n.size ∧ o.n.size ≤ 64) then 14 else if fldO o ≠ 0 then fldO o else if plainO o = false then 5 else 0 := by
  unfold chkO
  rw [if_neg (by omega)]
  by_cases hn : 1 ≤ o.n.size ∧ o.n.size ≤ 64
  · have n1 : ¬ (o.n.size < 1 ∨ 64 < o.n.size) := by omega
    have n2 : ¬ ¬ (1 ≤ o.n.size ∧ o.n.size ≤ 64) := fun h => h hn
    rw [if_neg n1, if_neg n2]
    by_cases ht : (o.k = 2 ∨ o.k = 3) ∧ (o.v.size < 1 ∨ 64 < o.v.size)
    · have e : fldO o = 14 := by unfold fldO; rw [if_neg (by omega), if_neg (by omega), if_pos ht.1, if_neg (by omega)]
      rw [if_pos ht, e]; rfl
    · rw [if_neg ht]
      by_cases hl : o.k = 4 ∧ 256 < o.v.size
      · have e : fldO o = 3 := by unfold fldO; rw [if_neg (by omega), if_pos hl.1, if_pos hl.2]
        rw [if_pos hl, e]; rfl
      · rw [if_neg hl]
        by_cases hd : o.k = 1 ∧ 32768 < o.b.size
        · have e : fldO o = 3 := by unfold fldO; rw [if_pos hd.1, if_pos hd.2]
          rw [if_pos hd, e]; rfl
        · have e : fldO o = 0 := by
            unfold fldO
            split
            · rw [if_neg (fun h => hd ⟨by assumption, h⟩)]
            · split
              · rw [if_neg (fun h => hl ⟨by assumption, h⟩)]
              · split
                · rename_i h; rw [if_pos (by have := fun g => ht ⟨h, g⟩; omega)]
                · rfl
          rw [if_neg hd, e]; rfl
  · have n1 : o.n.size < 1 ∨ 64 < o.n.size := by omega
    rw [if_pos n1, if_pos hn]

set_option maxHeartbeats 4000000 in
theorem fldOC (o : Opp) (h1 : 1 ≤ o.k) (h6 : o.k ≤ 6) (w : World) :
    Calls Tryz.prog 27 #[.agg (opc o)] w fun v w' => v = .returned (.int .i64 (fldO o)) ∧ Go.RowKit.Below w.heap.size w w' := by
  have HO := Lib.hid (Blk.new w 25 (opc o))
  have HB := Lib.hid (lowA w (.cells (opc o) 25))
  have HN := Lib.hid (fun W => opNameC o.v W)
  have HV := Lib.hid (show fldO o = if o.k = 1 then (if 32768 < o.b.size then 3 else 0) else if o.k = 4 then (if 256 < o.v.size then 3 else 0) else if o.k = 2 ∨ o.k = 3 then (if 1 ≤ o.v.size ∧ o.v.size ≤ 64 then 0 else 14) else 0 from rfl)
  generalize fldO o = V at *
  have hk := kinds6 h1 h6
  clear h1 h6
  obtain ⟨k, n, v, p, b⟩ := o
  simp only at hk HO HB HN HV
  rcases hk with rfl | rfl | rfl | rfl | rfl | rfl
  · go_enter Tryz.func27, Tryz.ntmps27
    go_upto_region 1 with fail
    change Code.wp _ _ _ _ (w.alloc (.cells (opc ⟨1, n, v, p, b⟩) 25))
    generalize w.alloc (.cells (opc ⟨1, n, v, p, b⟩) 25) = W at *
    have c0 : W.cell? ⟨w.heap.size, 0, none⟩ = some (.int .i64 1) := HO.out.cell rfl
    have c4 : W.cell? ⟨w.heap.size, 4, none⟩ = some (.string b) := HO.out.cell rfl
    by_cases hs : 32768 < b.size
    · have g : decide ((32768 : Int) < (b.size : Int)) = true := by simp; omega
      have HV2 := Lib.hid (show V = 3 by rw [HV.out]; simp [hs])
      clear HV HN hs
      go_wp2_with fail
      go_ret
      exact ⟨by rw [HV2.out] <;> rfl, HB.out⟩
    · have g : decide ((32768 : Int) < (b.size : Int)) = false := by simp; omega
      have HV2 := Lib.hid (show V = 0 by rw [HV.out]; simp [hs])
      clear HV HN hs
      go_wp2_with fail
      go_ret
      exact ⟨by rw [HV2.out] <;> rfl, HB.out⟩
  · go_enter Tryz.func27, Tryz.ntmps27
    go_upto_region 1 with fail
    change Code.wp _ _ _ _ (w.alloc (.cells (opc ⟨2, n, v, p, b⟩) 25))
    generalize w.alloc (.cells (opc ⟨2, n, v, p, b⟩) 25) = W at *
    have c0 : W.cell? ⟨w.heap.size, 0, none⟩ = some (.int .i64 2) := HO.out.cell rfl
    have c2 : W.cell? ⟨w.heap.size, 2, none⟩ = some (.string v) := HO.out.cell rfl
    by_cases hs : 1 ≤ v.size ∧ v.size ≤ 64
    · rw [decide_eq_true hs] at HN
      have HV2 := Lib.hid (show V = 0 by rw [HV.out]; simp [hs])
      clear HV hs
      go_wp2_with fail
      refine (HN.out W).mono ?_
      rintro x y ⟨rfl, rfl⟩
      go_wp2_with fail
      go_ret
      exact ⟨by rw [HV2.out] <;> rfl, HB.out⟩
    · rw [decide_eq_false hs] at HN
      have HV2 := Lib.hid (show V = 14 by rw [HV.out]; simp [hs])
      clear HV hs
      go_wp2_with fail
      refine (HN.out W).mono ?_
      rintro x y ⟨rfl, rfl⟩
      go_wp2_with fail
      go_ret
      exact ⟨by rw [HV2.out] <;> rfl, HB.out⟩
  · go_enter Tryz.func27, Tryz.ntmps27
    go_upto_region 1 with fail
    change Code.wp _ _ _ _ (w.alloc (.cells (opc ⟨3, n, v, p, b⟩) 25))
    generalize w.alloc (.cells (opc ⟨3, n, v, p, b⟩) 25) = W at *
    have c0 : W.cell? ⟨w.heap.size, 0, none⟩ = some (.int .i64 3) := HO.out.cell rfl
    have c2 : W.cell? ⟨w.heap.size, 2, none⟩ = some (.string v) := HO.out.cell rfl
    by_cases hs : 1 ≤ v.size ∧ v.size ≤ 64
    · rw [decide_eq_true hs] at HN
      have HV2 := Lib.hid (show V = 0 by rw [HV.out]; simp [hs])
      clear HV hs
      go_wp2_with fail
      refine (HN.out W).mono ?_
      rintro x y ⟨rfl, rfl⟩
      go_wp2_with fail
      go_ret
      exact ⟨by rw [HV2.out] <;> rfl, HB.out⟩
    · rw [decide_eq_false hs] at HN
      have HV2 := Lib.hid (show V = 14 by rw [HV.out]; simp [hs])
      clear HV hs
      go_wp2_with fail
      refine (HN.out W).mono ?_
      rintro x y ⟨rfl, rfl⟩
      go_wp2_with fail
      go_ret
      exact ⟨by rw [HV2.out] <;> rfl, HB.out⟩
  · go_enter Tryz.func27, Tryz.ntmps27
    go_upto_region 1 with fail
    change Code.wp _ _ _ _ (w.alloc (.cells (opc ⟨4, n, v, p, b⟩) 25))
    generalize w.alloc (.cells (opc ⟨4, n, v, p, b⟩) 25) = W at *
    have c0 : W.cell? ⟨w.heap.size, 0, none⟩ = some (.int .i64 4) := HO.out.cell rfl
    have c2 : W.cell? ⟨w.heap.size, 2, none⟩ = some (.string v) := HO.out.cell rfl
    by_cases hs : 256 < v.size
    · have g : decide ((256 : Int) < (v.size : Int)) = true := by simp; omega
      have HV2 := Lib.hid (show V = 3 by rw [HV.out]; simp [hs])
      clear HV HN hs
      go_wp2_with fail
      go_ret
      exact ⟨by rw [HV2.out] <;> rfl, HB.out⟩
    · have g : decide ((256 : Int) < (v.size : Int)) = false := by simp; omega
      have HV2 := Lib.hid (show V = 0 by rw [HV.out]; simp [hs])
      clear HV HN hs
      go_wp2_with fail
      go_ret
      exact ⟨by rw [HV2.out] <;> rfl, HB.out⟩
  · go_enter Tryz.func27, Tryz.ntmps27
    go_upto_region 1 with fail
    change Code.wp _ _ _ _ (w.alloc (.cells (opc ⟨5, n, v, p, b⟩) 25))
    generalize w.alloc (.cells (opc ⟨5, n, v, p, b⟩) 25) = W at *
    have c0 : W.cell? ⟨w.heap.size, 0, none⟩ = some (.int .i64 5) := HO.out.cell rfl
    have HV2 := Lib.hid (show V = 0 by rw [HV.out]; simp)
    clear HV HN
    go_wp2_with fail
    go_ret
    exact ⟨by rw [HV2.out] <;> rfl, HB.out⟩
  · go_enter Tryz.func27, Tryz.ntmps27
    go_upto_region 1 with fail
    change Code.wp _ _ _ _ (w.alloc (.cells (opc ⟨6, n, v, p, b⟩) 25))
    generalize w.alloc (.cells (opc ⟨6, n, v, p, b⟩) 25) = W at *
    have c0 : W.cell? ⟨w.heap.size, 0, none⟩ = some (.int .i64 6) := HO.out.cell rfl
    have HV2 := Lib.hid (show V = 0 by rw [HV.out]; simp)
    clear HV HN
    go_wp2_with fail
    go_ret
    exact ⟨by rw [HV2.out] <;> rfl, HB.out⟩

set_option maxHeartbeats 16000000 in
theorem othersOC (o : Opp) (h1 : 1 ≤ o.k) (h6 : o.k ≤ 6) (hp : o.p < 18446744073709551616) (w : World) :
    Calls Tryz.prog 28 #[.agg (opc o)] w fun v w' => v = .returned (.bool (!plainO o)) ∧ Go.RowKit.Below w.heap.size w w' := by
  have HO := Lib.hid (Blk.new w 25 (opc o))
  have HB := Lib.hid (lowA w (.cells (opc o) 25))
  have HK1 := Lib.hid (fun W => flKeyC o.p hp W)
  have HK2 := Lib.hid (fun W => flKeyC 0 (by omega) W)
  have hv := oempty o.v
  have hb := oempty o.b
  have hke : ((keyB o.p : Int) == (keyB 0 : Int)) = decide (keyB o.p = keyB 0) := by
    rw [Bool.eq_iff_iff]; simp only [beq_iff_eq, decide_eq_true_eq]; omega
  have hkn : ((keyB o.p : Int) != (keyB 0 : Int)) = !decide (keyB o.p = keyB 0) := by rw [bne, hke]
  have hk0 : ((keyB 0 : Int) != (keyB 0 : Int)) = false := by simp
  have HV := Lib.hid (show plainO o = ((decide (o.k = 2 ∨ o.k = 3 ∨ o.k = 4) || decide (o.v = ⟨#[]⟩)) && ((decide (o.k = 1) || decide (o.b = ⟨#[]⟩)) && (decide (o.k = 5) || decide (keyB o.p = keyB 0)))) from rfl)
  obtain ⟨z, hz⟩ : ∃ z : ByteArray, (⟨#[]⟩ : ByteArray) = z := ⟨_, rfl⟩
  have hze : z.toList.isEmpty = true := by rw [← hz, oempty]; simp
  have HZ := Lib.hid hz
  clear hz
  generalize plainO o = V at *
  generalize decide (o.v = ⟨#[]⟩) = vz at *
  generalize decide (o.b = ⟨#[]⟩) = bz at *
  generalize decide (keyB o.p = keyB 0) = kz at *
  generalize keyB o.p = K1 at *
  generalize keyB 0 = K2 at *
  have hk := kinds6 h1 h6
  clear hp h1 h6 hke
  obtain ⟨k, n, v, p, b⟩ := o
  simp only at hk hv hb HV HO HB HK1
  rcases hk with rfl | rfl | rfl | rfl | rfl | rfl
  · go_enter Tryz.func28, Tryz.ntmps28
    go_upto_region 1 with fail
    change Code.wp _ _ _ _ (w.alloc (.cells (opc ⟨1, n, v, p, b⟩) 25))
    generalize w.alloc (.cells (opc ⟨1, n, v, p, b⟩) 25) = W at *
    have c0 : W.cell? ⟨w.heap.size, 0, none⟩ = some (.int .i64 1) := HO.out.cell rfl
    have cj : W.cell? ⟨w.heap.size, 4, none⟩ = some (.string b) := HO.out.cell rfl
    have fj : W.frozen? ⟨w.heap.size, 4, none⟩ = false := Joins.unfrozen_of_block HO.out 4
    have HO2 := Lib.hid (OBlk.setB (show OBlk W w.heap.size ⟨1, n, v, p, b⟩ from HO.out) ⟨#[]⟩)
    have HB2 := Lib.hid (HB.out.setCell (p := ⟨w.heap.size, 4, none⟩) (Nat.le_refl _) (.string ⟨#[]⟩))
    go_upto_region 10 with fail
    clear cj fj c0 HO HB
    generalize W.setCell ⟨w.heap.size, 4, none⟩ (.string ⟨#[]⟩) = U at *
    rw [HZ.out] at HO2
    have c2 : U.cell? ⟨w.heap.size, 2, none⟩ = some (.string v) := HO2.out.cell rfl
    have c3 : U.cell? ⟨w.heap.size, 3, none⟩ = some (.float .f64 p) := HO2.out.cell rfl
    have c4 : U.cell? ⟨w.heap.size, 4, none⟩ = some (.string z) := HO2.out.cell rfl
    clear HO2
    cases vz with
    | false =>
      have HV2 := Lib.hid (show V = false by rw [HV.out]; simp)
      clear HV
      go_wp2_with fail
      go_ret
      exact ⟨by rw [HV2.out] <;> rfl, HB2.out⟩
    | true =>
      go_wp2_with fail
      refine (HK1.out U).mono ?_
      rintro x y ⟨rfl, rfl⟩
      go_wp2_with fail
      refine (HK2.out U).mono ?_
      rintro x y ⟨rfl, rfl⟩
      have HV2 := Lib.hid (show V = kz by rw [HV.out]; simp)
      clear HV
      go_wp2_with fail
      go_ret
      exact ⟨by rw [HV2.out] <;> rfl, HB2.out⟩
  · go_enter Tryz.func28, Tryz.ntmps28
    go_upto_region 1 with fail
    change Code.wp _ _ _ _ (w.alloc (.cells (opc ⟨2, n, v, p, b⟩) 25))
    generalize w.alloc (.cells (opc ⟨2, n, v, p, b⟩) 25) = W at *
    have c0 : W.cell? ⟨w.heap.size, 0, none⟩ = some (.int .i64 2) := HO.out.cell rfl
    have cj : W.cell? ⟨w.heap.size, 2, none⟩ = some (.string v) := HO.out.cell rfl
    have fj : W.frozen? ⟨w.heap.size, 2, none⟩ = false := Joins.unfrozen_of_block HO.out 2
    have HO2 := Lib.hid (OBlk.setV (show OBlk W w.heap.size ⟨2, n, v, p, b⟩ from HO.out) ⟨#[]⟩)
    have HB2 := Lib.hid (HB.out.setCell (p := ⟨w.heap.size, 2, none⟩) (Nat.le_refl _) (.string ⟨#[]⟩))
    go_upto_region 10 with fail
    clear cj fj c0 HO HB
    generalize W.setCell ⟨w.heap.size, 2, none⟩ (.string ⟨#[]⟩) = U at *
    rw [HZ.out] at HO2
    have c2 : U.cell? ⟨w.heap.size, 2, none⟩ = some (.string z) := HO2.out.cell rfl
    have c3 : U.cell? ⟨w.heap.size, 3, none⟩ = some (.float .f64 p) := HO2.out.cell rfl
    have c4 : U.cell? ⟨w.heap.size, 4, none⟩ = some (.string b) := HO2.out.cell rfl
    clear HO2
    cases bz with
    | false =>
      have HV2 := Lib.hid (show V = false by rw [HV.out]; simp)
      clear HV
      go_wp2_with fail
      go_ret
      exact ⟨by rw [HV2.out] <;> rfl, HB2.out⟩
    | true =>
      go_wp2_with fail
      refine (HK1.out U).mono ?_
      rintro x y ⟨rfl, rfl⟩
      go_wp2_with fail
      refine (HK2.out U).mono ?_
      rintro x y ⟨rfl, rfl⟩
      have HV2 := Lib.hid (show V = kz by rw [HV.out]; simp)
      clear HV
      go_wp2_with fail
      go_ret
      exact ⟨by rw [HV2.out] <;> rfl, HB2.out⟩
  · go_enter Tryz.func28, Tryz.ntmps28
    go_upto_region 1 with fail
    change Code.wp _ _ _ _ (w.alloc (.cells (opc ⟨3, n, v, p, b⟩) 25))
    generalize w.alloc (.cells (opc ⟨3, n, v, p, b⟩) 25) = W at *
    have c0 : W.cell? ⟨w.heap.size, 0, none⟩ = some (.int .i64 3) := HO.out.cell rfl
    have cj : W.cell? ⟨w.heap.size, 2, none⟩ = some (.string v) := HO.out.cell rfl
    have fj : W.frozen? ⟨w.heap.size, 2, none⟩ = false := Joins.unfrozen_of_block HO.out 2
    have HO2 := Lib.hid (OBlk.setV (show OBlk W w.heap.size ⟨3, n, v, p, b⟩ from HO.out) ⟨#[]⟩)
    have HB2 := Lib.hid (HB.out.setCell (p := ⟨w.heap.size, 2, none⟩) (Nat.le_refl _) (.string ⟨#[]⟩))
    go_upto_region 10 with fail
    clear cj fj c0 HO HB
    generalize W.setCell ⟨w.heap.size, 2, none⟩ (.string ⟨#[]⟩) = U at *
    rw [HZ.out] at HO2
    have c2 : U.cell? ⟨w.heap.size, 2, none⟩ = some (.string z) := HO2.out.cell rfl
    have c3 : U.cell? ⟨w.heap.size, 3, none⟩ = some (.float .f64 p) := HO2.out.cell rfl
    have c4 : U.cell? ⟨w.heap.size, 4, none⟩ = some (.string b) := HO2.out.cell rfl
    clear HO2
    cases bz with
    | false =>
      have HV2 := Lib.hid (show V = false by rw [HV.out]; simp)
      clear HV
      go_wp2_with fail
      go_ret
      exact ⟨by rw [HV2.out] <;> rfl, HB2.out⟩
    | true =>
      go_wp2_with fail
      refine (HK1.out U).mono ?_
      rintro x y ⟨rfl, rfl⟩
      go_wp2_with fail
      refine (HK2.out U).mono ?_
      rintro x y ⟨rfl, rfl⟩
      have HV2 := Lib.hid (show V = kz by rw [HV.out]; simp)
      clear HV
      go_wp2_with fail
      go_ret
      exact ⟨by rw [HV2.out] <;> rfl, HB2.out⟩
  · go_enter Tryz.func28, Tryz.ntmps28
    go_upto_region 1 with fail
    change Code.wp _ _ _ _ (w.alloc (.cells (opc ⟨4, n, v, p, b⟩) 25))
    generalize w.alloc (.cells (opc ⟨4, n, v, p, b⟩) 25) = W at *
    have c0 : W.cell? ⟨w.heap.size, 0, none⟩ = some (.int .i64 4) := HO.out.cell rfl
    have cj : W.cell? ⟨w.heap.size, 2, none⟩ = some (.string v) := HO.out.cell rfl
    have fj : W.frozen? ⟨w.heap.size, 2, none⟩ = false := Joins.unfrozen_of_block HO.out 2
    have HO2 := Lib.hid (OBlk.setV (show OBlk W w.heap.size ⟨4, n, v, p, b⟩ from HO.out) ⟨#[]⟩)
    have HB2 := Lib.hid (HB.out.setCell (p := ⟨w.heap.size, 2, none⟩) (Nat.le_refl _) (.string ⟨#[]⟩))
    go_upto_region 10 with fail
    clear cj fj c0 HO HB
    generalize W.setCell ⟨w.heap.size, 2, none⟩ (.string ⟨#[]⟩) = U at *
    rw [HZ.out] at HO2
    have c2 : U.cell? ⟨w.heap.size, 2, none⟩ = some (.string z) := HO2.out.cell rfl
    have c3 : U.cell? ⟨w.heap.size, 3, none⟩ = some (.float .f64 p) := HO2.out.cell rfl
    have c4 : U.cell? ⟨w.heap.size, 4, none⟩ = some (.string b) := HO2.out.cell rfl
    clear HO2
    cases bz with
    | false =>
      have HV2 := Lib.hid (show V = false by rw [HV.out]; simp)
      clear HV
      go_wp2_with fail
      go_ret
      exact ⟨by rw [HV2.out] <;> rfl, HB2.out⟩
    | true =>
      go_wp2_with fail
      refine (HK1.out U).mono ?_
      rintro x y ⟨rfl, rfl⟩
      go_wp2_with fail
      refine (HK2.out U).mono ?_
      rintro x y ⟨rfl, rfl⟩
      have HV2 := Lib.hid (show V = kz by rw [HV.out]; simp)
      clear HV
      go_wp2_with fail
      go_ret
      exact ⟨by rw [HV2.out] <;> rfl, HB2.out⟩
  · go_enter Tryz.func28, Tryz.ntmps28
    go_upto_region 1 with fail
    change Code.wp _ _ _ _ (w.alloc (.cells (opc ⟨5, n, v, p, b⟩) 25))
    generalize w.alloc (.cells (opc ⟨5, n, v, p, b⟩) 25) = W at *
    have c0 : W.cell? ⟨w.heap.size, 0, none⟩ = some (.int .i64 5) := HO.out.cell rfl
    have cj : W.cell? ⟨w.heap.size, 3, none⟩ = some (.float .f64 p) := HO.out.cell rfl
    have fj : W.frozen? ⟨w.heap.size, 3, none⟩ = false := Joins.unfrozen_of_block HO.out 3
    have HO2 := Lib.hid (OBlk.setP (show OBlk W w.heap.size ⟨5, n, v, p, b⟩ from HO.out) 0)
    have HB2 := Lib.hid (HB.out.setCell (p := ⟨w.heap.size, 3, none⟩) (Nat.le_refl _) (.float .f64 0))
    go_upto_region 10 with fail
    clear cj fj c0 HO HB
    generalize W.setCell ⟨w.heap.size, 3, none⟩ (.float .f64 0) = U at *
    have c2 : U.cell? ⟨w.heap.size, 2, none⟩ = some (.string v) := HO2.out.cell rfl
    have c3 : U.cell? ⟨w.heap.size, 3, none⟩ = some (.float .f64 0) := HO2.out.cell rfl
    have c4 : U.cell? ⟨w.heap.size, 4, none⟩ = some (.string b) := HO2.out.cell rfl
    clear HO2
    cases vz with
    | false =>
      have HV2 := Lib.hid (show V = false by rw [HV.out]; simp)
      clear HV
      go_wp2_with fail
      go_ret
      exact ⟨by rw [HV2.out] <;> rfl, HB2.out⟩
    | true =>
      cases bz with
      | false =>
        have HV2 := Lib.hid (show V = false by rw [HV.out]; simp)
        clear HV
        go_wp2_with fail
        go_ret
        exact ⟨by rw [HV2.out] <;> rfl, HB2.out⟩
      | true =>
        go_wp2_with fail
        refine (HK2.out U).mono ?_
        rintro x y ⟨rfl, rfl⟩
        go_wp2_with fail
        refine (HK2.out U).mono ?_
        rintro x y ⟨rfl, rfl⟩
        have HV2 := Lib.hid (show V = true by rw [HV.out]; simp)
        clear HV
        go_wp2_with fail
        go_ret
        exact ⟨by rw [HV2.out] <;> rfl, HB2.out⟩
  · go_enter Tryz.func28, Tryz.ntmps28
    go_upto_region 1 with fail
    change Code.wp _ _ _ _ (w.alloc (.cells (opc ⟨6, n, v, p, b⟩) 25))
    generalize w.alloc (.cells (opc ⟨6, n, v, p, b⟩) 25) = W at *
    have c0 : W.cell? ⟨w.heap.size, 0, none⟩ = some (.int .i64 6) := HO.out.cell rfl
    go_upto_region 10 with fail
    have HO2 := Lib.hid (show OBlk W w.heap.size ⟨6, n, v, p, b⟩ from HO.out)
    have HB2 := Lib.hid HB.out
    clear c0 HO HB
    generalize W = U at *
    have c2 : U.cell? ⟨w.heap.size, 2, none⟩ = some (.string v) := HO2.out.cell rfl
    have c3 : U.cell? ⟨w.heap.size, 3, none⟩ = some (.float .f64 p) := HO2.out.cell rfl
    have c4 : U.cell? ⟨w.heap.size, 4, none⟩ = some (.string b) := HO2.out.cell rfl
    clear HO2
    cases vz with
    | false =>
      have HV2 := Lib.hid (show V = false by rw [HV.out]; simp)
      clear HV
      go_wp2_with fail
      go_ret
      exact ⟨by rw [HV2.out] <;> rfl, HB2.out⟩
    | true =>
      cases bz with
      | false =>
        have HV2 := Lib.hid (show V = false by rw [HV.out]; simp)
        clear HV
        go_wp2_with fail
        go_ret
        exact ⟨by rw [HV2.out] <;> rfl, HB2.out⟩
      | true =>
        go_wp2_with fail
        refine (HK1.out U).mono ?_
        rintro x y ⟨rfl, rfl⟩
        go_wp2_with fail
        refine (HK2.out U).mono ?_
        rintro x y ⟨rfl, rfl⟩
        have HV2 := Lib.hid (show V = kz by rw [HV.out]; simp)
        clear HV
        go_wp2_with fail
        go_ret
        exact ⟨by rw [HV2.out] <;> rfl, HB2.out⟩

set_option maxHeartbeats 16000000 in
theorem opCheckC (o : Opp) (ho : OpArg o) (w : World) :
    Calls Tryz.prog 10 #[.agg (opc o)] w fun v w' => v = .returned (.int .i64 (chkO o)) ∧ Go.RowKit.Below w.heap.size w w' := by
  have HO := Lib.hid (Blk.new w 25 (opc o))
  have HB := Lib.hid (lowA w (.cells (opc o) 25))
  have HN := Lib.hid (fun W => opNameC o.n W)
  by_cases h1 : o.k < 1
  · have HV := Lib.hid (show chkO o = 1 by unfold chkO; rw [if_pos (by omega)])
    have g1 : decide (o.k < 1) = true := decide_eq_true h1
    generalize chkO o = V at *
    have c0 : (w.alloc (.cells (opc o) 25)).cell? ⟨w.heap.size, 0, none⟩ = some (.int .i64 o.k) := HO.out.cell rfl
    clear ho h1
    go_enter Tryz.func10, Tryz.ntmps10
    go_upto_region 1 with fail
    change Code.wp _ _ _ _ (w.alloc (.cells (opc o) 25))
    generalize w.alloc (.cells (opc o) 25) = W at *
    go_wp2_with fail
    go_ret
    exact ⟨by rw [HV.out] <;> rfl, HB.out⟩
  have g1 : decide (o.k < 1) = false := decide_eq_false h1
  by_cases h6 : 6 < o.k
  · have HV := Lib.hid (show chkO o = 1 by unfold chkO; rw [if_pos (by omega)])
    have g2 : decide ((7 : Int) ≤ o.k) = true := decide_eq_true (by omega)
    generalize chkO o = V at *
    have c0 : (w.alloc (.cells (opc o) 25)).cell? ⟨w.heap.size, 0, none⟩ = some (.int .i64 o.k) := HO.out.cell rfl
    clear ho h1 h6
    go_enter Tryz.func10, Tryz.ntmps10
    go_upto_region 1 with fail
    change Code.wp _ _ _ _ (w.alloc (.cells (opc o) 25))
    generalize w.alloc (.cells (opc o) 25) = W at *
    go_wp2_with fail
    go_ret
    exact ⟨by rw [HV.out] <;> rfl, HB.out⟩
  have g2 : decide ((7 : Int) ≤ o.k) = false := decide_eq_false (by omega)
  have HF := Lib.hid (fun W => fldOC o (by omega) (by omega) W)
  have HH := Lib.hid (fun W => othersOC o (by omega) (by omega) ho.p W)
  have HV := Lib.hid (chkO_eq o (by omega) (by omega))
  clear ho h1 h6
  generalize chkO o = V at *
  generalize fldO o = E at *
  generalize plainO o = P at *
  have c0 : (w.alloc (.cells (opc o) 25)).cell? ⟨w.heap.size, 0, none⟩ = some (.int .i64 o.k) := HO.out.cell rfl
  have c1 : (w.alloc (.cells (opc o) 25)).cell? ⟨w.heap.size, 1, none⟩ = some (.string o.n) := HO.out.cell rfl
  go_enter Tryz.func10, Tryz.ntmps10
  go_upto_region 1 with fail
  change Code.wp _ _ _ _ (w.alloc (.cells (opc o) 25))
  generalize w.alloc (.cells (opc o) 25) = W at *
  go_wp2_with fail
  refine (HN.out W).mono ?_
  rintro x y ⟨rfl, rfl⟩
  clear HN
  by_cases hn : 1 ≤ o.n.size ∧ o.n.size ≤ 64
  case neg =>
    rw [decide_eq_false hn]
    have HV2 := Lib.hid (show V = 14 by rw [HV.out, if_pos hn])
    clear HV hn
    go_wp2_with fail
    go_ret
    exact ⟨by rw [HV2.out] <;> rfl, HB.out⟩
  case pos =>
  rw [decide_eq_true hn]
  have HV2 := Lib.hid (show V = if E ≠ 0 then E else if P = false then 5 else 0 by rw [HV.out, if_neg (by simpa using hn)])
  clear HV hn c0 c1 g1 g2
  go_wp2_with ((with_reducible refine bl_load ?_ 25 (.tmp 1) ?_ w.heap.size 0 (opc o) ?_ ?_ Tryz.underlying25 ?_ ?_ ?_); rfl; rfl; rfl; exact HO.out.all; rfl; exact infoO _; simp only [Act.put, List.setIfInBounds_toArray, List.set_cons_zero, List.set_cons_succ])
  refine (HF.out W).mono ?_
  rintro v w1 ⟨rfl, hb1⟩
  have HO1 := Lib.hid (HO.out.keep hb1)
  have HB1 := Lib.hid (HB.out.trans (hb1.mono HB.out.size))
  clear hb1 HO HB HF
  by_cases hE : E = 0
  case neg =>
    have hne : (E != 0) = true := by simp [hE]
    have HV3 := Lib.hid (show V = E by rw [HV2.out]; simp [hE])
    clear hE HV2
    go_wp2_with fail
    go_ret
    exact ⟨by rw [HV3.out] <;> rfl, HB1.out⟩
  case pos =>
  subst hE
  go_wp2_with ((with_reducible refine bl_load ?_ 25 (.tmp 1) ?_ w.heap.size 0 (opc o) ?_ ?_ Tryz.underlying25 ?_ ?_ ?_); rfl; rfl; rfl; exact HO1.out.all; rfl; exact infoO _; simp only [Act.put, List.setIfInBounds_toArray, List.set_cons_zero, List.set_cons_succ])
  refine (HH.out w1).mono ?_
  rintro v w2 ⟨rfl, hb2⟩
  have HB2 := Lib.hid (HB1.out.trans (hb2.mono HB1.out.size))
  clear hb2 HO1 HB1 HH
  cases P with
  | false =>
    have HV3 := Lib.hid (show V = 5 by rw [HV2.out]; simp)
    clear HV2
    go_wp2_with fail
    go_ret
    exact ⟨by rw [HV3.out] <;> rfl, HB2.out⟩
  | true =>
    have HV3 := Lib.hid (show V = 0 by rw [HV2.out]; simp)
    clear HV2
    go_wp2_with fail
    go_ret
    exact ⟨by rw [HV3.out] <;> rfl, HB2.out⟩
end Go.Proofs.YtmnblpjdiplioaaGreat
