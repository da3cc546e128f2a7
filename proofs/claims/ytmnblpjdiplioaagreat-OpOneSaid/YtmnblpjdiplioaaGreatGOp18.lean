/-
  slices.Index, slices.Contains of texts; op, the program's: mayTag, May.
  The document's Read; float.Put and the document's Put: what each call answers.
-/
import Derived.Test.YtmnblpjdiplioaaGreatGOp16
import Derived.Test.YtmnblpjdiplioaaGreatGOp17
import Derived.Test.YtmnblpjdiplioaaGreatGOp13
import Derived.Test.YtmnblpjdiplioaaGreatGOp12
import Derived.Deep.AppendLies
import Derived.Laws.OwnMore
namespace Go.Proofs.YtmnblpjdiplioaaGreat
set_option linter.unusedSimpArgs false
set_option linter.unusedVariables false
set_option maxRecDepth 100000
open Go.RowKit Go.Sort

set_option maxHeartbeats 4000000 in
theorem indexT (t : List ByteArray) (s : ByteArray) (a : Option Addr) (cap : Nat) (w : World) (h : StrRow w a t) (hl : t.length ≤ maxLen) :
    Calls Tryz.prog 81 #[.slice a t.length cap, .string s] w fun v w' => (∃ r : Int, v = .returned (.int .i64 r) ∧ decide ((0 : Int) ≤ r) = t.any (fun x => decide (x = s))) ∧ w = w' := by
  have H := Lib.hid h
  unfold maxLen at hl
  clear h
  go_enter Tryz.func81, Tryz.ntmps81
  go_wp2_with fail
  go_loopw [5, 8] (fun _ i wr => ∃ k : Nat, k ≤ t.length ∧ i = .int .i64 k ∧ Hid (∀ j, j < k → t.getD j ByteArray.empty ≠ s) ∧ w = wr) (fun _ i _ => t.length - (intOf i).toNat)
  case atStart => exact ⟨0, Nat.zero_le _, rfl, Lib.hid (fun j hj => by omega), rfl⟩
  case round =>
    obtain ⟨k, hk, rfl, HK, rfl⟩ := hrel
    by_cases hlt : k < t.length
    · have hi1 : (k : Int) < (t.length : Int) := by omega
      obtain ⟨b, off, rfl, hbl, c0⟩ : ∃ b off, a = some ⟨b, off, none⟩ ∧ b < w.heap.size ∧ w.cell? ⟨b, off + k, none⟩ = some (.string (t.getD k ByteArray.empty)) := by
        rcases H.out with h | ⟨b, off, h1, h2, h3⟩
        · rw [h] at hlt; simp at hlt
        · exact ⟨b, off, h1, h2, h3 k hlt⟩
      have hx := ostr_eq s (t.getD k ByteArray.empty)
      have hm : t.getD k ByteArray.empty ∈ t := by rw [List.getD_eq_getElem?_getD, List.getElem?_eq_getElem hlt]; exact List.getElem_mem hlt
      by_cases he : s = t.getD k ByteArray.empty
      · have hd : decide (s = t.getD k ByteArray.empty) = true := decide_eq_true he
        rw [hd] at hx
        have HV := Lib.hid (show decide ((0 : Int) ≤ (k : Int)) = t.any (fun x => decide (x = s)) from by
          rw [decide_eq_true (by omega), eq_comm]
          exact List.any_eq_true.2 ⟨_, hm, decide_eq_true he.symm⟩)
        generalize t.getD k ByteArray.empty = y at *
        clear he hd hm HK
        go_wp2_with fail
        go_ret
        exact ⟨⟨_, rfl, HV.out⟩, rfl⟩
      · have hd : decide (s = t.getD k ByteArray.empty) = false := decide_eq_false he
        rw [hd] at hx
        have HK2 := Lib.hid (show ∀ j, j < k + 1 → t.getD j ByteArray.empty ≠ s from fun j hj => by
          rcases Nat.lt_or_ge j k with g1 | g1
          · exact HK.out j g1
          · obtain rfl : j = k := by omega
            exact fun e => he e.symm)
        generalize t.getD k ByteArray.empty = y at hx c0
        clear he hd hm HK
        go_wp2_with fail
        exact ⟨⟨k + 1, by omega, by go_num, HK2, trivial⟩, by simp [intOf]; omega⟩
    · have hi1 : ¬ (k : Int) < (t.length : Int) := by omega
      have HV := Lib.hid (show decide ((0 : Int) ≤ -1) = t.any (fun x => decide (x = s)) from by
        rw [decide_eq_false (by omega), eq_comm, List.any_eq_false]
        intro x hx
        obtain ⟨j, hj, rfl⟩ := List.mem_iff_getElem.1 hx
        have := HK.out j (by omega)
        rw [List.getD_eq_getElem?_getD, List.getElem?_eq_getElem hj] at this
        simpa using this)
      clear HK
      go_wp2_with fail
      go_ret
      exact ⟨⟨_, rfl, HV.out⟩, rfl⟩

theorem containsT (t : List ByteArray) (s : ByteArray) (a : Option Addr) (cap : Nat) (w : World) (h : StrRow w a t) (hl : t.length ≤ maxLen) :
    Calls Tryz.prog 53 #[.slice a t.length cap, .string s] w fun v w' => v = .returned (.bool (t.any (fun x => decide (x = s)))) ∧ w = w' := by
  have H := Lib.hid (indexT t s a cap w h hl)
  clear h
  generalize t.any (fun x => decide (x = s)) = B at *
  go_enter Tryz.func53, Tryz.ntmps53
  go_wp2_with fail
  refine H.out.mono ?_
  rintro x y ⟨⟨r, rfl, hr⟩, rfl⟩
  go_wp2_with fail
  go_ret
  exact ⟨rfl, rfl⟩

set_option maxHeartbeats 8000000 in
theorem mayTagC (l : List Ft) (a : Option Addr) (cap : Nat) (o : Opp) (w : World) (hf : FIn w a l) (hl : l.length ≤ 60) (h1 : 1 ≤ o.k) (h6 : o.k ≤ 6) :
    Calls Tryz.prog 31 #[.slice a l.length cap, .agg (opc o)] w fun v w' => v = .returned (.int .i64 (if o.k = 3 ∧ tagO l o = false then 7 else 0)) ∧ Go.RowKit.Below w.heap.size w w' := by
  have hb0 := lowA w (.cells (opc o) 25)
  have HO := Lib.hid (Blk.new w 25 (opc o))
  have HB := Lib.hid hb0
  have HI := Lib.hid (hf.below hb0)
  have H3 := Lib.hid (fun W hW => ofC l 3 o.n a cap W hW (by omega))
  have HTG := Lib.hid (fun t (h : ElemsR (ofR 3 o.n l) t) => tagO_elems (l := l) (o := o) h)
  have hm3 : (ofR 3 o.n l).length ≤ l.length := List.length_filter_le _ _
  have HV := Lib.hid (rfl : (if o.k = 3 ∧ tagO l o = false then (7 : Int) else 0) = (if o.k = 3 ∧ tagO l o = false then (7 : Int) else 0))
  have hk := kinds6 h1 h6
  clear hb0 hf h1 h6
  generalize hVV : (if o.k = 3 ∧ tagO l o = false then (7 : Int) else 0) = V at HV ⊢
  clear HV
  have HV := Lib.hid hVV
  clear hVV
  generalize tagO l o = tg at *
  generalize ofR 3 o.n l = F3 at *
  obtain ⟨k, n, v, p, b⟩ := o
  simp only at hk HV HO HB HI H3 HTG
  rcases hk with rfl | rfl | rfl | rfl | rfl | rfl
  · go_enter Tryz.func31, Tryz.ntmps31
    go_upto_region 1 with fail
    change Code.wp _ _ _ _ (w.alloc (.cells (opc ⟨1, n, v, p, b⟩) 25))
    generalize w.alloc (.cells (opc ⟨1, n, v, p, b⟩) 25) = W at *
    have c0 : W.cell? ⟨w.heap.size, 0, none⟩ = some (.int .i64 1) := HO.out.cell rfl
    have HV2 := Lib.hid (show V = 0 by rw [← HV.out]; simp)
    clear HV
    go_wp2_with fail
    go_ret
    exact ⟨by rw [HV2.out] <;> rfl, HB.out⟩
  · go_enter Tryz.func31, Tryz.ntmps31
    go_upto_region 1 with fail
    change Code.wp _ _ _ _ (w.alloc (.cells (opc ⟨2, n, v, p, b⟩) 25))
    generalize w.alloc (.cells (opc ⟨2, n, v, p, b⟩) 25) = W at *
    have c0 : W.cell? ⟨w.heap.size, 0, none⟩ = some (.int .i64 2) := HO.out.cell rfl
    have c1 : W.cell? ⟨w.heap.size, 1, none⟩ = some (.string n) := HO.out.cell rfl
    go_wp2_with fail
    refine (H3.out W HI.out).mono ?_
    rintro x w3 ⟨v3, rfl, hown, hb3⟩
    obtain ⟨a3, k3, rfl, hfin, -⟩ := hown.fin
    have HO3 := Lib.hid (HO.out.keep hb3)
    have HB3 := Lib.hid (HB.out.trans (hb3.mono HB.out.size))
    have HE3 := Lib.hid (elemsC F3 a3 k3 w3 hfin (by omega))
    clear hb3 hown hfin HO HB HI H3 c0 c1
    go_wp2_with fail
    refine HE3.out.mono ?_
    rintro x w4 ⟨g4, t, rfl, hrow, hel, hlen, hb4⟩
    have HO4 := Lib.hid (HO3.out.keep hb4)
    have HB4 := Lib.hid (HB3.out.trans (hb4.mono HB3.out.size))
    have HC := Lib.hid (containsT t v (some ⟨g4, 0, none⟩) F3.length w4 hrow (by unfold maxLen; omega))
    have htg := HTG.out t hel
    have hd64 : decide ((64 : Int) ≤ (t.length : Int)) = false := by simp; omega
    have HTT := Lib.hid htg
    clear hb4 HO3 HB3 HE3 HTG hrow hel htg hlen hm3
    have c0 : w4.cell? ⟨w.heap.size, 0, none⟩ = some (.int .i64 2) := HO4.out.cell rfl
    have c2 : w4.cell? ⟨w.heap.size, 2, none⟩ = some (.string v) := HO4.out.cell rfl
    clear HO4
    go_wp2_with fail
    refine HC.out.mono ?_
    rintro x w5 ⟨rfl, rfl⟩
    rw [← HTT.out]
    clear HTT HC
    cases tg with
    | false =>
      have HV2 := Lib.hid (show V = 0 by rw [← HV.out]; simp)
      clear HV
      go_wp2_with fail
      go_ret
      exact ⟨by rw [HV2.out] <;> rfl, HB4.out⟩
    | true =>
      have HV2 := Lib.hid (show V = 0 by rw [← HV.out]; simp)
      clear HV
      go_wp2_with fail
      go_ret
      exact ⟨by rw [HV2.out] <;> rfl, HB4.out⟩
  · go_enter Tryz.func31, Tryz.ntmps31
    go_upto_region 1 with fail
    change Code.wp _ _ _ _ (w.alloc (.cells (opc ⟨3, n, v, p, b⟩) 25))
    generalize w.alloc (.cells (opc ⟨3, n, v, p, b⟩) 25) = W at *
    have c0 : W.cell? ⟨w.heap.size, 0, none⟩ = some (.int .i64 3) := HO.out.cell rfl
    have c1 : W.cell? ⟨w.heap.size, 1, none⟩ = some (.string n) := HO.out.cell rfl
    go_wp2_with fail
    refine (H3.out W HI.out).mono ?_
    rintro x w3 ⟨v3, rfl, hown, hb3⟩
    obtain ⟨a3, k3, rfl, hfin, -⟩ := hown.fin
    have HO3 := Lib.hid (HO.out.keep hb3)
    have HB3 := Lib.hid (HB.out.trans (hb3.mono HB.out.size))
    have HE3 := Lib.hid (elemsC F3 a3 k3 w3 hfin (by omega))
    clear hb3 hown hfin HO HB HI H3 c0 c1
    go_wp2_with fail
    refine HE3.out.mono ?_
    rintro x w4 ⟨g4, t, rfl, hrow, hel, hlen, hb4⟩
    have HO4 := Lib.hid (HO3.out.keep hb4)
    have HB4 := Lib.hid (HB3.out.trans (hb4.mono HB3.out.size))
    have HC := Lib.hid (containsT t v (some ⟨g4, 0, none⟩) F3.length w4 hrow (by unfold maxLen; omega))
    have htg := HTG.out t hel
    have hd64 : decide ((64 : Int) ≤ (t.length : Int)) = false := by simp; omega
    have HTT := Lib.hid htg
    clear hb4 HO3 HB3 HE3 HTG hrow hel htg hlen hm3
    have c0 : w4.cell? ⟨w.heap.size, 0, none⟩ = some (.int .i64 3) := HO4.out.cell rfl
    have c2 : w4.cell? ⟨w.heap.size, 2, none⟩ = some (.string v) := HO4.out.cell rfl
    clear HO4
    go_wp2_with fail
    refine HC.out.mono ?_
    rintro x w5 ⟨rfl, rfl⟩
    rw [← HTT.out]
    clear HTT HC
    cases tg with
    | false =>
      have HV2 := Lib.hid (show V = 7 by rw [← HV.out]; simp)
      clear HV
      go_wp2_with fail
      go_ret
      exact ⟨by rw [HV2.out] <;> rfl, HB4.out⟩
    | true =>
      have HV2 := Lib.hid (show V = 0 by rw [← HV.out]; simp)
      clear HV
      go_wp2_with fail
      go_ret
      exact ⟨by rw [HV2.out] <;> rfl, HB4.out⟩
  · go_enter Tryz.func31, Tryz.ntmps31
    go_upto_region 1 with fail
    change Code.wp _ _ _ _ (w.alloc (.cells (opc ⟨4, n, v, p, b⟩) 25))
    generalize w.alloc (.cells (opc ⟨4, n, v, p, b⟩) 25) = W at *
    have c0 : W.cell? ⟨w.heap.size, 0, none⟩ = some (.int .i64 4) := HO.out.cell rfl
    have HV2 := Lib.hid (show V = 0 by rw [← HV.out]; simp)
    clear HV
    go_wp2_with fail
    go_ret
    exact ⟨by rw [HV2.out] <;> rfl, HB.out⟩
  · go_enter Tryz.func31, Tryz.ntmps31
    go_upto_region 1 with fail
    change Code.wp _ _ _ _ (w.alloc (.cells (opc ⟨5, n, v, p, b⟩) 25))
    generalize w.alloc (.cells (opc ⟨5, n, v, p, b⟩) 25) = W at *
    have c0 : W.cell? ⟨w.heap.size, 0, none⟩ = some (.int .i64 5) := HO.out.cell rfl
    have HV2 := Lib.hid (show V = 0 by rw [← HV.out]; simp)
    clear HV
    go_wp2_with fail
    go_ret
    exact ⟨by rw [HV2.out] <;> rfl, HB.out⟩
  · go_enter Tryz.func31, Tryz.ntmps31
    go_upto_region 1 with fail
    change Code.wp _ _ _ _ (w.alloc (.cells (opc ⟨6, n, v, p, b⟩) 25))
    generalize w.alloc (.cells (opc ⟨6, n, v, p, b⟩) 25) = W at *
    have c0 : W.cell? ⟨w.heap.size, 0, none⟩ = some (.int .i64 6) := HO.out.cell rfl
    have HV2 := Lib.hid (show V = 0 by rw [← HV.out]; simp)
    clear HV
    go_wp2_with fail
    go_ret
    exact ⟨by rw [HV2.out] <;> rfl, HB.out⟩

set_option maxHeartbeats 16000000 in
theorem opMayC (l : List Ft) (a : Option Addr) (cap : Nat) (o : Opp) (w : World) (hf : FIn w a l) (hl : l.length ≤ 60) (ho : OpArg o) :
    Calls Tryz.prog 12 #[.slice a l.length cap, .agg (opc o)] w fun v w' => v = .returned (.int .i64 (mayO l o 0)) ∧ Go.RowKit.Below w.heap.size w w' := by
  have hb0 := lowA w (.cells (opc o) 25)
  have HO := Lib.hid (Blk.new w 25 (opc o))
  have HB := Lib.hid hb0
  have HI := Lib.hid (hf.below hb0)
  have HC := Lib.hid (fun W => opCheckC o ho W)
  have HV := Lib.hid (mayO_zero l o)
  have H1 := Lib.hid (fun W hW => ofC l 1 o.n a cap W hW (by omega))
  have HTH := Lib.hid (thereO_of l o)
  have HOK := Lib.hid (fun h : chkO o = 0 => chkO_ok h)
  have HMT := Lib.hid (fun W (hW : FIn W a l) h1 h6 => mayTagC l a cap o W hW hl h1 h6)
  clear hb0 hf ho
  generalize mayO l o 0 = V at *
  generalize chkO o = E at *
  generalize thereO l o = th at *
  generalize ofR 1 o.n l = F1 at *
  generalize tagO l o = tg at *
  go_enter Tryz.func12, Tryz.ntmps12
  go_upto_region 1 with fail
  change Code.wp _ _ _ _ (w.alloc (.cells (opc o) 25))
  generalize w.alloc (.cells (opc o) 25) = W at *
  go_wp2_with ((with_reducible refine bl_load ?_ 25 (.tmp 3) ?_ w.heap.size 0 (opc o) ?_ ?_ Tryz.underlying25 ?_ ?_ ?_); rfl; rfl; rfl; exact HO.out.all; rfl; exact infoO _; simp only [Act.put, List.setIfInBounds_toArray, List.set_cons_zero, List.set_cons_succ])
  refine (HC.out W).mono ?_
  rintro v w1 ⟨rfl, hb1⟩
  have HO1 := Lib.hid (HO.out.keep hb1)
  have HB1 := Lib.hid (HB.out.trans (hb1.mono HB.out.size))
  have HI1 := Lib.hid (HI.out.below hb1)
  clear hb1 HO HB HI HC
  by_cases hE : E = 0
  case neg =>
    have hne : (E != 0) = true := by simp [hE]
    have HV2 := Lib.hid (show V = E by rw [HV.out]; simp [hE])
    clear hE HOK HV
    go_wp2_with fail
    go_ret
    exact ⟨by rw [HV2.out] <;> rfl, HB1.out⟩
  case pos =>
  have hkk := HOK.out hE
  have hk1 := hkk.1
  have hk6 := hkk.2.1
  subst hE
  clear HOK hkk
  have c1 : w1.cell? ⟨w.heap.size, 1, none⟩ = some (.string o.n) := HO1.out.cell rfl
  go_wp2_with fail
  refine (H1.out w1 HI1.out).mono ?_
  rintro v w2 ⟨v2, rfl, hown, hb2⟩
  obtain ⟨a2, k2, rfl, -, -⟩ := hown.fin
  have HO2 := Lib.hid (HO1.out.keep hb2)
  have HB2 := Lib.hid (HB1.out.trans (hb2.mono HB1.out.size))
  have HI2 := Lib.hid (HI1.out.below hb2)
  have HM2 := Lib.hid (HMT.out w2 HI2.out hk1 hk6)
  clear hb2 hown HO1 HB1 HI1 H1 c1 HMT
  have hth : decide (0 < F1.length) = th := HTH.out.symm
  clear HTH
  have c0 : w2.cell? ⟨w.heap.size, 0, none⟩ = some (.int .i64 o.k) := HO2.out.cell rfl
  by_cases hk : o.k = 1
  · have g1 : (o.k == 1) = true := by simp [hk]
    have g2 : (o.k != 1) = false := by simp [hk]
    cases th with
    | true =>
      have HV2 := Lib.hid (show V = 8 by rw [HV.out]; simp [hk])
      clear HV hk hk1 hk6
      go_wp2_with fail
      go_ret
      exact ⟨by rw [HV2.out] <;> rfl, HB2.out⟩
    | false =>
      have HV2 := Lib.hid (show V = (if o.k = 3 ∧ tg = false then 7 else 0) by rw [HV.out]; simp [hk])
      generalize (if o.k = 3 ∧ tg = false then (7 : Int) else 0) = X at HV2 HM2
      clear HV hk hk1 hk6
      go_wp2_with ((with_reducible refine bl_load ?_ 25 (.tmp 3) ?_ w.heap.size 0 (opc o) ?_ ?_ Tryz.underlying25 ?_ ?_ ?_); rfl; rfl; rfl; exact HO2.out.all; rfl; exact infoO _; simp only [Act.put, List.setIfInBounds_toArray, List.set_cons_zero, List.set_cons_succ])
      refine HM2.out.mono ?_
      rintro v w3 ⟨rfl, hb3⟩
      have HB3 := Lib.hid (HB2.out.trans (hb3.mono HB2.out.size))
      clear hb3
      go_wp2_with fail
      go_ret
      exact ⟨by rw [HV2.out] <;> rfl, HB3.out⟩
  · have g1 : (o.k == 1) = false := by simp [hk]
    have g2 : (o.k != 1) = true := by simp [hk]
    cases th with
    | false =>
      have HV2 := Lib.hid (show V = 7 by rw [HV.out]; simp [hk])
      clear HV hk hk1 hk6
      go_wp2_with fail
      go_ret
      exact ⟨by rw [HV2.out] <;> rfl, HB2.out⟩
    | true =>
      have HV2 := Lib.hid (show V = (if o.k = 3 ∧ tg = false then 7 else 0) by rw [HV.out]; simp [hk])
      generalize (if o.k = 3 ∧ tg = false then (7 : Int) else 0) = X at HV2 HM2
      clear HV hk hk1 hk6
      go_wp2_with ((with_reducible refine bl_load ?_ 25 (.tmp 3) ?_ w.heap.size 0 (opc o) ?_ ?_ Tryz.underlying25 ?_ ?_ ?_); rfl; rfl; rfl; exact HO2.out.all; rfl; exact infoO _; simp only [Act.put, List.setIfInBounds_toArray, List.set_cons_zero, List.set_cons_succ])
      refine HM2.out.mono ?_
      rintro v w3 ⟨rfl, hb3⟩
      have HB3 := Lib.hid (HB2.out.trans (hb3.mono HB2.out.size))
      clear hb3
      go_wp2_with fail
      go_ret
      exact ⟨by rw [HV2.out] <;> rfl, HB3.out⟩
end Go.Proofs.YtmnblpjdiplioaaGreat

namespace Go.Proofs.YtmnblpjdiplioaaGreat
open Go.RowKit

attribute [local go_sem] fbits ffrom ffromN fneq feql

theorem byteCells_at (l : List UInt8) (k a : Nat) (ha : a < 256) : (Lib.byteCells l).set k (.int .u8 (a : Int)) = Lib.byteCells (l.set k (UInt8.ofNat a)) := by
  unfold Lib.byteCells
  rw [List.map_set]
  congr 2
  have : (UInt8.ofNat a).toNat = a := by simp; omega
  rw [this]

set_option maxHeartbeats 1000000 in
set_option maxRecDepth 100000 in
theorem flPutR (b : Nat) (w : World) : Calls Tryz.prog 60 #[.float .f64 b] w fun e w' => e = .returned (.string (putS b)) ∧ Below w.heap.size w w' := by
  obtain ⟨i0, hi, hz0, hz1, hz2⟩ := info_parts bytesInfo
  have hp : putS b = ⟨(beL (cln b) 8).toArray⟩ := by unfold putS flPutB; rfl
  rw [hp]
  have hbt := fun W => bitsR b W
  clear hp
  generalize cln b = x at hbt ⊢
  go_enter Tryz.func60, Tryz.ntmps60
  go_wp2
  go_loopw [3, 4] (fun v i wr => ∃ (k : Nat) (pre : List UInt8), k ≤ 8 ∧ i = .int .i64 ((k : Int) - 1) ∧ pre ++ beL x k = beL x 8 ∧ pre.length + k ≤ 80 ∧ OwnB w.heap.size v pre wr ∧ Below w.heap.size w wr) (fun _ i _ => (intOf i + 1).toNat)
  case atStart => exact ⟨8, [], by omega, rfl, rfl, by simp, ownB_nil _ _, Below.refl _ _⟩
  case round =>
    obtain ⟨k, pre, hk, rfl, hpre, hlp, hown, hb⟩ := hrel
    have HPRE := Lib.hid hpre
    have HB := Lib.hid hb
    have hbs := hb.size
    clear hpre hb
    cases k with
    | zero =>
      have hconv := own_text hown
      go_wp2
      go_ret
      have h := HPRE.out
      rw [beL_zero, List.append_nil] at h
      rw [h]
      exact ⟨rfl, HB.out⟩
    | succ k =>
      have e8 : ((k + 1 : Nat) : Int) - 1 = (k : Int) := by omega
      rw [e8]
      clear e8
      go_wp2_with fail
      refine (hbt _).mono ?_
      rintro e w1 ⟨rfl, rfl⟩
      go_wp2_with (at_builtin; refine wpList_append_own _ rfl _ _ 111 rfl w.heap.size 5 i0 (.int .u8 0) 1 1 Tryz.underlying111 hi hz0 hz1 hz2 rfl (by decide) _ _ _ rfl (hown.alloc _) ⟨wr.heap.size, 0, none⟩ 1 1 [Value.int .u8 ((x : Int) / 2 ^ (8 * k) % 256)] rfl rfl ?c1 ?c2 ?c3 ?c4 ?c5 ?_)
      case c1 =>
        intro j u hj
        match j, hj with
        | 0, hj => simp at hj; subst hj; simp [Addr.add]
      case c2 => intro u hu; simp at hu; subst hu; rfl
      case c3 => unfold maxLen; omega
      case c4 => omega
      case c5 => simp; omega
      intro v' w1 hown' hgrow _
      have hb1 : Below w.heap.size w w1 := (HB.out.alloc (by omega) _).grown hgrow (by simp; omega) (fun j hj => (hown.lt j hj).1)
      have hown2 := ownB_more (a := x / 2 ^ (8 * k) % 256) (by omega) (by simp) hown'
      have hpre2 := HPRE.out
      rw [beL_succ, List.append_cons, ← ofNat_mod256] at hpre2
      have HP2 := Lib.hid hpre2
      have HO2 := Lib.hid hown2
      have HB1 := Lib.hid hb1
      clear hpre2 hown2 hb1 hown' hgrow
      go_wp2
      exact ⟨⟨k, _, by omega, by go_num, HP2.out, by simp; omega, HO2.out, HB1.out⟩, by simp [intOf]⟩

set_option maxHeartbeats 1000000 in
set_option maxRecDepth 100000 in
theorem flPutC (b : Nat) (w : World) : Calls Tryz.prog 56 #[.float .f64 b] w fun e w' => e = .returned (.string (putS b)) ∧ Below w.heap.size w w' := by
  obtain ⟨i0, hi, hz0, hz1, hz2⟩ := info_parts bytesInfo
  have hp : putS b = ⟨(beL (cln b) 8).toArray⟩ := by unfold putS flPutB; rfl
  rw [hp]
  have hbt := fun W => flCleanC b W
  clear hp
  generalize cln b = x at hbt ⊢
  have hmk := make_bytes 8 8 8 8 (by omega) (by omega) (by omega) (by omega) w
  have hown0 : OwnB w.heap.size (.slice (some ⟨w.heap.size, 0, none⟩) 8 8) (putRowF x 0) (w.alloc (.cells (List.replicate 8 (Value.int .u8 0)).toArray 5)) := by
    unfold OwnB
    rw [putRowF_len, putRowF_zero]
    have h := World.ownsRow_lit (base := w.heap.size) (e := 5) (size := 1) w (List.replicate 8 (Value.int .u8 0)).toArray 8 (Nat.le_refl _) (by unfold maxLen; omega) (by simp)
    have e : Lib.byteCells (List.replicate 8 (0 : UInt8)) = (List.replicate 8 (Value.int .u8 0)) := by simp [Lib.byteCells]
    rw [e]
    simpa using h
  have HO := Lib.hid hown0
  clear hown0
  go_enter Tryz.func56, Tryz.ntmps56
  go_wp2_with fail
  refine (hbt _).mono ?_
  rintro e w1 ⟨rfl, rfl⟩
  go_wp2
  go_loopw [5, 12] (fun _ i wr => ∃ k : Nat, k ≤ 8 ∧ i = .int .i64 (k : Int) ∧ OwnB w.heap.size (.slice (some ⟨w.heap.size, 0, none⟩) 8 8) (putRowF x k) wr ∧ Below w.heap.size w wr) (fun _ i _ => 8 - (intOf i).toNat)
  case atStart => exact ⟨0, by omega, rfl, HO.out, (Below.refl _ _).alloc (Nat.le_refl _) _⟩
  case round =>
    obtain ⟨k, hk, rfl, hown, hb⟩ := hrel
    by_cases hlt : k < 8
    · obtain ⟨m, hm⟩ : ∃ m : Nat, (7 : Int) - (k : Int) = (m : Int) := ⟨7 - k, by omega⟩
      have hm7 : m = 7 - k := by omega
      have hset := putRowF_set x k hlt
      rw [← hm7, ← ofNat_mod256] at hset
      have hrow : wr.ownsRow w.heap.size 5 1 (.slice (some ⟨w.heap.size, 0, none⟩) 8 8) 8 (Lib.byteCells (putRowF x k)) := by
        have h := hown; unfold OwnB at h; rw [putRowF_len] at h; exact h
      have hfz : wr.frozen? ⟨w.heap.size, k, none⟩ = false := World.ownsRow.frozenAt hrow k
      have hcell := World.ownsRow.cellAt hrow k (by omega)
      have hst := (World.ownsRow.stored hrow k (.int .u8 ((x / 2 ^ (8 * m) % 256 : Nat) : Int))).1
      rw [byteCells_at _ _ _ (by omega), hset, show (((x / 2 ^ (8 * m) % 256 : Nat)) : Int) = (x : Int) / 2 ^ (8 * m) % 256 by simp] at hst
      have hcl : ∃ u : Int, (Lib.byteCells (putRowF x k))[k]? = some (.int .u8 u) := by
        have hl : k < (Lib.byteCells (putRowF x k)).length := by simp [Lib.byteCells, putRowF_len]; omega
        refine ⟨_, by rw [List.getElem?_eq_getElem hl]; simp [Lib.byteCells]; rfl⟩
      obtain ⟨u, hu⟩ := hcl
      rw [hu] at hcell
      have hge : (0 : Int) ≤ 8 * (m : Int) := by omega
      have hbs := hb.size
      have HST := Lib.hid hst
      have HB := Lib.hid hb
      clear hst hb hu hrow hset hown hm7 HO hmk
      go_wp2
      exact ⟨⟨k + 1, by omega, by go_num, by unfold OwnB; rw [putRowF_len]; exact HST.out, HB.out.setCell (Nat.le_refl _) _⟩, by simp [intOf]; omega⟩
    · obtain rfl : k = 8 := by omega
      have hconv := own_text (by have h := hown; unfold OwnB at h ⊢; rw [putRowF_len] at h ⊢; exact h)
      rw [putRowF_all] at hconv
      have HB := Lib.hid hb
      clear hb hown
      go_wp2
      go_ret
      exact ⟨rfl, HB.out⟩
end Go.Proofs.YtmnblpjdiplioaaGreat
