/-
  delta.Put.
-/
import Derived.Test.YtkodololdjainaaGreatDlChk
import Derived.Test.YtkodololdjainaaGreatFactPut
import Derived.Test.YtkodololdjainaaGreatDotPut
namespace Go.Proofs.YtkodololdjainaaGreat
set_option linter.unusedSimpArgs false
set_option linter.unusedVariables false
set_option maxRecDepth 100000
open Go.RowKit Go.Sort

/-- the head's numbers -/
def numsE (e : Dl) : List Nat := [e.d.1.toNat, e.d.2.toNat, e.s.t.toNat, e.s.c.toNat]
theorem numsE_small {e : Dl} (h1 : chkD e.d = 0) (h2 : chkS e.s = 0) : ∀ n ∈ numsE e, n ≤ 9007199254740992 := by
  have k1 := chkD_ok h1
  have k2 := chkS_ok h2
  intro n hn
  simp only [numsE, List.mem_cons, List.not_mem_nil, or_false] at hn
  omega
theorem numsE_cell {e : Dl} (h1 : chkD e.d = 0) (h2 : chkS e.s = 0) (W : World) : ∀ j, j < 4 → (W.alloc (.cells #[.int .i64 e.d.1, .int .i64 e.d.2, .int .i64 e.s.t, .int .i64 e.s.c] 3)).cell? ⟨W.heap.size, j, none⟩ = some (.int .i64 (((numsE e).getD j 0 : Nat) : Int)) := by
  have k1 := chkD_ok h1
  have k2 := chkS_ok h2
  intro j hj
  rw [Joins.cell_of_block (heap_alloc_new W _)]
  unfold numsE
  match j, hj with
  | 0, _ => simp; omega
  | 1, _ => simp; omega
  | 2, _ => simp; omega
  | 3, _ => simp; omega
theorem numsE_row {e : Dl} (h1 : chkD e.d = 0) (h2 : chkS e.s = 0) (W : World) : IntRow (W.alloc (.cells #[.int .i64 e.d.1, .int .i64 e.d.2, .int .i64 e.s.t, .int .i64 e.s.c] 3)) (some ⟨W.heap.size, 0, none⟩) (numsE e) :=
  .inr ⟨W.heap.size, rfl, by simp, fun j hj => numsE_cell h1 h2 W j hj⟩
theorem two_row (W : World) (a b : ByteArray) : StrRow (W.alloc (.cells #[.string a, .string b] 9)) (some ⟨W.heap.size, 0, none⟩) [a, b] := by
  refine .inr ⟨W.heap.size, 0, rfl, by simp, fun j hj => ?_⟩
  rw [Nat.zero_add, Joins.cell_of_block (heap_alloc_new W _)]
  match j, hj with
  | 0, _ => rfl
  | 1, _ => rfl
  | j + 2, hj => simp at hj; omega
theorem encDl_parts (e : Dl) : (⟨(encN (numsE e)).toArray⟩ : ByteArray) ++ ⟨(encXs [factB rdM e, goneB e]).toArray⟩ = ⟨(encDl rdM e).toArray⟩ := by
  rw [append_str]
  simp [encN, encXs, encDl, numsE]

set_option maxHeartbeats 8000000 in
theorem putDlC (e : Dl) (la : Option Addr) (lk : Nat) (ga : Option Addr) (gk : Nat) (w : World) (h : DlMem w e la ga) (ht : TextOk e) :
    Calls Tryz.prog 7 #[.agg (dlc e la lk ga gk)] w fun v w' => v = .returned (.tuple #[.string (putDl rdM e).1, .int .i64 (putDl rdM e).2]) ∧ Go.RowKit.Below w.heap.size w w' := by
  have hb0 := lowA w (.cells (dlc e la lk ga gk) 29)
  have HK := Lib.hid (Blk.new w 29 (dlc e la lk ga gk))
  have HM := Lib.hid (h.below hb0)
  have HB := Lib.hid hb0
  have HC := Lib.hid (fun W (hW : DlMem W e la ga) => chkDC e la lk ga gk W hW)
  have hput := putDl_text ht
  by_cases hz : chkDm e = 0
  · obtain ⟨k1, k2, -, -, -, -, -, -, -⟩ := chkDl_ok (rd := rdM) hz
    obtain ⟨pf, pd⟩ := putDl_ok (rd := rdM) hz
    have hp := fun W (hW : DlMem W e la ga) => putFC e.l la lk W hW.fin hW.flen' hW.val
    rw [pf] at hp
    have hg := fun W (hW : DlMem W e la ga) => putDC e.g ga gk W hW.din hW.glen'
    rw [pd] at hg
    have HP := Lib.hid hp
    have HG := Lib.hid hg
    have hlay := fun g W hW => layI (some ⟨g, 0, none⟩) 4 (numsE e) W hW (by simp [numsE]) (numsE_small k1 k2)
    have hlax := fun g W hW => layX (some ⟨g, 0, none⟩) 2 [factB rdM e, goneB e] W hW (by simp) (by simp; exact ht)
    have hl4 : (numsE e).length = 4 := rfl
    have hl2 : [factB rdM e, goneB e].length = 2 := rfl
    rw [hl4] at hlay
    rw [hl2] at hlax
    have HLAY := Lib.hid hlay
    have HLAX := Lib.hid hlax
    have HNR := Lib.hid (fun W => numsE_row k1 k2 W)
    have HTR := Lib.hid (fun W => two_row W (factB rdM e) (goneB e))
    have HE := Lib.hid (encDl_parts e)
    have hz1 := encN_len (numsE e) (numsE_small k1 k2)
    have hz2 := encXs_len [factB rdM e, goneB e] (by simp; exact ht)
    have hs1 : (⟨(encN (numsE e)).toArray⟩ : ByteArray).size ≤ 40 := by simpa [ByteArray.size, hl4] using hz1
    have hs2 : (⟨(encXs [factB rdM e, goneB e]).toArray⟩ : ByteArray).size ≤ 131092 := by simpa [ByteArray.size] using hz2
    rw [if_neg (by simp [hz])] at hput
    have HPUT := Lib.hid hput
    rw [hz] at HC
    clear hb0 h ht hput hz k1 k2 pf pd hp hg hlay hlax hl4 hl2 hz1 hz2
    generalize (⟨(encN (numsE e)).toArray⟩ : ByteArray) = X1 at *
    generalize (⟨(encXs [factB rdM e, goneB e]).toArray⟩ : ByteArray) = X2 at *
    generalize numsE e = ns at *
    generalize factB rdM e = T1 at *
    generalize goneB e = T2 at *
    go_enter Tryz.func7, Tryz.ntmps7
    go_upto_region 1 with fail
    change Code.wp _ _ _ _ (w.alloc (.cells (dlc e la lk ga gk) 29))
    generalize w.alloc (.cells (dlc e la lk ga gk) 29) = W at *
    go_wp2_with ((with_reducible refine bl_load ?_ 29 (.tmp 1) ?_ w.heap.size 0 (dlc e la lk ga gk) ?_ ?_ Tryz.underlying29 ?_ ?_ ?_); rfl; rfl; rfl; exact HK.out.all; rfl; exact infoD _ _ _ _ _; simp only [Act.put, List.setIfInBounds_toArray, List.set_cons_zero, List.set_cons_succ])
    refine (HC.out W HM.out).mono ?_
    rintro v w1 ⟨rfl, hb1⟩
    have HK1 := Lib.hid (HK.out.keep hb1)
    have HM1 := Lib.hid (HM.out.below hb1)
    have HB1 := Lib.hid (HB.out.trans (hb1.mono HB.out.size))
    clear hb1 HK HB HM HC
    have c0 : w1.cell? ⟨w.heap.size, 0, none⟩ = some (.int .i64 e.d.1) := HK1.out.cell rfl
    have c1 : w1.cell? ⟨w.heap.size, 1, none⟩ = some (.int .i64 e.d.2) := HK1.out.cell rfl
    have c2 : w1.cell? ⟨w.heap.size, 2, none⟩ = some (.int .i64 e.s.t) := HK1.out.cell rfl
    have c3 : w1.cell? ⟨w.heap.size, 3, none⟩ = some (.int .i64 e.s.c) := HK1.out.cell rfl
    go_wp2_with fail
    refine (HLAY.out w1.heap.size _ (HNR.out w1)).mono ?_
    rintro v w2 ⟨rfl, hb2⟩
    have hb2 := (lowA w1 _).trans (hb2.mono (lowA w1 _).size)
    have HK2 := Lib.hid (HK1.out.keep hb2)
    have HM2 := Lib.hid (HM1.out.below hb2)
    have HB2 := Lib.hid (HB1.out.trans (hb2.mono HB1.out.size))
    clear hb2 HK1 HB1 HM1 HLAY HNR c0 c1 c2 c3
    have c5 : w2.cell? ⟨w.heap.size, 5, none⟩ = some (.slice la e.l.length lk) := HK2.out.cell rfl
    go_wp2_with fail
    refine (HP.out w2 HM2.out).mono ?_
    rintro v w3 ⟨rfl, hb3⟩
    have HK3 := Lib.hid (HK2.out.keep hb3)
    have HM3 := Lib.hid (HM2.out.below hb3)
    have HB3 := Lib.hid (HB2.out.trans (hb3.mono HB2.out.size))
    clear hb3 HK2 HB2 HM2 HP c5
    have c6 : w3.cell? ⟨w.heap.size, 6, none⟩ = some (.slice ga e.g.length gk) := HK3.out.cell rfl
    go_wp2_with fail
    refine (HG.out w3 HM3.out).mono ?_
    rintro v w4 ⟨rfl, hb4⟩
    have HB4 := Lib.hid (HB3.out.trans (hb4.mono HB3.out.size))
    clear hb4 HK3 HB3 HM3 HG c6
    go_wp2_with fail
    refine (HLAX.out w4.heap.size _ (HTR.out w4)).mono ?_
    rintro v w5 ⟨rfl, hb5⟩
    have hb5 := (lowA w4 _).trans (hb5.mono (lowA w4 _).size)
    have HB5 := Lib.hid (HB4.out.trans (hb5.mono HB4.out.size))
    clear hb5 HB4 HLAX HTR
    go_wp2_with fail
    go_ret2
    exact ⟨by rw [HPUT.out, HE.out]; rfl, HB5.out⟩
  · have hne : (chkDm e != 0) = true := by simp [hz]
    rw [if_pos hz] at hput
    have HPUT := Lib.hid hput
    clear hb0 h ht hput hz
    generalize chkDm e = E at *
    go_enter Tryz.func7, Tryz.ntmps7
    go_upto_region 1 with fail
    change Code.wp _ _ _ _ (w.alloc (.cells (dlc e la lk ga gk) 29))
    generalize w.alloc (.cells (dlc e la lk ga gk) 29) = W at *
    go_wp2_with ((with_reducible refine bl_load ?_ 29 (.tmp 1) ?_ w.heap.size 0 (dlc e la lk ga gk) ?_ ?_ Tryz.underlying29 ?_ ?_ ?_); rfl; rfl; rfl; exact HK.out.all; rfl; exact infoD _ _ _ _ _; simp only [Act.put, List.setIfInBounds_toArray, List.set_cons_zero, List.set_cons_succ])
    refine (HC.out W HM.out).mono ?_
    rintro v w1 ⟨rfl, hb1⟩
    have HB1 := Lib.hid (HB.out.trans (hb1.mono HB.out.size))
    clear hb1 HK HB HM HC
    go_wp2_with fail
    go_ret2
    exact ⟨by rw [HPUT.out]; rfl, HB1.out⟩
end Go.Proofs.YtkodololdjainaaGreat
