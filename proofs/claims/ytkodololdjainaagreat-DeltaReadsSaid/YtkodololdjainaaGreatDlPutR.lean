/-
  The document's Put of an update.
-/
import Derived.Test.YtkodololdjainaaGreatDlChkR
import Derived.Test.YtkodololdjainaaGreatDlPut
import Derived.Test.YtkodololdjainaaGreatFactPutR
namespace Go.Proofs.YtkodololdjainaaGreat
set_option linter.unusedSimpArgs false
set_option linter.unusedVariables false
set_option maxRecDepth 100000
open Go.RowKit Go.Sort

set_option maxHeartbeats 8000000 in
theorem putDlR (e : Dl) (la : Option Addr) (lk : Nat) (ga : Option Addr) (gk : Nat) (w : World) (h : DlMem w e la ga) (ht : TextOk e) :
    Calls Tryz.prog 8 #[.agg (dlc e la lk ga gk)] w fun v w' => v = .returned (.tuple #[.string (putDl rdM e).1, .int .i64 (putDl rdM e).2]) ∧ Go.RowKit.Below w.heap.size w w' := by
  have hb0 := lowA w (.cells (dlc e la lk ga gk) 29)
  have HK := Lib.hid (Blk.new w 29 (dlc e la lk ga gk))
  have HM := Lib.hid (h.below hb0)
  have HB := Lib.hid hb0
  have HC := Lib.hid (fun W (hW : DlMem W e la ga) => chkDR e la lk ga gk W hW)
  have hput := putDl_text ht
  by_cases hz : chkDm e = 0
  · obtain ⟨k1, k2, -, -, -, -, -, -, -⟩ := chkDl_ok (rd := rdM) hz
    obtain ⟨pf, pd⟩ := putDl_ok (rd := rdM) hz
    have hp := fun W (hW : DlMem W e la ga) => putFR e.l la lk W hW.fin hW.flen' hW.val
    rw [pf] at hp
    have hg := fun W (hW : DlMem W e la ga) => putDR e.g ga gk W hW.din hW.glen'
    rw [pd] at hg
    have HP := Lib.hid hp
    have HG := Lib.hid hg
    have hT1 := fun W => reftext_ok (factB rdM e) ht.1 W
    have hT2 := fun W => reftext_ok (goneB e) ht.2 W
    have hx1 : Lib.uvarint (factB rdM e).size ++ (factB rdM e).data.toList = encX (factB rdM e) := rfl
    have hx2 : Lib.uvarint (goneB e).size ++ (goneB e).data.toList = encX (goneB e) := rfl
    rw [hx1] at hT1
    rw [hx2] at hT2
    have hz1 := encX_len (factB rdM e) ht.1
    have hz2 := encX_len (goneB e) ht.2
    have hs1 : (⟨(encX (factB rdM e)).toArray⟩ : ByteArray).size ≤ 65546 := by simpa [ByteArray.size] using hz1
    have hs2 : (⟨(encX (goneB e)).toArray⟩ : ByteArray).size ≤ 65546 := by simpa [ByteArray.size] using hz2
    have he : (⟨(encN (numsE e)).toArray⟩ : ByteArray) ++ ⟨(encX (factB rdM e)).toArray⟩ ++ ⟨(encX (goneB e)).toArray⟩ = ⟨(encDl rdM e).toArray⟩ := by
      rw [append_str, append_str]
      simp [encN, encDl, numsE]
    have hsm : ∀ k, k < 4 → (numsE e).getD k 0 ≤ 9007199254740992 := fun k hk => by
      have hkl : k < (numsE e).length := hk
      rw [List.getD_eq_getElem?_getD, List.getElem?_eq_getElem hkl]
      exact numsE_small k1 k2 _ (List.getElem_mem hkl)
    have hle : ∀ k, k ≤ 4 → (⟨(encN ((numsE e).take k)).toArray⟩ : ByteArray).size ≤ 40 := fun k hk => by
      have h := encN_len ((numsE e).take k) (fun n hn => numsE_small k1 k2 n (List.mem_of_mem_take hn))
      rw [List.length_take] at h
      simp only [ByteArray.size, List.size_toArray]
      omega
    have HNL := Lib.hid (show (numsE e).length = 4 from rfl)
    have HNC := Lib.hid (fun W => numsE_cell k1 k2 W)
    have HE := Lib.hid he
    have HSM := Lib.hid hsm
    have HLE := Lib.hid hle
    have HT1 := Lib.hid hT1
    have HT2 := Lib.hid hT2
    rw [if_neg (by simp [hz])] at hput
    have HPUT := Lib.hid hput
    rw [hz] at HC
    clear hb0 h ht hput hz k1 k2 pf pd hp hg hT1 hT2 hx1 hx2 hz1 hz2 he hsm hle
    generalize (⟨(encX (factB rdM e)).toArray⟩ : ByteArray) = E1 at *
    generalize (⟨(encX (goneB e)).toArray⟩ : ByteArray) = E2 at *
    generalize numsE e = ns at *
    generalize factB rdM e = T1 at *
    generalize goneB e = T2 at *
    go_enter Tryz.func8, Tryz.ntmps8
    go_upto_region 1 with fail
    change Code.wp _ _ _ _ (w.alloc (.cells (dlc e la lk ga gk) 29))
    generalize w.alloc (.cells (dlc e la lk ga gk) 29) = W at *
    go_wp2_with ((with_reducible refine bl_load ?_ 29 (.tmp 1) ?_ w.heap.size 0 (dlc e la lk ga gk) ?_ ?_ Tryz.underlying29 ?_ ?_ ?_); rfl; rfl; rfl; exact HK.out.all; rfl; exact infoD _ _ _ _ _; simp only [Act.put, List.setIfInBounds_toArray, List.set_cons_zero, List.set_cons_succ])
    refine (HC.out W HM.out).mono ?_
    rintro v w1 ⟨rfl, hb1⟩
    have HK1 := Lib.hid (HK.out.keep hb1)
    have HM1 := Lib.hid (HM.out.below hb1)
    have HB1 := Lib.hid (HB.out.trans (hb1.mono HB.out.size))
    clear hb1 HK HB HM HC
    have c0 : w1.cell? ⟨w.heap.size, 0, none⟩ = some (.int .i64 e.d.1) := HK1.out.cell rfl
    have c1 : w1.cell? ⟨w.heap.size, 1, none⟩ = some (.int .i64 e.d.2) := HK1.out.cell rfl
    have c2 : w1.cell? ⟨w.heap.size, 2, none⟩ = some (.int .i64 e.s.t) := HK1.out.cell rfl
    have c3 : w1.cell? ⟨w.heap.size, 3, none⟩ = some (.int .i64 e.s.c) := HK1.out.cell rfl
    go_upto_region 6 with fail
    have hl1 := lowA w1 (.cells #[.int .i64 e.d.1, .int .i64 e.d.2, .int .i64 e.s.t, .int .i64 e.s.c] 3)
    have HROW := Lib.hid (HNC.out w1)
    have HK2 := Lib.hid (HK1.out.keep hl1)
    have HM2 := Lib.hid (HM1.out.below hl1)
    have HB2 := Lib.hid (HB1.out.trans (hl1.mono HB1.out.size))
    have HSZ := Lib.hid (show w1.heap.size < (w1.alloc (.cells #[.int .i64 e.d.1, .int .i64 e.d.2, .int .i64 e.s.t, .int .i64 e.s.c] 3)).heap.size by simp)
    clear hl1 HK1 HM1 HB1 HNC c0 c1 c2 c3
    generalize w1.alloc (.cells #[.int .i64 e.d.1, .int .i64 e.d.2, .int .i64 e.s.t, .int .i64 e.s.c] 3) = W2 at *
    generalize w1.heap.size = g at *
    go_wp2_with fail
    go_loopw [5, 7] (fun s i wr => ∃ k : Nat, k ≤ 4 ∧ i = .int .i64 k ∧ s = .string ⟨(encN (ns.take k)).toArray⟩ ∧ Hid (Go.RowKit.Below W2.heap.size W2 wr)) (fun _ i _ => 4 - (intOf i).toNat)
    case atStart => exact ⟨0, by omega, rfl, by simp [encN], Lib.hid (Below.refl _ _)⟩
    case round =>
      obtain ⟨k, hk, rfl, rfl, HBR⟩ := hrel
      by_cases hlt : k < 4
      · have hi1 : (k : Int) < (4 : Int) := by omega
        have hlw := HSZ.out
        have hcell : wr.cell? ⟨g, k, none⟩ = some (.int .i64 ((ns.getD k 0 : Nat) : Int)) := by rw [HBR.out.cell (p := ⟨g, k, none⟩) hlw]; exact HROW.out k hlt
        have HN := Lib.hid (fun W => refnum_ok (ns.getD k 0) (HSM.out k hlt) W)
        have hE := encN_snoc ns (k := k) (by rw [HNL.out]; exact hlt)
        have hul := Lib.uvarint_length64 (x := ns.getD k 0) (by have := HSM.out k hlt; omega)
        have hfin : (⟨(encN (ns.take k)).toArray⟩ : ByteArray) ++ ⟨(Lib.uvarint (ns.getD k 0)).toArray⟩ = ⟨(encN (ns.take (k + 1))).toArray⟩ := by rw [append_str, hE]
        have HF := Lib.hid hfin
        have zA := HLE.out k hk
        have zB : (⟨(Lib.uvarint (ns.getD k 0)).toArray⟩ : ByteArray).size ≤ 10 := by simpa [ByteArray.size] using hul
        clear hE hfin hul hlw
        generalize ns.getD k 0 = x at *
        generalize (⟨(encN (ns.take k)).toArray⟩ : ByteArray) = X1 at *
        generalize (⟨(Lib.uvarint x).toArray⟩ : ByteArray) = X2 at *
        go_wp2_with fail
        refine (HN.out _).mono ?_
        rintro v w2 ⟨rfl, hb2⟩
        have HB2 := Lib.hid (HBR.out.trans (hb2.mono HBR.out.size))
        clear hb2 hcell
        go_wp2_with fail
        go_roundw
        case rel => exact ⟨k + 1, by omega, by go_num, by rw [HF.out], HB2⟩
        case measure => simp [intOf]; omega
      · obtain rfl : k = 4 := by omega
        have HK3 := Lib.hid (HK2.out.keep HBR.out)
        have HM3 := Lib.hid (HM2.out.below HBR.out)
        have HB3 := Lib.hid (HB2.out.trans (HBR.out.mono HB2.out.size))
        have e4 : ns.take 4 = ns := by rw [← HNL.out, List.take_length]
        have zA := HLE.out 4 (by omega)
        rw [e4] at zA
        rw [e4]
        have c5 : wr.cell? ⟨w.heap.size, 5, none⟩ = some (.slice la e.l.length lk) := HK3.out.cell rfl
        clear e4 hk
        generalize (⟨(encN ns).toArray⟩ : ByteArray) = X1 at *
        go_wp2_with fail
        refine (HP.out wr HM3.out).mono ?_
        rintro v w3 ⟨rfl, hb3⟩
        have HK4 := Lib.hid (HK3.out.keep hb3)
        have HM4 := Lib.hid (HM3.out.below hb3)
        have HB4 := Lib.hid (HB3.out.trans (hb3.mono HB3.out.size))
        have c6 : w3.cell? ⟨w.heap.size, 6, none⟩ = some (.slice ga e.g.length gk) := HK4.out.cell rfl
        clear hb3 HK3 HM3 HB3 HP c5
        go_wp2_with fail
        refine (HG.out w3 HM4.out).mono ?_
        rintro v w4 ⟨rfl, hb4⟩
        have HB5 := Lib.hid (HB4.out.trans (hb4.mono HB4.out.size))
        clear hb4 HK4 HM4 HB4 HG c6
        go_wp2_with fail
        refine (HT1.out w4).mono ?_
        rintro v w5 ⟨rfl, hb5⟩
        have HB6 := Lib.hid (HB5.out.trans (hb5.mono HB5.out.size))
        clear hb5 HB5 HT1
        go_wp2_with fail
        refine (HT2.out w5).mono ?_
        rintro v w6 ⟨rfl, hb6⟩
        have HB7 := Lib.hid (HB6.out.trans (hb6.mono HB6.out.size))
        have zC : (X1 ++ E1).size ≤ 65586 := by rw [ByteArray.size_append]; omega
        clear hb6 HB6 HT2
        go_wp2_with fail
        go_ret2
        exact ⟨by rw [HPUT.out, HE.out]; rfl, HB7.out⟩
  · have hne : (chkDm e != 0) = true := by simp [hz]
    rw [if_pos hz] at hput
    have HPUT := Lib.hid hput
    clear hb0 h ht hput hz
    generalize chkDm e = E at *
    go_enter Tryz.func8, Tryz.ntmps8
    go_upto_region 1 with fail
    change Code.wp _ _ _ _ (w.alloc (.cells (dlc e la lk ga gk) 29))
    generalize w.alloc (.cells (dlc e la lk ga gk) 29) = W at *
    go_wp2_with ((with_reducible refine bl_load ?_ 29 (.tmp 1) ?_ w.heap.size 0 (dlc e la lk ga gk) ?_ ?_ Tryz.underlying29 ?_ ?_ ?_); rfl; rfl; rfl; exact HK.out.all; rfl; exact infoD _ _ _ _ _; simp only [Act.put, List.setIfInBounds_toArray, List.set_cons_zero, List.set_cons_succ])
    refine (HC.out W HM.out).mono ?_
    rintro v w1 ⟨rfl, hb1⟩
    have HB1 := Lib.hid (HB.out.trans (hb1.mono HB.out.size))
    clear hb1 HK HB HM HC
    go_wp2_with fail
    go_ret2
    exact ⟨by rw [HPUT.out]; rfl, HB1.out⟩
end Go.Proofs.YtkodololdjainaaGreat
