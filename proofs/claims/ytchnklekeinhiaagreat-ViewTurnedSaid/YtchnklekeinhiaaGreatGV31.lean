/-
  The document's Read; float.Put and the document's Put: what each call answers.
  Rows of facts, of names, of a call's own: kept where a block ahead of them is written; read.
  view, the document's: Entry.
-/
import Derived.Test.YtchnklekeinhiaaGreatGV28
import Derived.Deep.AppendLies
import Derived.Laws.OwnMore
import Derived.Test.YtchnklekeinhiaaGreatGV11
import Derived.Test.YtchnklekeinhiaaGreatGV10
import Derived.Test.YtchnklekeinhiaaGreatGV18
import Derived.Test.YtchnklekeinhiaaGreatGV26
import Derived.Test.YtchnklekeinhiaaGreatGV30
import Derived.Test.YtchnklekeinhiaaGreatGV25
namespace Go.Proofs.YtchnklekeinhiaaGreat
set_option maxRecDepth 100000
open Go.RowKit

attribute [local go_sem] fbits ffrom ffromN fneq feql

set_option maxHeartbeats 1000000 in
set_option maxRecDepth 100000 in
theorem flReadR (s : ByteArray) (w : World) (hs : s.size ≤ maxLen) :
    Calls Tryz.prog 32 #[.string s] w fun e w' => e = .returned (.tuple #[.float .f64 (rdB s.data.toList), .int .i64 (rdN s.data.toList)]) ∧ w = w' := by
  unfold maxLen at hs
  have hsl : s.data.toList.length = s.size := by simp
  by_cases h1 : s.size < 8
  · obtain ⟨e1, e2⟩ := rd_short (l := s.data.toList) (by omega)
    rw [e1, e2]
    clear e1 e2 hsl
    go_enter Tryz.func32, Tryz.ntmps32
    go_wp2
    go_ret2
    exact ⟨rfl, rfl⟩
  · obtain ⟨t, ht, htl⟩ : ∃ t : ByteArray, t.size = 8 ∧ t.data.toList = s.data.toList.take 8 :=
      ⟨⟨(s.data.toList.take 8).toArray⟩, by show (s.data.toList.take 8).toArray.size = 8; simp; omega, rfl⟩
    have hnr : ∀ k, k ≤ 8 → t.data.toList.take k = s.data.toList.take k := by
      intro k hk; rw [htl, List.take_take, Nat.min_eq_left hk]
    have h1' : 8 ≤ s.size := by omega
    go_enter Tryz.func32, Tryz.ntmps32
    go_wp2
    go_loop [4, 5] (fun r i => ∃ k : Nat, k ≤ 8 ∧ i = .int .i64 k ∧ r = .int .u64 (nrL (s.data.toList.take k) : Nat)) (fun _ i => 8 - (intOf i).toNat)
    case atStart => exact ⟨0, by omega, rfl, by rw [List.take_zero, nrL_nil]; rfl⟩
    case round =>
      obtain ⟨k, hk, rfl, rfl⟩ := hrel
      by_cases hlt : k < 8
      · have hst := nr_take s k (by omega)
        have hix := fun W => index_str s k (by omega) W
        have hlow : nrL (s.data.toList.take k) < 72057594037927936 := by
          rw [← hnr k (by omega)]; exact nr_low t k hlt ht
        generalize nrL (s.data.toList.take k) = r at hst hlow ⊢
        have hc := s[k].toNat_lt
        generalize s[k].toNat = c at hst hix hc
        have hwr : IntKind.u64.wrap ((r : Int) * 256) = (r : Int) * 256 := by simp [IntKind.wrap, IntKind.bits, IntKind.signed]; omega
        have hmd : IntKind.u64.wrap ((r : Int) * 256 + (c : Int)) = ((r * 256 + c : Nat) : Int) := by simp [IntKind.wrap, IntKind.bits, IntKind.signed]; omega
        have HS := Lib.hid hst
        have HL := Lib.hid hlow
        have HT := Lib.hid htl
        have HN := Lib.hid hnr
        clear hst hlow htl hnr hsl
        generalize r * 256 + c = r' at hmd HS
        go_wp2
        exact ⟨⟨k + 1, by omega, by go_num, by rw [HS.out]⟩, by simp [intOf]; omega⟩
      · obtain rfl : k = 8 := by omega
        have hlt : nrL (s.data.toList.take 8) < 18446744073709551616 := by
          rw [← htl]; exact nrL8_lt (by simp; omega)
        by_cases h2 : 8 < s.size
        · obtain ⟨e1, e2⟩ := rd_long (l := s.data.toList) (by omega)
          have E1 := Lib.hid e1
          have E2 := Lib.hid e2
          clear e1 e2 hlt hsl hnr htl
          generalize nrL (s.data.toList.take 8) = z
          go_wp2
          go_ret2
          exact ⟨by rw [E1.out, E2.out]; rfl, rfl⟩
        · have hl8 : s.data.toList.length = 8 := by omega
          rw [List.take_of_length_le (by omega)] at hlt ⊢
          have hbt := fun W => bitsR (nrL s.data.toList) W
          by_cases hg : cln (nrL s.data.toList) = nrL s.data.toList
          · obtain ⟨e1, e2⟩ := rd_good hl8 hg
            rw [hg] at hbt
            generalize nrL s.data.toList = z at hbt e1 ⊢
            have hne : ((z : Int) != (z : Int)) = false := by simp
            have E1 := Lib.hid e1
            have E2 := Lib.hid e2
            have hle : s.size ≤ 8 := by omega
            clear e1 e2 hlt hg hnr htl hl8 hsl h2
            go_wp2_with fail
            refine (hbt _).mono ?_
            rintro e w1 ⟨rfl, rfl⟩
            go_wp2
            go_ret2
            exact ⟨by rw [E1.out, E2.out]; rfl, rfl⟩
          · obtain ⟨e1, e2⟩ := rd_bad hl8 hg
            generalize cln (nrL s.data.toList) = q at hbt hg
            generalize nrL s.data.toList = z at hbt hg ⊢
            have hne : ((q : Int) != (z : Int)) = true := by simp; omega
            have E1 := Lib.hid e1
            have E2 := Lib.hid e2
            have hle : s.size ≤ 8 := by omega
            clear e1 e2 hlt hnr htl hl8 hsl h2 hg
            go_wp2_with fail
            refine (hbt _).mono ?_
            rintro e w1 ⟨rfl, rfl⟩
            go_wp2
            go_ret2
            exact ⟨by rw [E1.out, E2.out]; rfl, rfl⟩

end Go.Proofs.YtchnklekeinhiaaGreat

namespace Go.Proofs.YtchnklekeinhiaaGreat
set_option linter.unusedSimpArgs false
set_option linter.unusedVariables false
set_option maxRecDepth 100000
open Go.RowKit Go.Sort

theorem OwnD.din1 {B n c : Nat} {a : Option Addr} {l : List Dt} {w : World} (h : OwnD B (.slice a n c) l w) : DIn w a l := by
  obtain ⟨a', c', he, hf, -⟩ := h.din
  injection he with h1 h2 h3
  rw [h1]; exact hf
end Go.Proofs.YtchnklekeinhiaaGreat

namespace Go.Proofs.YtchnklekeinhiaaGreat
set_option linter.unusedSimpArgs false
set_option linter.unusedVariables false
set_option maxRecDepth 100000
open Go.RowKit Go.Sort

set_option maxHeartbeats 32000000 in
theorem entryR (l : List Ft) (a : Option Addr) (cap : Nat) (n : ByteArray) (w : World) (hf : FIn w a l) (hl : l.length ≤ 40) (hv : ∀ f ∈ l, f.v.size ≤ 5000) :
    Calls Tryz.prog 8 #[.slice a l.length cap, .string n] w fun v w' => (∃ r, v = .returned (.tuple #[.agg (ecs r).toArray, .int .i64 (entE l n)]) ∧ EnMem w' w.heap.size r ∧ EntA l n r.e) ∧ Go.RowKit.Below w.heap.size w w' := by
  have hb0 := lowA w (.cells (ecs zER).toArray 31)
  have HRS := Lib.hid (show EBlk (w.alloc (.cells (ecs zER).toArray 31)) w.heap.size zER from Blk.new w 31 (ecs zER).toArray)
  have HB := Lib.hid hb0
  have HI := Lib.hid (fun W (hb : Go.RowKit.Below w.heap.size w W) => hf.below hb)
  have HOF := Lib.hid (fun k W (hb : Go.RowKit.Below w.heap.size w W) => rofC l k n a cap W (hf.below hb) (by omega))
  have HOL := Lib.hid (fun k => (show (ofR k n l).length ≤ 40 from Nat.le_trans (List.length_filter_le _ _) hl))
  have HOV := Lib.hid (fun k f (h : f ∈ ofR k n l) => hv f (List.mem_filter.1 h).1)
  clear hb0 hf
  go_enter Tryz.func8, Tryz.ntmps8
  go_upto_region 1 with fail
  change Code.wp _ _ _ _ (w.alloc (.cells (ecs zER).toArray 31))
  generalize w.alloc (.cells (ecs zER).toArray 31) = W at *
  go_wp2_with fail
  refine (HOF.out 1 W HB.out).mono ?_
  rintro v w1 ⟨v1, rfl, hown, hb1⟩
  obtain ⟨ba, bk, rfl, hfin, -⟩ := hown.fin
  have HB1 := Lib.hid (HB.out.trans (hb1.mono HB.out.size))
  have HRS1 := Lib.hid (HRS.out.keep hb1)
  have HBF := Lib.hid hfin
  have HL1 := Lib.hid (HOL.out 1)
  have HV1 := Lib.hid (HOV.out 1)
  clear hown hb1 hfin HB HRS
  have HEN : Hid (entE l n = if ofR 1 n l = [] then 7 else 0) := Lib.hid rfl
  have HEA : Hid (∀ e, EntA l n e ↔ ((ofR 1 n l = [] ∧ e = zEn) ∨ (ofR 1 n l ≠ [] ∧ EntR l n e))) := Lib.hid (fun e => Iff.rfl)
  have HER : Hid (∀ e : Ent, e.n = n → (∃ v, LastV (ofR 1 n l) v ∧ e.m = (readM v).1) → LastV (ofR 2 n l) e.lb → ElemsR (ofR 3 n l) e.tg → (∃ el, ElemsR (ofR 4 n l) el ∧ IsSort (numsV el) e.kp) → e.ds = sortD ((ofR 1 n l).map (·.d)) → EntR l n e) := Lib.hid (fun e h1 h2 h3 h4 h5 h6 => ⟨h1, h2, h3, h4, h5, h6⟩)
  generalize hB1e : ofR 1 n l = B1 at *
  clear hB1e
  by_cases h0 : B1.length = 0
  · have hnil : B1 = [] := List.length_eq_zero_iff.1 h0
    have g0 : ((B1.length : Int) == 0) = true := by simp [h0]
    have HE := Lib.hid (show entE l n = 7 by rw [HEN.out, if_pos hnil])
    have HA := Lib.hid (show EntA l n zEn from (HEA.out zEn).2 (.inl ⟨hnil, rfl⟩))
    have HP := Lib.hid (Blk.put HRS1.out (ecs zER).toArray)
    have HBP := Lib.hid (belowRow' HB1.out (Nat.le_refl _) (ecs zER).toArray)
    clear hnil h0
    go_wp2_with ((with_reducible refine bl_store ?_ 31 (.tmp 4) (.tmp 27) ?_ w.heap.size (ecs zER).toArray ?_ ?_ ?_ ?_ ?_ ?_); rfl; rfl; rfl; rfl; exact ⟨_, HRS1.out, rfl⟩; exact infoEn _; exact en_one _; simp only [Act.put, List.setIfInBounds_toArray, List.set_cons_zero, List.set_cons_succ])
    refine bodyPost_ret (retEn rfl _ _ w.heap.size zER _ rfl rfl HP.out) rfl ?_
    exact ⟨⟨zER, by rw [HE.out]; rfl, enMem_zero _ _, HA.out⟩, HBP.out⟩
  have g0 : ((B1.length : Int) == 0) = false := by simp [h0]
  have HE := Lib.hid (show entE l n = 0 by rw [HEN.out, if_neg (fun h => h0 (by rw [h]; rfl))])
  have HA := Lib.hid (fun e h => show EntA l n e from (HEA.out e).2 (.inr ⟨fun h => h0 (by rw [h]; rfl), h⟩))
  have HZ := Lib.hid (Blk.new w1 31 (ecs zER).toArray)
  have hb2 := belowRow' (lowA w1 (.cells (ecs zER).toArray 31)) (Nat.le_refl _) (ecs ⟨⟨n, ⟨0, 0, []⟩, ByteArray.empty, [], [], []⟩, none, 0, none, 0, none, 0, none, 0⟩).toArray
  have K2 : Hid (EnK w w1.heap.size ⟨⟨n, ⟨0, 0, []⟩, ByteArray.empty, [], [], []⟩, none, 0, none, 0, none, 0, none, 0⟩ ((w1.alloc (.cells (ecs zER).toArray 31)).setRow w1.heap.size (ecs ⟨⟨n, ⟨0, 0, []⟩, ByteArray.empty, [], [], []⟩, none, 0, none, 0, none, 0, none, 0⟩).toArray)) :=
    Lib.hid ⟨HRS1.out.keep hb2, HZ.out.put _, HB1.out.trans (hb2.mono HB1.out.size), HRS1.out.lt⟩
  have HBF2 := Lib.hid (fun U (h : Go.RowKit.Below ((w1.alloc (.cells (ecs zER).toArray 31)).setRow w1.heap.size (ecs ⟨⟨n, ⟨0, 0, []⟩, ByteArray.empty, [], [], []⟩, none, 0, none, 0, none, 0, none, 0⟩).toArray).heap.size ((w1.alloc (.cells (ecs zER).toArray 31)).setRow w1.heap.size (ecs ⟨⟨n, ⟨0, 0, []⟩, ByteArray.empty, [], [], []⟩, none, 0, none, 0, none, 0, none, 0⟩).toArray) U) => (HBF.out.below hb2).below h)
  have HBG := Lib.hid (fun U (h : Go.RowKit.Below w1.heap.size w1 U) => HBF.out.below h)
  have HB2 := Lib.hid hb2
  clear hb2 HRS1 h0 HEN HEA HBF2
  go_upto_region 5 with ((with_reducible refine bl_store ?_ 31 (.tmp 7) (.tmp 29) ?_ w1.heap.size (ecs ⟨⟨n, ⟨0, 0, []⟩, ByteArray.empty, [], [], []⟩, none, 0, none, 0, none, 0, none, 0⟩).toArray ?_ ?_ ?_ ?_ ?_ ?_); rfl; rfl; rfl; rfl; exact ⟨_, HZ.out, rfl⟩; exact infoEn _; exact en_one _; simp only [Act.put, List.setIfInBounds_toArray, List.set_cons_zero, List.set_cons_succ])
  change Code.wp _ _ _ _ ((w1.alloc (.cells (ecs zER).toArray 31)).setRow w1.heap.size (ecs ⟨⟨n, ⟨0, 0, []⟩, ByteArray.empty, [], [], []⟩, none, 0, none, 0, none, 0, none, 0⟩).toArray)
  clear HZ
  generalize (w1.alloc (.cells (ecs zER).toArray 31)).setRow w1.heap.size (ecs ⟨⟨n, ⟨0, 0, []⟩, ByteArray.empty, [], [], []⟩, none, 0, none, 0, none, 0, none, 0⟩).toArray = W2 at *
  generalize hge : w1.heap.size = g at *
  have HLB := Lib.hid (rlastC B1 ba bk W2 (HBG.out W2 HB2.out) (by have := HL1.out; omega))
  go_wp2_with fail
  refine HLB.out.mono ?_
  rintro v w3 ⟨sb, rfl, hord, hb3⟩
  have HLV := Lib.hid (show LastV B1 (lastR sb).1 from ⟨sb, hord, rfl⟩)
  have hsz := lastR_small hord HV1.out
  have K3 := Lib.hid (K2.out.below hb3)
  have HB3 := Lib.hid (HB2.out.trans (hb3.mono (by have h1 := HB2.out.size; omega)))
  clear hord hb3 K2 HLB HB2
  generalize lastR sb = LB at *
  obtain ⟨lv, lbb⟩ := LB
  simp only at hsz HLV
  have HRD := Lib.hid (readMR lv (by omega) (rMan_short hsz) w3)
  have HM := Lib.hid (show ∃ v, LastV B1 v ∧ (readM lv).1 = (readM v).1 from ⟨lv, HLV.out, rfl⟩)
  clear HLV hsz
  generalize readM lv = RM at *
  obtain ⟨⟨mz, mc, mi⟩, mx⟩ := RM
  unfold mv at HRD
  simp only at HRD HM
  go_wp2_with fail
  refine HRD.out.mono ?_
  rintro v w4 ⟨v4, rfl, hown, hb4⟩
  obtain ⟨ia, ic, rfl, hxf, -, -⟩ := hown.from
  have hla := lowA w4 (.cells #[.int .i64 mz, .int .i64 mc, .slice ia mi.length ic] 27)
  have K4 := Lib.hid ((K3.out.below hb4).below hla)
  have HB4 := Lib.hid ((HB3.out.trans (hb4.mono (by have h1 := HB3.out.size; omega))).trans (hla.mono (by have h1 := HB3.out.size; have h2 := hb4.size; omega)))
  have HX4 := Lib.hid ((hxf.below hla).mono (show g + 1 ≤ w3.heap.size from K3.out.lt))
  have HMB := Lib.hid (Blk.new w4 27 #[.int .i64 mz, .int .i64 mc, .slice ia mi.length ic])
  have HGM := Lib.hid (show g < w4.heap.size by have h1 := K3.out.lt; have h2 := hb4.size; omega)
  clear hown hxf hb4 hla K3 HB3 HRD
  go_upto_region 7 with fail
  change Code.wp _ _ _ _ (w4.alloc (.cells #[.int .i64 mz, .int .i64 mc, .slice ia mi.length ic] 27))
  generalize w4.alloc (.cells #[.int .i64 mz, .int .i64 mc, .slice ia mi.length ic] 27) = W4 at *
  generalize w4.heap.size = mb at *
  go_wp2_with fail
  refine (HOF.out 2 W4 K4.out.low).mono ?_
  rintro v w5 ⟨v5, rfl, hown, hb5⟩
  obtain ⟨a5, k5, rfl, hfin, -⟩ := hown.fin
  have HLL := Lib.hid (rlastC (ofR 2 n l) a5 k5 w5 hfin (by have := HOL.out 2; omega))
  have K5 := Lib.hid (K4.out.below hb5)
  have HB5 := Lib.hid (HB4.out.trans (hb5.mono (by have h1 := HB4.out.size; omega)))
  have HX5 := Lib.hid (HX4.out.below hb5)
  have HMB5 := Lib.hid (HMB.out.keep hb5)
  clear hown hfin hb5 K4 HB4 HX4 HMB
  go_wp2_with fail
  refine HLL.out.mono ?_
  rintro v w6 ⟨sl, rfl, hord, hb6⟩
  have HLV := Lib.hid (show LastV (ofR 2 n l) (lastR sl).1 from ⟨sl, hord, rfl⟩)
  have K6 := Lib.hid (K5.out.below hb6)
  have HB6 := Lib.hid (HB5.out.trans (hb6.mono (by have h1 := HB5.out.size; omega)))
  have HX6 := Lib.hid (HX5.out.below hb6)
  have HMB6 := Lib.hid (HMB5.out.keep hb6)
  clear hord hb6 K5 HB5 HX5 HMB5 HLL
  generalize lastR sl = LL at *
  obtain ⟨lb, lbb2⟩ := LL
  simp only at HLV
  have m0 : w6.cell? ⟨mb, 0, none⟩ = some (.int .i64 mz) := HMB6.out.cell rfl
  have m1 : w6.cell? ⟨mb, 1, none⟩ = some (.int .i64 mc) := HMB6.out.cell rfl
  have m2 : w6.cell? ⟨mb, 2, none⟩ = some (.slice ia mi.length ic) := HMB6.out.cell rfl
  have o1 : w6.cell? ⟨g, 1, none⟩ = some (.int .i64 0) := K6.out.out.cell rfl
  have o2 : w6.cell? ⟨g, 2, none⟩ = some (.int .i64 0) := K6.out.out.cell rfl
  have o3 : w6.cell? ⟨g, 3, none⟩ = some (.slice none 0 0) := K6.out.out.cell rfl
  have o4 : w6.cell? ⟨g, 4, none⟩ = some (.string ByteArray.empty) := K6.out.out.cell rfl
  have f1 : w6.frozen? ⟨g, 1, none⟩ = false := Joins.unfrozen_of_block K6.out.out 1
  have f2 : w6.frozen? ⟨g, 2, none⟩ = false := Joins.unfrozen_of_block K6.out.out 2
  have f3 : w6.frozen? ⟨g, 3, none⟩ = false := Joins.unfrozen_of_block K6.out.out 3
  have f4 : w6.frozen? ⟨g, 4, none⟩ = false := Joins.unfrozen_of_block K6.out.out 4
  have K7 := Lib.hid (K6.out.set3 (K6.out.out.setM ⟨mz, mc, mi⟩ ia ic))
  have K8 := Lib.hid (K7.out.set (K7.out.out.setL lb))
  have HX8 := Lib.hid ((((HX6.out.set (Nat.lt_succ_self g) 1 (.int .i64 mz)).set (Nat.lt_succ_self g) 2 (.int .i64 mc)).set (Nat.lt_succ_self g) 3 (.slice ia mi.length ic)).set (Nat.lt_succ_self g) 4 (.string lb))
  have hge2 : w1.heap.size ≤ g := Nat.le_of_eq hge
  have HB8 := Lib.hid ((((HB6.out.setCell (p := ⟨g, 1, none⟩) (Nat.le_refl _) (.int .i64 mz)).setCell (p := ⟨g, 2, none⟩) (Nat.le_refl _) (.int .i64 mc)).setCell (p := ⟨g, 3, none⟩) (Nat.le_refl _) (.slice ia mi.length ic)).setCell (p := ⟨g, 4, none⟩) (Nat.le_refl _) (.string lb))
  clear HMB6 hge2
  go_upto_region 10 with fail
  change Code.wp _ _ _ _ ((((w6.setCell ⟨g, 1, none⟩ (.int .i64 mz)).setCell ⟨g, 2, none⟩ (.int .i64 mc)).setCell ⟨g, 3, none⟩ (.slice ia mi.length ic)).setCell ⟨g, 4, none⟩ (.string lb))
  clear m0 m1 m2 o1 o2 o3 o4 f1 f2 f3 f4 K6 K7 HX6 HB6
  generalize (((w6.setCell ⟨g, 1, none⟩ (.int .i64 mz)).setCell ⟨g, 2, none⟩ (.int .i64 mc)).setCell ⟨g, 3, none⟩ (.slice ia mi.length ic)).setCell ⟨g, 4, none⟩ (.string lb) = W8 at *
  go_wp2_with fail
  refine (HOF.out 3 W8 K8.out.low).mono ?_
  rintro v w9 ⟨v9, rfl, hown, hb9⟩
  obtain ⟨a9, k9, rfl, hfin, -⟩ := hown.fin
  have HEL := Lib.hid (relemC (ofR 3 n l) a9 k9 w9 hfin (by have := HOL.out 3; omega))
  have K9 := Lib.hid (K8.out.below hb9)
  have HX9 := Lib.hid (HX8.out.below hb9)
  have HB9 := Lib.hid (HB8.out.trans (hb9.mono (by have h1 := HB8.out.size; omega)))
  clear hown hfin hb9 K8 HX8 HB8
  go_wp2_with fail
  refine HEL.out.mono ?_
  rintro v w10 ⟨v10, tg, rfl, hown, hel, hb10⟩
  obtain ⟨ta, tc, rfl, hxf, -, -⟩ := hown.from
  have HTG := Lib.hid hel
  have K10 := Lib.hid (K9.out.below hb10)
  have K11 := Lib.hid (K10.out.set (K10.out.out.setT tg ta tc))
  have HX11 := Lib.hid ((HX9.out.below hb10).set (Nat.lt_succ_self g) 5 (.slice ta tg.length tc))
  have HT11 := Lib.hid ((hxf.mono (show g + 1 ≤ w9.heap.size from K9.out.lt)).set (Nat.lt_succ_self g) 5 (.slice ta tg.length tc))
  have HB11 := Lib.hid ((HB9.out.trans (hb10.mono (by have h1 := HB9.out.size; omega))).setCell (p := ⟨g, 5, none⟩) (Nat.le_refl _) (.slice ta tg.length tc))
  have o5 : w10.cell? ⟨g, 5, none⟩ = some (.slice none 0 0) := K10.out.out.cell rfl
  have f5 : w10.frozen? ⟨g, 5, none⟩ = false := Joins.unfrozen_of_block K10.out.out 5
  clear hown hel hxf hb10 K9 HX9 HB9 HEL K10
  go_upto_region 11 with fail
  clear o5 f5
  generalize w10.setCell ⟨g, 5, none⟩ (.slice ta tg.length tc) = W11 at *
  go_wp2_with fail
  refine (HOF.out 4 W11 K11.out.low).mono ?_
  rintro v w12 ⟨v12, rfl, hown, hb12⟩
  obtain ⟨a12, k12, rfl, hfin, -⟩ := hown.fin
  have HEL := Lib.hid (relemC (ofR 4 n l) a12 k12 w12 hfin (by have := HOL.out 4; omega))
  have K12 := Lib.hid (K11.out.below hb12)
  have HX12 := Lib.hid (HX11.out.below hb12)
  have HT12 := Lib.hid (HT11.out.below hb12)
  have HB12 := Lib.hid (HB11.out.trans (hb12.mono (by have h1 := HB11.out.size; omega)))
  clear hown hfin hb12 K11 HX11 HT11 HB11
  go_wp2_with fail
  refine HEL.out.mono ?_
  rintro v w13 ⟨v13, el, rfl, hown, hel, hb13⟩
  obtain ⟨ea, ec, rfl, hrow, -, -⟩ := hown.fin2
  have hell : el.length ≤ 40 := by have h1 := elems_len hel; have h2 := HOL.out 4; omega
  have HEV := Lib.hid (show ∀ s ∈ el, s.size ≤ 5000 from fun s hs => by
    obtain ⟨f, hf, rfl⟩ := (hel.mem s).1 hs
    exact HOV.out 4 f hf)
  have HKE := Lib.hid hel
  have HRW := Lib.hid hrow
  have K13 := Lib.hid (K12.out.below hb13)
  have HX13 := Lib.hid (HX12.out.below hb13)
  have HT13 := Lib.hid (HT12.out.below hb13)
  have HB13 := Lib.hid (HB12.out.trans (hb13.mono (by have h1 := HB12.out.size; omega)))
  clear hown hel hrow hb13 K12 HX12 HT12 HB12 HEL HOF
  go_wp2_with fail
  go_loopw [15, 16, 17, 18] (fun v i _ _ wr => ∃ k : Nat, k ≤ el.length ∧ i = .int .i64 k ∧ OwnG encFl w13.heap.size v (numsV (el.take k)) wr ∧ Hid (Go.RowKit.Below w13.heap.size w13 wr)) (fun _ i _ _ _ => el.length - (intOf i).toNat)
  case atStart => exact ⟨0, Nat.zero_le _, rfl, by rw [List.take_zero]; exact ownG_nil _ _, Lib.hid (Below.refl _ _)⟩
  case round =>
    obtain ⟨k, hk, rfl, hown, HBr⟩ := hrel
    have HOW := Lib.hid hown
    obtain ⟨xa, xc, rfl, -, -, -⟩ := hown.gin
    have hnl : (numsV (el.take k)).length ≤ 40 := by have h1 := numsV_len (el.take k); rw [List.length_take] at h1; omega
    clear hown
    by_cases hlt : k < el.length
    · have hi1 : (k : Int) < (el.length : Int) := by omega
      obtain ⟨tb, off, rfl, hbl, q0⟩ : ∃ b off, ea = some ⟨b, off, none⟩ ∧ b < wr.heap.size ∧ wr.cell? ⟨b, off + k, none⟩ = some (.string (el.getD k ByteArray.empty)) := by
        rcases HRW.out.below HBr.out with h | ⟨b, off, h1, h2, h3⟩
        · rw [h] at hlt; simp at hlt
        · exact ⟨b, off, h1, h2, h3 k hlt⟩
      have hgd : el.getD k ByteArray.empty = el[k] := by rw [List.getD_eq_getElem?_getD, List.getElem?_eq_getElem hlt]; rfl
      have hys : (el.getD k ByteArray.empty).size ≤ 5000 := by rw [hgd]; exact HEV.out _ (List.getElem_mem hlt)
      have HNX := Lib.hid (show numsV (el.take (k + 1)) = numsV (el.take k) ++ if rdN (el.getD k ByteArray.empty).data.toList = 0 then [rdB (el.getD k ByteArray.empty).data.toList] else [] by rw [List.take_succ_eq_append_getElem hlt, hgd, numsV_snoc])
      have HRD := Lib.hid (flReadR (el.getD k ByteArray.empty) wr (by unfold maxLen; omega))
      generalize el.getD k ByteArray.empty = y at *
      clear hgd hys
      generalize rdN y.data.toList = en at *
      generalize rdB y.data.toList = xb at *
      generalize numsV (el.take k) = xs at *
      go_wp2_with fail
      refine HRD.out.mono ?_
      rintro e w2 ⟨rfl, rfl⟩
      by_cases he : en = 0
      · have g1 : (en == 0) = true := by simp [he]
        rw [if_pos he] at HNX
        have hsl := fun X => build1Fl xb X
        obtain ⟨qa, qc, w3, hr3, ho3, hb3, -, -⟩ := appG (E := encFl) (c := 1) (HOW.out.alloc (.cells #[.float .f64 xb] 55)) (gin_new wr xb) (by have := HBr.out.size; simp; omega) (xs.length + 1) (by simp) (by omega)
        have hr3' : (Builtin.append_ #[28, 28] 28 #[.slice xa xs.length xc, .slice (some ⟨wr.heap.size, 0, none⟩) 1 1]).run Tryz.prog (wr.alloc (.cells #[.float .f64 xb] 55)) = .ok (.slice qa (xs.length + 1) qc) w3 := hr3
        have HN := Lib.hid (show OwnG encFl w13.heap.size (.slice qa (xs.length + 1) qc) (numsV (el.take (k + 1))) w3 by rw [HNX.out]; exact ho3)
        have HB3 := Lib.hid ((HBr.out.alloc HBr.out.size _).trans hb3)
        clear hr3 ho3 hb3 he
        go_wp2_with (at_builtin; refine wpList_append_run rfl _ _ 28 28 rfl (.slice xa xs.length xc) (.slice (some ⟨wr.heap.size, 0, none⟩) 1 1) _ w3 rfl rfl hr3' ?_)
        go_wp2_with fail
        go_roundw
        case rel => exact ⟨k + 1, by omega, by go_num, HN.out, HB3⟩
        case measure => simp [intOf]; omega
      · have g1 : (en == 0) = false := by simp [he]
        rw [if_neg he, List.append_nil] at HNX
        have HN := Lib.hid (show OwnG encFl w13.heap.size (.slice xa xs.length xc) (numsV (el.take (k + 1))) wr by rw [HNX.out]; exact HOW.out)
        clear he
        go_wp2_with fail
        go_roundw
        case rel => exact ⟨k + 1, by omega, by go_num, HN.out, HBr⟩
        case measure => simp [intOf]; omega
    · obtain rfl : k = el.length := by omega
      have hi1 : ¬ (el.length : Int) < (el.length : Int) := by omega
      rw [List.take_length] at HOW hnl
      have HSR := Lib.hid (flSortRN (numsV el) (.slice xa (numsV el).length xc) wr HOW.out.fl.fin numsV_lt (by omega))
      have Kr := Lib.hid (K13.out.below HBr.out)
      have HXr := Lib.hid (HX13.out.below HBr.out)
      have HTr := Lib.hid (HT13.out.below HBr.out)
      have HBz := Lib.hid (HB13.out.trans (HBr.out.mono (by have h1 := HB13.out.size; omega)))
      clear HOW HRW hlt hk K13 HX13 HT13 HB13 HBr HEV
      rw [List.take_length]
      go_wp2_with fail
      refine HSR.out.mono ?_
      rintro v w20 ⟨v20, kp, rfl, his, hff, hb20⟩
      have HKP := Lib.hid (show ∃ el, ElemsR (ofR 4 n l) el ∧ IsSort (numsV el) kp from ⟨el, HKE.out, his⟩)
      obtain ⟨ka, kc, rfl⟩ : ∃ ka kc, v20 = .slice ka kp.length kc := by
        rcases hff with ⟨h1, h2⟩ | ⟨g', c', h1, -⟩
        · exact ⟨none, 0, by rw [h1, h2]; rfl⟩
        · exact ⟨_, c', h1⟩
      have K20 := Lib.hid (Kr.out.below hb20)
      have K21 := Lib.hid (K20.out.set (K20.out.out.setK kp ka kc))
      have HX21 := Lib.hid ((HXr.out.below hb20).set (Nat.lt_succ_self g) 6 (.slice ka kp.length kc))
      have HT21 := Lib.hid ((HTr.out.below hb20).set (Nat.lt_succ_self g) 6 (.slice ka kp.length kc))
      have HK21 := Lib.hid ((hff.mono (show g + 1 ≤ wr.heap.size from Kr.out.lt)).set (Nat.lt_succ_self g) 6 (.slice ka kp.length kc))
      have HB21 := Lib.hid ((HBz.out.trans (hb20.mono (by have h1 := HBz.out.size; omega))).setCell (p := ⟨g, 6, none⟩) (Nat.le_refl _) (.slice ka kp.length kc))
      have o6 : w20.cell? ⟨g, 6, none⟩ = some (.slice none 0 0) := K20.out.out.cell rfl
      have f6 : w20.frozen? ⟨g, 6, none⟩ = false := Joins.unfrozen_of_block K20.out.out 6
      clear his hff hb20 Kr HXr HTr HBz HSR K20
      go_upto_region 20 with fail
      clear o6 f6
      generalize w20.setCell ⟨g, 6, none⟩ (.slice ka kp.length kc) = W21 at *
      have HBB := Lib.hid (fun U (h : Go.RowKit.Below W21.heap.size W21 U) => HBG.out U (HB21.out.trans (h.mono (by have h1 := HB21.out.size; omega))))
      have HSB := Lib.hid (fun U p c (h : DIn U p (B1.map (fun f : Ft => f.d))) => dsortR (B1.map (fun f : Ft => f.d)) p c U h (by rw [List.length_map]; have := HL1.out; omega))
      clear HBG HBF
      go_wp2_with fail
      go_loopw [19, 20] (fun v i wk => ∃ k : Nat, k ≤ B1.length ∧ i = .int .i64 k ∧ OwnD W21.heap.size v ((B1.take k).map (·.d)) wk ∧ Hid (Go.RowKit.Below W21.heap.size W21 wk)) (fun _ i _ => B1.length - (intOf i).toNat)
      case atStart => exact ⟨0, Nat.zero_le _, rfl, by rw [List.take_zero]; exact ownD_nil _ _, Lib.hid (Below.refl _ _)⟩
      case round =>
        rename World => wk
        obtain ⟨k, hk, rfl, hown, HBk⟩ := hrel
        have HOW := Lib.hid hown
        obtain ⟨xa, xc, rfl, -, -⟩ := hown.din
        have hbl : B1.length ≤ 40 := HL1.out
        have hml : ((B1.take k).map (·.d)).length = k := by rw [List.length_map, List.length_take]; omega
        clear hown
        by_cases hlt : k < B1.length
        · obtain ⟨f, hfk⟩ : ∃ f, B1[k]? = some f := ⟨_, List.getElem?_eq_getElem hlt⟩
          obtain ⟨fb, off, rfl, hfl, r0⟩ := (HBB.out wk HBk.out).at hfk
          have hi1 : (k : Int) < (B1.length : Int) := by omega
          have q0 : wk.cell? ⟨fb, off + k * 8, none⟩ = some (.int .i64 f.d.1) := r0 0 _ rfl
          have q1 : wk.cell? ⟨fb, off + k * 8 + 1, none⟩ = some (.int .i64 f.d.2) := r0 1 _ rfl
          have hn : (B1.take (k + 1)).map (·.d) = (B1.take k).map (·.d) ++ [f.d] := by
            obtain ⟨e1, e2⟩ := List.getElem?_eq_some_iff.1 hfk
            rw [List.take_succ_eq_append_getElem e1, List.map_append, e2]; rfl
          have HNX := Lib.hid hn
          generalize (B1.take k).map (·.d) = out at *
          have hsl := fun X => build1Dv f.d X
          obtain ⟨qa, qc, w3, hr3, ho3, hb3⟩ := appD (c := 1) (HOW.out.alloc (.cells #[.int .i64 f.d.1, .int .i64 f.d.2] 44)) (din_new wk f.d) (by have := HBk.out.size; simp; omega) (out.length + 1) (by simp) (by omega)
          have hr3' : (Builtin.append_ #[29, 29] 29 #[.slice xa out.length xc, .slice (some ⟨wk.heap.size, 0, none⟩) 1 1]).run Tryz.prog (wk.alloc (.cells #[.int .i64 f.d.1, .int .i64 f.d.2] 44)) = .ok (.slice qa (out.length + 1) qc) w3 := hr3
          have HN := Lib.hid (show OwnD W21.heap.size (.slice qa (out.length + 1) qc) ((B1.take (k + 1)).map (·.d)) w3 by rw [HNX.out]; exact ho3)
          have HB3 := Lib.hid ((HBk.out.alloc HBk.out.size _).trans hb3)
          clear hr3 ho3 hb3 hn r0 hfk
          go_wp2_with (at_builtin; refine wpList_append_run rfl _ _ 29 29 rfl (.slice xa out.length xc) (.slice (some ⟨wk.heap.size, 0, none⟩) 1 1) _ w3 rfl rfl hr3' ?_)
          go_wp2_with fail
          go_roundw
          case rel => exact ⟨k + 1, by omega, by go_num, (by have h := HN.out; first | exact h | (rw [hml] at h; exact h)), HB3⟩
          case measure => simp [intOf]; omega
        · obtain rfl : k = B1.length := by omega
          have hi1 : ¬ (B1.length : Int) < (B1.length : Int) := by omega
          have hdd : DIn wk xa ((B1).map (·.d)) := by have h := HOW.out.din1; rwa [List.take_length] at h
          have HSD := Lib.hid (HSB.out wk xa xc hdd)
          rw [List.length_map] at HSD
          have Kk := Lib.hid (K21.out.below HBk.out)
          have HXk := Lib.hid (HX21.out.below HBk.out)
          have HTk := Lib.hid (HT21.out.below HBk.out)
          have HKk := Lib.hid (HK21.out.below HBk.out)
          clear HOW hlt hk K21 HX21 HT21 HK21 HB21 HBk HBB HSB hdd
          rw [List.take_length]
          go_wp2_with fail
          refine HSD.out.mono ?_
          rintro v w23 ⟨v23, rfl, hown, hb23⟩
          obtain ⟨da, dc, rfl, hdf, -, -⟩ := hown.from
          have hds : ∃ D, sortD (B1.map (·.d)) = D := ⟨_, rfl⟩
          obtain ⟨D, hD⟩ := hds
          have HD := Lib.hid hD
          rw [hD] at hdf hown ⊢
          have K23 := Lib.hid (Kk.out.below hb23)
          have K24 := Lib.hid (K23.out.set (K23.out.out.setD D da dc))
          have HX24 := Lib.hid ((HXk.out.below hb23).set (Nat.lt_succ_self g) 7 (.slice da D.length dc))
          have HT24 := Lib.hid ((HTk.out.below hb23).set (Nat.lt_succ_self g) 7 (.slice da D.length dc))
          have HK24 := Lib.hid ((HKk.out.below hb23).set (Nat.lt_succ_self g) 7 (.slice da D.length dc))
          have HD24 := Lib.hid ((hdf.mono (show g + 1 ≤ wk.heap.size from Kk.out.lt)).set (Nat.lt_succ_self g) 7 (.slice da D.length dc))
          have o7 : w23.cell? ⟨g, 7, none⟩ = some (.slice none 0 0) := K23.out.out.cell rfl
          have f7 : w23.frozen? ⟨g, 7, none⟩ = false := Joins.unfrozen_of_block K23.out.out 7
          clear hown hdf hb23 HXk HTk HKk Kk HSD K23 hD
          go_upto_region 26 with fail
          clear o7 f7
          generalize w23.setCell ⟨g, 7, none⟩ (.slice da D.length dc) = W24 at *
          have HMEM := Lib.hid (show EnMem W24 (g + 1) ⟨⟨n, ⟨mz, mc, mi⟩, lb, tg, kp, D⟩, ia, ic, ta, tc, ka, kc, da, dc⟩ from ⟨HX24.out, HT24.out, HK24.out, HD24.out⟩)
          have HFE := Lib.hid (HA.out ⟨n, ⟨mz, mc, mi⟩, lb, tg, kp, D⟩ (HER.out _ rfl HM.out HLV.out HTG.out HKP.out HD.out.symm))
          have hgw : w.heap.size < g := K24.out.hi
          have HP := Lib.hid (Blk.put K24.out.rs (ecs ⟨⟨n, ⟨mz, mc, mi⟩, lb, tg, kp, D⟩, ia, ic, ta, tc, ka, kc, da, dc⟩).toArray)
          have HBP := Lib.hid (belowRow' K24.out.low (Nat.le_refl _) (ecs ⟨⟨n, ⟨mz, mc, mi⟩, lb, tg, kp, D⟩, ia, ic, ta, tc, ka, kc, da, dc⟩).toArray)
          have HME := Lib.hid ((HMEM.out.setRow (show w.heap.size < g + 1 by omega) (ecs ⟨⟨n, ⟨mz, mc, mi⟩, lb, tg, kp, D⟩, ia, ic, ta, tc, ka, kc, da, dc⟩).toArray).mono (show w.heap.size ≤ g + 1 by omega))
          clear HX24 HT24 HK24 HD24 HMEM HM HLV HTG HKP HD HKE HER HA
          go_wp2_with (first
            | ((with_reducible refine bl_load ?_ 31 (.tmp 7) ?_ g 0 (ecs ⟨⟨n, ⟨mz, mc, mi⟩, lb, tg, kp, D⟩, ia, ic, ta, tc, ka, kc, da, dc⟩).toArray ?_ ?_ Tryz.underlying31 ?_ ?_ ?_); rfl; rfl; rfl; exact K24.out.out.all; rfl; exact infoEn _; simp only [Act.put, List.setIfInBounds_toArray, List.set_cons_zero, List.set_cons_succ])
            | ((with_reducible refine bl_store ?_ 31 (.tmp 4) (.tmp 100) ?_ w.heap.size (ecs ⟨⟨n, ⟨mz, mc, mi⟩, lb, tg, kp, D⟩, ia, ic, ta, tc, ka, kc, da, dc⟩).toArray ?_ ?_ ?_ ?_ ?_ ?_); rfl; rfl; rfl; rfl; exact ⟨_, K24.out.rs, rfl⟩; exact infoEn _; exact en_one _; simp only [Act.put, List.setIfInBounds_toArray, List.set_cons_zero, List.set_cons_succ]))
          refine bodyPost_ret (retEn rfl _ _ w.heap.size ⟨⟨n, ⟨mz, mc, mi⟩, lb, tg, kp, D⟩, ia, ic, ta, tc, ka, kc, da, dc⟩ _ rfl rfl HP.out) rfl ?_
          exact ⟨⟨_, by rw [HE.out]; rfl, HME.out, HFE.out⟩, HBP.out⟩
end Go.Proofs.YtchnklekeinhiaaGreat
