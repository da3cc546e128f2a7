/-
  op, the document's: gone, facts.
  Facts that lie from a block on.
-/
import Derived.Test.YtmnblpjdiplioaaGreatGOp16
import Derived.Test.YtmnblpjdiplioaaGreatGOp18
import Derived.Test.YtmnblpjdiplioaaGreatGOp05
namespace Go.Proofs.YtmnblpjdiplioaaGreat
set_option linter.unusedSimpArgs false
set_option linter.unusedVariables false
set_option maxRecDepth 100000
open Go.RowKit Go.Sort

/-- those of a value among the first k -/
def valsO (v : ByteArray) (l : List Ft) : List Ft := l.filter (fun f => decide (f.v = v))
theorem valsO_yes {v : ByteArray} {l : List Ft} {k : Nat} {f : Ft} (h : l[k]? = some f) (hf : f.v = v) : valsO v (l.take (k + 1)) = valsO v (l.take k) ++ [f] := by
  obtain ⟨h1, h2⟩ := List.getElem?_eq_some_iff.1 h
  unfold valsO
  rw [List.take_succ_eq_append_getElem h1, h2, List.filter_append]
  simp [hf]
theorem valsO_no {v : ByteArray} {l : List Ft} {k : Nat} {f : Ft} (h : l[k]? = some f) (hf : f.v ≠ v) : valsO v (l.take (k + 1)) = valsO v (l.take k) := by
  obtain ⟨h1, h2⟩ := List.getElem?_eq_some_iff.1 h
  unfold valsO
  rw [List.take_succ_eq_append_getElem h1, h2, List.filter_append]
  simp [hf]
theorem valsO_len (v : ByteArray) (l : List Ft) (k : Nat) : (valsO v (l.take k)).length ≤ l.length := by
  have h1 := List.length_filter_le (fun f => decide (f.v = v)) (l.take k)
  rw [List.length_take] at h1
  unfold valsO
  omega

set_option maxHeartbeats 16000000 in
theorem goneOR (l : List Ft) (a : Option Addr) (cap : Nat) (o : Opp) (h1 : 1 ≤ o.k) (h6 : o.k ≤ 6) (w : World) (hf : FIn w a l) (hl : l.length ≤ 60) :
    Calls Tryz.prog 38 #[.slice a l.length cap, .agg (opc o)] w fun v w' => (∃ v', v = .returned v' ∧ OwnF w.heap.size v' (goneO l o) w') ∧ Go.RowKit.Below w.heap.size w w' := by
  have hb0 := lowA w (.cells (opc o) 25)
  have HO := Lib.hid (Blk.new w 25 (opc o))
  have HB := Lib.hid hb0
  have HI := Lib.hid (hf.below hb0)
  have HF := Lib.hid (fun k W hW => rofC l k o.n a cap W hW (by omega))
  have HG1 := Lib.hid (fun h => goneO_none (l := l) (o := o) h)
  have HG2 := Lib.hid (fun h => goneO_tag (l := l) (o := o) h)
  have HG4 := Lib.hid (fun h => goneO_label (l := l) (o := o) h)
  have HG5 := Lib.hid (fun h => goneO_keep (l := l) (o := o) h)
  have HG6 := Lib.hid (fun h => goneO_all (l := l) (o := o) h)
  have hk := kinds6 h1 h6
  clear hb0 hf h1 h6
  generalize goneO l o = G at *
  obtain ⟨k, n, v, p, b⟩ := o
  simp only at hk HG1 HG2 HG4 HG5 HG6 HF
  rcases hk with rfl | rfl | rfl | rfl | rfl | rfl
  · go_enter Tryz.func38, Tryz.ntmps38
    go_upto_region 1 with fail
    change Code.wp _ _ _ _ (w.alloc (.cells (opc ⟨1, n, v, p, b⟩) 25))
    generalize w.alloc (.cells (opc ⟨1, n, v, p, b⟩) 25) = W at *
    have c0 : W.cell? ⟨w.heap.size, 0, none⟩ = some (.int .i64 1) := HO.out.cell rfl
    have c1 : W.cell? ⟨w.heap.size, 1, none⟩ = some (.string n) := HO.out.cell rfl
    have HE := Lib.hid (HG1.out rfl)
    go_wp2_with fail
    go_ret
    exact ⟨⟨_, rfl, by rw [HE.out]; exact ownF_nil _ _⟩, HB.out⟩
  · go_enter Tryz.func38, Tryz.ntmps38
    go_upto_region 1 with fail
    change Code.wp _ _ _ _ (w.alloc (.cells (opc ⟨2, n, v, p, b⟩) 25))
    generalize w.alloc (.cells (opc ⟨2, n, v, p, b⟩) 25) = W at *
    have c0 : W.cell? ⟨w.heap.size, 0, none⟩ = some (.int .i64 2) := HO.out.cell rfl
    have c1 : W.cell? ⟨w.heap.size, 1, none⟩ = some (.string n) := HO.out.cell rfl
    have HE := Lib.hid (HG2.out (by omega))
    go_wp2_with fail
    refine (HF.out 3 W HI.out).mono ?_
    rintro x w1 ⟨v1, rfl, hown, hb1⟩
    obtain ⟨a1, k1, rfl, hfin, -⟩ := hown.fin
    have HO1 := Lib.hid (HO.out.keep hb1)
    have HB1 := Lib.hid (HB.out.trans (hb1.mono HB.out.size))
    have HFI := Lib.hid hfin
    have hml : (ofR 3 n l).length ≤ 60 := Nat.le_trans (List.length_filter_le _ _) hl
    have HE2 := Lib.hid (show G = valsO v (ofR 3 n l) from HE.out)
    clear hown hfin hb1 HO HB HI HF HE c0 c1
    generalize ofR 3 n l = M at *
    go_wp2_with fail
    go_loopw [5, 7] (fun s i wr => ∃ k : Nat, k ≤ M.length ∧ i = .int .i64 k ∧ OwnF w1.heap.size s (valsO v (M.take k)) wr ∧ Go.RowKit.Below w1.heap.size w1 wr) (fun _ i _ => M.length - (intOf i).toNat)
    case atStart => exact ⟨0, Nat.zero_le _, rfl, by rw [List.take_zero]; exact ownF_nil _ _, Below.refl _ _⟩
    case round =>
      obtain ⟨k, hk, rfl, hown, hb⟩ := hrel
      have HBr := Lib.hid hb
      have HOW := Lib.hid hown
      have hbs := hb.size
      have HOr := Lib.hid (HO1.out.keep hb)
      clear hb hown
      by_cases hlt : k < M.length
      · obtain ⟨f, hf⟩ : ∃ f, M[k]? = some f := ⟨_, List.getElem?_eq_getElem hlt⟩
        obtain ⟨fb, off, rfl, hbl, r0⟩ := (HFI.out.below HBr.out).at hf
        have hi1 : (k : Int) < (M.length : Int) := by omega
        have R0 := Lib.hid r0
        have q7 : wr.cell? ⟨fb, off + k * 8 + 7, none⟩ = some (.string f.v) := r0 7 _ rfl
        have c2 : wr.cell? ⟨w.heap.size, 2, none⟩ = some (.string v) := HOr.out.cell rfl
        have HF7 := Lib.hid hf
        have hx := ostr_eq f.v v
        have HBN := Lib.hid (fun n => belowN HBr.out n)
        clear r0 hf
        by_cases he : f.v = v
        · have hd : decide (f.v = v) = true := decide_eq_true he
          rw [hd] at hx
          have HN := Lib.hid (valsO_yes (l := M) (k := k) HF7.out he)
          have hln := valsO_len v M k
          clear hd he
          generalize valsO v (M.take k) = A at *
          obtain ⟨fd, fs, fk, fnm, fv⟩ := f
          simp only at q7 hx R0 HN
          go_upto_region 9 with fail
          go_quiet (fail)
          have hbd := fun n => belowN (Below.refl wr.heap.size wr) n
          have HR2 := Lib.hid (fun n => range_below R0.out (hbd n) hbl)
          have HOW2 := Lib.hid (fun n => HOW.out.below (hbd n) (Nat.le_refl _))
          clear hbd q7 c2 hx R0 HOW
          generalize hgd : wr.drewN _ = D at *
          have HRD := Lib.hid (show D.rangeAt fb (off + k * 8) (fcs ⟨fd, fs, fk, fnm, fv⟩) by rw [← hgd]; exact HR2.out _)
          have HOD := Lib.hid (show OwnF w1.heap.size u5 A D by rw [← hgd]; exact HOW2.out _)
          have HBD := Lib.hid (show Go.RowKit.Below w1.heap.size w1 D by rw [← hgd]; exact HBN.out _)
          clear hgd HR2 HOW2 HBN
          have hone := fin_new D ⟨fd, fs, fk, fnm, fv⟩
          obtain ⟨q2, d2, w8, hr8, ho8, hb8⟩ := appF (c := 1) (HOD.out.alloc (.cells (fcs ⟨fd, fs, fk, fnm, fv⟩).toArray 63)) hone (by have := HBD.out.size; simp; omega) (A.length + 1) (by simp) (by omega)
          have HR8 := Lib.hid hr8
          have HX8 := Lib.hid (And.intro (show OwnF w1.heap.size (.slice q2 (A.length + 1) d2) (valsO v (M.take (k + 1))) w8 from by rw [HN.out]; exact ho8) ((HBD.out.alloc HBD.out.size _).trans hb8))
          clear hr8 ho8 hb8 hone HN HOD
          go_wp2_with (first
            | ((with_reducible refine fl_load ?_ (.tmp 34) ?_ fb (off + k * 8) ⟨fd, fs, fk, fnm, fv⟩ ?_ ?_ ?_); rfl; rfl; rfl; exact HRD.out)
            | ((with_reducible refine wpList_build1F ?_ (.tmp 35) ?_ ⟨fd, fs, fk, fnm, fv⟩ ?_ ?_); rfl; rfl; rfl; simp only [Act.put, List.setIfInBounds_toArray, List.set_cons_zero, List.set_cons_succ])
            | (at_builtin; refine wpList_append_run rfl _ _ 22 22 rfl _ (.slice (some ⟨D.heap.size, 0, none⟩) 1 1) _ w8 rfl rfl HR8.out ?_))
          go_roundw
          case rel => exact ⟨k + 1, by omega, by go_num, HX8.out.1, HX8.out.2⟩
          case measure => simp [intOf]; omega
        · have hd : decide (f.v = v) = false := decide_eq_false he
          rw [hd] at hx
          have HN := Lib.hid (valsO_no (l := M) (k := k) HF7.out he)
          have HOW2 := Lib.hid (fun n => HOW.out.below (belowN (Below.refl wr.heap.size wr) n) (Nat.le_refl _))
          clear hd he
          go_upto_region 9 with fail
          go_quiet (fail)
          go_wp2_with fail
          go_roundw
          case rel => exact ⟨k + 1, by omega, by go_num, by rw [HN.out]; exact HOW2.out _, HBN.out _⟩
          case measure => simp [intOf]; omega
      · obtain rfl : k = M.length := by omega
        have hi1 : ¬ (M.length : Int) < (M.length : Int) := by omega
        have hown := HOW.out
        rw [List.take_length] at hown
        have HZ := Lib.hid (show OwnF w.heap.size u5 G wr from by rw [HE2.out]; exact hown.mono HB1.out.size)
        have HZB := Lib.hid (HB1.out.trans (HBr.out.mono HB1.out.size))
        clear hown HOW
        go_wp2_with fail
        go_ret
        exact ⟨⟨_, rfl, HZ.out⟩, HZB.out⟩
  · go_enter Tryz.func38, Tryz.ntmps38
    go_upto_region 1 with fail
    change Code.wp _ _ _ _ (w.alloc (.cells (opc ⟨3, n, v, p, b⟩) 25))
    generalize w.alloc (.cells (opc ⟨3, n, v, p, b⟩) 25) = W at *
    have c0 : W.cell? ⟨w.heap.size, 0, none⟩ = some (.int .i64 3) := HO.out.cell rfl
    have c1 : W.cell? ⟨w.heap.size, 1, none⟩ = some (.string n) := HO.out.cell rfl
    have HE := Lib.hid (HG2.out (by omega))
    go_wp2_with fail
    refine (HF.out 3 W HI.out).mono ?_
    rintro x w1 ⟨v1, rfl, hown, hb1⟩
    obtain ⟨a1, k1, rfl, hfin, -⟩ := hown.fin
    have HO1 := Lib.hid (HO.out.keep hb1)
    have HB1 := Lib.hid (HB.out.trans (hb1.mono HB.out.size))
    have HFI := Lib.hid hfin
    have hml : (ofR 3 n l).length ≤ 60 := Nat.le_trans (List.length_filter_le _ _) hl
    have HE2 := Lib.hid (show G = valsO v (ofR 3 n l) from HE.out)
    clear hown hfin hb1 HO HB HI HF HE c0 c1
    generalize ofR 3 n l = M at *
    go_wp2_with fail
    go_loopw [5, 7] (fun s i wr => ∃ k : Nat, k ≤ M.length ∧ i = .int .i64 k ∧ OwnF w1.heap.size s (valsO v (M.take k)) wr ∧ Go.RowKit.Below w1.heap.size w1 wr) (fun _ i _ => M.length - (intOf i).toNat)
    case atStart => exact ⟨0, Nat.zero_le _, rfl, by rw [List.take_zero]; exact ownF_nil _ _, Below.refl _ _⟩
    case round =>
      obtain ⟨k, hk, rfl, hown, hb⟩ := hrel
      have HBr := Lib.hid hb
      have HOW := Lib.hid hown
      have hbs := hb.size
      have HOr := Lib.hid (HO1.out.keep hb)
      clear hb hown
      by_cases hlt : k < M.length
      · obtain ⟨f, hf⟩ : ∃ f, M[k]? = some f := ⟨_, List.getElem?_eq_getElem hlt⟩
        obtain ⟨fb, off, rfl, hbl, r0⟩ := (HFI.out.below HBr.out).at hf
        have hi1 : (k : Int) < (M.length : Int) := by omega
        have R0 := Lib.hid r0
        have q7 : wr.cell? ⟨fb, off + k * 8 + 7, none⟩ = some (.string f.v) := r0 7 _ rfl
        have c2 : wr.cell? ⟨w.heap.size, 2, none⟩ = some (.string v) := HOr.out.cell rfl
        have HF7 := Lib.hid hf
        have hx := ostr_eq f.v v
        have HBN := Lib.hid (fun n => belowN HBr.out n)
        clear r0 hf
        by_cases he : f.v = v
        · have hd : decide (f.v = v) = true := decide_eq_true he
          rw [hd] at hx
          have HN := Lib.hid (valsO_yes (l := M) (k := k) HF7.out he)
          have hln := valsO_len v M k
          clear hd he
          generalize valsO v (M.take k) = A at *
          obtain ⟨fd, fs, fk, fnm, fv⟩ := f
          simp only at q7 hx R0 HN
          go_upto_region 9 with fail
          go_quiet (fail)
          have hbd := fun n => belowN (Below.refl wr.heap.size wr) n
          have HR2 := Lib.hid (fun n => range_below R0.out (hbd n) hbl)
          have HOW2 := Lib.hid (fun n => HOW.out.below (hbd n) (Nat.le_refl _))
          clear hbd q7 c2 hx R0 HOW
          generalize hgd : wr.drewN _ = D at *
          have HRD := Lib.hid (show D.rangeAt fb (off + k * 8) (fcs ⟨fd, fs, fk, fnm, fv⟩) by rw [← hgd]; exact HR2.out _)
          have HOD := Lib.hid (show OwnF w1.heap.size u5 A D by rw [← hgd]; exact HOW2.out _)
          have HBD := Lib.hid (show Go.RowKit.Below w1.heap.size w1 D by rw [← hgd]; exact HBN.out _)
          clear hgd HR2 HOW2 HBN
          have hone := fin_new D ⟨fd, fs, fk, fnm, fv⟩
          obtain ⟨q2, d2, w8, hr8, ho8, hb8⟩ := appF (c := 1) (HOD.out.alloc (.cells (fcs ⟨fd, fs, fk, fnm, fv⟩).toArray 63)) hone (by have := HBD.out.size; simp; omega) (A.length + 1) (by simp) (by omega)
          have HR8 := Lib.hid hr8
          have HX8 := Lib.hid (And.intro (show OwnF w1.heap.size (.slice q2 (A.length + 1) d2) (valsO v (M.take (k + 1))) w8 from by rw [HN.out]; exact ho8) ((HBD.out.alloc HBD.out.size _).trans hb8))
          clear hr8 ho8 hb8 hone HN HOD
          go_wp2_with (first
            | ((with_reducible refine fl_load ?_ (.tmp 34) ?_ fb (off + k * 8) ⟨fd, fs, fk, fnm, fv⟩ ?_ ?_ ?_); rfl; rfl; rfl; exact HRD.out)
            | ((with_reducible refine wpList_build1F ?_ (.tmp 35) ?_ ⟨fd, fs, fk, fnm, fv⟩ ?_ ?_); rfl; rfl; rfl; simp only [Act.put, List.setIfInBounds_toArray, List.set_cons_zero, List.set_cons_succ])
            | (at_builtin; refine wpList_append_run rfl _ _ 22 22 rfl _ (.slice (some ⟨D.heap.size, 0, none⟩) 1 1) _ w8 rfl rfl HR8.out ?_))
          go_roundw
          case rel => exact ⟨k + 1, by omega, by go_num, HX8.out.1, HX8.out.2⟩
          case measure => simp [intOf]; omega
        · have hd : decide (f.v = v) = false := decide_eq_false he
          rw [hd] at hx
          have HN := Lib.hid (valsO_no (l := M) (k := k) HF7.out he)
          have HOW2 := Lib.hid (fun n => HOW.out.below (belowN (Below.refl wr.heap.size wr) n) (Nat.le_refl _))
          clear hd he
          go_upto_region 9 with fail
          go_quiet (fail)
          go_wp2_with fail
          go_roundw
          case rel => exact ⟨k + 1, by omega, by go_num, by rw [HN.out]; exact HOW2.out _, HBN.out _⟩
          case measure => simp [intOf]; omega
      · obtain rfl : k = M.length := by omega
        have hi1 : ¬ (M.length : Int) < (M.length : Int) := by omega
        have hown := HOW.out
        rw [List.take_length] at hown
        have HZ := Lib.hid (show OwnF w.heap.size u5 G wr from by rw [HE2.out]; exact hown.mono HB1.out.size)
        have HZB := Lib.hid (HB1.out.trans (HBr.out.mono HB1.out.size))
        clear hown HOW
        go_wp2_with fail
        go_ret
        exact ⟨⟨_, rfl, HZ.out⟩, HZB.out⟩
  · go_enter Tryz.func38, Tryz.ntmps38
    go_upto_region 1 with fail
    change Code.wp _ _ _ _ (w.alloc (.cells (opc ⟨4, n, v, p, b⟩) 25))
    generalize w.alloc (.cells (opc ⟨4, n, v, p, b⟩) 25) = W at *
    have c0 : W.cell? ⟨w.heap.size, 0, none⟩ = some (.int .i64 4) := HO.out.cell rfl
    have c1 : W.cell? ⟨w.heap.size, 1, none⟩ = some (.string n) := HO.out.cell rfl
    have HE := Lib.hid (HG4.out rfl)
    go_wp2_with fail
    refine (HF.out 2 W HI.out).mono ?_
    rintro x w1 ⟨v1, rfl, hown, hb1⟩
    have HZ := Lib.hid (show OwnF w.heap.size v1 G w1 from by rw [HE.out]; exact hown.mono HB.out.size)
    have HZB := Lib.hid (HB.out.trans (hb1.mono HB.out.size))
    clear hown hb1
    go_wp2_with fail
    go_ret
    exact ⟨⟨_, rfl, HZ.out⟩, HZB.out⟩
  · go_enter Tryz.func38, Tryz.ntmps38
    go_upto_region 1 with fail
    change Code.wp _ _ _ _ (w.alloc (.cells (opc ⟨5, n, v, p, b⟩) 25))
    generalize w.alloc (.cells (opc ⟨5, n, v, p, b⟩) 25) = W at *
    have c0 : W.cell? ⟨w.heap.size, 0, none⟩ = some (.int .i64 5) := HO.out.cell rfl
    have c1 : W.cell? ⟨w.heap.size, 1, none⟩ = some (.string n) := HO.out.cell rfl
    have HE := Lib.hid (HG5.out rfl)
    go_wp2_with fail
    refine (HF.out 4 W HI.out).mono ?_
    rintro x w1 ⟨v1, rfl, hown, hb1⟩
    have HZ := Lib.hid (show OwnF w.heap.size v1 G w1 from by rw [HE.out]; exact hown.mono HB.out.size)
    have HZB := Lib.hid (HB.out.trans (hb1.mono HB.out.size))
    clear hown hb1
    go_wp2_with fail
    go_ret
    exact ⟨⟨_, rfl, HZ.out⟩, HZB.out⟩
  · go_enter Tryz.func38, Tryz.ntmps38
    go_upto_region 1 with fail
    change Code.wp _ _ _ _ (w.alloc (.cells (opc ⟨6, n, v, p, b⟩) 25))
    generalize w.alloc (.cells (opc ⟨6, n, v, p, b⟩) 25) = W at *
    have c0 : W.cell? ⟨w.heap.size, 0, none⟩ = some (.int .i64 6) := HO.out.cell rfl
    have c1 : W.cell? ⟨w.heap.size, 1, none⟩ = some (.string n) := HO.out.cell rfl
    have HE := Lib.hid (HG6.out rfl)
    go_wp2_with fail
    refine (HF.out 0 W HI.out).mono ?_
    rintro x w1 ⟨v1, rfl, hown, hb1⟩
    have HZ := Lib.hid (show OwnF w.heap.size v1 G w1 from by rw [HE.out]; exact hown.mono HB.out.size)
    have HZB := Lib.hid (HB.out.trans (hb1.mono HB.out.size))
    clear hown hb1
    go_wp2_with fail
    go_ret
    exact ⟨⟨_, rfl, HZ.out⟩, HZB.out⟩
end Go.Proofs.YtmnblpjdiplioaaGreat

namespace Go.Proofs.YtmnblpjdiplioaaGreat
set_option maxRecDepth 100000
open Go.RowKit Go.Sort

/-- facts that are new -/
def FFrom (w : World) (lo : Nat) (a : Option Addr) (l : List Ft) : Prop :=
  l = [] ∨ ∃ b off, a = some ⟨b, off, none⟩ ∧ lo ≤ b ∧ b < w.heap.size ∧ ∀ j f, l[j]? = some f → w.rangeAt b (off + j * 8) (fcs f)
theorem FFrom.fin {w : World} {lo : Nat} {a : Option Addr} {l : List Ft} (h : FFrom w lo a l) : FIn w a l := by
  rcases h with h | ⟨b, off, e, -, h1, h2⟩
  · exact .inl h
  · exact .inr ⟨b, off, e, h1, h2⟩
theorem FFrom.of {w : World} {lo g o : Nat} {l : List Ft} (h : FIn w (some ⟨g, o, none⟩) l) (hg : lo ≤ g) : FFrom w lo (some ⟨g, o, none⟩) l := by
  rcases h with h | ⟨b, off, e, h1, h2⟩
  · exact .inl h
  · have e2 := Option.some.inj e
    injection e2 with e3 e4
    subst e3
    exact .inr ⟨_, off, e, hg, h1, h2⟩
theorem FFrom.below {w w' : World} {lo : Nat} {a : Option Addr} {l : List Ft} (h : FFrom w lo a l) (hb : Below w.heap.size w w') : FFrom w' lo a l := by
  rcases h with h | ⟨b, off, rfl, hlo, hlt, hc⟩
  · exact .inl h
  · exact .inr ⟨b, off, rfl, hlo, Nat.lt_of_lt_of_le hlt hb.size, fun j f hj => range_below (hc j f hj) hb hlt⟩
theorem FFrom.mono {w : World} {lo lo' : Nat} {a : Option Addr} {l : List Ft} (h : FFrom w lo a l) (hl : lo' ≤ lo) : FFrom w lo' a l := by
  rcases h with h | ⟨b, off, e, hlo, h⟩
  · exact .inl h
  · exact .inr ⟨b, off, e, Nat.le_trans hl hlo, h⟩
theorem FFrom.setRow {w : World} {lo : Nat} {a : Option Addr} {l : List Ft} (h : FFrom w lo a l) {g : Nat} (hg : g < lo) (C : Array Value) : FFrom (w.setRow g C) lo a l := by
  rcases h with h | ⟨b, off, rfl, hlo, hlt, hc⟩
  · exact .inl h
  · refine .inr ⟨b, off, rfl, hlo, by simpa using hlt, fun j f hj i v hv => ?_⟩
    have h1 := hc j f hj i v hv
    unfold World.cell? at h1 ⊢
    rw [setRow_other _ _ _ _ (show b ≠ g by omega)]
    exact h1
theorem OwnF.from {B : Nat} {v : Value} {l : List Ft} {w : World} (h : OwnF B v l w) : ∃ a cap, v = .slice a l.length cap ∧ FFrom w B a l ∧ l.length ≤ maxLen := by
  obtain ⟨a, cap, he, hf, hl⟩ := h.fin
  refine ⟨a, cap, he, ?_, hl⟩
  rcases h.2 with ⟨e, h0⟩ | ⟨g, c2, cur, e, hB, hg, _⟩
  · exact .inl (List.length_eq_zero_iff.1 h0)
  · rw [he] at e
    injection e with e1 e2 e3
    subst e1
    exact FFrom.of hf hB
end Go.Proofs.YtmnblpjdiplioaaGreat
