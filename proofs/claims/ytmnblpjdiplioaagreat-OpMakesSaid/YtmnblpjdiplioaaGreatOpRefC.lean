/-
  op, the document's: plain, Check, in.
-/
import Derived.Test.YtmnblpjdiplioaaGreatGOp13
import Derived.Test.YtmnblpjdiplioaaGreatGOp07
namespace Go.Proofs.YtmnblpjdiplioaaGreat
set_option linter.unusedSimpArgs false
set_option linter.unusedVariables false
set_option maxRecDepth 100000
open Go.RowKit Go.Sort

theorem ostr_eq (x y : ByteArray) : (x.toList == y.toList) = decide (x = y) := by
  rw [Bool.eq_iff_iff]
  simp only [beq_iff_eq, decide_eq_true_eq, ByteArray.toList_eq]
  constructor
  · intro h
    obtain ⟨⟨x⟩⟩ := x
    obtain ⟨⟨y⟩⟩ := y
    simp only at h
    rw [h]
  · intro h; rw [h]
theorem oempty (x : ByteArray) : x.toList.isEmpty = decide (x = ⟨#[]⟩) := by
  rw [Bool.eq_iff_iff, List.isEmpty_iff, decide_eq_true_eq, ByteArray.toList_eq]
  constructor
  · intro h
    obtain ⟨⟨x⟩⟩ := x
    simp only at h
    rw [h]
  · intro h; rw [h]
theorem kinds6 {k : Int} (h1 : 1 ≤ k) (h2 : k ≤ 6) : k = 1 ∨ k = 2 ∨ k = 3 ∨ k = 4 ∨ k = 5 ∨ k = 6 := by omega

set_option maxHeartbeats 8000000 in
theorem plainOR (o : Opp) (h1 : 1 ≤ o.k) (h6 : o.k ≤ 6) (hp : o.p < 18446744073709551616) (w : World) :
    Calls Tryz.prog 29 #[.agg (opc o)] w fun v w' => v = .returned (.bool (plainO o)) ∧ Go.RowKit.Below w.heap.size w w' := by
  have HO := Lib.hid (Blk.new w 25 (opc o))
  have HB := Lib.hid (lowA w (.cells (opc o) 25))
  have HK1 := Lib.hid (fun W => flKeyR o.p hp W)
  have HK2 := Lib.hid (fun W => flKeyR 0 (by omega) W)
  have hv := oempty o.v
  have hb := oempty o.b
  have hke : ((keyB o.p : Int) == (keyB 0 : Int)) = decide (keyB o.p = keyB 0) := by
    rw [Bool.eq_iff_iff]; simp only [beq_iff_eq, decide_eq_true_eq]; omega
  have HV := Lib.hid (show plainO o = ((decide (o.k = 2 ∨ o.k = 3 ∨ o.k = 4) || decide (o.v = ⟨#[]⟩)) && ((decide (o.k = 1) || decide (o.b = ⟨#[]⟩)) && (decide (o.k = 5) || decide (keyB o.p = keyB 0)))) from rfl)
  generalize plainO o = V at *
  generalize decide (o.v = ⟨#[]⟩) = vz at *
  generalize decide (o.b = ⟨#[]⟩) = bz at *
  generalize decide (keyB o.p = keyB 0) = kz at *
  generalize keyB o.p = K1 at *
  generalize keyB 0 = K2 at *
  have hk := kinds6 h1 h6
  clear hp h1 h6
  obtain ⟨k, n, v, p, b⟩ := o
  simp only at hk hv hb HV HO HB HK1
  rcases hk with rfl | rfl | rfl | rfl | rfl | rfl
  · go_enter Tryz.func29, Tryz.ntmps29
    go_upto_region 1 with fail
    change Code.wp _ _ _ _ (w.alloc (.cells (opc ⟨1, n, v, p, b⟩) 25))
    generalize w.alloc (.cells (opc ⟨1, n, v, p, b⟩) 25) = W at *
    have c0 : W.cell? ⟨w.heap.size, 0, none⟩ = some (.int .i64 1) := HO.out.cell rfl
    have c1 : W.cell? ⟨w.heap.size, 1, none⟩ = some (.string n) := HO.out.cell rfl
    have c2 : W.cell? ⟨w.heap.size, 2, none⟩ = some (.string v) := HO.out.cell rfl
    have c3 : W.cell? ⟨w.heap.size, 3, none⟩ = some (.float .f64 p) := HO.out.cell rfl
    have c4 : W.cell? ⟨w.heap.size, 4, none⟩ = some (.string b) := HO.out.cell rfl
    cases vz with
    | false =>
      have HV2 := Lib.hid (show V = false from HV.out)
      clear HV
      go_wp2_with fail
      go_ret
      exact ⟨by rw [HV2.out]; rfl, HB.out⟩
    | true =>
      go_wp2_with fail
      refine (HK1.out W).mono ?_
      rintro x y ⟨rfl, rfl⟩
      go_wp2_with fail
      refine (HK2.out W).mono ?_
      rintro x y ⟨rfl, rfl⟩
      have HV2 := Lib.hid (show V = kz from by rw [HV.out]; cases kz <;> rfl)
      clear HV
      go_wp2_with fail
      go_ret
      exact ⟨by rw [HV2.out]; rfl, HB.out⟩
  · go_enter Tryz.func29, Tryz.ntmps29
    go_upto_region 1 with fail
    change Code.wp _ _ _ _ (w.alloc (.cells (opc ⟨2, n, v, p, b⟩) 25))
    generalize w.alloc (.cells (opc ⟨2, n, v, p, b⟩) 25) = W at *
    have c0 : W.cell? ⟨w.heap.size, 0, none⟩ = some (.int .i64 2) := HO.out.cell rfl
    have c1 : W.cell? ⟨w.heap.size, 1, none⟩ = some (.string n) := HO.out.cell rfl
    have c2 : W.cell? ⟨w.heap.size, 2, none⟩ = some (.string v) := HO.out.cell rfl
    have c3 : W.cell? ⟨w.heap.size, 3, none⟩ = some (.float .f64 p) := HO.out.cell rfl
    have c4 : W.cell? ⟨w.heap.size, 4, none⟩ = some (.string b) := HO.out.cell rfl
    cases bz with
    | false =>
      have HV2 := Lib.hid (show V = false from HV.out)
      clear HV
      go_wp2_with fail
      go_ret
      exact ⟨by rw [HV2.out]; rfl, HB.out⟩
    | true =>
      go_wp2_with fail
      refine (HK1.out W).mono ?_
      rintro x y ⟨rfl, rfl⟩
      go_wp2_with fail
      refine (HK2.out W).mono ?_
      rintro x y ⟨rfl, rfl⟩
      have HV2 := Lib.hid (show V = kz from by rw [HV.out]; cases kz <;> rfl)
      clear HV
      go_wp2_with fail
      go_ret
      exact ⟨by rw [HV2.out]; rfl, HB.out⟩
  · go_enter Tryz.func29, Tryz.ntmps29
    go_upto_region 1 with fail
    change Code.wp _ _ _ _ (w.alloc (.cells (opc ⟨3, n, v, p, b⟩) 25))
    generalize w.alloc (.cells (opc ⟨3, n, v, p, b⟩) 25) = W at *
    have c0 : W.cell? ⟨w.heap.size, 0, none⟩ = some (.int .i64 3) := HO.out.cell rfl
    have c1 : W.cell? ⟨w.heap.size, 1, none⟩ = some (.string n) := HO.out.cell rfl
    have c2 : W.cell? ⟨w.heap.size, 2, none⟩ = some (.string v) := HO.out.cell rfl
    have c3 : W.cell? ⟨w.heap.size, 3, none⟩ = some (.float .f64 p) := HO.out.cell rfl
    have c4 : W.cell? ⟨w.heap.size, 4, none⟩ = some (.string b) := HO.out.cell rfl
    cases bz with
    | false =>
      have HV2 := Lib.hid (show V = false from HV.out)
      clear HV
      go_wp2_with fail
      go_ret
      exact ⟨by rw [HV2.out]; rfl, HB.out⟩
    | true =>
      go_wp2_with fail
      refine (HK1.out W).mono ?_
      rintro x y ⟨rfl, rfl⟩
      go_wp2_with fail
      refine (HK2.out W).mono ?_
      rintro x y ⟨rfl, rfl⟩
      have HV2 := Lib.hid (show V = kz from by rw [HV.out]; cases kz <;> rfl)
      clear HV
      go_wp2_with fail
      go_ret
      exact ⟨by rw [HV2.out]; rfl, HB.out⟩
  · go_enter Tryz.func29, Tryz.ntmps29
    go_upto_region 1 with fail
    change Code.wp _ _ _ _ (w.alloc (.cells (opc ⟨4, n, v, p, b⟩) 25))
    generalize w.alloc (.cells (opc ⟨4, n, v, p, b⟩) 25) = W at *
    have c0 : W.cell? ⟨w.heap.size, 0, none⟩ = some (.int .i64 4) := HO.out.cell rfl
    have c1 : W.cell? ⟨w.heap.size, 1, none⟩ = some (.string n) := HO.out.cell rfl
    have c2 : W.cell? ⟨w.heap.size, 2, none⟩ = some (.string v) := HO.out.cell rfl
    have c3 : W.cell? ⟨w.heap.size, 3, none⟩ = some (.float .f64 p) := HO.out.cell rfl
    have c4 : W.cell? ⟨w.heap.size, 4, none⟩ = some (.string b) := HO.out.cell rfl
    cases bz with
    | false =>
      have HV2 := Lib.hid (show V = false from HV.out)
      clear HV
      go_wp2_with fail
      go_ret
      exact ⟨by rw [HV2.out]; rfl, HB.out⟩
    | true =>
      go_wp2_with fail
      refine (HK1.out W).mono ?_
      rintro x y ⟨rfl, rfl⟩
      go_wp2_with fail
      refine (HK2.out W).mono ?_
      rintro x y ⟨rfl, rfl⟩
      have HV2 := Lib.hid (show V = kz from by rw [HV.out]; cases kz <;> rfl)
      clear HV
      go_wp2_with fail
      go_ret
      exact ⟨by rw [HV2.out]; rfl, HB.out⟩
  · go_enter Tryz.func29, Tryz.ntmps29
    go_upto_region 1 with fail
    change Code.wp _ _ _ _ (w.alloc (.cells (opc ⟨5, n, v, p, b⟩) 25))
    generalize w.alloc (.cells (opc ⟨5, n, v, p, b⟩) 25) = W at *
    have c0 : W.cell? ⟨w.heap.size, 0, none⟩ = some (.int .i64 5) := HO.out.cell rfl
    have c1 : W.cell? ⟨w.heap.size, 1, none⟩ = some (.string n) := HO.out.cell rfl
    have c2 : W.cell? ⟨w.heap.size, 2, none⟩ = some (.string v) := HO.out.cell rfl
    have c3 : W.cell? ⟨w.heap.size, 3, none⟩ = some (.float .f64 p) := HO.out.cell rfl
    have c4 : W.cell? ⟨w.heap.size, 4, none⟩ = some (.string b) := HO.out.cell rfl
    cases vz with
    | false =>
      have HV2 := Lib.hid (show V = false from HV.out)
      clear HV
      go_wp2_with fail
      go_ret
      exact ⟨by rw [HV2.out]; rfl, HB.out⟩
    | true =>
      cases bz with
      | false =>
        have HV2 := Lib.hid (show V = false from HV.out)
        clear HV
        go_wp2_with fail
        go_ret
        exact ⟨by rw [HV2.out]; rfl, HB.out⟩
      | true =>
        have HV2 := Lib.hid (show V = true from HV.out)
        clear HV
        go_wp2_with fail
        go_ret
        exact ⟨by rw [HV2.out]; rfl, HB.out⟩
  · go_enter Tryz.func29, Tryz.ntmps29
    go_upto_region 1 with fail
    change Code.wp _ _ _ _ (w.alloc (.cells (opc ⟨6, n, v, p, b⟩) 25))
    generalize w.alloc (.cells (opc ⟨6, n, v, p, b⟩) 25) = W at *
    have c0 : W.cell? ⟨w.heap.size, 0, none⟩ = some (.int .i64 6) := HO.out.cell rfl
    have c1 : W.cell? ⟨w.heap.size, 1, none⟩ = some (.string n) := HO.out.cell rfl
    have c2 : W.cell? ⟨w.heap.size, 2, none⟩ = some (.string v) := HO.out.cell rfl
    have c3 : W.cell? ⟨w.heap.size, 3, none⟩ = some (.float .f64 p) := HO.out.cell rfl
    have c4 : W.cell? ⟨w.heap.size, 4, none⟩ = some (.string b) := HO.out.cell rfl
    cases vz with
    | false =>
      have HV2 := Lib.hid (show V = false from HV.out)
      clear HV
      go_wp2_with fail
      go_ret
      exact ⟨by rw [HV2.out]; rfl, HB.out⟩
    | true =>
      cases bz with
      | false =>
        have HV2 := Lib.hid (show V = false from HV.out)
        clear HV
        go_wp2_with fail
        go_ret
        exact ⟨by rw [HV2.out]; rfl, HB.out⟩
      | true =>
        go_wp2_with fail
        refine (HK1.out W).mono ?_
        rintro x y ⟨rfl, rfl⟩
        go_wp2_with fail
        refine (HK2.out W).mono ?_
        rintro x y ⟨rfl, rfl⟩
        have HV2 := Lib.hid (show V = kz from by rw [HV.out]; cases kz <;> rfl)
        clear HV
        go_wp2_with fail
        go_ret
        exact ⟨by rw [HV2.out]; rfl, HB.out⟩

set_option maxHeartbeats 16000000 in
theorem chkOR (o : Opp) (hn : o.n.size ≤ maxLen) (hvl : o.v.size ≤ maxLen) (hbl : o.b.size ≤ maxLen) (hp : o.p < 18446744073709551616) (w : World) :
    Calls Tryz.prog 11 #[.agg (opc o)] w fun v w' => v = .returned (.int .i64 (chkO o)) ∧ Go.RowKit.Below w.heap.size w w' := by
  have HO := Lib.hid (Blk.new w 25 (opc o))
  have HB := Lib.hid (lowA w (.cells (opc o) 25))
  have HPL := Lib.hid (fun W (h1 : 1 ≤ o.k) (h6 : o.k ≤ 6) => plainOR o h1 h6 hp W)
  have HV := Lib.hid (show chkO o = if o.k < 1 ∨ 6 < o.k then 1 else if o.n.size < 1 ∨ 64 < o.n.size then 14
    else if (o.k = 2 ∨ o.k = 3) ∧ (o.v.size < 1 ∨ 64 < o.v.size) then 14 else if o.k = 4 ∧ 256 < o.v.size then 3 else if o.k = 1 ∧ 32768 < o.b.size then 3
    else if plainO o = false then 5 else 0 from rfl)
  unfold maxLen at hn hvl hbl
  generalize chkO o = V at *
  generalize plainO o = pz at *
  clear hp
  obtain ⟨k, n, v, p, b⟩ := o
  simp only at HPL HV HO HB hn hvl hbl
  have hk : k < 1 ∨ 6 < k ∨ (k = 1 ∨ k = 2 ∨ k = 3 ∨ k = 4 ∨ k = 5 ∨ k = 6) := by omega
  rcases hk with hk | hk | rfl | rfl | rfl | rfl | rfl | rfl
  · go_enter Tryz.func11, Tryz.ntmps11
    go_upto_region 1 with fail
    change Code.wp _ _ _ _ (w.alloc (.cells (opc ⟨k, n, v, p, b⟩) 25))
    generalize w.alloc (.cells (opc ⟨k, n, v, p, b⟩) 25) = W at *
    have c0 : W.cell? ⟨w.heap.size, 0, none⟩ = some (.int .i64 k) := HO.out.cell rfl
    have c1 : W.cell? ⟨w.heap.size, 1, none⟩ = some (.string n) := HO.out.cell rfl
    have c2 : W.cell? ⟨w.heap.size, 2, none⟩ = some (.string v) := HO.out.cell rfl
    have c3 : W.cell? ⟨w.heap.size, 3, none⟩ = some (.float .f64 p) := HO.out.cell rfl
    have c4 : W.cell? ⟨w.heap.size, 4, none⟩ = some (.string b) := HO.out.cell rfl
    have q2 : (k == 2) = false := by simp; omega
    have q3 : (k == 3) = false := by simp; omega
    have d1 : decide (k < 1) = true := by simp; omega
    have HV2 := Lib.hid (show V = 1 by rw [HV.out]; exact if_pos (by omega))
    clear HV hk
    go_wp2_with fail
    go_ret
    exact ⟨by rw [HV2.out]; rfl, HB.out⟩
  · go_enter Tryz.func11, Tryz.ntmps11
    go_upto_region 1 with fail
    change Code.wp _ _ _ _ (w.alloc (.cells (opc ⟨k, n, v, p, b⟩) 25))
    generalize w.alloc (.cells (opc ⟨k, n, v, p, b⟩) 25) = W at *
    have c0 : W.cell? ⟨w.heap.size, 0, none⟩ = some (.int .i64 k) := HO.out.cell rfl
    have c1 : W.cell? ⟨w.heap.size, 1, none⟩ = some (.string n) := HO.out.cell rfl
    have c2 : W.cell? ⟨w.heap.size, 2, none⟩ = some (.string v) := HO.out.cell rfl
    have c3 : W.cell? ⟨w.heap.size, 3, none⟩ = some (.float .f64 p) := HO.out.cell rfl
    have c4 : W.cell? ⟨w.heap.size, 4, none⟩ = some (.string b) := HO.out.cell rfl
    have q2 : (k == 2) = false := by simp; omega
    have q3 : (k == 3) = false := by simp; omega
    have d1 : decide (k < 1) = false := by simp; omega
    have d6 : decide (6 < k) = true := by simp; omega
    have HV2 := Lib.hid (show V = 1 by rw [HV.out]; exact if_pos (by omega))
    clear HV hk
    go_wp2_with fail
    go_ret
    exact ⟨by rw [HV2.out]; rfl, HB.out⟩
  · go_enter Tryz.func11, Tryz.ntmps11
    go_upto_region 1 with fail
    change Code.wp _ _ _ _ (w.alloc (.cells (opc ⟨1, n, v, p, b⟩) 25))
    generalize w.alloc (.cells (opc ⟨1, n, v, p, b⟩) 25) = W at *
    have c0 : W.cell? ⟨w.heap.size, 0, none⟩ = some (.int .i64 1) := HO.out.cell rfl
    have c1 : W.cell? ⟨w.heap.size, 1, none⟩ = some (.string n) := HO.out.cell rfl
    have c2 : W.cell? ⟨w.heap.size, 2, none⟩ = some (.string v) := HO.out.cell rfl
    have c3 : W.cell? ⟨w.heap.size, 3, none⟩ = some (.float .f64 p) := HO.out.cell rfl
    have c4 : W.cell? ⟨w.heap.size, 4, none⟩ = some (.string b) := HO.out.cell rfl
    by_cases h1 : n.size < 1
    · have dh1 : decide ((n.size : Int) < 1) = true := by simp; omega
      have HV2 := Lib.hid (show V = 14 by rw [HV.out]; simp [h1])
      clear HV h1 
      go_wp2_with fail
      go_ret
      exact ⟨by rw [HV2.out]; rfl, HB.out⟩
    · have dh1 : decide ((n.size : Int) < 1) = false := by simp; omega
      by_cases h2 : 64 < n.size
      · have dh2 : decide ((64 : Int) < (n.size : Int)) = true := by simp; omega
        have HV2 := Lib.hid (show V = 14 by rw [HV.out]; simp [h1, h2])
        clear HV h2 h1
        go_wp2_with fail
        go_ret
        exact ⟨by rw [HV2.out]; rfl, HB.out⟩
      · have dh2 : decide ((64 : Int) < (n.size : Int)) = false := by simp; omega
        by_cases h3 : 32768 < b.size
        · have dh3 : decide ((32768 : Int) < (b.size : Int)) = true := by simp; omega
          have HV2 := Lib.hid (show V = 3 by rw [HV.out]; simp [h1, h2, h3])
          clear HV h3 h1 h2
          go_wp2_with fail
          go_ret
          exact ⟨by rw [HV2.out]; rfl, HB.out⟩
        · have dh3 : decide ((32768 : Int) < (b.size : Int)) = false := by simp; omega
          go_wp2_with ((with_reducible refine bl_load ?_ 25 (.tmp 1) ?_ w.heap.size 0 (opc ⟨1, n, v, p, b⟩) ?_ ?_ Tryz.underlying25 ?_ ?_ ?_); rfl; rfl; rfl; exact HO.out.all; rfl; exact infoO _; simp only [Act.put, List.setIfInBounds_toArray, List.set_cons_zero, List.set_cons_succ])
          refine (HPL.out W (by omega) (by omega)).mono ?_
          rintro x w1 ⟨rfl, hb1⟩
          have HB1 := Lib.hid (HB.out.trans (hb1.mono HB.out.size))
          clear hb1
          cases pz with
          | false =>
            have HV2 := Lib.hid (show V = 5 by rw [HV.out]; simp [h1, h2, h3])
            go_wp2_with fail
            go_ret
            exact ⟨by rw [HV2.out]; rfl, HB1.out⟩
          | true =>
            have HV2 := Lib.hid (show V = 0 by rw [HV.out]; simp [h1, h2, h3])
            go_wp2_with fail
            go_ret
            exact ⟨by rw [HV2.out]; rfl, HB1.out⟩
  · go_enter Tryz.func11, Tryz.ntmps11
    go_upto_region 1 with fail
    change Code.wp _ _ _ _ (w.alloc (.cells (opc ⟨2, n, v, p, b⟩) 25))
    generalize w.alloc (.cells (opc ⟨2, n, v, p, b⟩) 25) = W at *
    have c0 : W.cell? ⟨w.heap.size, 0, none⟩ = some (.int .i64 2) := HO.out.cell rfl
    have c1 : W.cell? ⟨w.heap.size, 1, none⟩ = some (.string n) := HO.out.cell rfl
    have c2 : W.cell? ⟨w.heap.size, 2, none⟩ = some (.string v) := HO.out.cell rfl
    have c3 : W.cell? ⟨w.heap.size, 3, none⟩ = some (.float .f64 p) := HO.out.cell rfl
    have c4 : W.cell? ⟨w.heap.size, 4, none⟩ = some (.string b) := HO.out.cell rfl
    by_cases h1 : n.size < 1
    · have dh1 : decide ((n.size : Int) < 1) = true := by simp; omega
      have HV2 := Lib.hid (show V = 14 by rw [HV.out]; simp [h1])
      clear HV h1 
      go_wp2_with fail
      go_ret
      exact ⟨by rw [HV2.out]; rfl, HB.out⟩
    · have dh1 : decide ((n.size : Int) < 1) = false := by simp; omega
      by_cases h2 : 64 < n.size
      · have dh2 : decide ((64 : Int) < (n.size : Int)) = true := by simp; omega
        have HV2 := Lib.hid (show V = 14 by rw [HV.out]; simp [h1, h2])
        clear HV h2 h1
        go_wp2_with fail
        go_ret
        exact ⟨by rw [HV2.out]; rfl, HB.out⟩
      · have dh2 : decide ((64 : Int) < (n.size : Int)) = false := by simp; omega
        by_cases h3 : v.size < 1
        · have dh3 : decide ((v.size : Int) < 1) = true := by simp; omega
          have HV2 := Lib.hid (show V = 14 by rw [HV.out]; simp [h1, h2, h3])
          clear HV h3 h1 h2
          go_wp2_with fail
          go_ret
          exact ⟨by rw [HV2.out]; rfl, HB.out⟩
        · have dh3 : decide ((v.size : Int) < 1) = false := by simp; omega
          by_cases h4 : 64 < v.size
          · have dh4 : decide ((64 : Int) < (v.size : Int)) = true := by simp; omega
            have HV2 := Lib.hid (show V = 14 by rw [HV.out]; simp [h1, h2, h3, h4])
            clear HV h4 h1 h2 h3
            go_wp2_with fail
            go_ret
            exact ⟨by rw [HV2.out]; rfl, HB.out⟩
          · have dh4 : decide ((64 : Int) < (v.size : Int)) = false := by simp; omega
            go_wp2_with ((with_reducible refine bl_load ?_ 25 (.tmp 1) ?_ w.heap.size 0 (opc ⟨2, n, v, p, b⟩) ?_ ?_ Tryz.underlying25 ?_ ?_ ?_); rfl; rfl; rfl; exact HO.out.all; rfl; exact infoO _; simp only [Act.put, List.setIfInBounds_toArray, List.set_cons_zero, List.set_cons_succ])
            refine (HPL.out W (by omega) (by omega)).mono ?_
            rintro x w1 ⟨rfl, hb1⟩
            have HB1 := Lib.hid (HB.out.trans (hb1.mono HB.out.size))
            clear hb1
            cases pz with
            | false =>
              have HV2 := Lib.hid (show V = 5 by rw [HV.out]; simp [h1, h2, h3, h4])
              go_wp2_with fail
              go_ret
              exact ⟨by rw [HV2.out]; rfl, HB1.out⟩
            | true =>
              have HV2 := Lib.hid (show V = 0 by rw [HV.out]; simp [h1, h2, h3, h4])
              go_wp2_with fail
              go_ret
              exact ⟨by rw [HV2.out]; rfl, HB1.out⟩
  · go_enter Tryz.func11, Tryz.ntmps11
    go_upto_region 1 with fail
    change Code.wp _ _ _ _ (w.alloc (.cells (opc ⟨3, n, v, p, b⟩) 25))
    generalize w.alloc (.cells (opc ⟨3, n, v, p, b⟩) 25) = W at *
    have c0 : W.cell? ⟨w.heap.size, 0, none⟩ = some (.int .i64 3) := HO.out.cell rfl
    have c1 : W.cell? ⟨w.heap.size, 1, none⟩ = some (.string n) := HO.out.cell rfl
    have c2 : W.cell? ⟨w.heap.size, 2, none⟩ = some (.string v) := HO.out.cell rfl
    have c3 : W.cell? ⟨w.heap.size, 3, none⟩ = some (.float .f64 p) := HO.out.cell rfl
    have c4 : W.cell? ⟨w.heap.size, 4, none⟩ = some (.string b) := HO.out.cell rfl
    by_cases h1 : n.size < 1
    · have dh1 : decide ((n.size : Int) < 1) = true := by simp; omega
      have HV2 := Lib.hid (show V = 14 by rw [HV.out]; simp [h1])
      clear HV h1 
      go_wp2_with fail
      go_ret
      exact ⟨by rw [HV2.out]; rfl, HB.out⟩
    · have dh1 : decide ((n.size : Int) < 1) = false := by simp; omega
      by_cases h2 : 64 < n.size
      · have dh2 : decide ((64 : Int) < (n.size : Int)) = true := by simp; omega
        have HV2 := Lib.hid (show V = 14 by rw [HV.out]; simp [h1, h2])
        clear HV h2 h1
        go_wp2_with fail
        go_ret
        exact ⟨by rw [HV2.out]; rfl, HB.out⟩
      · have dh2 : decide ((64 : Int) < (n.size : Int)) = false := by simp; omega
        by_cases h3 : v.size < 1
        · have dh3 : decide ((v.size : Int) < 1) = true := by simp; omega
          have HV2 := Lib.hid (show V = 14 by rw [HV.out]; simp [h1, h2, h3])
          clear HV h3 h1 h2
          go_wp2_with fail
          go_ret
          exact ⟨by rw [HV2.out]; rfl, HB.out⟩
        · have dh3 : decide ((v.size : Int) < 1) = false := by simp; omega
          by_cases h4 : 64 < v.size
          · have dh4 : decide ((64 : Int) < (v.size : Int)) = true := by simp; omega
            have HV2 := Lib.hid (show V = 14 by rw [HV.out]; simp [h1, h2, h3, h4])
            clear HV h4 h1 h2 h3
            go_wp2_with fail
            go_ret
            exact ⟨by rw [HV2.out]; rfl, HB.out⟩
          · have dh4 : decide ((64 : Int) < (v.size : Int)) = false := by simp; omega
            go_wp2_with ((with_reducible refine bl_load ?_ 25 (.tmp 1) ?_ w.heap.size 0 (opc ⟨3, n, v, p, b⟩) ?_ ?_ Tryz.underlying25 ?_ ?_ ?_); rfl; rfl; rfl; exact HO.out.all; rfl; exact infoO _; simp only [Act.put, List.setIfInBounds_toArray, List.set_cons_zero, List.set_cons_succ])
            refine (HPL.out W (by omega) (by omega)).mono ?_
            rintro x w1 ⟨rfl, hb1⟩
            have HB1 := Lib.hid (HB.out.trans (hb1.mono HB.out.size))
            clear hb1
            cases pz with
            | false =>
              have HV2 := Lib.hid (show V = 5 by rw [HV.out]; simp [h1, h2, h3, h4])
              go_wp2_with fail
              go_ret
              exact ⟨by rw [HV2.out]; rfl, HB1.out⟩
            | true =>
              have HV2 := Lib.hid (show V = 0 by rw [HV.out]; simp [h1, h2, h3, h4])
              go_wp2_with fail
              go_ret
              exact ⟨by rw [HV2.out]; rfl, HB1.out⟩
  · go_enter Tryz.func11, Tryz.ntmps11
    go_upto_region 1 with fail
    change Code.wp _ _ _ _ (w.alloc (.cells (opc ⟨4, n, v, p, b⟩) 25))
    generalize w.alloc (.cells (opc ⟨4, n, v, p, b⟩) 25) = W at *
    have c0 : W.cell? ⟨w.heap.size, 0, none⟩ = some (.int .i64 4) := HO.out.cell rfl
    have c1 : W.cell? ⟨w.heap.size, 1, none⟩ = some (.string n) := HO.out.cell rfl
    have c2 : W.cell? ⟨w.heap.size, 2, none⟩ = some (.string v) := HO.out.cell rfl
    have c3 : W.cell? ⟨w.heap.size, 3, none⟩ = some (.float .f64 p) := HO.out.cell rfl
    have c4 : W.cell? ⟨w.heap.size, 4, none⟩ = some (.string b) := HO.out.cell rfl
    by_cases h1 : n.size < 1
    · have dh1 : decide ((n.size : Int) < 1) = true := by simp; omega
      have HV2 := Lib.hid (show V = 14 by rw [HV.out]; simp [h1])
      clear HV h1 
      go_wp2_with fail
      go_ret
      exact ⟨by rw [HV2.out]; rfl, HB.out⟩
    · have dh1 : decide ((n.size : Int) < 1) = false := by simp; omega
      by_cases h2 : 64 < n.size
      · have dh2 : decide ((64 : Int) < (n.size : Int)) = true := by simp; omega
        have HV2 := Lib.hid (show V = 14 by rw [HV.out]; simp [h1, h2])
        clear HV h2 h1
        go_wp2_with fail
        go_ret
        exact ⟨by rw [HV2.out]; rfl, HB.out⟩
      · have dh2 : decide ((64 : Int) < (n.size : Int)) = false := by simp; omega
        by_cases h3 : 256 < v.size
        · have dh3 : decide ((256 : Int) < (v.size : Int)) = true := by simp; omega
          have HV2 := Lib.hid (show V = 3 by rw [HV.out]; simp [h1, h2, h3])
          clear HV h3 h1 h2
          go_wp2_with fail
          go_ret
          exact ⟨by rw [HV2.out]; rfl, HB.out⟩
        · have dh3 : decide ((256 : Int) < (v.size : Int)) = false := by simp; omega
          go_wp2_with ((with_reducible refine bl_load ?_ 25 (.tmp 1) ?_ w.heap.size 0 (opc ⟨4, n, v, p, b⟩) ?_ ?_ Tryz.underlying25 ?_ ?_ ?_); rfl; rfl; rfl; exact HO.out.all; rfl; exact infoO _; simp only [Act.put, List.setIfInBounds_toArray, List.set_cons_zero, List.set_cons_succ])
          refine (HPL.out W (by omega) (by omega)).mono ?_
          rintro x w1 ⟨rfl, hb1⟩
          have HB1 := Lib.hid (HB.out.trans (hb1.mono HB.out.size))
          clear hb1
          cases pz with
          | false =>
            have HV2 := Lib.hid (show V = 5 by rw [HV.out]; simp [h1, h2, h3])
            go_wp2_with fail
            go_ret
            exact ⟨by rw [HV2.out]; rfl, HB1.out⟩
          | true =>
            have HV2 := Lib.hid (show V = 0 by rw [HV.out]; simp [h1, h2, h3])
            go_wp2_with fail
            go_ret
            exact ⟨by rw [HV2.out]; rfl, HB1.out⟩
  · go_enter Tryz.func11, Tryz.ntmps11
    go_upto_region 1 with fail
    change Code.wp _ _ _ _ (w.alloc (.cells (opc ⟨5, n, v, p, b⟩) 25))
    generalize w.alloc (.cells (opc ⟨5, n, v, p, b⟩) 25) = W at *
    have c0 : W.cell? ⟨w.heap.size, 0, none⟩ = some (.int .i64 5) := HO.out.cell rfl
    have c1 : W.cell? ⟨w.heap.size, 1, none⟩ = some (.string n) := HO.out.cell rfl
    have c2 : W.cell? ⟨w.heap.size, 2, none⟩ = some (.string v) := HO.out.cell rfl
    have c3 : W.cell? ⟨w.heap.size, 3, none⟩ = some (.float .f64 p) := HO.out.cell rfl
    have c4 : W.cell? ⟨w.heap.size, 4, none⟩ = some (.string b) := HO.out.cell rfl
    by_cases h1 : n.size < 1
    · have dh1 : decide ((n.size : Int) < 1) = true := by simp; omega
      have HV2 := Lib.hid (show V = 14 by rw [HV.out]; simp [h1])
      clear HV h1 
      go_wp2_with fail
      go_ret
      exact ⟨by rw [HV2.out]; rfl, HB.out⟩
    · have dh1 : decide ((n.size : Int) < 1) = false := by simp; omega
      by_cases h2 : 64 < n.size
      · have dh2 : decide ((64 : Int) < (n.size : Int)) = true := by simp; omega
        have HV2 := Lib.hid (show V = 14 by rw [HV.out]; simp [h1, h2])
        clear HV h2 h1
        go_wp2_with fail
        go_ret
        exact ⟨by rw [HV2.out]; rfl, HB.out⟩
      · have dh2 : decide ((64 : Int) < (n.size : Int)) = false := by simp; omega
        go_wp2_with ((with_reducible refine bl_load ?_ 25 (.tmp 1) ?_ w.heap.size 0 (opc ⟨5, n, v, p, b⟩) ?_ ?_ Tryz.underlying25 ?_ ?_ ?_); rfl; rfl; rfl; exact HO.out.all; rfl; exact infoO _; simp only [Act.put, List.setIfInBounds_toArray, List.set_cons_zero, List.set_cons_succ])
        refine (HPL.out W (by omega) (by omega)).mono ?_
        rintro x w1 ⟨rfl, hb1⟩
        have HB1 := Lib.hid (HB.out.trans (hb1.mono HB.out.size))
        clear hb1
        cases pz with
        | false =>
          have HV2 := Lib.hid (show V = 5 by rw [HV.out]; simp [h1, h2])
          go_wp2_with fail
          go_ret
          exact ⟨by rw [HV2.out]; rfl, HB1.out⟩
        | true =>
          have HV2 := Lib.hid (show V = 0 by rw [HV.out]; simp [h1, h2])
          go_wp2_with fail
          go_ret
          exact ⟨by rw [HV2.out]; rfl, HB1.out⟩
  · go_enter Tryz.func11, Tryz.ntmps11
    go_upto_region 1 with fail
    change Code.wp _ _ _ _ (w.alloc (.cells (opc ⟨6, n, v, p, b⟩) 25))
    generalize w.alloc (.cells (opc ⟨6, n, v, p, b⟩) 25) = W at *
    have c0 : W.cell? ⟨w.heap.size, 0, none⟩ = some (.int .i64 6) := HO.out.cell rfl
    have c1 : W.cell? ⟨w.heap.size, 1, none⟩ = some (.string n) := HO.out.cell rfl
    have c2 : W.cell? ⟨w.heap.size, 2, none⟩ = some (.string v) := HO.out.cell rfl
    have c3 : W.cell? ⟨w.heap.size, 3, none⟩ = some (.float .f64 p) := HO.out.cell rfl
    have c4 : W.cell? ⟨w.heap.size, 4, none⟩ = some (.string b) := HO.out.cell rfl
    by_cases h1 : n.size < 1
    · have dh1 : decide ((n.size : Int) < 1) = true := by simp; omega
      have HV2 := Lib.hid (show V = 14 by rw [HV.out]; simp [h1])
      clear HV h1 
      go_wp2_with fail
      go_ret
      exact ⟨by rw [HV2.out]; rfl, HB.out⟩
    · have dh1 : decide ((n.size : Int) < 1) = false := by simp; omega
      by_cases h2 : 64 < n.size
      · have dh2 : decide ((64 : Int) < (n.size : Int)) = true := by simp; omega
        have HV2 := Lib.hid (show V = 14 by rw [HV.out]; simp [h1, h2])
        clear HV h2 h1
        go_wp2_with fail
        go_ret
        exact ⟨by rw [HV2.out]; rfl, HB.out⟩
      · have dh2 : decide ((64 : Int) < (n.size : Int)) = false := by simp; omega
        go_wp2_with ((with_reducible refine bl_load ?_ 25 (.tmp 1) ?_ w.heap.size 0 (opc ⟨6, n, v, p, b⟩) ?_ ?_ Tryz.underlying25 ?_ ?_ ?_); rfl; rfl; rfl; exact HO.out.all; rfl; exact infoO _; simp only [Act.put, List.setIfInBounds_toArray, List.set_cons_zero, List.set_cons_succ])
        refine (HPL.out W (by omega) (by omega)).mono ?_
        rintro x w1 ⟨rfl, hb1⟩
        have HB1 := Lib.hid (HB.out.trans (hb1.mono HB.out.size))
        clear hb1
        cases pz with
        | false =>
          have HV2 := Lib.hid (show V = 5 by rw [HV.out]; simp [h1, h2])
          go_wp2_with fail
          go_ret
          exact ⟨by rw [HV2.out]; rfl, HB1.out⟩
        | true =>
          have HV2 := Lib.hid (show V = 0 by rw [HV.out]; simp [h1, h2])
          go_wp2_with fail
          go_ret
          exact ⟨by rw [HV2.out]; rfl, HB1.out⟩

set_option maxHeartbeats 2000000 in
theorem inOR (t : List ByteArray) (s : ByteArray) (a : Option Addr) (cap : Nat) (w : World) (h : StrRow w a t) (hl : t.length ≤ maxLen) :
    Calls Tryz.prog 32 #[.slice a t.length cap, .string s] w fun v w' => v = .returned (.bool (t.any (fun x => decide (x = s)))) ∧ w = w' := by
  have H := Lib.hid h
  unfold maxLen at hl
  clear h
  go_enter Tryz.func32, Tryz.ntmps32
  go_wp2_with fail
  go_loopw [5] (fun i wr => ∃ k : Nat, k ≤ t.length ∧ i = .int .i64 k ∧ Hid (∀ j, j < k → t.getD j ByteArray.empty ≠ s) ∧ w = wr) (fun i _ => t.length - (intOf i).toNat)
  case atStart => exact ⟨0, Nat.zero_le _, rfl, Lib.hid (fun j hj => by omega), rfl⟩
  case round =>
    obtain ⟨k, hk, rfl, HK, rfl⟩ := hrel
    by_cases hlt : k < t.length
    · have hi1 : (k : Int) < (t.length : Int) := by omega
      obtain ⟨b, off, rfl, hbl, c0⟩ : ∃ b off, a = some ⟨b, off, none⟩ ∧ b < w.heap.size ∧ w.cell? ⟨b, off + k, none⟩ = some (.string (t.getD k ByteArray.empty)) := by
        rcases H.out with h | ⟨b, off, h1, h2, h3⟩
        · rw [h] at hlt; simp at hlt
        · exact ⟨b, off, h1, h2, h3 k hlt⟩
      have hx := ostr_eq (t.getD k ByteArray.empty) s
      have hm : t.getD k ByteArray.empty ∈ t := by rw [List.getD_eq_getElem?_getD, List.getElem?_eq_getElem hlt]; exact List.getElem_mem hlt
      by_cases he : t.getD k ByteArray.empty = s
      · have hd : decide (t.getD k ByteArray.empty = s) = true := decide_eq_true he
        rw [hd] at hx
        have HV := Lib.hid (show t.any (fun x => decide (x = s)) = true from List.any_eq_true.2 ⟨_, hm, hd⟩)
        generalize t.getD k ByteArray.empty = y at *
        clear he hd hm HK
        go_wp2_with fail
        go_ret
        exact ⟨by rw [HV.out]; rfl, rfl⟩
      · have hd : decide (t.getD k ByteArray.empty = s) = false := decide_eq_false he
        rw [hd] at hx
        have HK2 := Lib.hid (show ∀ j, j < k + 1 → t.getD j ByteArray.empty ≠ s from fun j hj => by
          rcases Nat.lt_or_ge j k with g1 | g1
          · exact HK.out j g1
          · obtain rfl : j = k := by omega
            exact he)
        generalize t.getD k ByteArray.empty = y at hx c0
        clear he hd hm HK
        go_wp2_with fail
        exact ⟨⟨k + 1, by omega, by go_num, HK2, trivial⟩, by simp [intOf]; omega⟩
    · have hi1 : ¬ (k : Int) < (t.length : Int) := by omega
      have HV := Lib.hid (show t.any (fun x => decide (x = s)) = false from by
        rw [List.any_eq_false]
        intro x hx
        obtain ⟨j, hj, rfl⟩ := List.mem_iff_getElem.1 hx
        have h1 := HK.out j (by omega)
        rw [List.getD_eq_getElem?_getD, List.getElem?_eq_getElem hj] at h1
        simpa using h1)
      go_wp2_with fail
      go_ret
      exact ⟨by rw [HV.out]; rfl, rfl⟩
end Go.Proofs.YtmnblpjdiplioaaGreat
