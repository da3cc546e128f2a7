/-
  fact, the document's: Less.
-/
import Derived.Test.YtpcelgmcbfjmbaaFactOrd
namespace Go.Proofs.Ytpcelgmcbfjmbaa
set_option maxRecDepth 100000
open Go.RowKit Go.Sort

theorem neqS (a b : St) (W : World) : (binOp .neq 37 (.agg #[.int .i64 a.t, .int .i64 a.c, .int .i64 a.r]) (.agg #[.int .i64 b.t, .int .i64 b.c, .int .i64 b.r])).run Try.prog W = .ok (.bool (!decide (a = b))) W := by
  rw [run_neq_struct, eqS]; rfl

set_option maxHeartbeats 4000000 in
/-- Less, the document's -/
theorem lessFR (a b : Ft) (w : World) : Calls Try.prog 30 #[.agg (fcs a).toArray, .agg (fcs b).toArray] w fun e w' => e = .returned (.bool (ltF a b)) ∧ Below w.heap.size w w' := by
  have hin := boxF2_in w a b
  have HGR := Lib.hid (show Below w.heap.size w (boxF (boxF w a) b) from ((boxF_gr w a).trans (boxF_gr _ b)).below)
  have ca : ∀ j v, (fcs a)[j]? = some v → (boxF (boxF w a) b).cell? ⟨w.heap.size, j, none⟩ = some v := fun j v hv => by have h := hin.1 j v hv; rwa [Nat.zero_add] at h
  have cb : ∀ j v, (fcs b)[j]? = some v → (boxF (boxF w a) b).cell? ⟨w.heap.size + 1, j, none⟩ = some v := fun j v hv => by have h := hin.2 j v hv; rwa [Nat.zero_add] at h
  have a0 := ca 0 _ rfl
  have a1 := ca 1 _ rfl
  have a2 := ca 2 _ rfl
  have a3 := ca 3 _ rfl
  have a4 := ca 4 _ rfl
  have a5 := ca 5 _ rfl
  have a6 := ca 6 _ rfl
  have a7 := ca 7 _ rfl
  have b0 := cb 0 _ rfl
  have b1 := cb 1 _ rfl
  have b2 := cb 2 _ rfl
  have b3 := cb 3 _ rfl
  have b4 := cb 4 _ rfl
  have b5 := cb 5 _ rfl
  have b6 := cb 6 _ rfl
  have b7 := cb 7 _ rfl
  have HLD := Lib.hid (fun W => lessRb a.d b.d W)
  have HLS := Lib.hid (fun W => tlessR a.s b.s W)
  have hqd := fun W => neqD a.d b.d W
  have hqs := fun W => neqS a.s b.s W
  have hl := ltF_if a b
  have hne : ∀ x y : ByteArray, x ≠ y → (x.toList == y.toList) = false := fun x y h => by
    simp only [beq_eq_false_iff_ne, ne_eq]
    intro e
    apply h
    rw [ByteArray.toList_eq, ByteArray.toList_eq] at e
    obtain ⟨⟨p⟩⟩ := x
    obtain ⟨⟨q⟩⟩ := y
    simp only at e
    rw [e]
  generalize ltF a b = R at *
  have HL := Lib.hid hl
  have HNE := Lib.hid hne
  clear hin ca cb hl hne
  unfold boxF at a0 a1 a2 a3 a4 a5 a6 a7 b0 b1 b2 b3 b4 b5 b6 b7 HGR
  by_cases hn : a.n = b.n
  case neg =>
    have HJ := Lib.hid (HL.out.trans (if_pos hn))
    have e1 := HNE.out _ _ hn
    have hx : ltX a.n b.n = Op.bytesLess a.n.toList b.n.toList := rfl
    rw [hx] at HJ
    clear hn hqd hqs hx
    go_enter Try.func30, Try.ntmps30
    go_wp2_with fail
    go_ret
    exact ⟨by rw [HJ.out]; rfl, HGR.out⟩
  have HJ1 := Lib.hid (HL.out.trans (if_neg (fun k => k hn)))
  have e1 : (a.n.toList == b.n.toList) = true := by simp [hn]
  by_cases hk : a.k = b.k
  case neg =>
    have HJ := Lib.hid (HJ1.out.trans (if_pos hk))
    have e2 : (a.k != b.k) = true := by simp [hk]
    clear hn hk hqd hqs
    go_enter Try.func30, Try.ntmps30
    go_wp2_with fail
    go_ret
    exact ⟨by rw [HJ.out]; rfl, HGR.out⟩
  have HJ2 := Lib.hid (HJ1.out.trans (if_neg (fun k => k hk)))
  have e2 : (a.k != b.k) = false := by simp [hk]
  by_cases hd : a.d = b.d
  case neg =>
    have HJ := Lib.hid (HJ2.out.trans (if_pos hd))
    rw [decide_eq_false hd] at hqd
    clear hn hk hd hqs
    go_enter Try.func30, Try.ntmps30
    go_wp2_with fail
    refine (HLD.out _).mono ?_
    rintro e w1 ⟨rfl, hb⟩
    have HB := Lib.hid (HGR.out.trans (hb.mono HGR.out.size))
    clear hb
    go_wp2_with fail
    go_ret
    exact ⟨by rw [HJ.out]; rfl, HB.out⟩
  have HJ3 := Lib.hid (HJ2.out.trans (if_neg (fun k => k hd)))
  rw [decide_eq_true hd] at hqd
  by_cases hs : a.s = b.s
  case neg =>
    have HJ := Lib.hid (HJ3.out.trans (if_pos hs))
    rw [decide_eq_false hs] at hqs
    clear hn hk hd hs
    go_enter Try.func30, Try.ntmps30
    go_wp2_with fail
    refine (HLS.out _).mono ?_
    rintro e w1 ⟨rfl, hb⟩
    have HB := Lib.hid (HGR.out.trans ((show Below _ _ w1 from hb ▸ boxS2_below _ a.s b.s).mono HGR.out.size))
    clear hb
    go_wp2_with fail
    go_ret
    exact ⟨by rw [HJ.out]; rfl, HB.out⟩
  have HJ := Lib.hid (HJ3.out.trans (if_neg (fun k => k hs)))
  rw [decide_eq_true hs] at hqs
  have hx : ltX a.v b.v = Op.bytesLess a.v.toList b.v.toList := rfl
  rw [hx] at HJ
  clear hn hk hd hs hx
  go_enter Try.func30, Try.ntmps30
  go_wp2_with fail
  go_ret
  exact ⟨by rw [HJ.out]; rfl, HGR.out⟩
end Go.Proofs.Ytpcelgmcbfjmbaa
