/-
  register, the document's: later.
-/
import Derived.Test.YtpcelgmcbfjmbaaFactLsR
import Derived.Test.YtpcelgmcbfjmbaaRegOrd
namespace Go.Proofs.Ytpcelgmcbfjmbaa
set_option linter.unusedSimpArgs false
set_option linter.unusedVariables false
set_option maxRecDepth 100000
open Go.RowKit Go.Sort

theorem gt_str (x y : ByteArray) : ltX x y = (!Op.bytesLess y.toList x.toList && !y.toList == x.toList) := by
  have e : ∀ p q : ByteArray, ltX p q = Op.bytesLess p.toList q.toList := fun _ _ => rfl
  rw [← e]
  rcases totX.tri x y with h | h | h
  · have h2 : ltX y x = false := by
      cases k : ltX y x with
      | false => rfl
      | true => have := totX.trans h k; rw [totX.irr] at this; cases this
    have h3 : (y.toList == x.toList) = false := by
      simp only [beq_eq_false_iff_ne, ne_eq]
      intro k
      rw [e, k, less_irr] at h; cases h
    rw [h, h2, h3]; rfl
  · subst h; rw [totX.irr]; simp
  · have h2 : ltX x y = false := by
      cases k : ltX x y with
      | false => rfl
      | true => have := totX.trans h k; rw [totX.irr] at this; cases this
    rw [h, h2]; rfl
set_option maxHeartbeats 4000000 in
theorem laterR (a b : Ft) (w : World) : Calls Try.prog 39 #[.agg (fcs a).toArray, .agg (fcs b).toArray] w fun e w' => e = .returned (.bool (ltR b a)) ∧ Below w.heap.size w w' := by
  have hin := boxF2_in w a b
  have HGR := Lib.hid (show Below w.heap.size w (boxF (boxF w a) b) from ((boxF_gr w a).trans (boxF_gr _ b)).below)
  have ca : ∀ j v, (fcs a)[j]? = some v → (boxF (boxF w a) b).cell? ⟨w.heap.size, j, none⟩ = some v := fun j v hv => by have h := hin.1 j v hv; rwa [Nat.zero_add] at h
  have cb : ∀ j v, (fcs b)[j]? = some v → (boxF (boxF w a) b).cell? ⟨w.heap.size + 1, j, none⟩ = some v := fun j v hv => by have h := hin.2 j v hv; rwa [Nat.zero_add] at h
  have a0 := ca 0 _ rfl
  have a1 := ca 1 _ rfl
  have a2 := ca 2 _ rfl
  have a3 := ca 3 _ rfl
  have a4 := ca 4 _ rfl
  have a7 := ca 7 _ rfl
  have b0 := cb 0 _ rfl
  have b1 := cb 1 _ rfl
  have b2 := cb 2 _ rfl
  have b3 := cb 3 _ rfl
  have b4 := cb 4 _ rfl
  have b7 := cb 7 _ rfl
  have HLD := Lib.hid (fun W => lessRb b.d a.d W)
  have HLS := Lib.hid (fun W => tlessR b.s a.s W)
  have hqd := fun W => neqD a.d b.d W
  have hqs := fun W => neqS a.s b.s W
  have hl := ltR_if b a
  generalize ltR b a = R at *
  have HL := Lib.hid hl
  clear hin ca cb hl
  unfold boxF at a0 a1 a2 a3 a4 a7 b0 b1 b2 b3 b4 b7 HGR
  by_cases hs : a.s = b.s
  case neg =>
    have HJ := Lib.hid (HL.out.trans (if_pos (fun k => hs k.symm)))
    rw [decide_eq_false hs] at hqs
    clear hs hqd
    go_enter Try.func39, Try.ntmps39
    go_wp2_with fail
    refine (HLS.out _).mono ?_
    rintro e w1 ⟨rfl, hb⟩
    have HB := Lib.hid (HGR.out.trans ((show Below _ _ w1 from hb ▸ boxS2_below _ b.s a.s).mono HGR.out.size))
    clear hb
    go_wp2_with fail
    go_ret
    exact ⟨by rw [HJ.out]; rfl, HB.out⟩
  have HJ1 := Lib.hid (HL.out.trans (if_neg (fun k => k hs.symm)))
  rw [decide_eq_true hs] at hqs
  by_cases hd : a.d = b.d
  case neg =>
    have HJ := Lib.hid (HJ1.out.trans (if_pos (fun k => hd k.symm)))
    rw [decide_eq_false hd] at hqd
    clear hs hd
    go_enter Try.func39, Try.ntmps39
    go_wp2_with fail
    refine (HLD.out _).mono ?_
    rintro e w1 ⟨rfl, hb⟩
    have HB := Lib.hid (HGR.out.trans (hb.mono HGR.out.size))
    clear hb
    go_wp2_with fail
    go_ret
    exact ⟨by rw [HJ.out]; rfl, HB.out⟩
  have HJ := Lib.hid (HJ1.out.trans (if_neg (fun k => k hd.symm)))
  rw [decide_eq_true hd] at hqd
  rw [gt_str b.v a.v] at HJ
  clear hs hd
  go_enter Try.func39, Try.ntmps39
  go_wp2_with fail
  go_ret
  exact ⟨by rw [HJ.out]; rfl, HGR.out⟩
end Go.Proofs.Ytpcelgmcbfjmbaa
