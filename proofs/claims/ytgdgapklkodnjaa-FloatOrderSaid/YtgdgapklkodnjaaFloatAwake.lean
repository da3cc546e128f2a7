/-
  almonrylaw05: awake.
-/
import Derived.Test.YtgdgapklkodnjaaFloatAll
import Derived.Test.YtgdgapklkodnjaaFloatPut
namespace Go.Proofs.Ytgdgapklkodnjaa
open Go.RowKit

attribute [local go_sem] run_store_flt

theorem lessT (a b : Nat) (ha : a < 18446744073709551616) (hb : b < 18446744073709551616) (r : Bool) (h : decide (keyB a < keyB b) = r) (w : World) : Calls Try.prog 20 #[.float .f64 a, .float .f64 b] w fun e w' => e = .returned (.bool r) ∧ w = w' := by
  rw [← h]; exact lessC a b ha hb w
theorem sameT (a : Nat) (w : World) : Calls Try.prog 12 #[.float .f64 a, .float .f64 a] w fun e w' => e = .returned (.bool true) ∧ w = w' := by
  have h := sameR a a w
  rwa [decide_eq_true rfl] at h
theorem feqT (b : Nat) (h : isNb b = false) : (FloatKind.f64.format.order b b == some Ordering.eq) = true := by rw [feql, h]; rfl
theorem fneT (b : Nat) (h : isNb b = true) : (FloatKind.f64.format.order b b != some Ordering.eq) = true := by rw [fneq, h]

theorem awG (v : Value) (w : World) (h : FIn w v awR) : ∃ g cap, v = .slice (some ⟨g, 0, none⟩) 5 cap ∧ g < w.heap.size ∧ w.cell? ⟨g, 0, none⟩ = some (.float .f64 13830554455654793216) ∧ w.cell? ⟨g, 1, none⟩ = some (.float .f64 9223372036854775808) ∧ w.cell? ⟨g, 3, none⟩ = some (.float .f64 9218868437227405312) ∧ w.cell? ⟨g, 4, none⟩ = some (.float .f64 9221120237041090561) := by
  rcases h with ⟨_, h⟩ | ⟨g, cap, rfl, hg, hc⟩
  · cases h
  · exact ⟨g, cap, rfl, hg, hc 0 (by decide), hc 1 (by decide), hc 3 (by decide), hc 4 (by decide)⟩

theorem aw_in (W : World) : FIn (W.alloc (.cells #[.float .f64 9218868437227405313, .float .f64 0, .float .f64 9218868437227405312, .float .f64 9223372036854775808, .float .f64 13830554455654793216] 22)) (.slice (some ⟨W.heap.size, 0, none⟩) 5 5) awL := by
  refine .inr ⟨W.heap.size, 5, rfl, by simp, fun j hj => ?_⟩
  have hj5 : j < 5 := hj
  have hc : j = 0 ∨ j = 1 ∨ j = 2 ∨ j = 3 ∨ j = 4 := by omega
  rcases hc with rfl | rfl | rfl | rfl | rfl <;> (unfold World.cell?; rw [heap_alloc_new]; rfl)

set_option maxHeartbeats 4000000 in
set_option maxRecDepth 100000 in
theorem floatAwake (w : World) :
    Calls Try.prog 7 #[] w fun e w' => e = .returned (.bool true) ∧ Below w.heap.size w w' := by
  have c1 : ∀ W : World, (callFunc 19 #[.int .u64 9218868437227405312]).run Try.prog W = .ok (.value (.float .f64 9218868437227405312)) W := ffrom 9218868437227405312
  have c2 : ∀ W : World, (callFunc 19 #[.int .u64 9223372036854775808]).run Try.prog W = .ok (.value (.float .f64 9223372036854775808)) W := ffrom 9223372036854775808
  have p1 := fun W => putC 13836183955189006336 W
  have r1 := fun W => readC (putS 13836183955189006336) W (by rw [putS_size]; unfold maxLen; omega)
  rw [putS_data, (rd_put (b := 13836183955189006336) (by omega)).1, (rd_put (b := 13836183955189006336) (by omega)).2, show cln 13836183955189006336 = 13836183955189006336 by decide +kernel] at r1
  have r2 := fun W => readC ⟨#[255, 248, 0, 0, 0, 0, 0, 0]⟩ W (by decide)
  rw [show rdB (ByteArray.mk #[255, 248, 0, 0, 0, 0, 0, 0]).data.toList = 0 by decide +kernel, show rdN (ByteArray.mk #[255, 248, 0, 0, 0, 0, 0, 0]).data.toList = 5 by decide +kernel] at r2
  have r3 := fun W => readC ⟨#[]⟩ W (by decide)
  rw [show rdB (ByteArray.mk #[]).data.toList = 0 by decide +kernel, show rdN (ByteArray.mk #[]).data.toList = 4 by decide +kernel] at r3
  have n0 : ∀ W, Calls Try.prog 24 #[.int .u64 0] W fun e w' => e = .returned (.float .f64 9218868437227405313) ∧ W = w' := fun W => nanC 0 9218868437227405313 (by omega) (by decide) W
  have n7 : ∀ W, Calls Try.prog 24 #[.int .u64 7] W fun e w' => e = .returned (.float .f64 9218868437227405319) ∧ W = w' := fun W => nanC 7 9218868437227405319 (by omega) (by decide) W
  have n1 : ∀ W, Calls Try.prog 24 #[.int .u64 1] W fun e w' => e = .returned (.float .f64 9218868437227405313) ∧ W = w' := fun W => nanC 1 9218868437227405313 (by omega) (by decide) W
  have n2 : ∀ W, Calls Try.prog 24 #[.int .u64 2] W fun e w' => e = .returned (.float .f64 9218868437227405315) ∧ W = w' := fun W => nanC 2 9218868437227405315 (by omega) (by decide) W
  have l1 := fun W => lessT 9223372036854775808 0 (by omega) (by omega) true (by decide +kernel) W
  have l2 := fun W => lessT 0 9223372036854775808 (by omega) (by omega) false (by decide +kernel) W
  have l3 := fun W => lessT 9218868437227405312 9218868437227405319 (by omega) (by omega) true (by decide +kernel) W
  have l4 := fun W => lessT 9218868437227405313 9218868437227405315 (by omega) (by omega) false (by decide +kernel) W
  have s1 := fun W => sameT 9223372036854775808 W
  have k1 := fun W => keyC 0 (by omega) W
  rw [show keyB 0 = 9223372036854775808 by decide +kernel] at k1
  have e1 := feqT 13836183955189006336 (by decide +kernel)
  have e2 := feqT 13830554455654793216 (by decide +kernel)
  have e3 := feqT 9218868437227405312 (by decide +kernel)
  have e4 := fneT 9221120237041090561 (by decide +kernel)
  have P1 := Lib.hid p1
  have R1 := Lib.hid r1
  have R2 := Lib.hid r2
  have R3 := Lib.hid r3
  have N0 := Lib.hid n0
  have N7 := Lib.hid n7
  have N1 := Lib.hid n1
  have N2 := Lib.hid n2
  have L1 := Lib.hid l1
  have L2 := Lib.hid l2
  have L3 := Lib.hid l3
  have L4 := Lib.hid l4
  have S1 := Lib.hid s1
  have K1 := Lib.hid k1
  clear p1 r1 r2 r3 n0 n7 n1 n2 l1 l2 l3 l4 s1 k1
  generalize putS 13836183955189006336 = ps at P1 R1
  go_enter Try.func7, Try.ntmps7
  go_wp2_with fail
  refine (P1.out _).mono ?_
  rintro e w1 ⟨rfl, hb1⟩
  have HB1 := Lib.hid hb1
  have hs1 := hb1.size
  clear hb1
  go_wp2_with fail
  refine (R1.out _).mono ?_
  rintro e w2 ⟨rfl, rfl⟩
  go_wp2_with fail
  refine (R2.out _).mono ?_
  rintro e w2 ⟨rfl, rfl⟩
  go_wp2_with fail
  refine (R3.out _).mono ?_
  rintro e w2 ⟨rfl, rfl⟩
  go_wp2_with fail
  refine (N0.out _).mono ?_
  rintro e w2 ⟨rfl, rfl⟩
  go_wp2_with fail
  refine (sortC awL _ _ (aw_in w1) (by decide) (by decide)).mono ?_
  rintro e w2 ⟨v', r, rfl, hs, hf, hb2⟩
  obtain rfl := aw_is hs
  obtain ⟨g, cap, rfl, hg, q0, q1, q3, q4⟩ := awG _ _ hf
  have hb3 : Below w.heap.size w w2 := (HB1.out.alloc hs1 _).trans (hb2.mono (by simp; omega))
  have HB3 := Lib.hid hb3
  clear hs hf hb2 hb3 HB1
  go_wp2_with fail
  go_quiet (first
    | (go_at_call 20; first | with_reducible exact still1 (L1.out _) | with_reducible exact still1 (L2.out _) | with_reducible exact still1 (L3.out _) | with_reducible exact still1 (L4.out _))
    | (go_at_call 24; first | with_reducible exact still1 (N7.out _) | with_reducible exact still1 (N1.out _) | with_reducible exact still1 (N2.out _))
    | (go_at_call 12; with_reducible exact still1 (S1.out _))
    | (go_at_call 10; with_reducible exact still1 (K1.out _)))
  go_wp2
  go_ret
  exact ⟨rfl, belowN HB3.out _⟩
end Go.Proofs.Ytgdgapklkodnjaa
