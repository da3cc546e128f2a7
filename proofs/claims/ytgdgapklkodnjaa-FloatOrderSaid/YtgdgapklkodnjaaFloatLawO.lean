/-
  almonrylaw05: the walk of FloatOrder.
-/
import Derived.Test.YtgdgapklkodnjaaFloatLaws
namespace Go.Proofs.Ytgdgapklkodnjaa
open Go.RowKit

attribute [local go_sem] run_store_flt fbits

set_option maxHeartbeats 8000000 in
set_option maxRecDepth 100000 in
theorem order_core (a b c : Nat) (lab lba lbc lac sm t na : Bool) (w : World)
    (L1 : Hid (∀ W, Calls Try.prog 20 #[.float .f64 a, .float .f64 b] W fun e w' => e = .returned (.bool lab) ∧ W = w'))
    (L2 : Hid (∀ W, Calls Try.prog 20 #[.float .f64 b, .float .f64 a] W fun e w' => e = .returned (.bool lba) ∧ W = w'))
    (L3 : Hid (∀ W, Calls Try.prog 20 #[.float .f64 b, .float .f64 c] W fun e w' => e = .returned (.bool lbc) ∧ W = w'))
    (L4 : Hid (∀ W, Calls Try.prog 20 #[.float .f64 a, .float .f64 c] W fun e w' => e = .returned (.bool lac) ∧ W = w'))
    (S : Hid (∀ x y W, cln a = x → cln b = y → Calls Try.prog 12 #[.float .f64 x, .float .f64 y] W fun e w' => e = .returned (.bool sm) ∧ W = w'))
    (ht : (FloatKind.f64.format.order a b == some Ordering.lt) = t) (hna : (FloatKind.f64.format.order a a == some Ordering.eq) = na)
    (h1 : (lab && lba) = false) (h2 : (lab || lba) = !sm) (h3 : (lab && lbc && !lac) = false) (h4 : (t && !lab) = false) (h5 : (!na && lab) = false) :
    Calls Try.prog 4 #[.agg #[.int .u64 (a : Int), .int .u64 (b : Int), .int .u64 (c : Int)]] w fun e w' => e = .returned (.bool true) ∧ Below w.heap.size w w' := by
  have f1 := fun W => ffrom a W
  have f2 := fun W => ffrom b W
  have f3 := fun W => ffrom c W
  have c1 := fun W => cleanC a W
  have c2 := fun W => cleanC b W
  have C1 := Lib.hid c1
  have C2 := Lib.hid c2
  clear c1 c2
  go_enter Try.func4, Try.ntmps4
  go_wp2_with fail
  go_quiet (fail)
  have hb0 : Below w.heap.size w ((w.alloc (.cells #[.int .u64 (a : Int), .int .u64 (b : Int), .int .u64 (c : Int)] 36)).drewN nq) := belowN ((Below.refl _ _).alloc (Nat.le_refl _) _) nq
  generalize hwq : (w.alloc (.cells #[.int .u64 (a : Int), .int .u64 (b : Int), .int .u64 (c : Int)] 36)).drewN nq = wq at hb0 ⊢
  have hs0 := hb0.size
  have HB := Lib.hid hb0
  clear hb0 hwq f1 f2 f3
  generalize hx : cln a = x at C1
  generalize hy : cln b = y at C2
  have S0 := Lib.hid (fun W => S.out x y W hx hy)
  clear S hx hy
  cases lab <;> cases lba <;> simp at h1 h2 <;> subst h2
  · simp at h4
    subst h4
    cases na
    all_goals
      go_wp2_with (first
        | (go_at_call 17; first | (with_reducible refine (C1.out _).mono ?_; rintro e wz ⟨rfl, rfl⟩) | (with_reducible refine (C2.out _).mono ?_; rintro e wz ⟨rfl, rfl⟩))
        | (go_at_call 12; with_reducible refine (S0.out _).mono ?_; rintro e wz ⟨rfl, rfl⟩)
        | (go_at_call 20; first | (with_reducible refine (L1.out _).mono ?_; rintro e wz ⟨rfl, rfl⟩) | (with_reducible refine (L2.out _).mono ?_; rintro e wz ⟨rfl, rfl⟩) | (with_reducible refine (L3.out _).mono ?_; rintro e wz ⟨rfl, rfl⟩) | (with_reducible refine (L4.out _).mono ?_; rintro e wz ⟨rfl, rfl⟩)))
      refine (floatAwake _).mono ?_
      rintro e wz ⟨rfl, hb3⟩
      have HB3 := Lib.hid (HB.out.trans (hb3.mono hs0))
      clear hb3 HB
      go_wp2
      go_ret
      exact ⟨rfl, HB3.out⟩
  · simp at h4
    subst h4
    cases na
    all_goals
      go_wp2_with (first
        | (go_at_call 17; first | (with_reducible refine (C1.out _).mono ?_; rintro e wz ⟨rfl, rfl⟩) | (with_reducible refine (C2.out _).mono ?_; rintro e wz ⟨rfl, rfl⟩))
        | (go_at_call 12; with_reducible refine (S0.out _).mono ?_; rintro e wz ⟨rfl, rfl⟩)
        | (go_at_call 20; first | (with_reducible refine (L1.out _).mono ?_; rintro e wz ⟨rfl, rfl⟩) | (with_reducible refine (L2.out _).mono ?_; rintro e wz ⟨rfl, rfl⟩) | (with_reducible refine (L3.out _).mono ?_; rintro e wz ⟨rfl, rfl⟩) | (with_reducible refine (L4.out _).mono ?_; rintro e wz ⟨rfl, rfl⟩)))
      refine (floatAwake _).mono ?_
      rintro e wz ⟨rfl, hb3⟩
      have HB3 := Lib.hid (HB.out.trans (hb3.mono hs0))
      clear hb3 HB
      go_wp2
      go_ret
      exact ⟨rfl, HB3.out⟩
  · simp at h5
    subst h5
    clear h4
    cases lbc <;> simp at h3 <;> (try subst h3) <;> cases t
    all_goals
      go_wp2_with (first
        | (go_at_call 17; first | (with_reducible refine (C1.out _).mono ?_; rintro e wz ⟨rfl, rfl⟩) | (with_reducible refine (C2.out _).mono ?_; rintro e wz ⟨rfl, rfl⟩))
        | (go_at_call 12; with_reducible refine (S0.out _).mono ?_; rintro e wz ⟨rfl, rfl⟩)
        | (go_at_call 20; first | (with_reducible refine (L1.out _).mono ?_; rintro e wz ⟨rfl, rfl⟩) | (with_reducible refine (L2.out _).mono ?_; rintro e wz ⟨rfl, rfl⟩) | (with_reducible refine (L3.out _).mono ?_; rintro e wz ⟨rfl, rfl⟩) | (with_reducible refine (L4.out _).mono ?_; rintro e wz ⟨rfl, rfl⟩)))
      refine (floatAwake _).mono ?_
      rintro e wz ⟨rfl, hb3⟩
      have HB3 := Lib.hid (HB.out.trans (hb3.mono hs0))
      clear hb3 HB
      go_wp2
      go_ret
      exact ⟨rfl, HB3.out⟩

set_option maxRecDepth 100000 in
theorem order_law (a b c : Nat) (w : World) (ha : a < 18446744073709551616) (hb : b < 18446744073709551616) (hc : c < 18446744073709551616) :
    Calls Try.prog 4 #[.agg #[.int .u64 (a : Int), .int .u64 (b : Int), .int .u64 (c : Int)]] w fun e w' => e = .returned (.bool true) ∧ Below w.heap.size w w' := by
  refine order_core a b c (decide (keyB a < keyB b)) (decide (keyB b < keyB a)) (decide (keyB b < keyB c)) (decide (keyB a < keyB c)) (decide (cln a = cln b))
    (FloatKind.f64.format.order a b == some Ordering.lt) (FloatKind.f64.format.order a a == some Ordering.eq) w
    (Lib.hid fun W => lessC a b ha hb W) (Lib.hid fun W => lessC b a hb ha W) (Lib.hid fun W => lessC b c hb hc W) (Lib.hid fun W => lessC a c ha hc W)
    (Lib.hid fun x y W hx hy => by rw [hx, hy]; exact sameR x y W) rfl rfl ?_ ?_ ?_ ?_ ?_
  · by_cases h : keyB a < keyB b
    · have : ¬ keyB b < keyB a := by omega
      simp [this]
    · simp [h]
  · by_cases he : cln a = cln b
    · have h : keyB a = keyB b := by rw [← keyB_cln a, he, keyB_cln]
      simp [he, h]
    · have h : keyB a ≠ keyB b := fun h => he (keyB_inj ha hb h)
      by_cases h1 : keyB a < keyB b
      · simp [he, h1]
      · have : keyB b < keyB a := by omega
        simp [he, this]
  · by_cases h : keyB a < keyB b
    · by_cases h2 : keyB b < keyB c
      · have : keyB a < keyB c := by omega
        simp [this]
      · simp [h2]
    · simp [h]
  · cases h : (FloatKind.f64.format.order a b == some Ordering.lt)
    · rfl
    · have := ord_lt ha hb h
      simp [this]
  · rw [feql]
    cases h : isNb a
    · simp
    · have := key_nan hb h
      simp [this]
end Go.Proofs.Ytgdgapklkodnjaa
