/-
  The document's All; what the statements' first calls answer.
-/
import Derived.Test.YtgdgapklkodnjaaFloatSort
import Derived.Test.YtgdgapklkodnjaaFloatSortR
import Derived.Test.YtgdgapklkodnjaaFloatPut
import Derived.Deep.RegionHeld3
namespace Go.Proofs.Ytgdgapklkodnjaa
open Go.RowKit

attribute [local go_sem] run_store_flt

theorem FIn.at {w : World} {v : Value} {l : List Nat} (h : FIn w v l) : ∃ p cap, v = .slice p l.length cap ∧ ∀ j (h : j < l.length), ∃ g, p = some ⟨g, 0, none⟩ ∧ g < w.heap.size ∧ w.cell? ⟨g, j, none⟩ = some (.float .f64 l[j]) := by
  rcases h with ⟨rfl, rfl⟩ | ⟨g, cap, rfl, hg, hc⟩
  · exact ⟨none, 0, rfl, fun j hj => by simp at hj⟩
  · exact ⟨_, cap, rfl, fun j hj => ⟨g, rfl, hg, hc j hj⟩⟩

set_option maxHeartbeats 1000000 in
set_option maxRecDepth 100000 in
theorem allR (r : List Nat) (v1 v2 : Value) (w : World) (h1 : FIn w v1 r) (h2 : FIn w v2 r) (hlen : r.length ≤ 1000) :
    Calls Try.prog 21 #[v1, v2] w fun e w' => e = .returned (.bool true) ∧ Below w.heap.size w w' := by
  obtain ⟨p1, c1, rfl, f1⟩ := h1.at
  obtain ⟨p2, c2, rfl, f2⟩ := h2.at
  clear h1 h2
  have F1 := Lib.hid f1
  have F2 := Lib.hid f2
  clear f1 f2
  obtain ⟨n, hn⟩ : ∃ n, n = r.length := ⟨_, rfl⟩
  rw [← hn] at hlen ⊢
  have HN := Lib.hid hn
  clear hn
  go_enter Try.func21, Try.ntmps21
  go_wp2
  go_loopw [5] (fun i wr => ∃ k q : Nat, k ≤ n ∧ i = .int .i64 (k : Int) ∧ wr = w.drewN q) (fun i _ => n - (intOf i).toNat)
  case atStart => exact ⟨0, 0, by omega, rfl, rfl⟩
  case round =>
    obtain ⟨k, q, hk, rfl, rfl⟩ := hrel
    by_cases hlt : k < n
    · have hkl : k < r.length := by rw [← HN.out]; exact hlt
      obtain ⟨g1, hp1, hg1, hc1⟩ := F1.out k hkl
      obtain ⟨g2, hp2, hg2, hc2⟩ := F2.out k hkl
      subst hp1 hp2
      generalize r[k] = x at hc1 hc2
      have hsm : ∀ W, Calls Try.prog 12 #[.float .f64 x, .float .f64 x] W fun e w' => e = .returned (.bool true) ∧ W = w' := fun W => by
        have h := sameR x x W
        rwa [decide_eq_true rfl] at h
      have HS := Lib.hid hsm
      have hd1 : (w.drewN q).cell? ⟨g1, k, none⟩ = some (.float .f64 x) := hc1
      have hd2 : (w.drewN q).cell? ⟨g2, k, none⟩ = some (.float .f64 x) := hc2
      generalize hwq : w.drewN q = wq at hd1 hd2
      have HQ := Lib.hid hwq
      clear hsm hc1 hc2 hwq
      go_wp2_with fail
      go_quiet ((go_at_call 12; exact still1 (HS.out _)))
      go_wp2
      exact ⟨⟨k + 1, q + nq, by omega, by go_num, by rw [← HQ.out]; exact World.drewN_drewN _ _ _⟩, by simp [intOf]; omega⟩
    · obtain rfl : k = n := by omega
      go_wp2
      go_ret
      exact ⟨rfl, belowN (Below.refl _ _) _⟩

theorem isSort_len {l r : List Nat} (h : IsSort l r) : r.length = l.length := by
  have := h.1.length_eq
  simpa using this

/-! awake's numbers -/
theorem aw_nan : cln 9218868437227405313 = 9221120237041090561 := by decide +kernel
def awL : List Nat := [9218868437227405313, 0, 9218868437227405312, 9223372036854775808, 13830554455654793216]
def awR : List Nat := [13830554455654793216, 9223372036854775808, 0, 9218868437227405312, 9221120237041090561]
theorem aw_sorted : IsSort awL awR := by
  refine ⟨?_, ?_⟩
  · have : awR.isPerm (awL.map cln) = true := by decide +kernel
    exact List.isPerm_iff.1 this
  · have : (awR.map keyB).Pairwise (fun a b => a ≤ b) := by decide +kernel
    exact List.pairwise_map.1 this
theorem aw_is {r : List Nat} (h : IsSort awL r) : r = awR := IsSort.uniq (by decide) h aw_sorted

theorem nanC (n x : Nat) (hn : n < 18446744073709551616) (hx : (9218868437227405313 ||| (n &&& 9227875636482146303)) = x) (w : World) : Calls Try.prog 24 #[.int .u64 (n : Int)] w fun e w' => e = .returned (.float .f64 x) ∧ w = w' := by
  have h1 := u64_and_nat n 9227875636482146303 hn (by omega)
  have h0 : n &&& 9227875636482146303 < 18446744073709551616 := Nat.lt_of_le_of_lt Nat.and_le_right (by omega)
  have h2 := u64_or_nat 9218868437227405313 (n &&& 9227875636482146303) (by omega) h0
  rw [hx] at h2
  generalize n &&& 9227875636482146303 = y at h1 h2 h0
  have h1' : bits .and .u64 (n : Int) 9227875636482146303 = (y : Int) := h1
  have h2' : bits .or .u64 9218868437227405313 (y : Int) = (x : Int) := h2
  have hf := fun W => ffrom x W
  clear h1 h2 h0 hx hn
  go_enter Try.func24, Try.ntmps24
  go_wp2
  go_ret
  exact ⟨rfl, rfl⟩
end Go.Proofs.Ytgdgapklkodnjaa
