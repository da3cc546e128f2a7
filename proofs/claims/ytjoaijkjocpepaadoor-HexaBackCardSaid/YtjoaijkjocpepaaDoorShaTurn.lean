/-
  sha.turn, math/bits.RotateLeft32 and the document's turn: what each call answers.
-/
import Derived.Test.YtjoaijkjocpepaaDoorRows
import Derived.Test.YtjoaijkjocpepaaDoorShaPlain
import Derived.WalkSpells
import Derived.WalkLawsBesides
import Derived.Deep.QuietTactic
import Derived.BigQuiet
import Derived.Laws.ResultCell
namespace Go.Proofs.YtjoaijkjocpepaaDoor
open Go.RowKit

attribute [local go_sem] xr_bits an_bits og_bits ad_mod sr_div sl_mod

theorem left_count (n : Nat) (h0 : 0 < n) (hn : n < 32) : bits .and .u64 (IntKind.u64.wrap (-(n : Int))) 31 = ((32 - n : Nat) : Int) := by
  have h : ∀ m : Fin 32, 0 < m.val → bits .and .u64 (IntKind.u64.wrap (-(m.val : Int))) 31 = ((32 - m.val : Nat) : Int) := by decide +kernel
  exact h ⟨n, hn⟩ h0

set_option maxRecDepth 100000 in
theorem rot_any (x : Wd) (n : Nat) (h0 : 0 < n) (hn : n < 32) (w : World) :
    Calls Tryd.prog 32 #[V x, .int .i64 (-(n : Int))] w fun e w' => e = .returned (V (og (sl x (32 - n)) (sr x n))) ∧ w = w' := by
  have hc := left_count n h0 hn
  obtain ⟨m, hm⟩ : ∃ m : Nat, m = 32 - n := ⟨_, rfl⟩
  have hn' : n = 32 - m := by omega
  rw [← hm] at hc ⊢
  have hm0 : 0 < m := by omega
  have hm1 : m < 32 := by omega
  have HN := Lib.hid hn'
  clear hn' hm
  go_enter Tryd.func32, Tryd.ntmps32
  go_wp2
  go_ret
  refine ⟨?_, rfl⟩
  rw [HN.out]
  rfl

set_option maxRecDepth 100000 in
theorem turnC_nat (x : Wd) (n : Nat) (h0 : 0 < n) (hn : n < 32) (w : World) :
    Calls Tryd.prog 31 #[V x, .int .i64 n] w fun e w' => e = .returned (V (tn x n)) ∧ w = w' := by
  have e1 : tn x n = og (sl x (32 - n)) (sr x n) := by unfold tn; rw [og_comm]; simp
  have HE := Lib.hid e1
  clear e1
  go_enter Tryd.func31, Tryd.ntmps31
  go_wp2_with fail
  refine (rot_any x n h0 hn w).mono ?_
  rintro e w' ⟨rfl, rfl⟩
  go_wp2
  go_ret
  rw [HE.out]
  exact ⟨rfl, rfl⟩

set_option maxRecDepth 100000 in
theorem turnR_nat (x : Wd) (n : Nat) (h0 : 0 < n) (hn : n < 32) (w : World) :
    Calls Tryd.prog 28 #[V x, .int .i64 n] w fun e w' => e = .returned (V (tn x n)) ∧ w = w' := by
  have e1 : tn x n = og (sr x n) (sl x (32 - n)) := by unfold tn; simp
  have HE := Lib.hid e1
  clear e1
  go_enter Tryd.func28, Tryd.ntmps28
  go_wp2
  go_ret
  rw [HE.out]
  exact ⟨rfl, rfl⟩

theorem turnC (x : Wd) (n : Int) (w : World) (h0 : 0 < n) (hn : n < 32) :
    Calls Tryd.prog 31 #[.int .u32 (wv x), .int .i64 n] w fun e w' => e = .returned (.int .u32 (wv (tn x n))) ∧ w = w' := by
  obtain ⟨k, rfl⟩ := Int.eq_ofNat_of_zero_le (Int.le_of_lt h0)
  exact turnC_nat x k (by omega) (by omega) w
theorem turnR (x : Wd) (n : Int) (w : World) (h0 : 0 < n) (hn : n < 32) :
    Calls Tryd.prog 28 #[.int .u32 (wv x), .int .i64 n] w fun e w' => e = .returned (.int .u32 (wv (tn x n))) ∧ w = w' := by
  obtain ⟨k, rfl⟩ := Int.eq_ofNat_of_zero_le (Int.le_of_lt h0)
  exact turnR_nat x k (by omega) (by omega) w
end Go.Proofs.YtjoaijkjocpepaaDoor
