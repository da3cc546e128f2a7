/-
  sha.step: what each call answers.
-/
import Derived.Test.YtjoaijkjocpepaaDoorShaTurn
import Derived.Deep.QuietTactic
import Derived.BigQuiet
import Derived.Laws.ResultCell
namespace Go.Proofs.YtjoaijkjocpepaaDoor
open Go.RowKit

attribute [local go_sem] xr_bits an_bits og_bits ad_mod nt_bits u32_plain

set_option maxHeartbeats 4000000 in
set_option maxRecDepth 100000 in
theorem step8 (a b c d e f g h x : Wd) (w : World) :
    Calls Tryd.prog 30 #[.agg #[V a, V b, V c, V d, V e, V f, V g, V h], V x] w fun en w' => en = .returned (.agg (cs (stp [a, b, c, d, e, f, g, h] x))) ∧ Below w.heap.size w w' := by
  go_enter Tryd.func30, Tryd.ntmps30
  go_wp2
  go_quiet (fail)
  go_wp2
  go_quiet ((go_at_call 31; exact still2 (turnC _ _ _ (by decide) (by decide))))
  go_wp2_with ((go_at_call 31; refine (turnC _ _ _ (by decide) (by decide)).mono ?_; rintro en w' ⟨rfl, rfl⟩))
  have hg : ∀ n, ((((w.alloc (.cells #[V a, V b, V c, V d, V e, V f, V g, V h] 38)).alloc (.cells #[.int .u32 0, .int .u32 0, .int .u32 0, .int .u32 0, .int .u32 0, .int .u32 0, .int .u32 0, .int .u32 0] 38)).drewN n)).heap[w.heap.size + 1]? = some (.cells #[.int .u32 0, .int .u32 0, .int .u32 0, .int .u32 0, .int .u32 0, .int .u32 0, .int .u32 0, .int .u32 0] 38 (0, 0)) := fun _ => heap_alloc2_new w _ _
  exact bodyPost_ret (results_cell_row rfl _ _ _ _ _ (0, 0) (.array 8 37) rfl (set8 (hg _) _ _ _ _ _ _ _ _) (by kernel_rfl) rfl (by kernel_rfl)) rfl ⟨by unfold stp; rw [cs_eight]; rfl, below8 (belowN (((Below.refl _ _).alloc (Nat.le_refl _) _).alloc (by simp) _) _) (by omega) _ _ _ _ _ _ _ _⟩

theorem stepC (r : List Wd) (x : Wd) (w : World) (hr : r.length = 8) :
    Calls Tryd.prog 30 #[.agg (cs r), .int .u32 (wv x)] w fun en w' => en = .returned (.agg (cs (stp r x))) ∧ Below w.heap.size w w' := by
  obtain ⟨a, b, c, d, e, f, g, h, rfl⟩ := len8 hr
  rw [cs_eight]
  exact step8 a b c d e f g h x w
end Go.Proofs.YtjoaijkjocpepaaDoor
