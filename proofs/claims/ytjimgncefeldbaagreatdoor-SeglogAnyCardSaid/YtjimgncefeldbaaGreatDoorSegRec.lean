/-
  seglog: record.
-/
import Derived.Test.YtjimgncefeldbaaGreatDoorSegGet
namespace Go.Proofs.YtjimgncefeldbaaGreatDoor
open Go.RowKit Go.Sort

set_option maxHeartbeats 1000000 in
set_option maxRecDepth 100000 in
theorem record_any {L D g : Nat} {base : ByteArray} {rv : Value} (s : ByteArray) (w : World) (h : LogC L D g base rv false w) (hs : s.size ≤ 65536) :
    Calls Tryz.prog 66 #[.pointer (some ⟨L, 0, none⟩), .string s] w fun e w' => e = .returned (.tuple #[.string (recB s), .int .i64 0]) ∧ Below w.heap.size w w' := by
  have c6 := h.c6
  have hp := fputC s hs w
  clear h
  generalize recB s = R at *
  go_enter Tryz.func66, Tryz.ntmps66
  go_wp2_with fail
  refine hp.mono ?_
  rintro e w1 ⟨rfl, hb⟩
  go_wp2_with fail
  go_ret2
  exact ⟨rfl, hb⟩
end Go.Proofs.YtjimgncefeldbaaGreatDoor
