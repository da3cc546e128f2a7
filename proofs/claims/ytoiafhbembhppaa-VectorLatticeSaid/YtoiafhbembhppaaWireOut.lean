/-
  Small laws that wire's walks share: a row of bytes that the call owns, turned into a text.
-/
import Derived.Test.YtoiafhbembhppaaWireNum
import Derived.Lib.SlBytesRow
import Derived.Lib.BufferRead
namespace Go.Proofs.Ytoiafhbembhppaa
open Go.RowKit

set_option maxHeartbeats 1000000 in
set_option maxRecDepth 100000 in
/-- wire.Num of a number in range. -/
theorem num_ok (x : Nat) (hx : x ≤ 9007199254740992) (w : World) :
    Calls Try.prog 42 #[.int .i64 x] w fun e w' => e = .returned (.tuple #[.string ⟨(Lib.uvarint x).toArray⟩, .int .i64 0]) ∧ Below w.heap.size w w' := by
  go_enter Try.func42, Try.ntmps42
  go_wp2_with fail
  refine (appendNum_any w.heap.size 0 x (by omega) _ [] w (World.ownsRow_nil _ _ _ _) (Nat.le_refl _) (by omega)).mono ?_
  rintro e w' ⟨v', rfl, hown, hb⟩
  have hconv := own_string (P := Try.prog) (l := Lib.uvarint x) (dst := 9) Try.underlying66 Try.underlying5 Try.underlying9 (by simpa using hown)
  go_wp2
  go_ret2
  exact ⟨rfl, hb⟩

set_option maxHeartbeats 1000000 in
set_option maxRecDepth 100000 in
/-- wire.Num of a number out of range. -/
theorem num_err (x : Int) (hx : x < 0 ∨ 9007199254740992 < x) (w : World) :
    Calls Try.prog 42 #[.int .i64 x] w fun e w' => e = .returned (.tuple #[.string ⟨#[]⟩, .int .i64 2]) ∧ w = w' := by
  rcases hx with hx | hx
  · go_enter Try.func42, Try.ntmps42
    go_wp2
    go_ret2
    exact ⟨rfl, rfl⟩
  · have h0 : ¬ x < 0 := by omega
    go_enter Try.func42, Try.ntmps42
    go_wp2
    go_ret2
    exact ⟨rfl, rfl⟩
end Go.Proofs.Ytoiafhbembhppaa
