/-
  Small laws that wire's walks share: a row of bytes that the call owns, turned into a text.
-/
import Derived.Test.YtkgjklcokjfhlaaWireNum
import Derived.Lib.SlBytesRow
import Derived.Lib.BufferRead
namespace Go.Proofs.Ytkgjklcokjfhlaa
open Go.RowKit

theorem own_string {P : Program} {w : World} {B e : Nat} {src dst : TypeId} {v : Value} {l : List UInt8} (hs : P.underlying src = some (.slice e)) (he : P.underlying e = some (.int .u8)) (hd : P.underlying dst = some .string)
    (h : w.ownsRow B e 1 v l.length (Lib.byteCells l)) : (convert src dst v).run P w = .ok (.string ⟨l.toArray⟩) w := by
  obtain ⟨hl, hv⟩ := h
  rcases hv with ⟨rfl, h0⟩ | ⟨g, cap, cur, rfl, _, hg, hn, _, _, htk⟩
  · obtain rfl : l = [] := List.length_eq_zero_iff.1 h0
    exact Lib.run_convert_nil_bytes w src dst e 0 hs he hd
  · have hc : Lib.Bytes w g 0 ⟨l.toArray⟩ := by
      intro i hi
      have hi' : i < l.length := hi
      have h2 := Lib.bytes_of_row (l := l) hg (by simpa using htk) i hi'
      have e1 : (⟨g, 0, none⟩ : Addr).add i = ⟨g, 0 + i, none⟩ := by cases i <;> simp [Addr.add]
      rw [e1] at h2
      exact h2
    exact Lib.run_convert_whole (P := P) w src e dst hs he hd g 0 ⟨l.toArray⟩ hc cap

set_option maxHeartbeats 1000000 in
set_option maxRecDepth 100000 in
/-- wire.Num of a number in range. -/
theorem num_ok (x : Nat) (hx : x ≤ 9007199254740992) (w : World) :
    Calls Try.prog 7 #[.int .i64 x] w fun e w' => e = .returned (.tuple #[.string ⟨(Lib.uvarint x).toArray⟩, .int .i64 0]) ∧ Below w.heap.size w w' := by
  go_enter Try.func7, Try.ntmps7
  go_wp2_with fail
  refine (appendNum_any w.heap.size 0 x (by omega) _ [] w (World.ownsRow_nil _ _ _ _) (Nat.le_refl _) (by omega)).mono ?_
  rintro e w' ⟨v', rfl, hown, hb⟩
  have hconv := own_string (P := Try.prog) (l := Lib.uvarint x) (dst := 9) Try.underlying34 Try.underlying5 Try.underlying9 (by simpa using hown)
  go_wp2
  go_ret2
  exact ⟨rfl, hb⟩

set_option maxHeartbeats 1000000 in
set_option maxRecDepth 100000 in
/-- wire.Num of a number out of range. -/
theorem num_err (x : Int) (hx : x < 0 ∨ 9007199254740992 < x) (w : World) :
    Calls Try.prog 7 #[.int .i64 x] w fun e w' => e = .returned (.tuple #[.string ⟨#[]⟩, .int .i64 2]) ∧ w = w' := by
  rcases hx with hx | hx
  · go_enter Try.func7, Try.ntmps7
    go_wp2
    go_ret2
    exact ⟨rfl, rfl⟩
  · have h0 : ¬ x < 0 := by omega
    go_enter Try.func7, Try.ntmps7
    go_wp2
    go_ret2
    exact ⟨rfl, rfl⟩
end Go.Proofs.Ytkgjklcokjfhlaa
