/-
  almonryref01's Num, Text and List: what each call answers.
-/
import Derived.Test.YtoiafhbembhppaaWireText
namespace Go.Proofs.Ytoiafhbembhppaa
open Go.RowKit

/-- 'string([]byte{c})' of a row that has just been made. -/
theorem one_string {w : World} {c : Nat} (hc : c < 256) : (convert 66 9 (.slice (some ⟨w.heap.size, 0, none⟩) 1 1)).run Try.prog (w.alloc (.cells #[.int .u8 (c : Int)] 5)) = .ok (.string ⟨#[c.toUInt8]⟩) (w.alloc (.cells #[.int .u8 (c : Int)] 5)) := by
  have h : (w.alloc (.cells #[.int .u8 (c : Int)] 5)).ownsRow 0 5 1 (.slice (some ⟨w.heap.size, 0, none⟩) 1 1) [c.toUInt8].length (Lib.byteCells [c.toUInt8]) := by
    refine ⟨rfl, .inr ⟨w.heap.size, 1, #[.int .u8 (c : Int)], rfl, Nat.zero_le _, ?_, Nat.le_refl _, by simp [maxLen], rfl, ?_⟩⟩
    · simp [World.alloc, -World.alloc_eq]
    · simp [Lib.byteCells, Lib.toUInt8_toNat hc]
  exact own_string (l := [c.toUInt8]) Try.underlying66 Try.underlying5 Try.underlying9 h

theorem append_str (a b : List UInt8) : (⟨a.toArray⟩ : ByteArray) ++ ⟨b.toArray⟩ = ⟨(a ++ b).toArray⟩ := by
  rw [ByteArray.mk_append_mk]

set_option maxHeartbeats 1000000 in
set_option maxRecDepth 100000 in
theorem refnum_ok (x : Nat) (hx : x ≤ 9007199254740992) (w : World) :
    Calls Try.prog 32 #[.int .i64 x] w fun e w' => e = .returned (.tuple #[.string ⟨(Lib.uvarint x).toArray⟩, .int .i64 0]) ∧ Below w.heap.size w w' := by
  have hlen := Lib.uvarint_length64 (x := x) (by omega)
  go_enter Try.func32, Try.ntmps32
  go_wp2
  go_loopw [0, 4] (fun n s wr => ∃ (y : Nat) (pre : List UInt8), n = .int .i64 y ∧ s = .string ⟨pre.toArray⟩ ∧ y ≤ x ∧ Lib.uvarint x = pre ++ Lib.uvarint y ∧ Below w.heap.size w wr) (fun n _ _ => (intOf n).toNat)
  case atStart => exact ⟨x, [], rfl, rfl, Nat.le_refl _, rfl, Below.refl _ _⟩
  case round =>
    obtain ⟨y, pre, rfl, rfl, hy, hsplit, hb⟩ := hrel
    have hsum : pre.length + (Lib.uvarint y).length ≤ 10 := by have h2 := congrArg List.length hsplit; rw [List.length_append] at h2; omega
    have hpos := Lib.uvarint_pos y
    have hB := hb.size
    have HS := Lib.hid hsplit
    clear hsplit
    by_cases h128 : 128 ≤ y
    · have hadd := run_string_add_sum (P := Try.prog) (w := wr.alloc (.cells #[.int .u8 ((y : Int) % 128 + 128)] 5)) ⟨pre.toArray⟩ ⟨[(y % 128 + 128).toUInt8].toArray⟩ (by have h1 : (ByteArray.mk pre.toArray).size = pre.length := rfl; have h2 : (ByteArray.mk [(y % 128 + 128).toUInt8].toArray).size = 1 := rfl; omega)
      rw [append_str] at hadd
      have hcv := one_string (w := wr) (c := y % 128 + 128) (by omega)
      have hcast : (((y % 128 + 128 : Nat)) : Int) = (y : Int) % 128 + 128 := by omega
      rw [hcast] at hcv
      have hcl : (⟨#[(y % 128 + 128).toUInt8]⟩ : ByteArray) = ⟨[(y % 128 + 128).toUInt8].toArray⟩ := rfl
      rw [hcl] at hcv
      clear hcast hcl
      generalize (⟨[(y % 128 + 128).toUInt8].toArray⟩ : ByteArray) = piece at hadd hcv
      generalize hnx : (⟨(pre ++ [(y % 128 + 128).toUInt8]).toArray⟩ : ByteArray) = nx at hadd
      have HN := Lib.hid hnx
      clear hnx
      go_wp2
      go_roundw
      case rel => exact ⟨y / 128, pre ++ [(y % 128 + 128).toUInt8], by go_num, by rw [HN.out], by omega, by rw [HS.out, Lib.uvarint_big h128]; simp, hb.alloc hB _⟩
      case measure => simp [intOf]; omega
    · have hadd := run_string_add_sum (P := Try.prog) (w := wr.alloc (.cells #[.int .u8 (y : Int)] 5)) ⟨pre.toArray⟩ ⟨[y.toUInt8].toArray⟩ (by have h1 : (ByteArray.mk pre.toArray).size = pre.length := rfl; have h2 : (ByteArray.mk [y.toUInt8].toArray).size = 1 := rfl; omega)
      rw [append_str] at hadd
      have hcv := one_string (w := wr) (c := y) (by omega)
      have hcl : (⟨#[y.toUInt8]⟩ : ByteArray) = ⟨[y.toUInt8].toArray⟩ := rfl
      rw [hcl] at hcv
      clear hcl
      generalize (⟨[y.toUInt8].toArray⟩ : ByteArray) = piece at hadd hcv
      generalize hnx : (⟨(pre ++ [y.toUInt8]).toArray⟩ : ByteArray) = nx at hadd
      have HN := Lib.hid hnx
      clear hnx
      go_wp2
      go_ret2
      refine ⟨?_, hb.alloc hB _⟩
      rw [HS.out, Lib.uvarint_small (x := y) (by omega), HN.out]; rfl

set_option maxHeartbeats 1000000 in
set_option maxRecDepth 100000 in
theorem refnum_err (x : Int) (hx : x < 0 ∨ 9007199254740992 < x) (w : World) :
    Calls Try.prog 32 #[.int .i64 x] w fun e w' => e = .returned (.tuple #[.string ⟨#[]⟩, .int .i64 2]) ∧ w = w' := by
  rcases hx with hx | hx
  · go_enter Try.func32, Try.ntmps32
    go_wp2
    go_ret2
    exact ⟨rfl, rfl⟩
  · have h0 : ¬ x < 0 := by omega
    go_enter Try.func32, Try.ntmps32
    go_wp2
    go_ret2
    exact ⟨rfl, rfl⟩

end Go.Proofs.Ytoiafhbembhppaa
