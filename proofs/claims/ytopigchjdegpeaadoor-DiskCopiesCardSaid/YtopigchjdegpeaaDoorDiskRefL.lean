/-
  The order of names: '<' of strings is the order of cmpS.
-/
import Derived.Test.YtopigchjdegpeaaDoorDiskRefW
namespace Go.Proofs.YtopigchjdegpeaaDoor
open Go.Lib Go.RowKit

theorem less_cmp : ∀ a b : List UInt8, Op.bytesLess a b = decide (compareBytes a b < 0)
  | [], [] => by simp [compareBytes, Op.bytesLess]
  | [], _ :: _ => by simp [compareBytes, Op.bytesLess]
  | _ :: _, [] => by simp [compareBytes, Op.bytesLess]
  | a :: xs, b :: ys => by
    have ih := less_cmp xs ys
    simp only [Op.bytesLess, compareBytes, ih]
    have e1 : a < b ↔ a.toNat < b.toNat := UInt8.lt_iff_toNat_lt
    have e2 : b < a ↔ b.toNat < a.toNat := UInt8.lt_iff_toNat_lt
    have e3 : a = b ↔ a.toNat = b.toNat := UInt8.toNat_inj.symm
    by_cases h1 : a < b
    · simp [h1]
    · by_cases h2 : b < a
      · have : ¬ a = b := fun e => by rw [e3] at e; rw [e2] at h2; omega
        simp [h1, h2, this]
      · have : a = b := by rw [e3]; rw [e1] at h1; rw [e2] at h2; omega
        simp [h1, h2, this]
theorem less_cmpS (n : ByteArray) (g : FS) : Op.bytesLess g.name.toList n.toList = decide (cmpS n g < 0) := by
  unfold cmpS
  rw [ByteArray.toList_eq, ByteArray.toList_eq]; exact less_cmp _ _

end Go.Proofs.YtopigchjdegpeaaDoor
