/-
  almonryref01's reader R: Done.
-/
import Derived.Test.YtoiafhbembhppaaRefRead3
import Derived.Test.YtoiafhbembhppaaDotPlain
namespace Go.Proofs.Ytoiafhbembhppaa
open Go.RowKit

theorem empty_iff (s : ByteArray) : s.toList.isEmpty = decide (s.size = 0) := by
  rw [ByteArray.toList_eq]
  have : s.data.toList.length = s.size := by simp
  cases h : s.data.toList with
  | nil => rw [h] at this; simp at this; simp [← this]
  | cons a r =>
    rw [h, List.length_cons] at this
    rw [decide_eq_false (by omega)]
    rfl

end Go.Proofs.Ytoiafhbembhppaa
