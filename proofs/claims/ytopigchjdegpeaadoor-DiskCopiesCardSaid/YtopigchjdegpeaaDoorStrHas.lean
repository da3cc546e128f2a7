/-
  strings.HasPrefix: what the call answers.
-/
import Derived.Test.YtopigchjdegpeaaDoorBase
import Derived.Lib.Strings
import Derived.Lib.Walk
namespace Go.Proofs.YtopigchjdegpeaaDoor
open Go.RowKit

def hasP (p s : ByteArray) : Bool := Lib.hasPrefix s.data.toList p.data.toList

set_option maxHeartbeats 1000000 in
set_option maxRecDepth 100000 in
theorem prefixIn_any (s p : ByteArray) (w : World) :
    Calls Tryd.prog 47 #[.string s, .string p] w fun e w' => e = .returned (.bool (hasP p s)) ∧ w = w' := by
  unfold hasP
  rw [← Lib.hasPrefix_of_take, ← Lib.size_eq, ← Lib.size_eq]
  go_enter Tryd.func47, Tryd.ntmps47
  go_wp2
  · rename_i h
    go_ret
    refine ⟨?_, rfl⟩
    show Ending.returned (Value.bool ((s.extract 0 p.size).toList == p.toList)) = _
    rw [Lib.extract_toList, Lib.toList_data]
    simp [h]
  · rename_i h
    go_ret
    refine ⟨?_, rfl⟩
    show Ending.returned (Value.bool false) = _
    simp [h]

set_option maxHeartbeats 1000000 in
set_option maxRecDepth 100000 in
theorem prefix_any (s p : ByteArray) (w : World) :
    Calls Tryd.prog 30 #[.string s, .string p] w fun e w' => e = .returned (.bool (hasP p s)) ∧ w = w' := by
  go_enter Tryd.func30, Tryd.ntmps30
  go_wp2_with fail
  refine (prefixIn_any _ _ _).mono ?_
  rintro e w1 ⟨rfl, rfl⟩
  go_wp2_with fail
  go_ret
  exact ⟨rfl, rfl⟩
end Go.Proofs.YtopigchjdegpeaaDoor
