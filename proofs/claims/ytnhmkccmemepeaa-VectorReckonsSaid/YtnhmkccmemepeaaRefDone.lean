/-
  almonryref01's reader R: Done.
-/
import Derived.Test.YtnhmkccmemepeaaRefRead3
import Derived.Test.YtnhmkccmemepeaaDotPlain
namespace Go.Proofs.Ytnhmkccmemepeaa
open Go.RowKit

theorem empty_iff (s : ByteArray) : s.toList.isEmpty = decide (s.size = 0) := by
  rw [ByteArray.toList_eq]
  have : s.data.toList.length = s.size := by simp
  cases h : s.data.toList with
  | nil => rw [h] at this; simp at this; simp [← this]
  | cons a r =>
    rw [h, List.length_cons] at this
    rw [decide_eq_false (by omega)]
    rfl

set_option maxHeartbeats 1000000 in
set_option maxRecDepth 100000 in
theorem refR_done (s : ByteArray) (er : Int) (w : World) :
    Calls Try.prog 31 #[.agg #[.string s, .int .i64 er]] w fun e w' => e = .returned (.int .i64 (doneS (s, er))) ∧ w.alloc (.cells #[.string s, .int .i64 er] 62) = w' := by
  by_cases he : er = 0
  · subst he
    by_cases hz : s.size = 0
    · have hes : s.toList.isEmpty = true := by rw [empty_iff]; simp [hz]
      have hes2 : s.toList = [] := by simpa using hes
      go_enter Try.func31, Try.ntmps31
      go_wp2
      go_ret
      exact ⟨by simp [doneS, hz], rfl⟩
    · have hes : s.toList.isEmpty = false := by rw [empty_iff]; simp [hz]
      go_enter Try.func31, Try.ntmps31
      go_wp2
      go_ret
      have hd : doneS (s, 0) = 5 := by
        unfold doneS
        simp only
        rw [if_neg (by simp), if_pos (by omega)]
      exact ⟨by rw [hd]; rfl, rfl⟩
  · have hb : (er == 0) = false := by simp [he]
    go_enter Try.func31, Try.ntmps31
    go_wp2
    go_ret
    exact ⟨by simp [doneS, he], rfl⟩
end Go.Proofs.Ytnhmkccmemepeaa
