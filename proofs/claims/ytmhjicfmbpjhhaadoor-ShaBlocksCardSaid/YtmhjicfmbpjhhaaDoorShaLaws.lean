/-
  ShaSums, ShaBlocks: the walks.
-/
import Derived.Test.YtmhjicfmbpjhhaaDoorShaAwake
namespace Go.Proofs.YtmhjicfmbpjhhaaDoor
open Go.RowKit

set_option maxHeartbeats 2000000 in
set_option maxRecDepth 100000 in
theorem sums_law (s : ByteArray) (w : World) (ws : s.size ≤ maxLen) (hT : Tab w) :
    Calls Tryd.prog 3 #[.string s] w fun e w' => e = .returned (.bool true) ∧ Below w.heap.size w w' := by
  unfold maxLen at ws
  by_cases hs : s.size ≤ 5000
  · have h1 : decide ((5000 : Int) < (s.size : Int)) = false := by simp; omega
    have c1 := sumC s w hs hT
    have c2 := fun W => sumR s W hs
    generalize (⟨(sSum s.data.toList).toArray⟩ : ByteArray) = r at c1 c2
    have C1 := Lib.hid c1
    have C2 := Lib.hid c2
    have HT := Lib.hid hT
    have hrr : (r.toList == r.toList) = true := by simp
    clear c1 c2 hT
    go_enter Tryd.func3, Tryd.ntmps3
    go_wp2_with fail
    refine C1.out.mono ?_
    rintro e w1 ⟨rfl, hb1⟩
    go_wp2_with fail
    refine (C2.out w1).mono ?_
    rintro e w2 ⟨rfl, hb2⟩
    have hB := hb1.trans (hb2.mono hb1.size)
    have HT2 := Lib.hid (HT.out.below hB)
    have HB := Lib.hid hB
    clear hb1 hb2 hB
    go_wp2_with fail
    refine (awake_any w2 HT2.out).mono ?_
    rintro e w3 ⟨rfl, hb3⟩
    have HB3 := Lib.hid (HB.out.trans (hb3.mono HB.out.size))
    clear hb3
    go_wp2
    go_ret
    exact ⟨rfl, HB3.out⟩
  · have h1 : decide ((5000 : Int) < (s.size : Int)) = true := by simp; omega
    have HT := Lib.hid hT
    clear hT
    go_enter Tryd.func3, Tryd.ntmps3
    go_wp2_with fail
    refine (awake_any w HT.out).mono ?_
    rintro e w3 ⟨rfl, hb3⟩
    have HB3 := Lib.hid hb3
    clear hb3
    go_wp2
    go_ret
    exact ⟨rfl, HB3.out⟩
end Go.Proofs.YtmhjicfmbpjhhaaDoor
