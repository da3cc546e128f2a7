/-
  HexaPuts: the walk.
-/
import Derived.Test.YtjoaijkjocpepaaDoorHexaAwake
import Derived.Test.YtjoaijkjocpepaaDoorShaLaid
namespace Go.Proofs.YtjoaijkjocpepaaDoor
open Go.RowKit

set_option maxHeartbeats 2000000 in
set_option maxRecDepth 100000 in
theorem puts_law (s t : ByteArray) (w : World) (ws : s.size ≤ maxLen) (wt : t.size ≤ maxLen) (hT : Tab w) :
    Calls Tryd.prog 3 #[.string s, .string t] w fun e w' => e = .returned (.bool true) ∧ Below w.heap.size w w' := by
  unfold maxLen at ws wt
  have HT := Lib.hid hT
  clear hT
  by_cases hs : s.size ≤ 2000
  · have h1 : decide ((2000 : Int) < (s.size : Int)) = false := by simp; omega
    by_cases ht : t.size ≤ 2000
    · have h2 : decide ((2000 : Int) < (t.size : Int)) = false := by simp; omega
      have a1 := fun W => readC t W (by omega)
      have a2 := fun W => readR t W (by omega)
      have a3 := fun W => putC s W (by omega)
      have a4 := fun W => putR s W (by omega)
      have a5 := fun W hW => idC s W (by omega) hW
      have a6 := fun W => idR s W (by omega)
      have a7 := fun W => checkC t W (by omega)
      have a8 := fun W => checkR t W (by omega)
      generalize rdS t.data.toList = x1 at a1 a2
      generalize rdE t.data.toList = x2 at a1 a2
      generalize (⟨(putL s.data.toList).toArray⟩ : ByteArray) = x3 at a3 a4
      generalize idS s = x4 at a5 a6
      generalize ckE t = x5 at a7 a8
      have hx1 : (x1.toList == x1.toList) = true := by simp
      have hx2 : (x2 == x2) = true := by simp
      have hx3 : (x3.toList == x3.toList) = true := by simp
      have hx4 : (x4.toList == x4.toList) = true := by simp
      have hx5 : (x5 == x5) = true := by simp
      have A1 := Lib.hid a1
      have A2 := Lib.hid a2
      have A3 := Lib.hid a3
      have A4 := Lib.hid a4
      have A5 := Lib.hid a5
      have A6 := Lib.hid a6
      have A7 := Lib.hid a7
      have A8 := Lib.hid a8
      clear a1 a2 a3 a4 a5 a6 a7 a8
      go_enter Tryd.func3, Tryd.ntmps3
      go_wp2_with fail
      refine (A1.out _).mono ?_
      rintro e w1 ⟨rfl, hb1⟩
      have HB1 := Lib.hid hb1
      clear hb1
      go_wp2_with fail
      refine (A2.out _).mono ?_
      rintro e w2 ⟨rfl, hb⟩
      have HB2 := Lib.hid (HB1.out.trans (hb.mono HB1.out.size))
      clear hb
      go_wp2_with fail
      refine (A3.out _).mono ?_
      rintro e w3 ⟨rfl, hb⟩
      have HB3 := Lib.hid (HB2.out.trans (hb.mono HB2.out.size))
      clear hb
      go_wp2_with fail
      refine (A4.out _).mono ?_
      rintro e w4 ⟨rfl, hb⟩
      have HB4 := Lib.hid (HB3.out.trans (hb.mono HB3.out.size))
      clear hb
      go_wp2_with fail
      refine (A5.out _ (HT.out.below HB4.out)).mono ?_
      rintro e w5 ⟨rfl, hb⟩
      have HB5 := Lib.hid (HB4.out.trans (hb.mono HB4.out.size))
      clear hb
      go_wp2_with fail
      refine (A6.out _).mono ?_
      rintro e w6 ⟨rfl, hb⟩
      have HB6 := Lib.hid (HB5.out.trans (hb.mono HB5.out.size))
      clear hb
      go_wp2_with fail
      refine (A7.out _).mono ?_
      rintro e w7 ⟨rfl, hb⟩
      have HB7 := Lib.hid (HB6.out.trans (hb.mono HB6.out.size))
      clear hb
      go_wp2_with fail
      refine (A8.out _).mono ?_
      rintro e w8 ⟨rfl, hb⟩
      have HB8 := Lib.hid (HB7.out.trans (hb.mono HB7.out.size))
      clear hb
      go_wp2_with fail
      refine (hexaAwake _ (HT.out.below HB8.out)).mono ?_
      rintro e w9 ⟨rfl, hb⟩
      have HB9 := Lib.hid (HB8.out.trans (hb.mono HB8.out.size))
      clear hb
      go_wp2
      go_ret
      exact ⟨rfl, HB9.out⟩
    · have h2 : decide ((2000 : Int) < (t.size : Int)) = true := by simp; omega
      go_enter Tryd.func3, Tryd.ntmps3
      go_wp2_with fail
      refine (hexaAwake _ HT.out).mono ?_
      rintro e w1 ⟨rfl, hb⟩
      have HB := Lib.hid hb
      clear hb
      go_wp2
      go_ret
      exact ⟨rfl, HB.out⟩
  · have h1 : decide ((2000 : Int) < (s.size : Int)) = true := by simp; omega
    go_enter Tryd.func3, Tryd.ntmps3
    go_wp2_with fail
    refine (hexaAwake _ HT.out).mono ?_
    rintro e w1 ⟨rfl, hb⟩
    have HB := Lib.hid hb
    clear hb
    go_wp2
    go_ret
    exact ⟨rfl, HB.out⟩

theorem puts_row (s t : ByteArray) (w : World) (ws : s.size ≤ maxLen) (wt : t.size ≤ maxLen) (hL : laidMetH Tryd.prog Rows.hexaPutsRow.laid w) :
    Calls Tryd.prog 3 #[.string s, .string t] w fun e w' => e = .returned (.bool true) ∧ Below w.heap.size w w' :=
  puts_law s t w ws wt (tab_of hL (by kernel_rfl) (by kernel_rfl) (.head _))
end Go.Proofs.YtjoaijkjocpepaaDoor
