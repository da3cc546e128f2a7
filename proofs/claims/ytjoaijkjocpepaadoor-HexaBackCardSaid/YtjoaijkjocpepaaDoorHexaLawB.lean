/-
  HexaBack, HexaOrder: the walks.
-/
import Derived.Test.YtjoaijkjocpepaaDoorHexaAwake
import Derived.Test.YtjoaijkjocpepaaDoorShaLaid
namespace Go.Proofs.YtjoaijkjocpepaaDoor
open Go.RowKit

theorem less_eq : ∀ (x y : List UInt8), Op.bytesLess x y = decide (x < y)
  | [], [] => rfl
  | [], b :: y => by simp [Op.bytesLess]
  | a :: x, [] => by simp [Op.bytesLess]
  | a :: x, b :: y => by
    have ih := less_eq x y
    simp only [Op.bytesLess, ih, List.cons_lt_cons_iff]
    by_cases h : a < b
    · simp [h]
    · by_cases e : a = b
      · subst e; simp [h]
      · simp [h, e]

theorem text_of (s : ByteArray) : (⟨s.data.toList.toArray⟩ : ByteArray) = s := by cases s; rfl
theorem rd_put (s : ByteArray) : rdS (ByteArray.mk (putL s.data.toList).toArray).data.toList = s ∧ rdE (ByteArray.mk (putL s.data.toList).toArray).data.toList = 0 := by
  have h := rd_some (l := (ByteArray.mk (putL s.data.toList).toArray).data.toList) (r := s.data.toList) (read_put s.data.toList)
  rw [text_of] at h
  exact h
theorem putL_size (s : ByteArray) : (ByteArray.mk (putL s.data.toList).toArray).size = 2 * s.size := by
  show (putL s.data.toList).toArray.size = _
  simp [putL_len]
theorem put_less (s t : ByteArray) : Op.bytesLess (ByteArray.mk (putL s.data.toList).toArray).toList (ByteArray.mk (putL t.data.toList).toArray).toList = Op.bytesLess s.toList t.toList := by
  rw [less_eq, less_eq, ByteArray.toList_eq, ByteArray.toList_eq, ByteArray.toList_eq, ByteArray.toList_eq]
  exact decide_eq_decide.2 (putL_lt _ _)

/-- what the second part of HexaBack compares -/
def BackB (t : ByteArray) (W : World) : Prop :=
  (∃ z, Calls Tryd.prog 7 #[.string t] W fun e w' => e = .returned (.tuple #[.string z, .int .i64 5]) ∧ Below W.heap.size W w') ∨
  ∃ r : ByteArray, (Calls Tryd.prog 7 #[.string t] W fun e w' => e = .returned (.tuple #[.string r, .int .i64 0]) ∧ Below W.heap.size W w') ∧
    ∀ V, Calls Tryd.prog 9 #[.string r] V fun e w' => e = .returned (.string t) ∧ Below V.heap.size V w'

theorem backB (t : ByteArray) (ht : t.size ≤ 2000) (W : World) : BackB t W := by
  have h1 := readC t W (by omega)
  cases hr : readL t.data.toList with
  | none =>
    obtain ⟨e1, e2⟩ := rd_none hr
    rw [e2] at h1
    exact .inl ⟨_, h1⟩
  | some r =>
    obtain ⟨e1, e2⟩ := rd_some hr
    rw [e1, e2] at h1
    refine .inr ⟨_, h1, fun V => ?_⟩
    have hl := read_len _ _ hr
    have ht2 : t.data.toList.length = t.size := by simp
    have h2 := putC ⟨r.toArray⟩ V (by show r.toArray.size ≤ 5000; simp; omega)
    rw [show (ByteArray.mk r.toArray).data.toList = r from rfl, put_read _ _ hr, text_of] at h2
    exact h2

set_option maxHeartbeats 2000000 in
set_option maxRecDepth 100000 in
theorem back_law (s t : ByteArray) (w : World) (ws : s.size ≤ maxLen) (wt : t.size ≤ maxLen) (hT : Tab w) :
    Calls Tryd.prog 4 #[.string s, .string t] w fun e w' => e = .returned (.bool true) ∧ Below w.heap.size w w' := by
  unfold maxLen at ws wt
  have HT := Lib.hid hT
  clear hT
  by_cases hs : s.size ≤ 2000
  · have h1 : decide ((2000 : Int) < (s.size : Int)) = false := by simp; omega
    by_cases ht : t.size ≤ 2000
    · have h2 : decide ((2000 : Int) < (t.size : Int)) = false := by simp; omega
      have a1 := fun W => putC s W (by omega)
      have a2 := fun W => readC ⟨(putL s.data.toList).toArray⟩ W (by rw [putL_size]; omega)
      rw [(rd_put s).1, (rd_put s).2] at a2
      have a3 := backB t ht
      have a5 := fun W hW => idC s W (by omega) hW
      have a7 := fun W => checkC (idS s) W (by rw [idS_size]; decide)
      rw [ck_id] at a7
      generalize (⟨(putL s.data.toList).toArray⟩ : ByteArray) = x3 at a1 a2
      generalize idS s = x4 at a5 a7
      have hx1 : (s.toList == s.toList) = true := by simp
      have hx3 : (t.toList == t.toList) = true := by simp
      have n5 : ((5 : Int) != 0) = true := rfl
      have n0 : ((0 : Int) != 0) = false := rfl
      have A1 := Lib.hid a1
      have A2 := Lib.hid a2
      have A3 := Lib.hid a3
      have A5 := Lib.hid a5
      have A7 := Lib.hid a7
      clear a1 a2 a3 a5 a7
      go_enter Tryd.func4, Tryd.ntmps4
      go_wp2_with fail
      refine (A1.out _).mono ?_
      rintro e w1 ⟨rfl, hb1⟩
      have HB1 := Lib.hid hb1
      clear hb1
      go_wp2_with fail
      refine (A2.out _).mono ?_
      rintro e w2 ⟨rfl, hb⟩
      have HB2 := Lib.hid (HB1.out.trans (hb.mono HB1.out.size))
      clear hb
      go_wp2_with fail
      rcases A3.out w2 with ⟨z, c1⟩ | ⟨r, c1, c2⟩
      · refine c1.mono ?_
        rintro e w4 ⟨rfl, hb⟩
        have HB4 := Lib.hid (HB2.out.trans (hb.mono HB2.out.size))
        clear hb c1
        go_wp2_with fail
        refine (A5.out _ (HT.out.below HB4.out)).mono ?_
        rintro e w5 ⟨rfl, hb⟩
        have HB5 := Lib.hid (HB4.out.trans (hb.mono HB4.out.size))
        clear hb
        go_wp2_with fail
        refine (A7.out _).mono ?_
        rintro e w7 ⟨rfl, hb⟩
        have HB7 := Lib.hid (HB5.out.trans (hb.mono HB5.out.size))
        clear hb
        go_wp2_with fail
        refine (hexaAwake _ (HT.out.below HB7.out)).mono ?_
        rintro e w9 ⟨rfl, hb⟩
        have HB9 := Lib.hid (HB7.out.trans (hb.mono HB7.out.size))
        clear hb
        go_wp2
        go_ret
        exact ⟨rfl, HB9.out⟩
      · have C2 := Lib.hid c2
        clear c2
        refine c1.mono ?_
        rintro e w3 ⟨rfl, hb⟩
        have HB3 := Lib.hid (HB2.out.trans (hb.mono HB2.out.size))
        clear hb c1
        go_wp2_with fail
        refine (C2.out _).mono ?_
        rintro e w4 ⟨rfl, hb⟩
        have HB4 := Lib.hid (HB3.out.trans (hb.mono HB3.out.size))
        clear hb
        go_wp2_with fail
        refine (A5.out _ (HT.out.below HB4.out)).mono ?_
        rintro e w5 ⟨rfl, hb⟩
        have HB5 := Lib.hid (HB4.out.trans (hb.mono HB4.out.size))
        clear hb
        go_wp2_with fail
        refine (A7.out _).mono ?_
        rintro e w7 ⟨rfl, hb⟩
        have HB7 := Lib.hid (HB5.out.trans (hb.mono HB5.out.size))
        clear hb
        go_wp2_with fail
        refine (hexaAwake _ (HT.out.below HB7.out)).mono ?_
        rintro e w9 ⟨rfl, hb⟩
        have HB9 := Lib.hid (HB7.out.trans (hb.mono HB7.out.size))
        clear hb
        go_wp2
        go_ret
        exact ⟨rfl, HB9.out⟩
    · have h2 : decide ((2000 : Int) < (t.size : Int)) = true := by simp; omega
      go_enter Tryd.func4, Tryd.ntmps4
      go_wp2_with fail
      refine (hexaAwake _ HT.out).mono ?_
      rintro e w1 ⟨rfl, hb⟩
      have HB := Lib.hid hb
      clear hb
      go_wp2
      go_ret
      exact ⟨rfl, HB.out⟩
  · have h1 : decide ((2000 : Int) < (s.size : Int)) = true := by simp; omega
    go_enter Tryd.func4, Tryd.ntmps4
    go_wp2_with fail
    refine (hexaAwake _ HT.out).mono ?_
    rintro e w1 ⟨rfl, hb⟩
    have HB := Lib.hid hb
    clear hb
    go_wp2
    go_ret
    exact ⟨rfl, HB.out⟩

set_option maxHeartbeats 2000000 in
set_option maxRecDepth 100000 in
theorem order_law (s t : ByteArray) (w : World) (ws : s.size ≤ maxLen) (wt : t.size ≤ maxLen) (hT : Tab w) :
    Calls Tryd.prog 5 #[.string s, .string t] w fun e w' => e = .returned (.bool true) ∧ Below w.heap.size w w' := by
  unfold maxLen at ws wt
  have HT := Lib.hid hT
  clear hT
  by_cases hs : s.size ≤ 500
  · have h1 : decide ((500 : Int) < (s.size : Int)) = false := by simp; omega
    by_cases ht : t.size ≤ 500
    · have h2 : decide ((500 : Int) < (t.size : Int)) = false := by simp; omega
      have a1 := fun W => putC s W (by omega)
      have a2 := fun W => putC t W (by omega)
      have hless := put_less s t
      have hsz := putL_size s
      generalize (⟨(putL s.data.toList).toArray⟩ : ByteArray) = x1 at a1 hless hsz
      generalize (⟨(putL t.data.toList).toArray⟩ : ByteArray) = x2 at a2 hless
      obtain ⟨b, hb1⟩ : ∃ b, Op.bytesLess s.toList t.toList = b := ⟨_, rfl⟩
      rw [hb1] at hless
      have hbb : (b == b) = true := by simp
      have hszI : ((x1.size : Int) == 2 * (s.size : Int)) = true := by simp; omega
      have hszB : x1.size ≤ 1000 := by omega
      have A1 := Lib.hid a1
      have A2 := Lib.hid a2
      clear a1 a2 hsz
      go_enter Tryd.func5, Tryd.ntmps5
      go_wp2_with fail
      refine (A1.out _).mono ?_
      rintro e w1 ⟨rfl, hb⟩
      have HB1 := Lib.hid hb
      clear hb
      go_wp2_with fail
      refine (A2.out _).mono ?_
      rintro e w2 ⟨rfl, hb⟩
      have HB2 := Lib.hid (HB1.out.trans (hb.mono HB1.out.size))
      clear hb
      go_wp2_with fail
      refine (A1.out _).mono ?_
      rintro e w3 ⟨rfl, hb⟩
      have HB3 := Lib.hid (HB2.out.trans (hb.mono HB2.out.size))
      clear hb
      go_wp2_with fail
      refine (hexaAwake _ (HT.out.below HB3.out)).mono ?_
      rintro e w9 ⟨rfl, hb⟩
      have HB9 := Lib.hid (HB3.out.trans (hb.mono HB3.out.size))
      clear hb
      go_wp2
      go_ret
      exact ⟨rfl, HB9.out⟩
    · have h2 : decide ((500 : Int) < (t.size : Int)) = true := by simp; omega
      go_enter Tryd.func5, Tryd.ntmps5
      go_wp2_with fail
      refine (hexaAwake _ HT.out).mono ?_
      rintro e w1 ⟨rfl, hb⟩
      have HB := Lib.hid hb
      clear hb
      go_wp2
      go_ret
      exact ⟨rfl, HB.out⟩
  · have h1 : decide ((500 : Int) < (s.size : Int)) = true := by simp; omega
    go_enter Tryd.func5, Tryd.ntmps5
    go_wp2_with fail
    refine (hexaAwake _ HT.out).mono ?_
    rintro e w1 ⟨rfl, hb⟩
    have HB := Lib.hid hb
    clear hb
    go_wp2
    go_ret
    exact ⟨rfl, HB.out⟩

theorem back_row (s t : ByteArray) (w : World) (ws : s.size ≤ maxLen) (wt : t.size ≤ maxLen) (hL : laidMetH Tryd.prog Rows.hexaBackRow.laid w) :
    Calls Tryd.prog 4 #[.string s, .string t] w fun e w' => e = .returned (.bool true) ∧ Below w.heap.size w w' :=
  back_law s t w ws wt (tab_of hL (by kernel_rfl) (by kernel_rfl) (.head _))
theorem order_row (s t : ByteArray) (w : World) (ws : s.size ≤ maxLen) (wt : t.size ≤ maxLen) (hL : laidMetH Tryd.prog Rows.hexaOrderRow.laid w) :
    Calls Tryd.prog 5 #[.string s, .string t] w fun e w' => e = .returned (.bool true) ∧ Below w.heap.size w w' :=
  order_law s t w ws wt (tab_of hL (by kernel_rfl) (by kernel_rfl) (.head _))
end Go.Proofs.YtjoaijkjocpepaaDoor
