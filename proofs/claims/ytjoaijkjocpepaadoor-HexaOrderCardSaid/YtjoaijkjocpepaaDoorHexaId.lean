/-
  ID and Check, hexa's and almonryref03's: what each call answers.
-/
import Derived.Test.YtjoaijkjocpepaaDoorHexaRef
import Derived.Test.YtjoaijkjocpepaaDoorShaSumR
namespace Go.Proofs.YtjoaijkjocpepaaDoor
open Go.RowKit

theorem sum_len (l : List UInt8) : (sSum l).length = 32 := by unfold sSum; rw [outB_len, blks_len H0_len]

def idL (l : List UInt8) : List UInt8 := putL (sSum l)
def idS (s : ByteArray) : ByteArray := ⟨(idL s.data.toList).toArray⟩
theorem idS_size (s : ByteArray) : (idS s).size = 64 := by
  show (idL s.data.toList).toArray.size = 64
  simp [idL, putL_len, sum_len]
theorem idS_read (s : ByteArray) : rdE (idS s).data.toList = 0 := by
  show rdE ((idL s.data.toList).toArray.toList) = 0
  exact (rd_some (by simp only [List.toList_toArray]; exact read_put _)).2

def ckE (s : ByteArray) : Int := if s.size = 64 then rdE s.data.toList else 5
theorem ck_id (s : ByteArray) : ckE (idS s) = 0 := by unfold ckE; rw [if_pos (idS_size s), idS_read]
theorem rdE_two (l : List UInt8) : rdE l = 0 ∨ rdE l = 5 := by unfold rdE; split <;> simp

set_option maxHeartbeats 1000000 in
set_option maxRecDepth 100000 in
theorem idC (s : ByteArray) (w : World) (hs : s.size ≤ 5000) (hT : Tab w) :
    Calls Tryd.prog 11 #[.string s] w fun e w' => e = .returned (.string (idS s)) ∧ Below w.heap.size w w' := by
  have c1 := sumC s w hs hT
  have c2 := fun W => putC ⟨(sSum s.data.toList).toArray⟩ W (by show (sSum s.data.toList).toArray.size ≤ 5000; simp [sum_len])
  have e : (⟨(putL (ByteArray.mk (sSum s.data.toList).toArray).data.toList).toArray⟩ : ByteArray) = idS s := rfl
  rw [e] at c2
  generalize (⟨(sSum s.data.toList).toArray⟩ : ByteArray) = m at c1 c2
  generalize idS s = r at c2 ⊢
  have C1 := Lib.hid c1
  have C2 := Lib.hid c2
  clear c1 c2 e hT
  go_enter Tryd.func11, Tryd.ntmps11
  go_wp2_with fail
  refine C1.out.mono ?_
  rintro e w1 ⟨rfl, hb1⟩
  go_wp2_with fail
  refine (C2.out w1).mono ?_
  rintro e w2 ⟨rfl, hb2⟩
  have HB := Lib.hid (hb1.trans (hb2.mono hb1.size))
  clear hb1 hb2
  go_wp2
  go_ret
  exact ⟨rfl, HB.out⟩

set_option maxHeartbeats 1000000 in
set_option maxRecDepth 100000 in
theorem idR (s : ByteArray) (w : World) (hs : s.size ≤ 5000) :
    Calls Tryd.prog 12 #[.string s] w fun e w' => e = .returned (.string (idS s)) ∧ Below w.heap.size w w' := by
  have c1 := sumR s w hs
  have c2 := fun W => putR ⟨(sSum s.data.toList).toArray⟩ W (by show (sSum s.data.toList).toArray.size ≤ 5000; simp [sum_len])
  have e : (⟨(putL (ByteArray.mk (sSum s.data.toList).toArray).data.toList).toArray⟩ : ByteArray) = idS s := rfl
  rw [e] at c2
  generalize (⟨(sSum s.data.toList).toArray⟩ : ByteArray) = m at c1 c2
  generalize idS s = r at c2 ⊢
  have C1 := Lib.hid c1
  have C2 := Lib.hid c2
  clear c1 c2 e
  go_enter Tryd.func12, Tryd.ntmps12
  go_wp2_with fail
  refine C1.out.mono ?_
  rintro e w1 ⟨rfl, hb1⟩
  go_wp2_with fail
  refine (C2.out w1).mono ?_
  rintro e w2 ⟨rfl, hb2⟩
  have HB := Lib.hid (hb1.trans (hb2.mono hb1.size))
  clear hb1 hb2
  go_wp2
  go_ret
  exact ⟨rfl, HB.out⟩

set_option maxHeartbeats 1000000 in
set_option maxRecDepth 100000 in
theorem checkC (s : ByteArray) (w : World) (hs : s.size ≤ 5000) :
    Calls Tryd.prog 13 #[.string s] w fun e w' => e = .returned (.int .i64 (ckE s)) ∧ Below w.heap.size w w' := by
  by_cases h : s.size = 64
  · have c1 := readC s w hs
    have e : ckE s = rdE s.data.toList := by unfold ckE; rw [if_pos h]
    rw [e]
    generalize rdS s.data.toList = a at c1
    generalize rdE s.data.toList = b at c1 ⊢
    have hne : ((s.size : Int) != 64) = false := by simp; omega
    have C1 := Lib.hid c1
    clear c1 e h
    go_enter Tryd.func13, Tryd.ntmps13
    go_wp2_with fail
    refine C1.out.mono ?_
    rintro e w1 ⟨rfl, hb1⟩
    have HB := Lib.hid hb1
    clear hb1
    go_wp2
    go_ret
    exact ⟨rfl, HB.out⟩
  · have e : ckE s = 5 := by unfold ckE; rw [if_neg h]
    rw [e]
    have hne : ((s.size : Int) != 64) = true := by simp; omega
    clear e h
    go_enter Tryd.func13, Tryd.ntmps13
    go_wp2
    go_ret
    exact ⟨rfl, Below.refl _ _⟩

set_option maxHeartbeats 1000000 in
set_option maxRecDepth 100000 in
theorem checkR (s : ByteArray) (w : World) (hs : s.size ≤ 5000) :
    Calls Tryd.prog 14 #[.string s] w fun e w' => e = .returned (.int .i64 (ckE s)) ∧ Below w.heap.size w w' := by
  have c1 := readR s w hs
  have htwo := rdE_two s.data.toList
  have hck : ckE s = if s.size = 64 then rdE s.data.toList else 5 := rfl
  rw [hck]
  generalize rdS s.data.toList = a at c1
  generalize rdE s.data.toList = b at c1 htwo
  have C1 := Lib.hid c1
  clear c1 hck
  rcases htwo with rfl | rfl
  · have h0 : ((0 : Int) != 0) = false := rfl
    by_cases h : s.size = 64
    · rw [if_pos h]
      have hne : ((s.size : Int) != 64) = false := by simp; omega
      clear h
      go_enter Tryd.func14, Tryd.ntmps14
      go_wp2_with fail
      refine C1.out.mono ?_
      rintro e w1 ⟨rfl, hb1⟩
      have HB := Lib.hid hb1
      clear hb1
      go_wp2
      go_ret
      exact ⟨rfl, HB.out⟩
    · rw [if_neg h]
      have hne : ((s.size : Int) != 64) = true := by simp; omega
      clear h
      go_enter Tryd.func14, Tryd.ntmps14
      go_wp2_with fail
      refine C1.out.mono ?_
      rintro e w1 ⟨rfl, hb1⟩
      have HB := Lib.hid hb1
      clear hb1
      go_wp2
      go_ret
      exact ⟨rfl, HB.out⟩
  · have h0 : ((5 : Int) != 0) = true := rfl
    rw [ite_self]
    go_enter Tryd.func14, Tryd.ntmps14
    go_wp2_with fail
    refine C1.out.mono ?_
    rintro e w1 ⟨rfl, hb1⟩
    have HB := Lib.hid hb1
    clear hb1
    go_wp2
    go_ret
    exact ⟨rfl, HB.out⟩
end Go.Proofs.YtjoaijkjocpepaaDoor
