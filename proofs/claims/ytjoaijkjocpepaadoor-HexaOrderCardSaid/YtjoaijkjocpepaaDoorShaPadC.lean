/-
  sha.Pad: what each call answers.
-/
import Derived.Test.YtjoaijkjocpepaaDoorShaBlkR
namespace Go.Proofs.YtjoaijkjocpepaaDoor
open Go.RowKit

attribute [local go_sem] m8_wrap m8_mod m8_mod' m8_wrap'

set_option maxHeartbeats 1000000 in
set_option maxRecDepth 100000 in
theorem padC_nat (n : Nat) (hn : n ≤ 9223372036854775807) (w : World) :
    Calls Tryd.prog 22 #[.int .i64 n] w fun e w' => e = .returned (.string ⟨(padL n).toArray⟩) ∧ Below w.heap.size w w' := by
  obtain ⟨i0, hi, hz0, hz1, hz2⟩ := info_parts bytesInfo
  obtain ⟨z, hz⟩ : ∃ z : Nat, z = (119 - n % 64) % 64 := ⟨_, rfl⟩
  have hz64 : z < 64 := by omega
  have hzz : ((119 : Int) - (n : Int) % 64) % 64 = (z : Int) := by omega
  have hmk := make_bytes (z + 1) (z + 9) (1 + (z : Int)) (1 + (z : Int) + 8) (by omega) (by omega) (by omega) (by omega)
  have HPL := Lib.hid (m8_pad n)
  rw [← hz] at HPL
  have hd0 : decide ((n : Int) < 0) = false := by simp
  clear hz
  go_enter Tryd.func22, Tryd.ntmps22
  go_wp2
  rw [hzz]
  clear hzz hmk
  go_loopw [4, 6] (fun v i wr => ∃ (k : Nat) (pre : List UInt8), k ≤ 8 ∧ i = .int .i64 (8 * (k : Int) - 8) ∧ pre ++ be8 (m8 n) k = padL n ∧ pre.length + k ≤ 80 ∧ OwnB w.heap.size v pre wr ∧ Below w.heap.size w wr) (fun _ i _ => (intOf i + 8).toNat)
  case atStart =>
    exact ⟨8, _, by omega, rfl, HPL.out.symm, by simp; omega, by simpa using own_made w z (z + 9) (by omega) (by omega) 128 (by omega), (Below.refl _ _).alloc (Nat.le_refl _) _⟩
  case round =>
    clear HPL
    obtain ⟨k, pre, hk, rfl, hpre, hlp, hown, hb⟩ := hrel
    have HPRE := Lib.hid hpre
    have HB := Lib.hid hb
    have hbs := hb.size
    clear hpre hb
    cases k with
    | zero =>
      have hconv := own_text hown
      go_wp2
      go_ret
      have h := HPRE.out
      rw [be8_zero, List.append_nil] at h
      rw [h]
      exact ⟨rfl, HB.out⟩
    | succ k =>
      have e8 : 8 * ((k + 1 : Nat) : Int) - 8 = 8 * (k : Int) := by omega
      have hge : (0 : Int) ≤ 8 * (k : Int) := by omega
      rw [e8]
      clear e8
      go_wp2_with (at_builtin; refine wpList_append_own _ rfl _ _ 32 rfl w.heap.size 5 i0 (.int .u8 0) 1 1 Tryd.underlying32 hi hz0 hz1 hz2 rfl (by decide) _ _ _ rfl (hown.alloc _) ⟨wr.heap.size, 0, none⟩ 1 1 [Value.int .u8 ((m8 n : Int) / 2 ^ (8 * k) % 256)] rfl rfl ?c1 ?c2 ?c3 ?c4 ?c5 ?_)
      case c1 =>
        intro j u hj
        match j, hj with
        | 0, hj => simp at hj; subst hj; simp [Addr.add]
      case c2 => intro u hu; simp at hu; subst hu; rfl
      case c3 => unfold maxLen; omega
      case c4 => omega
      case c5 => simp; omega
      intro v' w1 hown' hgrow _
      have hb1 : Below w.heap.size w w1 := (HB.out.alloc (by omega) _).grown hgrow (by simp; omega) (fun j hj => (hown.lt j hj).1)
      have hown2 := ownB_more (a := m8 n / 2 ^ (8 * k) % 256) (by omega) (by simp) hown'
      have hpre2 := HPRE.out
      rw [be8_succ, List.append_cons, ← ofNat_mod] at hpre2
      have HP2 := Lib.hid hpre2
      have HO2 := Lib.hid hown2
      have HB1 := Lib.hid hb1
      clear hpre2 hown2 hb1 hown' hgrow
      go_wp2
      exact ⟨⟨k, _, by omega, by go_num, HP2.out, by simp; omega, HO2.out, HB1.out⟩, by simp [intOf]; omega⟩

theorem padC_neg (n : Int) (hn : n < 0) (w : World) :
    Calls Tryd.prog 22 #[.int .i64 n] w fun e w' => e = .returned (.string ⟨#[]⟩) ∧ w = w' := by
  go_enter Tryd.func22, Tryd.ntmps22
  go_wp2
  go_ret
  exact ⟨rfl, rfl⟩
end Go.Proofs.YtjoaijkjocpepaaDoor
