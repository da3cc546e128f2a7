/-
  almonryref02.Pad: what each call answers.
-/
import Derived.Test.YtjoaijkjocpepaaDoorShaPadC
namespace Go.Proofs.YtjoaijkjocpepaaDoor
open Go.RowKit

attribute [local go_sem] m8_mod' m8_wrap'

set_option maxHeartbeats 1000000 in
set_option maxRecDepth 100000 in
theorem padR_nat (n : Nat) (hn : n ≤ 9223372036854775807) (w : World) :
    Calls Tryd.prog 23 #[.int .i64 n] w fun e w' => e = .returned (.string ⟨(padL n).toArray⟩) ∧ Below w.heap.size w w' := by
  obtain ⟨i0, hi, hz0, hz1, hz2⟩ := info_parts bytesInfo
  obtain ⟨z, hz⟩ : ∃ z : Nat, z = (119 - n % 64) % 64 := ⟨_, rfl⟩
  have hz64 : z < 64 := by omega
  have hzz : ∀ j : Nat, j ≤ z → ((n + (j + 1) + 8) % 64 = 0 ↔ j = z) := by omega
  have HZZ := Lib.hid hzz
  have HPL := Lib.hid (m8_pad n)
  rw [← hz] at HPL
  have hd0 : decide ((n : Int) < 0) = false := by simp
  clear hz hzz
  go_enter Tryd.func23, Tryd.ntmps23
  go_wp2
  go_loopw [3] (fun v wr => ∃ j : Nat, j ≤ z ∧ OwnB w.heap.size v (128 :: List.replicate j 0) wr ∧ Below w.heap.size w wr) (fun v _ => 65 - lenOf v)
  case atStart =>
    refine ⟨0, by omega, ?_, (Below.refl _ _).alloc (Nat.le_refl _) _⟩
    simpa using own_made w 0 1 (by omega) (by omega) 128 (by omega)
  case round =>
    obtain ⟨j, hj, hown, hb⟩ := hrel
    obtain ⟨g, cap, rfl⟩ := ownB_form hown (by simp)
    have hlen : (128 :: List.replicate j (0 : UInt8)).length = j + 1 := by simp
    rw [hlen] at hown ⊢
    have hbs := hb.size
    have HB := Lib.hid hb
    have hlen65 : (128 :: List.replicate j (0 : UInt8)).length ≤ 64 + 1 := by simp; omega
    clear hb hlen
    by_cases hjz : j = z
    · have ht : (((n : Int) % 64 + ((j : Int) + 1) + 8) % 64 != 0) = false := by
        have := (HZZ.out j hj).2 hjz
        simp; omega
      obtain rfl : j = z := hjz
      have hown0 : OwnB w.heap.size (.slice (some ⟨g, 0, none⟩) (j + 1) cap) (128 :: List.replicate j 0) wr := hown
      have HO := Lib.hid hown0
      clear hown hown0
      go_wp2
      clear ht
      go_loopw [3, 4] (fun v i wr => ∃ (k : Nat) (pre : List UInt8), k ≤ 8 ∧ i = .int .i64 ((k : Int) - 1) ∧ pre ++ be8 (m8 n) k = padL n ∧ pre.length + k ≤ 80 ∧ OwnB w.heap.size v pre wr ∧ Below w.heap.size w wr) (fun _ i _ => (intOf i + 1).toNat)
      case atStart =>
        exact ⟨8, _, by omega, rfl, HPL.out.symm, by simp; omega, HO.out, HB.out⟩
      case round =>
        clear HPL HO HB hbs
        obtain ⟨k, pre, hk, rfl, hpre, hlp, hown, hb⟩ := hrel
        have HPRE := Lib.hid hpre
        have HB := Lib.hid hb
        have hbs := hb.size
        clear hpre hb
        cases k with
        | zero =>
          have hconv := own_text hown
          go_wp2
          go_ret
          have h := HPRE.out
          rw [be8_zero, List.append_nil] at h
          rw [h]
          exact ⟨rfl, HB.out⟩
        | succ k =>
          have e8 : ((k + 1 : Nat) : Int) - 1 = (k : Int) := by omega
          rw [e8]
          clear e8
          go_wp2_with (at_builtin; refine wpList_append_own _ rfl _ _ 32 rfl w.heap.size 5 i0 (.int .u8 0) 1 1 Tryd.underlying32 hi hz0 hz1 hz2 rfl (by decide) _ _ _ rfl (hown.alloc _) ⟨wr.heap.size, 0, none⟩ 1 1 [Value.int .u8 ((m8 n : Int) / 2 ^ (8 * k) % 256)] rfl rfl ?c1 ?c2 ?c3 ?c4 ?c5 ?_)
          case c1 =>
            intro j u hj
            match j, hj with
            | 0, hj => simp at hj; subst hj; simp [Addr.add]
          case c2 => intro u hu; simp at hu; subst hu; rfl
          case c3 => unfold maxLen; omega
          case c4 => omega
          case c5 => simp; omega
          intro v' w1 hown' hgrow _
          have hb1 : Below w.heap.size w w1 := (HB.out.alloc (by omega) _).grown hgrow (by simp; omega) (fun j hj => (hown.lt j hj).1)
          have hown2 := ownB_more (a := m8 n / 2 ^ (8 * k) % 256) (by omega) (by simp) hown'
          have hpre2 := HPRE.out
          rw [be8_succ, List.append_cons, ← ofNat_mod] at hpre2
          have HP2 := Lib.hid hpre2
          have HO2 := Lib.hid hown2
          have HB1 := Lib.hid hb1
          clear hpre2 hown2 hb1 hown' hgrow
          go_wp2
          exact ⟨⟨k, _, by omega, by go_num, HP2.out, by simp; omega, HO2.out, HB1.out⟩, by simp [intOf]⟩
    · have ht : (((n : Int) % 64 + ((j : Int) + 1) + 8) % 64 != 0) = true := by
        have h1 : (n + (j + 1) + 8) % 64 ≠ 0 := fun h => hjz ((HZZ.out j hj).1 h)
        simp; omega
      go_wp2_with (at_builtin; refine wpList_append_own _ rfl _ _ 32 rfl w.heap.size 5 i0 (.int .u8 0) 1 1 Tryd.underlying32 hi hz0 hz1 hz2 rfl (by decide) _ _ _ rfl (hown.alloc _) ⟨wr.heap.size, 0, none⟩ 1 1 [Value.int .u8 0] rfl rfl ?c1 ?c2 ?c3 ?c4 ?c5 ?_)
      case c1 =>
        intro j u hj
        match j, hj with
        | 0, hj => simp at hj; subst hj; simp [Addr.add]
      case c2 => intro u hu; simp at hu; subst hu; rfl
      case c3 => unfold maxLen; omega
      case c4 => omega
      case c5 => simp; omega
      intro v' w1 hown' hgrow _
      have hb1 : Below w.heap.size w w1 := (HB.out.alloc (by omega) _).grown hgrow (by simp; omega) (fun j hj => (hown.lt j hj).1)
      have hown2 : OwnB w.heap.size v' (128 :: List.replicate (j + 1) 0) w1 := by
        have h := ownB_more (l := 128 :: List.replicate j 0) (a := 0) (i := 0) (v := v') (w := w1) (B := w.heap.size) (by omega) (by simp) (by simpa using hown')
        have e : (128 :: List.replicate j (0 : UInt8)) ++ [UInt8.ofNat 0] = 128 :: List.replicate (j + 1) 0 := by
          rw [List.replicate_succ']; simp
        rw [e] at h
        exact h
      have hf := ownB_form hown2 (by simp)
      have HO2 := Lib.hid hown2
      have HB1 := Lib.hid hb1
      obtain ⟨g', cap', hv'⟩ := hf
      have HV := Lib.hid hv'
      clear hown2 hb1 hown' hgrow hv' ht
      go_wp2
      refine ⟨⟨j + 1, by omega, HO2.out, HB1.out⟩, ?_⟩
      rw [HV.out]
      simp [lenOf]
      omega

theorem padR_neg (n : Int) (hn : n < 0) (w : World) :
    Calls Tryd.prog 23 #[.int .i64 n] w fun e w' => e = .returned (.string ⟨#[]⟩) ∧ w = w' := by
  go_enter Tryd.func23, Tryd.ntmps23
  go_wp2
  go_ret
  exact ⟨rfl, rfl⟩
end Go.Proofs.YtjoaijkjocpepaaDoor
