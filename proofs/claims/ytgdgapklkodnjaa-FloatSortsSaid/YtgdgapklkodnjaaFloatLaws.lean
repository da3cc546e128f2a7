/-
  almonrylaw05: the walks of FloatKeys and FloatBack.
-/
import Derived.Test.YtgdgapklkodnjaaFloatAwake
import Derived.OpenShut
namespace Go.Proofs.Ytgdgapklkodnjaa
open Go.RowKit

attribute [local go_sem] run_store_flt

theorem u64_nat {a : Int} (h : (Lit.int .u64 a).wf = true) : ∃ n : Nat, a = (n : Int) ∧ n < 18446744073709551616 := by
  have := bounds_u64 h
  exact ⟨a.toNat, by omega, by omega⟩
theorem f64_lt {b : Nat} (h : (Lit.float .f64 b).wf = true) : b < 18446744073709551616 := by
  simpa [Lit.wf] using h

set_option maxHeartbeats 4000000 in
set_option maxRecDepth 100000 in
theorem keys_law (a0 : Nat) (a1 : Int) (a2 : ByteArray) (w : World) (w0 : (Lit.float .f64 a0).wf = true) (w1 : (Lit.int .u64 a1).wf = true) (w2 : a2.size ≤ maxLen) :
    Calls Try.prog 3 #[.float .f64 a0, .int .u64 a1, .string a2] w fun e w' => e = .returned (.bool true) ∧ Below w.heap.size w w' := by
  have hb := f64_lt w0
  obtain ⟨k, rfl, hk⟩ := u64_nat w1
  clear w0 w1
  by_cases hlen : a2.size ≤ 100
  · have r1 := fun W => readC a2 W w2
    have r2 := fun W => readR a2 W w2
    have k1 := fun W => keyC a0 hb W
    have k2 := fun W => keyR a0 hb W
    have o1 := fun W => ofC k hk W
    have o2 := fun W => ofR k hk W
    have p1 := fun W => putC a0 W
    have p2 := fun W => putR a0 W
    have c1 := fun W => cleanC a0 W
    have c2 := fun W => cleanR a0 W
    have hn : decide (100 < (a2.size : Int)) = false := by simp; omega
    generalize rdB a2.data.toList = x at r1 r2
    generalize rdN a2.data.toList = y at r1 r2
    generalize keyB a0 = z at k1 k2
    generalize ofB k = o at o1 o2
    generalize putS a0 = ps at p1 p2
    generalize cln a0 = c at c1 c2
    have R1 := Lib.hid r1
    have R2 := Lib.hid r2
    have K1 := Lib.hid k1
    have K2 := Lib.hid k2
    have O1 := Lib.hid o1
    have O2 := Lib.hid o2
    have P1 := Lib.hid p1
    have P2 := Lib.hid p2
    have C1 := Lib.hid c1
    have C2 := Lib.hid c2
    clear r1 r2 k1 k2 o1 o2 p1 p2 c1 c2 w2 hk hb
    go_enter Try.func3, Try.ntmps3
    go_wp2_with fail
    refine (R1.out _).mono ?_
    rintro e w1 ⟨rfl, rfl⟩
    go_wp2_with fail
    refine (R2.out _).mono ?_
    rintro e w1 ⟨rfl, rfl⟩
    go_wp2_with fail
    refine (K1.out _).mono ?_
    rintro e w1 ⟨rfl, rfl⟩
    go_wp2_with fail
    refine (K2.out _).mono ?_
    rintro e w1 ⟨rfl, rfl⟩
    go_wp2_with fail
    refine (O1.out _).mono ?_
    rintro e w1 ⟨rfl, rfl⟩
    go_wp2_with fail
    refine (O2.out _).mono ?_
    rintro e w1 ⟨rfl, rfl⟩
    go_wp2_with fail
    refine (sameT _ _).mono ?_
    rintro e w1 ⟨rfl, rfl⟩
    go_wp2_with fail
    refine (P1.out _).mono ?_
    rintro e w1 ⟨rfl, hb1⟩
    have HB1 := Lib.hid hb1
    have hs1 := hb1.size
    clear hb1
    go_wp2_with fail
    refine (P2.out _).mono ?_
    rintro e w2 ⟨rfl, hb2⟩
    have HB2 := Lib.hid (HB1.out.trans (hb2.mono hs1))
    have hs2 := HB2.out.size
    clear hb2 HB1
    go_wp2_with fail
    refine (C1.out _).mono ?_
    rintro e w3 ⟨rfl, rfl⟩
    go_wp2_with fail
    refine (C2.out _).mono ?_
    rintro e w3 ⟨rfl, rfl⟩
    go_wp2_with fail
    refine (sameT _ _).mono ?_
    rintro e w3 ⟨rfl, rfl⟩
    go_wp2_with fail
    refine (sameT _ _).mono ?_
    rintro e w3 ⟨rfl, rfl⟩
    go_wp2_with fail
    refine (floatAwake _).mono ?_
    rintro e w3 ⟨rfl, hb3⟩
    have HB3 := Lib.hid (HB2.out.trans (hb3.mono hs2))
    clear hb3 HB2
    go_wp2
    go_ret
    exact ⟨rfl, HB3.out⟩
  · have hn : decide (100 < (a2.size : Int)) = true := by simp; omega
    clear hlen w2 hk hb
    go_enter Try.func3, Try.ntmps3
    go_wp2_with fail
    refine (floatAwake _).mono ?_
    rintro e w3 ⟨rfl, hb3⟩
    have HB3 := Lib.hid hb3
    clear hb3
    go_wp2
    go_ret
    exact ⟨rfl, HB3.out⟩

set_option maxHeartbeats 4000000 in
set_option maxRecDepth 100000 in
theorem back_law (a0 : Int) (a1 : ByteArray) (w : World) (w0 : (Lit.int .u64 a0).wf = true) (w1 : a1.size ≤ maxLen) :
    Calls Try.prog 6 #[.int .u64 a0, .string a1] w fun e w' => e = .returned (.bool true) ∧ Below w.heap.size w w' := by
  obtain ⟨b, rfl, hb⟩ := u64_nat w0
  clear w0
  by_cases hlen : a1.size ≤ 100
  · have f1 := fun W => ffrom b W
    have p1 := fun W => putC b W
    have r1 := fun W => readC (putS b) W (by rw [putS_size]; unfold maxLen; omega)
    rw [putS_data, (rd_put hb).1, (rd_put hb).2] at r1
    have r2 := fun W => readC a1 W w1
    have c1 := fun W => cleanC b W
    have k1 := fun W => keyC b hb W
    have o1 := fun W => ofC (keyB b) (keyB_lt hb) W
    rw [ofB_keyB hb] at o1
    have p2 := fun W => putC (rdB a1.data.toList) W
    have hback : rdN a1.data.toList = 0 → putS (rdB a1.data.toList) = a1 := fun h => by
      unfold putS; rw [put_rd h]
    have hn : decide (100 < (a1.size : Int)) = false := by simp; omega
    generalize rdB a1.data.toList = x at r2 p2 hback
    generalize rdN a1.data.toList = y at r2 hback
    generalize keyB b = z at k1 o1
    generalize putS b = ps at p1 r1
    generalize cln b = c at c1 r1 o1
    have F1 := Lib.hid f1
    have R1 := Lib.hid r1
    have R2 := Lib.hid r2
    have K1 := Lib.hid k1
    have O1 := Lib.hid o1
    have P1 := Lib.hid p1
    have P2 := Lib.hid p2
    have C1 := Lib.hid c1
    have HBK := Lib.hid hback
    clear r1 r2 k1 o1 p1 p2 c1 w1 hb hback
    by_cases hy : y = 0
    · subst hy
      have he := HBK.out rfl
      rw [he] at P2
      have hne : ((0 : Int) != 0) = false := rfl
      clear HBK he
      go_enter Try.func6, Try.ntmps6
      go_wp2_with fail
      refine (P1.out _).mono ?_
      rintro e w1 ⟨rfl, hb1⟩
      have HB1 := Lib.hid hb1
      have hs1 := hb1.size
      clear hb1
      go_wp2_with fail
      refine (R1.out _).mono ?_
      rintro e w2 ⟨rfl, rfl⟩
      go_wp2_with fail
      refine (R2.out _).mono ?_
      rintro e w2 ⟨rfl, rfl⟩
      go_wp2_with fail
      refine (C1.out _).mono ?_
      rintro e w2 ⟨rfl, rfl⟩
      go_wp2_with fail
      refine (sameT _ _).mono ?_
      rintro e w2 ⟨rfl, rfl⟩
      go_wp2_with fail
      refine (P2.out _).mono ?_
      rintro e w2 ⟨rfl, hb2⟩
      have HB2 := Lib.hid (HB1.out.trans (hb2.mono hs1))
      have hs2 := HB2.out.size
      clear hb2 HB1
      go_wp2_with fail
      refine (K1.out _).mono ?_
      rintro e w3 ⟨rfl, rfl⟩
      go_wp2_with fail
      refine (O1.out _).mono ?_
      rintro e w3 ⟨rfl, rfl⟩
      go_wp2_with fail
      refine (C1.out _).mono ?_
      rintro e w3 ⟨rfl, rfl⟩
      go_wp2_with fail
      refine (sameT _ _).mono ?_
      rintro e w3 ⟨rfl, rfl⟩
      go_wp2_with fail
      refine (floatAwake _).mono ?_
      rintro e w3 ⟨rfl, hb3⟩
      have HB3 := Lib.hid (HB2.out.trans (hb3.mono hs2))
      clear hb3 HB2
      go_wp2
      go_ret
      exact ⟨rfl, HB3.out⟩
    · have hne : (y != 0) = true := by simpa using hy
      clear HBK hy
      go_enter Try.func6, Try.ntmps6
      go_wp2_with fail
      refine (P1.out _).mono ?_
      rintro e w1 ⟨rfl, hb1⟩
      have HB1 := Lib.hid hb1
      have hs1 := hb1.size
      clear hb1
      go_wp2_with fail
      refine (R1.out _).mono ?_
      rintro e w2 ⟨rfl, rfl⟩
      go_wp2_with fail
      refine (R2.out _).mono ?_
      rintro e w2 ⟨rfl, rfl⟩
      go_wp2_with fail
      refine (C1.out _).mono ?_
      rintro e w2 ⟨rfl, rfl⟩
      go_wp2_with fail
      refine (sameT _ _).mono ?_
      rintro e w2 ⟨rfl, rfl⟩
      go_wp2_with fail
      refine (K1.out _).mono ?_
      rintro e w3 ⟨rfl, rfl⟩
      go_wp2_with fail
      refine (O1.out _).mono ?_
      rintro e w3 ⟨rfl, rfl⟩
      go_wp2_with fail
      refine (C1.out _).mono ?_
      rintro e w3 ⟨rfl, rfl⟩
      go_wp2_with fail
      refine (sameT _ _).mono ?_
      rintro e w3 ⟨rfl, rfl⟩
      go_wp2_with fail
      refine (floatAwake _).mono ?_
      rintro e w3 ⟨rfl, hb3⟩
      have HB3 := Lib.hid (HB1.out.trans (hb3.mono hs1))
      clear hb3 HB1
      go_wp2
      go_ret
      exact ⟨rfl, HB3.out⟩
  · have hn : decide (100 < (a1.size : Int)) = true := by simp; omega
    clear hlen w1 hb
    go_enter Try.func6, Try.ntmps6
    go_wp2_with fail
    refine (floatAwake _).mono ?_
    rintro e w3 ⟨rfl, hb3⟩
    have HB3 := Lib.hid hb3
    clear hb3
    go_wp2
    go_ret
    exact ⟨rfl, HB3.out⟩
end Go.Proofs.Ytgdgapklkodnjaa
