/-
  WireShort: the walk.
-/
import Derived.Test.YtkgjklcokjfhlaaWireAwake
import Derived.Test.YtkgjklcokjfhlaaWireUv
import Derived.OpenShut
namespace Go.Proofs.Ytkgjklcokjfhlaa
open Go.RowKit

theorem num_str (x : Nat) (hx : x ≤ 9007199254740992) (w : World) :
    Calls Try.prog 7 #[.int .i64 x] w fun e w' => ∃ s : ByteArray, s.data.toList = Lib.uvarint x ∧ e = .returned (.tuple #[.string s, .int .i64 0]) ∧ Below w.heap.size w w' :=
  (num_ok x hx w).mono fun _ _ ⟨he, hb⟩ => ⟨⟨(Lib.uvarint x).toArray⟩, rfl, he, hb⟩

theorem ne_of_uv {s t : ByteArray} {a b : Nat} (hs : s.data.toList = Lib.uvarint a) (ht : t.data.toList = Lib.uvarint b) (h : a ≠ b) : (s.toList == t.toList) = false := by
  rw [ByteArray.toList_eq, ByteArray.toList_eq, hs, ht]
  exact beq_false_of_ne fun e => h (uv_eq e)
theorem size_of_uv {s : ByteArray} {a : Nat} (hs : s.data.toList = Lib.uvarint a) : s.size = (Lib.uvarint a).length := by
  rw [← hs]; simp
theorem some_of_uv {s : ByteArray} {a : Nat} (hs : s.data.toList = Lib.uvarint a) : s.toList.isEmpty = false ∧ 0 < s.size := by
  have h := Lib.uvarint_pos a
  have h2 := size_of_uv hs
  refine ⟨?_, by omega⟩
  rw [ByteArray.toList_eq, hs]
  cases h3 : Lib.uvarint a with
  | nil => rw [h3] at h; simp at h
  | cons x r => rfl
theorem cut_of_uv {s t : ByteArray} {a b : Nat} (hs : s.data.toList = Lib.uvarint a) (ht : t.data.toList = Lib.uvarint b) (h : a ≠ b) : ((t.extract 0 s.size).toList == s.toList) = false := by
  rw [ByteArray.toList_eq, ByteArray.toList_eq, Lib.extract_data, hs, ht, size_of_uv hs]
  refine beq_false_of_ne fun e => h (uv_prefix ?_)
  simpa using e

set_option maxHeartbeats 2000000 in
set_option maxRecDepth 100000 in
theorem short_walk (a b : Nat) (ha : a < 4294967296) (hb : b < 4294967296) (w : World) :
    Calls Try.prog 6 #[.int .u32 a, .int .u32 b] w fun e w' => e = .returned (.bool true) ∧ Below w.heap.size w w' := by
  rcases Nat.lt_trichotomy a b with hab | rfl | hab
  · have hne : ((a : Int) == (b : Int)) = false := by simp; omega
    have hm := uv_mono b a (by omega)
    go_enter Try.func6, Try.ntmps6
    go_wp2_with fail
    refine (num_str a (by omega) w).mono ?_
    rintro e w1 ⟨s, hs, rfl, hb1⟩
    go_wp2_with fail
    refine (num_str b (by omega) w1).mono ?_
    rintro e w2 ⟨t, ht, rfl, hb2⟩
    have e1 := ne_of_uv hs ht (by omega)
    have e2 := cut_of_uv hs ht (by omega)
    obtain ⟨e3, e4⟩ := some_of_uv hs
    obtain ⟨e5, e6⟩ := some_of_uv ht
    have e7 : s.size ≤ t.size := by rw [size_of_uv hs, size_of_uv ht]; exact hm
    have hB := hb1.trans (hb2.mono hb1.size)
    have hB2 := hB.size
    clear hs ht hb1 hb2 hm
    go_wp2_with fail
    refine (awake_any w2).mono ?_
    rintro e w3 ⟨rfl, hb3⟩
    go_wp2
    go_ret
    exact ⟨rfl, hB.trans (hb3.mono hB2)⟩
  · have hne : ((a : Int) == (a : Int)) = true := by simp
    go_enter Try.func6, Try.ntmps6
    go_wp2_with fail
    refine (num_ok a (by omega) w).mono ?_
    rintro e w1 ⟨rfl, hb1⟩
    go_wp2_with fail
    refine (num_ok a (by omega) w1).mono ?_
    rintro e w2 ⟨rfl, hb2⟩
    obtain ⟨e3, e4⟩ := some_of_uv (s := ⟨(Lib.uvarint a).toArray⟩) (a := a) rfl
    generalize (⟨(Lib.uvarint a).toArray⟩ : ByteArray) = s at e3 e4 ⊢
    have e1 : (s.toList == s.toList) = true := by simp
    have hB := hb1.trans (hb2.mono hb1.size)
    have hB2 := hB.size
    clear hb1 hb2
    go_wp2_with fail
    refine (awake_any w2).mono ?_
    rintro e w3 ⟨rfl, hb3⟩
    go_wp2
    go_ret
    exact ⟨rfl, hB.trans (hb3.mono hB2)⟩
  · have hne : ((a : Int) == (b : Int)) = false := by simp; omega
    have hm := uv_mono a b (by omega)
    go_enter Try.func6, Try.ntmps6
    go_wp2_with fail
    refine (num_str a (by omega) w).mono ?_
    rintro e w1 ⟨s, hs, rfl, hb1⟩
    go_wp2_with fail
    refine (num_str b (by omega) w1).mono ?_
    rintro e w2 ⟨t, ht, rfl, hb2⟩
    have e1 := ne_of_uv hs ht (by omega)
    have e2 := cut_of_uv hs ht (by omega)
    obtain ⟨e3, e4⟩ := some_of_uv hs
    obtain ⟨e5, e6⟩ := some_of_uv ht
    have e7 : t.size ≤ s.size := by rw [size_of_uv hs, size_of_uv ht]; exact hm
    have hB := hb1.trans (hb2.mono hb1.size)
    have hB2 := hB.size
    clear hs ht hb1 hb2 hm
    by_cases h8 : t.size < s.size
    · go_wp2_with fail
      refine (awake_any w2).mono ?_
      rintro e w3 ⟨rfl, hb3⟩
      go_wp2
      go_ret
      exact ⟨rfl, hB.trans (hb3.mono hB2)⟩
    · go_wp2_with fail
      refine (awake_any w2).mono ?_
      rintro e w3 ⟨rfl, hb3⟩
      go_wp2
      go_ret
      exact ⟨rfl, hB.trans (hb3.mono hB2)⟩
theorem short_law (a0 a1 : Int) (w : World) (w0 : (Lit.int .u32 a0).wf = true) (w1 : (Lit.int .u32 a1).wf = true) :
    Calls Try.prog 6 #[.int .u32 a0, .int .u32 a1] w fun e w' => e = .returned (.bool true) ∧ Below w.heap.size w w' := by
  have h0 := bounds_u32 w0
  have h1 := bounds_u32 w1
  obtain ⟨a, rfl⟩ := Int.eq_ofNat_of_zero_le h0.1
  obtain ⟨b, rfl⟩ := Int.eq_ofNat_of_zero_le h1.1
  exact short_walk a b (by omega) (by omega) w
end Go.Proofs.Ytkgjklcokjfhlaa
