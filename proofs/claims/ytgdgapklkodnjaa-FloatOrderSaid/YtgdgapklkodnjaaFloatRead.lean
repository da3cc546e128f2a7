/-
  float.Read and the document's Read: what each call answers.
-/
import Derived.Test.YtgdgapklkodnjaaFloatR
import Derived.Test.YtgdgapklkodnjaaFloatBytes
namespace Go.Proofs.Ytgdgapklkodnjaa
open Go.RowKit

attribute [local go_sem] fbits ffrom ffromN fneq feql

theorem index_str (s : ByteArray) (j : Nat) (h : j < s.size) (W : World) : (Instr.index 9 (.string s) (.int .i64 (j : Int))).run Try.prog W = .ok (.int .u8 (s[j].toNat : Nat)) W := by
  have h1 := run_index_string (P := Try.prog) (w := W) 9 s .i64 (j : Int) Try.underlying9
  rw [dif_pos ⟨by omega, by omega⟩] at h1
  exact h1
theorem nr_take (s : ByteArray) (k : Nat) (h : k < s.size) : nrL (s.data.toList.take (k + 1)) = nrL (s.data.toList.take k) * 256 + s[k].toNat := by
  rw [List.take_succ_eq_append_getElem (by simpa using h), nrL_snoc]; rfl
theorem nr_low (s : ByteArray) (k : Nat) (h : k < 8) (h2 : s.size = 8) : nrL (s.data.toList.take k) < 72057594037927936 := by
  have h1 := nrL_lt k (s.data.toList.take k) (by rw [List.length_take]; simp; omega)
  have h3 : 256 ^ k ≤ 256 ^ 7 := Nat.pow_le_pow_right (by omega) (by omega)
  have h4 : 256 ^ 7 = 72057594037927936 := by decide
  omega
theorem or_byte (n c : Nat) (h : n < 72057594037927936) (hc : c < 256) : bits .or .u64 ((n : Int) * 256) (c : Int) = ((n * 256 + c : Nat) : Int) := by
  have h1 := u64_or_nat (n * 256) c (by omega) (by omega)
  have h2 : n * 256 ||| c = n * 256 + c := by
    have e := Nat.two_pow_add_eq_or_of_lt (i := 8) (b := c) (by omega) n
    rw [show 2 ^ 8 * n = n * 256 by rw [Nat.mul_comm]] at e
    omega
  rw [h2] at h1
  have e : ((n * 256 : Nat) : Int) = (n : Int) * 256 := by omega
  rwa [e] at h1

set_option maxHeartbeats 1000000 in
set_option maxRecDepth 100000 in
theorem readC (s : ByteArray) (w : World) (hs : s.size ≤ maxLen) :
    Calls Try.prog 8 #[.string s] w fun e w' => e = .returned (.tuple #[.float .f64 (rdB s.data.toList), .int .i64 (rdN s.data.toList)]) ∧ w = w' := by
  unfold maxLen at hs
  have hsl : s.data.toList.length = s.size := by simp
  by_cases h1 : s.size < 8
  · obtain ⟨e1, e2⟩ := rd_short (l := s.data.toList) (by omega)
    rw [e1, e2]
    clear e1 e2 hsl
    go_enter Try.func8, Try.ntmps8
    go_wp2
    go_ret2
    exact ⟨rfl, rfl⟩
  · by_cases h2 : 8 < s.size
    · obtain ⟨e1, e2⟩ := rd_long (l := s.data.toList) (by omega)
      rw [e1, e2]
      clear e1 e2 hsl
      go_enter Try.func8, Try.ntmps8
      go_wp2
      go_ret2
      exact ⟨rfl, rfl⟩
    · have h8 : s.size = 8 := by omega
      have hl8 : s.data.toList.length = 8 := by omega
      clear h1 h2 hs hsl
      go_enter Try.func8, Try.ntmps8
      go_wp2
      go_loop [4, 13] (fun r i => ∃ k : Nat, k ≤ 8 ∧ i = .int .i64 k ∧ r = .int .u64 (nrL (s.data.toList.take k) : Nat)) (fun _ i => 8 - (intOf i).toNat)
      case atStart => exact ⟨0, by omega, rfl, by rw [List.take_zero, nrL_nil]; rfl⟩
      case round =>
        obtain ⟨k, hk, rfl, rfl⟩ := hrel
        by_cases hlt : k < 8
        · have hst := nr_take s k (by omega)
          have hix := fun W => index_str s k (by omega) W
          have hlow := nr_low s k hlt h8
          generalize nrL (s.data.toList.take k) = r at hst hlow ⊢
          have hc := s[k].toNat_lt
          generalize s[k].toNat = c at hst hix hc
          have HS := Lib.hid hst
          have hor := or_byte r c hlow hc
          have hwr : IntKind.u64.wrap ((r : Int) * 256) = (r : Int) * 256 := by simp [IntKind.wrap, IntKind.bits, IntKind.signed]; omega
          have hmd : ((r : Int) * 256) % 18446744073709551616 = (r : Int) * 256 := by omega
          have HL := Lib.hid hlow
          clear hst hlow
          generalize r * 256 + c = r' at hor HS
          go_wp2
          exact ⟨⟨k + 1, by omega, by go_num, by rw [HS.out]⟩, by simp [intOf]; omega⟩
        · obtain rfl : k = 8 := by omega
          rw [List.take_of_length_le (by omega)]
          have hlt := nrL8_lt hl8
          by_cases hn : isNb (nrL s.data.toList) = true
          · by_cases hm : nrL s.data.toList = 9221120237041090561
            · obtain ⟨e1, e2⟩ := rd_good hl8 (by rw [hm]; exact cln_of isNb_nan)
              rw [hm] at hn e1 ⊢
              have E1 := Lib.hid e1
              have E2 := Lib.hid e2
              clear e1 e2 hm hlt
              go_wp2
              go_ret2
              exact ⟨by rw [E1.out, E2.out]; rfl, rfl⟩
            · obtain ⟨e1, e2⟩ := rd_bad hl8 (by rw [cln_of hn]; omega)
              have E1 := Lib.hid e1
              have E2 := Lib.hid e2
              have hne : ((nrL s.data.toList : Int) != 9221120237041090561) = true := by simp; omega
              clear e1 e2 hlt hm
              generalize nrL s.data.toList = z at hne hn ⊢
              go_wp2
              go_ret2
              exact ⟨by rw [E1.out, E2.out]; rfl, rfl⟩
          · have hn' : isNb (nrL s.data.toList) = false := by simpa using hn
            obtain ⟨e1, e2⟩ := rd_good hl8 (cln_no hn')
            generalize nrL s.data.toList = z at hn' e1 ⊢
            have E1 := Lib.hid e1
            have E2 := Lib.hid e2
            clear e1 e2 hlt hn
            go_wp2
            go_ret2
            exact ⟨by rw [E1.out, E2.out]; rfl, rfl⟩
end Go.Proofs.Ytgdgapklkodnjaa
