/-
  crc.step, crc.Add, crc.Sum and the document's Add and Sum: what each call answers.
-/
import Derived.Test.YtmcabkoabecnnaaCrcPlain
import Derived.WalkSpells
import Derived.WalkLawsBesides
import Derived.Deep.QuietTactic
import Derived.BigQuiet
import Derived.Laws.ResultCell
namespace Go.Proofs.Ytmcabkoabecnnaa
open Go.RowKit

attribute [local go_sem] xr_bits nt_bits u32_plain low_bits sr1 poly_wv wv_mod wv_tmod wv_tdiv

section
attribute [local go_sem] bw_wv
set_option maxHeartbeats 1000000 in
set_option maxRecDepth 100000 in
theorem stepCrc (x : Wd) (c : UInt8) (w : World) :
    Calls Try.prog 33 #[.int .u32 (wv x), .int .u8 (c.toNat : Int)] w fun e w' => e = .returned (.int .u32 (wv (byte1 x c))) ∧ w = w' := by
  have hz : byte1 x c = bitN (xr x (bw c)) 8 := by unfold byte1; rfl
  rw [hz]
  clear hz
  go_enter Try.func33, Try.ntmps33
  go_wp2
  go_loop [0, 10] (fun r i => ∃ k : Nat, k ≤ 8 ∧ i = .int .i64 k ∧ r = .int .u32 (wv (bitN (xr x (bw c)) k))) (fun _ i => 8 - (intOf i).toNat)
  case atStart => exact ⟨0, by omega, rfl, by rw [bitN_zero]⟩
  case round =>
    obtain ⟨k, hk, rfl, rfl⟩ := hrel
    by_cases hlt : k < 8
    · have hs := bitN_succ (xr x (bw c)) k
      generalize bitN (xr x (bw c)) k = r at hs ⊢
      by_cases ho : r.toNat % 2 = 1
      · rw [bit1_odd ho] at hs
        have hm := mod_odd ho
        have HS := Lib.hid hs
        clear hs ho
        go_wp2
        exact ⟨⟨k + 1, by omega, by go_num, by rw [HS.out]⟩, by simp [intOf]; omega⟩
      · rw [bit1_even ho] at hs
        have hm := mod_even ho
        have HS := Lib.hid hs
        clear hs ho
        go_wp2
        exact ⟨⟨k + 1, by omega, by go_num, by rw [HS.out]⟩, by simp [intOf]; omega⟩
    · obtain rfl : k = 8 := by omega
      go_wp2
      go_ret
      exact ⟨rfl, rfl⟩
end

theorem index_at (s : ByteArray) (j : Nat) (h : j < s.size) (W : World) : (Instr.index 9 (.string s) (.int .i64 (j : Int))).run Try.prog W = .ok (.int .u8 (s[j].toNat : Nat)) W := by
  have h1 := run_index_string (P := Try.prog) (w := W) 9 s .i64 (j : Int) Try.underlying9
  rw [dif_pos ⟨by omega, by omega⟩] at h1
  exact h1
theorem crc_take (x : Wd) (s : ByteArray) (k : Nat) (h : k < s.size) : crcL x (s.data.toList.take (k + 1)) = byte1 (crcL x (s.data.toList.take k)) s[k] := by
  rw [List.take_succ_eq_append_getElem (by simpa using h), crcL_snoc]; rfl

set_option maxHeartbeats 1000000 in
set_option maxRecDepth 100000 in
theorem addC (x : Wd) (s : ByteArray) (w : World) (hs : s.size ≤ maxLen) :
    Calls Try.prog 30 #[.int .u32 (wv x), .string s] w fun e w' => e = .returned (.int .u32 (wv (crcS x s.data.toList))) ∧ w = w' := by
  have hz : crcS x s.data.toList = nt (crcL (nt x) s.data.toList) := rfl
  rw [hz]
  clear hz
  unfold maxLen at hs
  go_enter Try.func30, Try.ntmps30
  go_wp2
  go_loop [5, 11] (fun r i => ∃ k : Nat, k ≤ s.size ∧ i = .int .i64 k ∧ r = .int .u32 (wv (crcL (nt x) (s.data.toList.take k)))) (fun _ i => s.size - (intOf i).toNat)
  case atStart => exact ⟨0, by omega, rfl, by rw [List.take_zero, crcL_nil]⟩
  case round =>
    obtain ⟨k, hk, rfl, rfl⟩ := hrel
    by_cases hlt : k < s.size
    · have hst := crc_take (nt x) s k hlt
      have hix := fun W => index_at s k hlt W
      generalize crcL (nt x) (s.data.toList.take k) = r at hst ⊢
      generalize s[k] = c at hst hix
      have HS := Lib.hid hst
      clear hst
      go_wp2_with fail
      refine (stepCrc r c _).mono ?_
      rintro e w1 ⟨rfl, rfl⟩
      go_wp2
      exact ⟨⟨k + 1, by omega, by go_num, by rw [HS.out]⟩, by simp [intOf]; omega⟩
    · obtain rfl : k = s.size := by omega
      rw [List.take_of_length_le (by simp)]
      go_wp2
      go_ret
      exact ⟨rfl, rfl⟩

theorem sumC (s : ByteArray) (w : World) (hs : s.size ≤ maxLen) :
    Calls Try.prog 23 #[.string s] w fun e w' => e = .returned (.int .u32 (wv (crcS 0 s.data.toList))) ∧ w = w' := by
  have h0 := fun W => addC 0 s W hs
  rw [show wv 0 = 0 from rfl] at h0
  generalize crcS 0 s.data.toList = r at h0 ⊢
  have H0 := Lib.hid h0
  clear h0
  go_enter Try.func23, Try.ntmps23
  go_wp2_with fail
  refine (H0.out _).mono ?_
  rintro e w1 ⟨rfl, rfl⟩
  go_wp2
  go_ret
  exact ⟨rfl, rfl⟩

section
attribute [local go_sem] bw_wv
set_option maxHeartbeats 1000000 in
set_option maxRecDepth 100000 in
theorem addR (x : Wd) (s : ByteArray) (w : World) (hs : s.size ≤ maxLen) :
    Calls Try.prog 31 #[.int .u32 (wv x), .string s] w fun e w' => e = .returned (.int .u32 (wv (crcS x s.data.toList))) ∧ w = w' := by
  have hz : crcS x s.data.toList = nt (crcL (nt x) s.data.toList) := rfl
  rw [hz]
  clear hz
  unfold maxLen at hs
  go_enter Try.func31, Try.ntmps31
  go_wp2
  go_loop [5, 6] (fun r i => ∃ k : Nat, k ≤ s.size ∧ i = .int .i64 k ∧ r = .int .u32 (wv (crcL (nt x) (s.data.toList.take k)))) (fun _ i => s.size - (intOf i).toNat)
  case atStart => exact ⟨0, by omega, rfl, by rw [List.take_zero, crcL_nil]⟩
  case round =>
    obtain ⟨k, hk, rfl, rfl⟩ := hrel
    by_cases hlt : k < s.size
    · have hst := crc_take (nt x) s k hlt
      have hix := fun W => index_at s k hlt W
      generalize crcL (nt x) (s.data.toList.take k) = r at hst ⊢
      generalize s[k] = c at hst hix
      have hz : byte1 r c = bitN (xr r (bw c)) 8 := by unfold byte1; rfl
      rw [hz] at hst
      have HS := Lib.hid hst
      clear hst hz
      go_wp2
      go_loop [5, 7] (fun r' i => ∃ m : Nat, m ≤ 8 ∧ i = .int .i64 m ∧ r' = .int .u32 (wv (bitN (xr r (bw c)) m))) (fun _ i => 8 - (intOf i).toNat)
      case atStart => exact ⟨0, by omega, rfl, by rw [bitN_zero]⟩
      case round =>
        obtain ⟨m, hm, rfl, rfl⟩ := hrel
        by_cases hlt2 : m < 8
        · have hs2 := bitN_succ (xr r (bw c)) m
          generalize bitN (xr r (bw c)) m = q at hs2 ⊢
          by_cases ho : q.toNat % 2 = 1
          · rw [bit1_odd ho] at hs2
            have hmm := mod_odd ho
            have HS2 := Lib.hid hs2
            clear hs2 ho
            go_wp2
            exact ⟨⟨m + 1, by omega, by go_num, by rw [HS2.out]⟩, by simp [intOf]; omega⟩
          · rw [bit1_even ho] at hs2
            have hmm := mod_even ho
            have HS2 := Lib.hid hs2
            clear hs2 ho
            go_wp2
            exact ⟨⟨m + 1, by omega, by go_num, by rw [HS2.out]; simp only [wv_mod]⟩, by simp [intOf]; omega⟩
        · obtain rfl : m = 8 := by omega
          go_wp2
          exact ⟨⟨k + 1, by omega, by go_num, by rw [HS.out]⟩, by simp [intOf]; omega⟩
    · obtain rfl : k = s.size := by omega
      rw [List.take_of_length_le (by simp)]
      go_wp2
      go_ret
      exact ⟨rfl, rfl⟩
end

theorem sumR (s : ByteArray) (w : World) (hs : s.size ≤ maxLen) :
    Calls Try.prog 25 #[.string s] w fun e w' => e = .returned (.int .u32 (wv (crcS 0 s.data.toList))) ∧ w = w' := by
  have h0 := fun W => addR 0 s W hs
  rw [show wv 0 = 0 from rfl] at h0
  generalize crcS 0 s.data.toList = r at h0 ⊢
  have H0 := Lib.hid h0
  clear h0
  go_enter Try.func25, Try.ntmps25
  go_wp2_with fail
  refine (H0.out _).mono ?_
  rintro e w1 ⟨rfl, rfl⟩
  go_wp2
  go_ret
  exact ⟨rfl, rfl⟩
end Go.Proofs.Ytmcabkoabecnnaa
