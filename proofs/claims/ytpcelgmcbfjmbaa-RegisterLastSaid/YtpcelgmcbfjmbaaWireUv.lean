/-
  Plain facts on a number's bytes: as many as needed, and none begins as another one is. Nothing of the program.
-/
import Derived.Test.YtpcelgmcbfjmbaaWirePlain
namespace Go.Proofs.Ytpcelgmcbfjmbaa

theorem uv_mono : ∀ b a, a ≤ b → (Lib.uvarint a).length ≤ (Lib.uvarint b).length := by
  intro b
  induction b using Nat.strongRecOn with
  | _ b ih =>
    intro a hab
    by_cases ha : a < 128
    · rw [Lib.uvarint_small ha]; exact Lib.uvarint_pos b
    · rw [Lib.uvarint_big (x := a) (by omega), Lib.uvarint_big (x := b) (by omega)]
      simp only [List.length_cons]
      have := ih (b / 128) (by omega) (a / 128) (Nat.div_le_div_right hab)
      omega

theorem u8_inj {a b : Nat} (ha : a < 256) (hb : b < 256) (h : a.toUInt8 = b.toUInt8) : a = b := by
  have := congrArg UInt8.toNat h
  rw [Lib.toUInt8_toNat ha, Lib.toUInt8_toNat hb] at this
  exact this

theorem uv_inj : ∀ a b (r q : List UInt8), Lib.uvarint a ++ r = Lib.uvarint b ++ q → a = b ∧ r = q := by
  intro a
  induction a using Nat.strongRecOn with
  | _ a ih =>
    intro b r q h
    by_cases ha : a < 128
    · by_cases hb : b < 128
      · rw [Lib.uvarint_small ha, Lib.uvarint_small hb] at h
        simp only [List.singleton_append, List.cons.injEq] at h
        exact ⟨u8_inj (by omega) (by omega) h.1, h.2⟩
      · rw [Lib.uvarint_small ha, Lib.uvarint_big (x := b) (by omega)] at h
        simp only [List.cons_append, List.cons.injEq] at h
        have := u8_inj (by omega) (by omega) h.1
        omega
    · by_cases hb : b < 128
      · rw [Lib.uvarint_small hb, Lib.uvarint_big (x := a) (by omega)] at h
        simp only [List.cons_append, List.cons.injEq] at h
        have := u8_inj (by omega) (by omega) h.1
        omega
      · rw [Lib.uvarint_big (x := a) (by omega), Lib.uvarint_big (x := b) (by omega)] at h
        simp only [List.cons_append, List.cons.injEq] at h
        have h1 := u8_inj (by omega) (by omega) h.1
        have h2 := ih (a / 128) (by omega) (b / 128) r q h.2
        exact ⟨by have := h2.1; omega, h2.2⟩

theorem uv_eq {a b : Nat} (h : Lib.uvarint a = Lib.uvarint b) : a = b := (uv_inj a b [] [] (by rw [h])).1

/-- no number's bytes begin as another one's -/
theorem uv_prefix {a b : Nat} (h : (Lib.uvarint b).take (Lib.uvarint a).length = Lib.uvarint a) : a = b := by
  have := List.take_append_drop (Lib.uvarint a).length (Lib.uvarint b)
  rw [h] at this
  exact (uv_inj a b _ [] (by rw [this, List.append_nil])).1
end Go.Proofs.Ytpcelgmcbfjmbaa
