/-
  WireLays: the walk.
-/
import Derived.Test.YtkgjklcokjfhlaaWireAwake
import Derived.Test.YtkgjklcokjfhlaaRefWire
import Derived.Test.YtkgjklcokjfhlaaLawKit
namespace Go.Proofs.Ytkgjklcokjfhlaa
open Go.RowKit

def numS (n : Int) : ByteArray × Int := if n < 0 ∨ 9007199254740992 < n then (⟨#[]⟩, 2) else (⟨(Lib.uvarint n.toNat).toArray⟩, 0)
def textS (s : ByteArray) : ByteArray × Int := if 65536 < s.size then (⟨#[]⟩, 3) else (⟨(Lib.uvarint s.size ++ s.data.toList).toArray⟩, 0)
def listS (ss : List ByteArray) : ByteArray × Int := if 4096 < ss.length ∨ ∃ s ∈ ss, 65536 < s.size then (⟨#[]⟩, 3) else (⟨(Lib.uvarint ss.length ++ encTexts ss).toArray⟩, 0)

theorem num_all (n : Int) (w : World) : Calls Try.prog 7 #[.int .i64 n] w fun e w' => e = .returned (.tuple #[.string (numS n).1, .int .i64 (numS n).2]) ∧ Below w.heap.size w w' := by
  by_cases h : n < 0 ∨ 9007199254740992 < n
  · refine (num_err n h w).mono fun e w' ⟨he, hw⟩ => ⟨by rw [numS, if_pos h]; exact he, by rw [← hw]; exact Below.refl _ _⟩
  · obtain ⟨x, rfl⟩ := Int.eq_ofNat_of_zero_le (a := n) (by omega)
    refine (num_ok x (by omega) w).mono fun e w' ⟨he, hw⟩ => ⟨by rw [numS, if_neg h]; exact he, hw⟩
theorem refnum_all (n : Int) (w : World) : Calls Try.prog 8 #[.int .i64 n] w fun e w' => e = .returned (.tuple #[.string (numS n).1, .int .i64 (numS n).2]) ∧ Below w.heap.size w w' := by
  by_cases h : n < 0 ∨ 9007199254740992 < n
  · refine (refnum_err n h w).mono fun e w' ⟨he, hw⟩ => ⟨by rw [numS, if_pos h]; exact he, by rw [← hw]; exact Below.refl _ _⟩
  · obtain ⟨x, rfl⟩ := Int.eq_ofNat_of_zero_le (a := n) (by omega)
    refine (refnum_ok x (by omega) w).mono fun e w' ⟨he, hw⟩ => ⟨by rw [numS, if_neg h]; exact he, hw⟩
theorem text_all (s : ByteArray) (w : World) : Calls Try.prog 10 #[.string s] w fun e w' => e = .returned (.tuple #[.string (textS s).1, .int .i64 (textS s).2]) ∧ Below w.heap.size w w' := by
  by_cases h : 65536 < s.size
  · refine (text_err s h w).mono fun e w' ⟨he, hw⟩ => ⟨by rw [textS, if_pos h]; exact he, by rw [← hw]; exact Below.refl _ _⟩
  · refine (text_ok s (by omega) w).mono fun e w' ⟨he, hw⟩ => ⟨by rw [textS, if_neg h]; exact he, hw⟩
theorem reftext_all (s : ByteArray) (w : World) : Calls Try.prog 11 #[.string s] w fun e w' => e = .returned (.tuple #[.string (textS s).1, .int .i64 (textS s).2]) ∧ Below w.heap.size w w' := by
  by_cases h : 65536 < s.size
  · refine (reftext_err s h w).mono fun e w' ⟨he, hw⟩ => ⟨by rw [textS, if_pos h]; exact he, by rw [← hw]; exact Below.refl _ _⟩
  · refine (reftext_ok s (by omega) w).mono fun e w' ⟨he, hw⟩ => ⟨by rw [textS, if_neg h]; exact he, hw⟩
theorem listEnd_eq {ss : List ByteArray} {e : Ending} (h : ListEnd ss e) (hl : ss.length ≤ 4096) : e = .returned (.tuple #[.string (listS ss).1, .int .i64 (listS ss).2]) := by
  rcases h with ⟨h1, h2⟩ | ⟨h1, h2⟩
  · rw [listS, if_pos (.inr h1)]; exact h2
  · rw [listS, if_neg]
    · exact h2
    · rintro (h3 | ⟨s, hs, h3⟩)
      · omega
      · have := h1 s hs; omega
theorem list_all (a : Option Addr) (cap : Nat) (ss : List ByteArray) (hm : ss.length ≤ maxLen) (w : World) (hrow : StrRow w a ss) : Calls Try.prog 12 #[.slice a ss.length cap] w fun e w' => e = .returned (.tuple #[.string (listS ss).1, .int .i64 (listS ss).2]) ∧ Below w.heap.size w w' := by
  by_cases h : 4096 < ss.length
  · refine (list_long a _ cap h hm w).mono fun e w' ⟨he, hw⟩ => ⟨by rw [listS, if_pos (.inl h)]; exact he, by rw [← hw]; exact Below.refl _ _⟩
  · exact (list_any a cap ss (by omega) w hrow).mono fun e w' ⟨he, hw⟩ => ⟨listEnd_eq he (by omega), hw⟩
theorem reflist_all (a : Option Addr) (cap : Nat) (ss : List ByteArray) (hm : ss.length ≤ maxLen) (w : World) (hrow : StrRow w a ss) : Calls Try.prog 13 #[.slice a ss.length cap] w fun e w' => e = .returned (.tuple #[.string (listS ss).1, .int .i64 (listS ss).2]) ∧ Below w.heap.size w w' := by
  by_cases h : 4096 < ss.length
  · refine (reflist_long a _ cap h hm w).mono fun e w' ⟨he, hw⟩ => ⟨by rw [listS, if_pos (.inl h)]; exact he, by rw [← hw]; exact Below.refl _ _⟩
  · exact (reflist_any a cap ss (by omega) w hrow).mono fun e w' ⟨he, hw⟩ => ⟨listEnd_eq he (by omega), hw⟩

set_option maxHeartbeats 4000000 in
set_option maxRecDepth 100000 in
theorem lays_law (a0 : Int) (a1 : ByteArray) (a2 : Option Addr) (len2 cap2 : Nat) (z2 : List ByteArray) (w : World) (w0 : (Lit.int .i64 a0).wf = true) (w1 : a1.size ≤ maxLen) (w2 : StrArg w a2 len2 z2) :
    Calls Try.prog 3 #[.int .i64 a0, .string a1, .slice a2 len2 cap2] w fun e w' => e = .returned (.bool true) ∧ Below w.heap.size w w' := by
  obtain ⟨hlen, hm, hrow, hsz⟩ := w2
  have hm' := hm
  subst hlen
  unfold maxLen at w1 hm
  by_cases hbig : 70000 < a1.size ∨ 5000 < z2.length
  · have hor : (70000 < (a1.size : Int)) ∨ ¬ (70000 < (a1.size : Int)) ∧ 5000 < (z2.length : Int) := by omega
    clear hbig
    rcases hor with hor | ⟨hor1, hor2⟩
    all_goals
      go_enter Try.func3, Try.ntmps3
      go_wp2_with fail
      refine (num_all a0 w).mono ?_
      rintro e w1 ⟨rfl, hb1⟩
      go_wp2_with fail
      refine (refnum_all a0 w1).mono ?_
      rintro e w2 ⟨rfl, hb2⟩
      generalize numS a0 = r
      obtain ⟨x, er⟩ := r
      have hB := hb1.trans (hb2.mono hb1.size)
      have hB2 := hB.size
      have e1 : (x.toList == x.toList) = true := by simp
      have e2 : (er == er) = true := by simp
      go_wp2_with fail
      refine (awake_any w2).mono ?_
      rintro e w3 ⟨rfl, hb3⟩
      go_wp2
      go_ret
      exact ⟨rfl, hB.trans (hb3.mono hB2)⟩
  · have hs1 : ¬ (70000 < (a1.size : Int)) := by omega
    have hs2 : ¬ (5000 < (z2.length : Int)) := by omega
    clear hbig
    go_enter Try.func3, Try.ntmps3
    go_wp2_with fail
    refine (num_all a0 w).mono ?_
    rintro e w1 ⟨rfl, hb1⟩
    go_wp2_with fail
    refine (refnum_all a0 w1).mono ?_
    rintro e w2 ⟨rfl, hb2⟩
    generalize numS a0 = r
    obtain ⟨x, er⟩ := r
    have hB := hb1.trans (hb2.mono hb1.size)
    have hB2 := hB.size
    go_wp2_with fail
    refine (text_all a1 w2).mono ?_
    rintro e w3 ⟨rfl, hb3⟩
    have hB' := hB.trans (hb3.mono hB2)
    have hB2' := hB'.size
    go_wp2_with fail
    refine (reftext_all a1 w3).mono ?_
    rintro e w4 ⟨rfl, hb4⟩
    have hB'' := hB'.trans (hb4.mono hB2')
    generalize textS a1 = r
    obtain ⟨y, ey⟩ := r
    clear hB hb1 hb2 hb3 hb4 hB' hB2 hB2'
    go_wp2
    go_loopw [15] (fun i wr => ∃ k : Nat, k ≤ z2.length ∧ i = .int .i64 k ∧ Below w.heap.size w wr) (fun i _ => z2.length - (intOf i).toNat)
    case atStart => exact ⟨0, Nat.zero_le _, rfl, hB''⟩
    case round =>
      obtain ⟨k, hk, rfl, hb⟩ := hrel
      have hsz2 := hb.size
      by_cases hlt : k < z2.length
      · obtain ⟨b, off, rfl, hbl, hcells⟩ : ∃ b off, a2 = some ⟨b, off, none⟩ ∧ b < w.heap.size ∧ ∀ j, j < z2.length → w.cell? ⟨b, off + j, none⟩ = some (.string (z2.getD j ByteArray.empty)) := by
          rcases hrow with h0 | h1
          · subst h0; simp at hlt
          · exact h1
        have hck := (hb.cell (p := ⟨b, off + k, none⟩) hbl).trans (hcells k hlt)
        generalize z2.getD k ByteArray.empty = sk at hck
        have hlti : (k : Int) < (z2.length : Int) := by omega
        clear hcells
        by_cases h3 : (300 : Int) < (sk.size : Int)
        · by_cases h4 : (sk.size : Int) ≤ 65536
          · go_wp2_with fail
            refine (awake_any wr).mono ?_
            rintro e w9 ⟨rfl, hb9⟩
            go_wp2
            go_ret
            exact ⟨rfl, hb.trans (hb9.mono hsz2)⟩
          · go_wp2
            go_roundw
            case rel => exact ⟨k + 1, by omega, by go_num, hb⟩
            case measure => simp [intOf]; omega
        · go_wp2
          go_roundw
          case rel => exact ⟨k + 1, by omega, by go_num, hb⟩
          case measure => simp [intOf]; omega
      · have hrow2 := hrow.below (hb)
        go_wp2_with fail
        refine (list_all a2 cap2 z2 hm' wr hrow2).mono ?_
        rintro e w5 ⟨rfl, hb5⟩
        have hrow3 := hrow2.below hb5
        have hb6 := hb.trans (hb5.mono hsz2)
        have hsz6 := hb6.size
        go_wp2_with fail
        refine (reflist_all a2 cap2 z2 hm' w5 hrow3).mono ?_
        rintro e w6 ⟨rfl, hb7⟩
        have hb8 := hb6.trans (hb7.mono hsz6)
        have hsz8 := hb8.size
        generalize listS z2 = r
        obtain ⟨z, ez⟩ := r
        have e1 : (x.toList == x.toList) = true := by simp
        have e2 : (er == er) = true := by simp
        have e3 : (y.toList == y.toList) = true := by simp
        have e4 : (ey == ey) = true := by simp
        have e5 : (z.toList == z.toList) = true := by simp
        have e6 : (ez == ez) = true := by simp
        go_wp2_with fail
        refine (awake_any w6).mono ?_
        rintro e w9 ⟨rfl, hb9⟩
        go_wp2
        go_ret
        exact ⟨rfl, hb8.trans (hb9.mono hsz8)⟩
end Go.Proofs.Ytkgjklcokjfhlaa
