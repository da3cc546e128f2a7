/-
  almonrylaw01.awake: it returns true, and writes nothing that was there.
-/
import Derived.Test.YtkgjklcokjfhlaaWireRList
import Derived.Test.YtkgjklcokjfhlaaWireTexts
namespace Go.Proofs.Ytkgjklcokjfhlaa
open Go.RowKit

theorem uv300 : Lib.uvarint 300 = [172, 2] := by rw [Lib.uvarint_big (by omega), Lib.uvarint_small (by omega)]; rfl
theorem uv0 : Lib.uvarint 0 = [0] := by rw [Lib.uvarint_small (by omega)]; rfl
theorem uv1 : Lib.uvarint 1 = [1] := by rw [Lib.uvarint_small (by omega)]; rfl
theorem uv2 : Lib.uvarint 2 = [2] := by rw [Lib.uvarint_small (by omega)]; rfl

theorem num300 (w : World) : Calls Try.prog 7 #[.int .i64 300] w fun e w' => e = .returned (.tuple #[.string ⟨#[172, 2]⟩, .int .i64 0]) ∧ Below w.heap.size w w' := by
  have h := num_ok 300 (by omega) w
  rw [uv300] at h
  exact h
theorem numNeg (w : World) : Calls Try.prog 7 #[.int .i64 (-1)] w fun e w' => e = .returned (.tuple #[.string ⟨#[]⟩, .int .i64 2]) ∧ w = w' := num_err (-1) (by omega) w

theorem listX (w : World) (b cap : Nat) (hb : b < w.heap.size) (h0 : w.cell? ⟨b, 0, none⟩ = some (.string ⟨#[120]⟩)) (h1 : w.cell? ⟨b, 1, none⟩ = some (.string ⟨#[]⟩)) :
    Calls Try.prog 12 #[.slice (some ⟨b, 0, none⟩) 2 cap] w fun e w' => e = .returned (.tuple #[.string ⟨#[2, 1, 120, 0]⟩, .int .i64 0]) ∧ Below w.heap.size w w' := by
  refine (list_any (some ⟨b, 0, none⟩) cap [⟨#[120]⟩, ⟨#[]⟩] (by simp) w (.inr ⟨b, 0, rfl, hb, fun j hj => ?_⟩)).mono ?_
  · match j, hj with
    | 0, _ => exact h0
    | 1, _ => exact h1
  · rintro e w' ⟨h, hbel⟩
    refine ⟨?_, hbel⟩
    rcases h with ⟨⟨s, hs, hbig⟩, _⟩ | ⟨_, rfl⟩
    · simp at hs
      rcases hs with rfl | rfl
      · exact absurd hbig (by decide)
      · exact absurd hbig (by decide)
    · have e1 : Lib.uvarint ([⟨#[120]⟩, ⟨#[]⟩] : List ByteArray).length ++ encTexts [⟨#[120]⟩, ⟨#[]⟩] = [2, 1, 120, 0] := by
        show Lib.uvarint 2 ++ (Lib.uvarint 1 ++ [120] ++ (Lib.uvarint 0 ++ [] ++ [])) = _
        rw [uv2, uv1, uv0]; rfl
      rw [e1]

def S1 : ByteArray := ⟨#[172, 2, 1, 120, 2, 0, 1, 121]⟩
def S2 : ByteArray := ⟨#[1, 120, 2, 0, 1, 121]⟩
def S3 : ByteArray := ⟨#[2, 0, 1, 121]⟩
theorem st1 : sNum (S1, 0) = (300, (S2, 0)) := by decide +kernel
theorem st2 : sText (S2, 0) = (⟨#[120]⟩, (S3, 0)) := by decide +kernel
theorem st3 : sList (S3, 0) = ([⟨#[]⟩, ⟨#[121]⟩], (⟨#[]⟩, 0)) := by decide +kernel
theorem st4 : sNum (⟨#[128, 0]⟩, 0) = (0, (⟨#[128, 0]⟩, 5)) := by decide +kernel
theorem st5 : sNum (⟨#[128, 0]⟩, 5) = (0, (⟨#[128, 0]⟩, 5)) := by decide +kernel

theorem OwnS.row {B : Nat} {v : Value} {ss : List ByteArray} {w : World} (h : OwnS B v ss w) : ∃ a cap, v = .slice a ss.length cap ∧ StrRow w a ss := by
  obtain ⟨_, hv⟩ := h
  rcases hv with ⟨rfl, h0⟩ | ⟨g, cap, cur, rfl, hB, hg, hn, hm, hs, htk⟩
  · exact ⟨none, 0, by rw [h0], .inl (List.length_eq_zero_iff.1 h0)⟩
  · refine ⟨_, cap, rfl, .inr ⟨g, 0, rfl, lt_of_block hg, fun j hj => ?_⟩⟩
    have h1 := Lib.cells_of_row hg (ss.length * 1) j (.string (ss.getD j ByteArray.empty)) (by rw [htk, List.getElem?_map, List.getD_eq_getElem?_getD, List.getElem?_eq_getElem hj]; rfl)
    have e1 : (⟨g, 0, none⟩ : Addr).add j = ⟨g, 0 + j, none⟩ := by cases j <;> simp [Addr.add]
    rw [e1] at h1
    exact h1

theorem rnum_at {b : Nat} {st st' : ByteArray × Int} {n : Nat} {w : World} (hq : sNum st = (n, st')) (h : Rd b st w) (hsz : st.1.size ≤ 9223372036854775807) :
    Calls Try.prog 16 #[.pointer (some ⟨b, 0, none⟩)] w fun e w' => e = .returned (.int .i64 n) ∧ Rd b st' w' ∧ w.grownBy w' (some b) := by
  have := rnum_any b st w h hsz; rw [hq] at this; exact this
theorem rtext_at {b : Nat} {st st' : ByteArray × Int} {t : ByteArray} {w : World} (hq : sText st = (t, st')) (h : Rd b st w) (hsz : st.1.size ≤ 9223372036854775807) :
    Calls Try.prog 18 #[.pointer (some ⟨b, 0, none⟩)] w fun e w' => e = .returned (.string t) ∧ Rd b st' w' ∧ w.grownBy w' (some b) := by
  have := rtext_any b st w h hsz; rw [hq] at this; exact this
theorem rlist_at {b : Nat} {st st' : ByteArray × Int} {l : List ByteArray} {w : World} (hq : sList st = (l, st')) (h : Rd b st w) (hsz : st.1.size ≤ 9223372036854775807) :
    Calls Try.prog 21 #[.pointer (some ⟨b, 0, none⟩)] w fun e w' => ∃ a cap, e = .returned (.slice a l.length cap) ∧ StrRow w' a l ∧ Rd b st' w' ∧ w.grownBy w' (some b) := by
  have h2 := rlist_any b st w h hsz; rw [hq] at h2
  exact h2.mono fun e w' ⟨v, he, ho, hr, hg⟩ => by
    obtain ⟨a, cap, rfl, hrow⟩ := OwnS.row ho
    exact ⟨a, cap, he, hrow, hr, hg⟩
theorem new_at (s : ByteArray) (w : World) :
    Calls Try.prog 14 #[.string s] w fun e w' => ∃ b, e = .returned (.pointer (some ⟨b, 0, none⟩)) ∧ w.heap.size ≤ b ∧ Rd b (s, 0) w' ∧ Below w.heap.size w w' :=
  (new_any s w).mono fun e w' ⟨he, hw⟩ => ⟨w.heap.size, he, Nat.le_refl _, by rw [← hw]; exact Rd.made s w, by rw [← hw]; exact (Below.refl _ _).alloc (Nat.le_refl _) _⟩
theorem Below.grown1 {B b : Nat} {w w1 w2 : World} (h : Below B w w1) (hg : w1.grownBy w2 (some b)) (hB : B ≤ w1.heap.size) (hb : B ≤ b) : Below B w w2 :=
  h.grown hg hB (fun k hk => by simp only [Option.some.injEq] at hk; omega)
theorem StrRow.grown {w w' : World} {a : Option Addr} {ss : List ByteArray} {row : Option Nat} (h : StrRow w a ss) (hg : w.grownBy w' row) (hne : ∀ b off, a = some ⟨b, off, none⟩ → row ≠ some b) : StrRow w' a ss := by
  rcases h with h | ⟨b, off, rfl, hlt, hc⟩
  · exact .inl h
  · exact .inr ⟨b, off, rfl, Nat.lt_of_lt_of_le hlt hg.size, fun j hj => hg.cell (hc j hj) (fun e => hne b off rfl e.symm)⟩

theorem Rd.drewN {b : Nat} {st : ByteArray × Int} {w : World} (h : Rd b st w) (n : Nat) : Rd b st (w.drewN n) := h
theorem texts_at (a b : Option Addr) (ca cb : Nat) (xs : List ByteArray) (w : World) (ha : StrRow w a xs) (hb : StrRow w b xs) (hl : xs.length ≤ maxLen) :
    Calls Try.prog 20 #[.slice a xs.length ca, .slice b xs.length cb] w fun e w' => e = .returned (.bool true) ∧ ∃ n, w' = w.drewN n :=
  (texts_any a b ca cb xs xs w ha hb hl hl).mono fun e w' h => by
    obtain ⟨h1, h2⟩ := h
    exact ⟨by rw [h1]; simp, h2⟩

set_option maxHeartbeats 4000000 in
set_option maxRecDepth 100000 in
theorem awake_any (w : World) : Calls Try.prog 9 #[] w fun e w' => e = .returned (.bool true) ∧ Below w.heap.size w w' := by
  go_enter Try.func9, Try.ntmps9
  go_wp2_with fail
  refine (num300 w).mono ?_
  rintro e w1 ⟨rfl, hb1⟩
  have hz1 := hb1.size
  go_wp2_with fail
  refine (numNeg w1).mono ?_
  rintro e w2 ⟨rfl, rfl⟩
  go_wp2_with fail
  refine (listX _ w1.heap.size 2 (by simp) (by simp [World.cell?_alloc_at]) (by simp [World.cell?_alloc_at])).mono ?_
  rintro e w3 ⟨rfl, hb3⟩
  have hb3' : Below w.heap.size w w3 := (hb1.alloc hz1 _).trans (hb3.mono (by simp; omega))
  clear hb3 hb1
  have hz3 := hb3'.size
  go_wp2_with fail
  refine (new_at S1 w3).mono ?_
  rintro e w4 ⟨b, rfl, hbge, hrd4, hb4⟩
  have hb4' := hb3'.trans (hb4.mono (by omega))
  clear hb4 hb3'
  have hz4 := hb4'.size
  have H4 := Lib.hid hrd4
  clear hrd4
  go_wp2_with fail
  refine (rnum_at st1 H4.out (by decide)).mono ?_
  rintro e w5 ⟨rfl, hrd5, hg5⟩
  have hb5' := Below.grown1 hb4' hg5 hz4 (by omega)
  have hz5 := hb5'.size
  have H5 := Lib.hid hrd5
  clear hrd5 hg5
  go_wp2_with fail
  refine (rtext_at st2 H5.out (by decide)).mono ?_
  rintro e w6 ⟨rfl, hrd6, hg6⟩
  have hb6' := Below.grown1 hb5' hg6 hz5 (by omega)
  have hz6 := hb6'.size
  have H6 := Lib.hid hrd6
  clear hrd6 hg6
  go_wp2_with fail
  refine (rlist_at st3 H6.out (by decide)).mono ?_
  rintro e w7 ⟨a, cap, rfl, hrow7, hrd7, hg7⟩
  have hb7' := Below.grown1 hb6' hg7 hz6 (by omega)
  have hz7 := hb7'.size
  have H7 := Lib.hid hrd7
  clear hrd7 hg7
  go_wp2_with fail
  refine (done_any b _ w7 H7.out (by decide)).mono ?_
  rintro e w8 ⟨rfl, rfl⟩
  go_wp2_with fail
  refine (new_at ⟨#[128, 0]⟩ w7).mono ?_
  rintro e w8 ⟨c, rfl, hcge, hrd8, hb8⟩
  have hrow8 := hrow7.below hb8
  have hb8' := hb7'.trans (hb8.mono (by omega))
  have hz8 := hb8'.size
  have H8 := Lib.hid hrd8
  go_wp2_with fail
  refine (rnum_at st4 H8.out (by decide)).mono ?_
  rintro e w9 ⟨rfl, hrd9, hg9⟩
  have hrow9 : StrRow w9 a _ := hrow8.grown hg9 (fun b' off e => by
    rcases hrow7 with h | ⟨b2, o2, h2, hlt, _⟩
    · cases h
    · rw [h2] at e; simp at e; simp; omega)
  have hb9' := Below.grown1 hb8' hg9 hz8 (by omega)
  have hz9 := hb9'.size
  have H9 := Lib.hid hrd9
  clear hrd9 hrd8 hg9 hb8 hrow8 hrow7
  go_wp2_with fail
  refine (texts_at a (some ⟨w9.heap.size, 0, none⟩) cap 2 [⟨#[]⟩, ⟨#[121]⟩] _ (hrow9.grown (World.grownBy_alloc _ _ none) (fun _ _ _ h => by cases h)) (.inr ⟨w9.heap.size, 0, rfl, by simp, fun j hj => by
    match j, hj with
    | 0, _ => simp [World.cell?_alloc_at]
    | 1, _ => simp [World.cell?_alloc_at]⟩) (by simp [maxLen])).mono ?_
  rintro e w10 ⟨rfl, n, rfl⟩
  have hb10 : Below w.heap.size w ((w9.alloc (.cells #[.string ⟨#[]⟩, .string ⟨#[121]⟩] 9)).drewN n) := below_drewN ((hb9'.alloc hz9 _)) n
  have hz10 := hb10.size
  have H10 : Hid (Rd c (⟨#[128, 0]⟩, 5) ((w9.alloc (.cells #[.string ⟨#[]⟩, .string ⟨#[121]⟩] 9)).drewN n)) := Lib.hid (Rd.drewN (H9.out.grown (World.grownBy_alloc _ _ none) (fun _ h => by cases h)) n)
  go_wp2_with fail
  refine (err_any c _ _ H10.out).mono ?_
  rintro e w11 ⟨rfl, rfl⟩
  go_wp2_with fail
  refine (rnum_at st5 H10.out (by decide)).mono ?_
  rintro e w12 ⟨rfl, _, hg12⟩
  have hb12 := Below.grown1 hb10 hg12 hz10 (by omega)
  go_wp2
  go_ret
  exact ⟨rfl, hb12⟩
end Go.Proofs.Ytkgjklcokjfhlaa
