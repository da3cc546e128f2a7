/-
  wire.New and the Reader's methods: what each call answers, and what becomes of the reader.
-/
import Derived.Test.YtmcabkoabecnnaaWireRead
import Derived.Lib.SmallJoins
import Derived.OneCell
import Derived.Maps.AppendAt
import Derived.Maps.Range
namespace Go.Proofs.Ytmcabkoabecnnaa
open Go.RowKit

/-- Block b is a reader in the state st. -/
def Rd (b : Nat) (st : ByteArray × Int) (w : World) : Prop := w.heap[b]? = some (.cells #[.string st.1, .int .i64 st.2] 56 (0, 0))

theorem Rd.lt {b : Nat} {st : ByteArray × Int} {w : World} (h : Rd b st w) : b < w.heap.size := lt_of_block h
theorem Rd.left {b : Nat} {st : ByteArray × Int} {w : World} (h : Rd b st w) : w.cell? ⟨b, 0, none⟩ = some (.string st.1) := by rw [Joins.cell_of_block h]; rfl
theorem Rd.err {b : Nat} {st : ByteArray × Int} {w : World} (h : Rd b st w) : w.cell? ⟨b, 1, none⟩ = some (.int .i64 st.2) := by rw [Joins.cell_of_block h]; rfl
theorem Rd.free {b : Nat} {st : ByteArray × Int} {w : World} (h : Rd b st w) (i : Nat) : w.frozen? ⟨b, i, none⟩ = false := Joins.unfrozen_of_block h i
theorem Rd.setLeft {b : Nat} {st : ByteArray × Int} {w : World} (h : Rd b st w) (s : ByteArray) : Rd b (s, st.2) (w.setCell ⟨b, 0, none⟩ (.string s)) := by
  have := Joins.block_setCell h (i := 0) (.string s); simpa [Rd] using this
theorem Rd.setErr {b : Nat} {st : ByteArray × Int} {w : World} (h : Rd b st w) (e : Int) : Rd b (st.1, e) (w.setCell ⟨b, 1, none⟩ (.int .i64 e)) := by
  have := Joins.block_setCell h (i := 1) (.int .i64 e); simpa [Rd] using this
theorem grownBy_setCell (w : World) (b i : Nat) (v : Value) : w.grownBy (w.setCell ⟨b, i, none⟩ v) (some b) :=
  ⟨rfl, rfl, rfl, by simp, fun k _ hk => Below.heap_setCell _ _ _ _ (fun e => hk (by rw [e]))⟩
theorem Rd.other {b c : Nat} {st : ByteArray × Int} {w w' : World} (h : Rd b st w) (hg : w.grownBy w' (some c)) (hne : b ≠ c) : Rd b st w' := by
  unfold Rd; rw [hg.block b h.lt (by simpa using hne)]; exact h
theorem Rd.grown {b : Nat} {row : Option Nat} {st : ByteArray × Int} {w w' : World} (h : Rd b st w) (hg : w.grownBy w' row) (hne : ∀ j, row = some j → b ≠ j) : Rd b st w' := by
  unfold Rd; rw [hg.block b h.lt (fun e => hne b e.symm rfl)]; exact h
theorem Rd.below {b B : Nat} {st : ByteArray × Int} {w w' : World} (h : Rd b st w) (hb : Below B w w') (hlt : b < B) : Rd b st w' := by
  unfold Rd; rw [hb.block b hlt]; exact h

set_option maxHeartbeats 1000000 in
set_option maxRecDepth 100000 in
theorem new_any (s : ByteArray) (w : World) :
    Calls Try.prog 17 #[.string s] w fun e w' => e = .returned (.pointer (some ⟨w.heap.size, 0, none⟩)) ∧ w.alloc (.cells #[.string s, .int .i64 0] 56) = w' := by
  go_enter Try.func17, Try.ntmps17
  go_wp2
  go_ret
  exact ⟨rfl, rfl⟩

theorem Rd.made (s : ByteArray) (w : World) : Rd w.heap.size (s, 0) (w.alloc (.cells #[.string s, .int .i64 0] 56)) := by
  simp [Rd, World.alloc, -World.alloc_eq]

set_option maxHeartbeats 1000000 in
set_option maxRecDepth 100000 in
theorem err_any (b : Nat) (st : ByteArray × Int) (w : World) (h : Rd b st w) :
    Calls Try.prog 19 #[.pointer (some ⟨b, 0, none⟩)] w fun e w' => e = .returned (.int .i64 st.2) ∧ w = w' := by
  have h1 := h.err
  go_enter Try.func19, Try.ntmps19
  go_wp2
  go_ret
  exact ⟨rfl, rfl⟩

set_option maxHeartbeats 1000000 in
set_option maxRecDepth 100000 in
theorem rnum_any (b : Nat) (st : ByteArray × Int) (w : World) (h : Rd b st w) (hsz : st.1.size ≤ 9223372036854775807) :
    Calls Try.prog 32 #[.pointer (some ⟨b, 0, none⟩)] w fun e w' => e = .returned (.int .i64 (sNum st).1) ∧ Rd b (sNum st).2 w' ∧ w.grownBy w' (some b) := by
  obtain ⟨s, er⟩ := st
  have hl := h.left
  have hl1 := h.err
  have hf0 := h.free 0
  have hf1 := h.free 1
  have hnb := fun h2 => numR_ok (l := s.data.toList) h2
  simp only at hl hl1 hsz
  by_cases her : er = 0
  · subst her
    have H := Lib.hid h
    clear h
    go_enter Try.func32, Try.ntmps32
    go_wp2_with fail
    refine (err_any b (s, 0) w H.out).mono ?_
    rintro e w1 ⟨rfl, rfl⟩
    go_wp2_with fail
    refine (number_any s hsz w).mono ?_
    rintro e w1 ⟨rfl, rfl⟩
    generalize hr : numR s.data.toList = r at hnb ⊢
    obtain ⟨n, k, er⟩ := r
    simp only at hnb ⊢
    have HR := Lib.hid hr
    clear hr
    by_cases h0 : er = 0
    · subst h0
      obtain ⟨h1, h2, h3⟩ := hnb rfl
      have hs1 : s.data.toList.length = s.size := by simp
      rw [hs1] at h1
      clear hnb hs1
      go_wp2
      go_ret
      have hS : sNum (s, 0) = (n, (s.extract k s.size, 0)) := by simp only [sNum, HR.out]; rfl
      rw [hS]
      exact ⟨rfl, H.out.setLeft _, grownBy_setCell _ _ _ _⟩
    · have hb : (er != 0) = true := by simp [h0]
      clear hnb
      go_wp2
      go_ret
      have hS : sNum (s, 0) = (0, (s, er)) := by simp only [sNum, HR.out, if_neg h0]; rfl
      rw [hS]
      exact ⟨rfl, H.out.setErr _, grownBy_setCell _ _ _ _⟩
  · have hS : sNum (s, er) = (0, (s, er)) := by simp [sNum, her]
    have hb : (er != 0) = true := by simp [her]
    rw [hS]
    have H := Lib.hid h
    clear h hS
    go_enter Try.func32, Try.ntmps32
    go_wp2_with fail
    refine (err_any b (s, er) w H.out).mono ?_
    rintro e w1 ⟨rfl, rfl⟩
    go_wp2
    go_ret
    exact ⟨rfl, H.out, World.grownBy.refl _ _⟩

set_option maxHeartbeats 1000000 in
set_option maxRecDepth 100000 in
theorem count_any (b : Nat) (st : ByteArray × Int) (lim : Nat) (hlim : lim ≤ 9223372036854775807) (w : World) (h : Rd b st w) (hsz : st.1.size ≤ 9223372036854775807) :
    Calls Try.prog 26 #[.pointer (some ⟨b, 0, none⟩), .int .i64 lim] w fun e w' => e = .returned (.tuple #[.int .i64 (sCount lim st).1, .bool (sCount lim st).2.1]) ∧ Rd b (sCount lim st).2.2 w' ∧ w.grownBy w' (some b) := by
  have H := Lib.hid h
  clear h
  go_enter Try.func26, Try.ntmps26
  go_wp2_with fail
  refine (rnum_any b st w H.out hsz).mono ?_
  rintro e w1 ⟨rfl, h1, hg1⟩
  generalize hr : sNum st = r at h1 ⊢
  obtain ⟨n, s1, er⟩ := r
  simp only at h1 ⊢
  have HR := Lib.hid hr
  clear hr
  have hf1 := h1.free 1
  have hc1 := h1.err
  simp only at hc1
  have H1 := Lib.hid h1
  clear h1
  go_wp2_with fail
  refine (err_any b (s1, er) w1 H1.out).mono ?_
  rintro e w2 ⟨rfl, rfl⟩
  by_cases h0 : er = 0
  · subst h0
    by_cases hlt : lim < n
    · go_wp2
      go_ret2
      have hS : sCount lim st = (0, false, (s1, 3)) := by simp [sCount, HR.out, hlt]
      rw [hS]
      exact ⟨rfl, H1.out.setErr _, hg1.trans (grownBy_setCell _ _ _ _)⟩
    · go_wp2
      go_ret2
      have hS : sCount lim st = (n, true, (s1, 0)) := by simp [sCount, HR.out, hlt]
      rw [hS]
      exact ⟨rfl, H1.out, hg1⟩
  · have hb : (er != 0) = true := by simp [h0]
    go_wp2
    go_ret2
    have hS : sCount lim st = (0, false, (s1, er)) := by simp [sCount, HR.out, h0]
    rw [hS]
    exact ⟨rfl, H1.out, hg1⟩

set_option maxHeartbeats 1000000 in
set_option maxRecDepth 100000 in
theorem rtext_any (b : Nat) (st : ByteArray × Int) (w : World) (h : Rd b st w) (hsz : st.1.size ≤ 9223372036854775807) :
    Calls Try.prog 18 #[.pointer (some ⟨b, 0, none⟩)] w fun e w' => e = .returned (.string (sText st).1) ∧ Rd b (sText st).2 w' ∧ w.grownBy w' (some b) := by
  have hsc := sCount_size 65536 st
  have H := Lib.hid h
  clear h
  go_enter Try.func18, Try.ntmps18
  go_wp2_with fail
  refine (count_any b st 65536 (by omega) w H.out hsz).mono ?_
  rintro e w1 ⟨rfl, h1, hg1⟩
  have her : (sCount 65536 st).2.1 = true → (sCount 65536 st).2.2.2 = 0 := by
    unfold sCount
    split
    · intro h; cases h
    · split
      · intro h; cases h
      · intro _; simp only; omega
  generalize hr : sCount 65536 st = r at h1 hsc her ⊢
  obtain ⟨n, ok, s1, er⟩ := r
  simp only at h1 hsc her ⊢
  have HR := Lib.hid hr
  clear hr
  have hf0 := h1.free 0
  have hf1 := h1.free 1
  have hc0 := h1.left
  have hc1 := h1.err
  simp only at hc0 hc1
  have H1 := Lib.hid h1
  clear h1
  cases ok with
  | false =>
    clear her
    go_wp2
    go_ret
    have hS : sText st = (ByteArray.empty, (s1, er)) := by simp [sText, HR.out]
    rw [hS]
    exact ⟨rfl, H1.out, hg1⟩
  | true =>
    obtain rfl : er = 0 := her rfl
    clear her
    by_cases hlt : s1.size < n
    · go_wp2
      go_ret
      have hS : sText st = (ByteArray.empty, (s1, 4)) := by simp [sText, HR.out, hlt]
      rw [hS]
      exact ⟨rfl, H1.out.setErr _, hg1.trans (grownBy_setCell _ _ _ _)⟩
    · go_wp2
      go_ret
      have hS : sText st = (s1.extract 0 n, (s1.extract n s1.size, 0)) := by simp [sText, HR.out, hlt]
      rw [hS]
      exact ⟨rfl, H1.out.setLeft _, hg1.trans (grownBy_setCell _ _ _ _)⟩

end Go.Proofs.Ytmcabkoabecnnaa
