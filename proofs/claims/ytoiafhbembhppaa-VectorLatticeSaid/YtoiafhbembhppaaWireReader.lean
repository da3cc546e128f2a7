/-
  wire.New and the Reader's methods: what each call answers, and what becomes of the reader.
-/
import Derived.Test.YtoiafhbembhppaaWireRead
import Derived.Lib.SmallJoins
import Derived.OneCell
import Derived.Maps.AppendAt
import Derived.Maps.Range
namespace Go.Proofs.Ytoiafhbembhppaa
open Go.RowKit

/-- Block b is a reader in the state st. -/
def Rd (b : Nat) (st : ByteArray × Int) (w : World) : Prop := w.heap[b]? = some (.cells #[.string st.1, .int .i64 st.2] 96 (0, 0))

theorem Rd.lt {b : Nat} {st : ByteArray × Int} {w : World} (h : Rd b st w) : b < w.heap.size := lt_of_block h
theorem Rd.left {b : Nat} {st : ByteArray × Int} {w : World} (h : Rd b st w) : w.cell? ⟨b, 0, none⟩ = some (.string st.1) := by rw [Joins.cell_of_block h]; rfl
theorem Rd.err {b : Nat} {st : ByteArray × Int} {w : World} (h : Rd b st w) : w.cell? ⟨b, 1, none⟩ = some (.int .i64 st.2) := by rw [Joins.cell_of_block h]; rfl
theorem Rd.free {b : Nat} {st : ByteArray × Int} {w : World} (h : Rd b st w) (i : Nat) : w.frozen? ⟨b, i, none⟩ = false := Joins.unfrozen_of_block h i
theorem Rd.setLeft {b : Nat} {st : ByteArray × Int} {w : World} (h : Rd b st w) (s : ByteArray) : Rd b (s, st.2) (w.setCell ⟨b, 0, none⟩ (.string s)) := by
  have := Joins.block_setCell h (i := 0) (.string s); simpa [Rd] using this
theorem Rd.setErr {b : Nat} {st : ByteArray × Int} {w : World} (h : Rd b st w) (e : Int) : Rd b (st.1, e) (w.setCell ⟨b, 1, none⟩ (.int .i64 e)) := by
  have := Joins.block_setCell h (i := 1) (.int .i64 e); simpa [Rd] using this
theorem grownBy_setCell (w : World) (b i : Nat) (v : Value) : w.grownBy (w.setCell ⟨b, i, none⟩ v) (some b) :=
  ⟨rfl, rfl, rfl, by simp, fun k _ hk => Below.heap_setCell _ _ _ _ (fun e => hk (by rw [e]))⟩
theorem Rd.other {b c : Nat} {st : ByteArray × Int} {w w' : World} (h : Rd b st w) (hg : w.grownBy w' (some c)) (hne : b ≠ c) : Rd b st w' := by
  unfold Rd; rw [hg.block b h.lt (by simpa using hne)]; exact h
theorem Rd.grown {b : Nat} {row : Option Nat} {st : ByteArray × Int} {w w' : World} (h : Rd b st w) (hg : w.grownBy w' row) (hne : ∀ j, row = some j → b ≠ j) : Rd b st w' := by
  unfold Rd; rw [hg.block b h.lt (fun e => hne b e.symm rfl)]; exact h
theorem Rd.below {b B : Nat} {st : ByteArray × Int} {w w' : World} (h : Rd b st w) (hb : Below B w w') (hlt : b < B) : Rd b st w' := by
  unfold Rd; rw [hb.block b hlt]; exact h

set_option maxHeartbeats 1000000 in
set_option maxRecDepth 100000 in
theorem new_any (s : ByteArray) (w : World) :
    Calls Try.prog 47 #[.string s] w fun e w' => e = .returned (.pointer (some ⟨w.heap.size, 0, none⟩)) ∧ w.alloc (.cells #[.string s, .int .i64 0] 96) = w' := by
  go_enter Try.func47, Try.ntmps47
  go_wp2
  go_ret
  exact ⟨rfl, rfl⟩

theorem Rd.made (s : ByteArray) (w : World) : Rd w.heap.size (s, 0) (w.alloc (.cells #[.string s, .int .i64 0] 96)) := by
  simp [Rd, World.alloc, -World.alloc_eq]

set_option maxHeartbeats 1000000 in
set_option maxRecDepth 100000 in
theorem err_any (b : Nat) (st : ByteArray × Int) (w : World) (h : Rd b st w) :
    Calls Try.prog 63 #[.pointer (some ⟨b, 0, none⟩)] w fun e w' => e = .returned (.int .i64 st.2) ∧ w = w' := by
  have h1 := h.err
  go_enter Try.func63, Try.ntmps63
  go_wp2
  go_ret
  exact ⟨rfl, rfl⟩

set_option maxHeartbeats 1000000 in
set_option maxRecDepth 100000 in
theorem rnum_any (b : Nat) (st : ByteArray × Int) (w : World) (h : Rd b st w) (hsz : st.1.size ≤ 9223372036854775807) :
    Calls Try.prog 48 #[.pointer (some ⟨b, 0, none⟩)] w fun e w' => e = .returned (.int .i64 (sNum st).1) ∧ Rd b (sNum st).2 w' ∧ w.grownBy w' (some b) := by
  obtain ⟨s, er⟩ := st
  have hl := h.left
  have hl1 := h.err
  have hf0 := h.free 0
  have hf1 := h.free 1
  have hnb := fun h2 => numR_ok (l := s.data.toList) h2
  simp only at hl hl1 hsz
  by_cases her : er = 0
  · subst her
    have H := Lib.hid h
    clear h
    go_enter Try.func48, Try.ntmps48
    go_wp2_with fail
    refine (err_any b (s, 0) w H.out).mono ?_
    rintro e w1 ⟨rfl, rfl⟩
    go_wp2_with fail
    refine (number_any s hsz w).mono ?_
    rintro e w1 ⟨rfl, rfl⟩
    generalize hr : numR s.data.toList = r at hnb ⊢
    obtain ⟨n, k, er⟩ := r
    simp only at hnb ⊢
    have HR := Lib.hid hr
    clear hr
    by_cases h0 : er = 0
    · subst h0
      obtain ⟨h1, h2, h3⟩ := hnb rfl
      have hs1 : s.data.toList.length = s.size := by simp
      rw [hs1] at h1
      clear hnb hs1
      go_wp2
      go_ret
      have hS : sNum (s, 0) = (n, (s.extract k s.size, 0)) := by simp only [sNum, HR.out]; rfl
      rw [hS]
      exact ⟨rfl, H.out.setLeft _, grownBy_setCell _ _ _ _⟩
    · have hb : (er != 0) = true := by simp [h0]
      clear hnb
      go_wp2
      go_ret
      have hS : sNum (s, 0) = (0, (s, er)) := by simp only [sNum, HR.out, if_neg h0]; rfl
      rw [hS]
      exact ⟨rfl, H.out.setErr _, grownBy_setCell _ _ _ _⟩
  · have hS : sNum (s, er) = (0, (s, er)) := by simp [sNum, her]
    have hb : (er != 0) = true := by simp [her]
    rw [hS]
    have H := Lib.hid h
    clear h hS
    go_enter Try.func48, Try.ntmps48
    go_wp2_with fail
    refine (err_any b (s, er) w H.out).mono ?_
    rintro e w1 ⟨rfl, rfl⟩
    go_wp2
    go_ret
    exact ⟨rfl, H.out, World.grownBy.refl _ _⟩

set_option maxHeartbeats 1000000 in
set_option maxRecDepth 100000 in
theorem done_any (b : Nat) (st : ByteArray × Int) (w : World) (h : Rd b st w) (hsz : st.1.size ≤ 9223372036854775807) :
    Calls Try.prog 49 #[.pointer (some ⟨b, 0, none⟩)] w fun e w' => e = .returned (.int .i64 (if st.2 ≠ 0 then st.2 else if 0 < st.1.size then 5 else 0)) ∧ w = w' := by
  obtain ⟨s, er⟩ := st
  have hl := h.left
  simp only at hl hsz ⊢
  have H := Lib.hid h
  clear h
  go_enter Try.func49, Try.ntmps49
  go_wp2_with fail
  refine (err_any b (s, er) w H.out).mono ?_
  rintro e w1 ⟨rfl, rfl⟩
  by_cases h0 : er = 0
  · subst h0
    by_cases hs : 0 < s.size
    · go_wp2
      go_ret
      exact ⟨by simp, rfl⟩
    · go_wp2
      go_ret
      exact ⟨by simp, rfl⟩
  · have hb : (er != 0) = true := by simp [h0]
    go_wp2
    go_ret
    exact ⟨by simp, rfl⟩
end Go.Proofs.Ytoiafhbembhppaa
