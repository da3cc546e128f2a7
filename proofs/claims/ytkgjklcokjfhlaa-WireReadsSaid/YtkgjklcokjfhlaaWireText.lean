/-
  wire.appendText, wire.Text, wire.List: what each call answers, and what becomes of memory.
-/
import Derived.Test.YtkgjklcokjfhlaaWireOut
import Derived.Lib.AppendStr
namespace Go.Proofs.Ytkgjklcokjfhlaa
open Go.RowKit

/-- The slice v is the call's own, and holds the bytes l. -/
def OwnB (B : Nat) (v : Value) (l : List UInt8) (w : World) : Prop := w.ownsRow B 5 1 v l.length (Lib.byteCells l)

theorem ownB_nil (B : Nat) (w : World) : OwnB B (.slice none 0 0) [] w := World.ownsRow_nil _ _ _ _

theorem appendNum_own (B x : Nat) (hx : x < 9223372036854775808) (v : Value) (l : List UInt8) (w : World) (hown : OwnB B v l w) (hBw : B ≤ w.heap.size) (hlim : l.length + 10 ≤ 140737488355328) :
    Calls Try.prog 25 #[v, .int .i64 x] w fun e w' => ∃ v', e = .returned v' ∧ OwnB B v' (l ++ Lib.uvarint x) w' ∧ Below B w w' :=
  (appendNum_any B l.length x hx v _ w hown hBw hlim).mono fun e w' ⟨v', he, ho, hb⟩ => ⟨v', he, by unfold OwnB; rw [List.length_append, Lib.byteCells_append]; exact ho, hb⟩

set_option maxHeartbeats 1000000 in
set_option maxRecDepth 100000 in
theorem appendText_own (B : Nat) (v : Value) (l : List UInt8) (s : ByteArray) (w : World) (hown : OwnB B v l w) (hBw : B ≤ w.heap.size) (hlim : l.length + s.size + 10 ≤ 140737488355328) :
    Calls Try.prog 26 #[v, .string s] w fun e w' => ∃ v', e = .returned v' ∧ OwnB B v' (l ++ (Lib.uvarint s.size ++ s.data.toList)) w' ∧ Below B w w' := by
  obtain ⟨i0, hi, hz0, hz1, hz2⟩ := info_parts bytesInfo
  have hlen := Lib.uvarint_length64 (x := s.size) (by omega)
  go_enter Try.func26, Try.ntmps26
  go_wp2_with fail
  refine (appendNum_own B s.size (by omega) v l w hown hBw (by omega)).mono ?_
  rintro e w1 ⟨v1, rfl, hown1, hb1⟩
  have hs1 := hb1.size
  have hl1 : (l ++ Lib.uvarint s.size).length ≤ l.length + 10 := by rw [List.length_append]; omega
  go_wp2_with (at_builtin; refine Lib.wpList_append_own_string _ rfl _ _ 34 9 rfl B 5 i0 Try.underlying34 Try.underlying9 hi hz0 hz1 hz2 _ _ _ rfl hown1 s rfl ?c1 ?c2 ?c3 ?_)
  case c1 => unfold maxLen; omega
  case c2 => omega
  case c3 => omega
  intro v2 w2 hown2 hg2 _
  go_wp2
  go_ret
  refine ⟨v2, rfl, ?_, hb1.grown hg2 (by omega) (fun k hk => (hown1.lt k hk).1)⟩
  unfold OwnB
  rw [← List.append_assoc, List.length_append, Lib.byteCells_append, ← Lib.strCells_eq]
  have e1 : s.data.toList.length = s.size := by simp
  rw [e1, List.length_append]
  exact hown2

set_option maxHeartbeats 1000000 in
set_option maxRecDepth 100000 in
theorem text_ok (s : ByteArray) (hs : s.size ≤ 65536) (w : World) :
    Calls Try.prog 10 #[.string s] w fun e w' => e = .returned (.tuple #[.string ⟨(Lib.uvarint s.size ++ s.data.toList).toArray⟩, .int .i64 0]) ∧ Below w.heap.size w w' := by
  go_enter Try.func10, Try.ntmps10
  go_wp2_with fail
  refine (appendText_own w.heap.size _ [] s w (ownB_nil _ _) (Nat.le_refl _) (by simp; omega)).mono ?_
  rintro e w' ⟨v', rfl, hown, hb⟩
  rw [List.nil_append] at hown
  have hconv := own_string (P := Try.prog) (dst := 9) Try.underlying34 Try.underlying5 Try.underlying9 hown
  go_wp2
  go_ret2
  exact ⟨rfl, hb⟩

set_option maxHeartbeats 1000000 in
set_option maxRecDepth 100000 in
theorem text_err (s : ByteArray) (hs : 65536 < s.size) (w : World) :
    Calls Try.prog 10 #[.string s] w fun e w' => e = .returned (.tuple #[.string ⟨#[]⟩, .int .i64 3]) ∧ w = w' := by
  go_enter Try.func10, Try.ntmps10
  go_wp2
  go_ret2
  exact ⟨rfl, rfl⟩

/-- The slice's elements are the texts ss. -/
def StrRow (w : World) (a : Option Addr) (ss : List ByteArray) : Prop :=
  ss = [] ∨ ∃ b off, a = some ⟨b, off, none⟩ ∧ b < w.heap.size ∧ ∀ j, j < ss.length → w.cell? ⟨b, off + j, none⟩ = some (.string (ss.getD j ByteArray.empty))

theorem StrRow.below {w w' : World} {a : Option Addr} {ss : List ByteArray} (h : StrRow w a ss) (hb : Below w.heap.size w w') : StrRow w' a ss := by
  rcases h with h | ⟨b, off, rfl, hlt, hc⟩
  · exact .inl h
  · exact .inr ⟨b, off, rfl, Nat.lt_of_lt_of_le hlt hb.size, fun j hj => by rw [hb.cell (p := ⟨b, off + j, none⟩) hlt]; exact hc j hj⟩

def encTexts : List ByteArray → List UInt8
  | [] => []
  | s :: r => Lib.uvarint s.size ++ s.data.toList ++ encTexts r

theorem encTexts_append (a b : List ByteArray) : encTexts (a ++ b) = encTexts a ++ encTexts b := by
  induction a with
  | nil => rfl
  | cons s r ih => simp [encTexts, ih]

theorem encTexts_take (ss : List ByteArray) (k : Nat) (hk : k < ss.length) : encTexts (ss.take (k + 1)) = encTexts (ss.take k) ++ (Lib.uvarint (ss.getD k ByteArray.empty).size ++ (ss.getD k ByteArray.empty).data.toList) := by
  rw [List.take_add_one, List.getElem?_eq_getElem hk, encTexts_append]
  simp [encTexts, List.getD, hk]

theorem encTexts_len (ss : List ByteArray) (h : ∀ s ∈ ss, s.size ≤ 65536) : (encTexts ss).length ≤ ss.length * 65546 := by
  induction ss with
  | nil => simp [encTexts]
  | cons s r ih =>
    have h1 := h s (List.mem_cons_self ..)
    have h2 := ih (fun x hx => h x (List.mem_cons_of_mem _ hx))
    have h3 := Lib.uvarint_length64 (x := s.size) (by omega)
    have h4 : s.data.toList.length = s.size := by simp
    simp only [encTexts, List.length_append, List.length_cons, h4]
    omega

set_option maxHeartbeats 1000000 in
set_option maxRecDepth 100000 in
theorem list_long (a : Option Addr) (len cap : Nat) (h : 4096 < len) (hm : len ≤ maxLen) (w : World) :
    Calls Try.prog 12 #[.slice a len cap] w fun e w' => e = .returned (.tuple #[.string ⟨#[]⟩, .int .i64 3]) ∧ w = w' := by
  unfold maxLen at hm
  go_enter Try.func12, Try.ntmps12
  go_wp2
  go_ret2
  exact ⟨rfl, rfl⟩

/-- what wire.List answers of texts of which there are not too many -/
def ListEnd (ss : List ByteArray) (e : Ending) : Prop :=
  ((∃ s ∈ ss, 65536 < s.size) ∧ e = .returned (.tuple #[.string ⟨#[]⟩, .int .i64 3])) ∨
  ((∀ s ∈ ss, s.size ≤ 65536) ∧ e = .returned (.tuple #[.string ⟨(Lib.uvarint ss.length ++ encTexts ss).toArray⟩, .int .i64 0]))

set_option maxHeartbeats 1000000 in
set_option maxRecDepth 100000 in
theorem list_any (a : Option Addr) (cap : Nat) (ss : List ByteArray) (h : ss.length ≤ 4096) (w : World) (hrow : StrRow w a ss) :
    Calls Try.prog 12 #[.slice a ss.length cap] w fun e w' => ListEnd ss e ∧ Below w.heap.size w w' := by
  have hlen := Lib.uvarint_length64 (x := ss.length) (by omega)
  go_enter Try.func12, Try.ntmps12
  go_wp2_with fail
  refine (appendNum_own w.heap.size ss.length (by omega) _ [] w (ownB_nil _ _) (Nat.le_refl _) (by simp)).mono ?_
  rintro e w1 ⟨v1, rfl, hown1, hb1⟩
  rw [List.nil_append] at hown1
  go_wp2
  go_loopw [4, 15] (fun v i wr => ∃ k : Nat, k ≤ ss.length ∧ i = .int .i64 k ∧ (∀ s ∈ ss.take k, s.size ≤ 65536) ∧ OwnB w.heap.size v (Lib.uvarint ss.length ++ encTexts (ss.take k)) wr ∧ Below w.heap.size w wr) (fun _ i _ => ss.length - (intOf i).toNat)
  case atStart => exact ⟨0, Nat.zero_le _, rfl, by simp, by simpa [encTexts] using hown1, hb1⟩
  case round =>
    obtain ⟨k, hk, rfl, hall, hown, hb⟩ := hrel
    have hsz := hb.size
    by_cases hlt : k < ss.length
    · obtain ⟨b, off, rfl, hbl, hcells⟩ : ∃ b off, a = some ⟨b, off, none⟩ ∧ b < w.heap.size ∧ ∀ j, j < ss.length → w.cell? ⟨b, off + j, none⟩ = some (.string (ss.getD j ByteArray.empty)) := by
        rcases hrow with h0 | h1
        · subst h0; simp at hlt
        · exact h1
      have hck := (hb.cell (p := ⟨b, off + k, none⟩) hbl).trans (hcells k hlt)
      have hmem : ss.getD k ByteArray.empty ∈ ss := by rw [List.getD_eq_getElem?_getD, List.getElem?_eq_getElem hlt]; exact List.getElem_mem hlt
      have htk := encTexts_take ss k hlt
      have htl := encTexts_len (ss.take k) hall
      have hkl : (ss.take k).length = k := by simp; omega
      rw [hkl] at htl
      have hall' : (ss.getD k ByteArray.empty).size ≤ 65536 → ∀ s ∈ ss.take (k + 1), s.size ≤ 65536 := by
        intro h1 s hs
        rw [List.take_add_one, List.getElem?_eq_getElem hlt] at hs
        rcases List.mem_append.1 hs with hs | hs
        · exact hall s hs
        · simp at hs; subst hs; rw [List.getD_eq_getElem?_getD, List.getElem?_eq_getElem hlt] at h1; exact h1
      generalize ss.getD k ByteArray.empty = sk at hck hmem htk hall'
      have HTK := Lib.hid htk
      clear htk hkl
      by_cases hbig : 65536 < sk.size
      · go_wp2
        go_ret2
        exact ⟨.inl ⟨⟨sk, hmem, hbig⟩, rfl⟩, hb⟩
      · go_wp2_with fail
        refine (appendText_own w.heap.size u4 (Lib.uvarint ss.length ++ encTexts (ss.take k)) sk wr hown hsz (by rw [List.length_append]; omega)).mono ?_
        rintro e w2 ⟨v2, rfl, hown2, hb2⟩
        rw [List.append_assoc, ← HTK.out] at hown2
        go_wp2
        go_roundw
        case rel => exact ⟨k + 1, by omega, by go_num, hall' (by omega), hown2, hb.trans hb2⟩
        case measure => simp [intOf]; omega
    · obtain rfl : k = ss.length := by omega
      rw [List.take_length] at hown hall
      have hconv := own_string (P := Try.prog) (dst := 9) Try.underlying34 Try.underlying5 Try.underlying9 hown
      go_wp2
      go_ret2
      exact ⟨.inr ⟨hall, rfl⟩, hb⟩
end Go.Proofs.Ytkgjklcokjfhlaa
