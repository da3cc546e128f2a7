/-
  wire.appendText, wire.Text, wire.List: what each call answers, and what becomes of memory.
-/
import Derived.Test.YtmcabkoabecnnaaWireOut
import Derived.Lib.AppendStr
namespace Go.Proofs.Ytmcabkoabecnnaa
open Go.RowKit

theorem appendNum_own (B x : Nat) (hx : x < 9223372036854775808) (v : Value) (l : List UInt8) (w : World) (hown : OwnB B v l w) (hBw : B ≤ w.heap.size) (hlim : l.length + 10 ≤ 140737488355328) :
    Calls Try.prog 29 #[v, .int .i64 x] w fun e w' => ∃ v', e = .returned v' ∧ OwnB B v' (l ++ Lib.uvarint x) w' ∧ Below B w w' :=
  (appendNum_any B l.length x hx v _ w hown hBw hlim).mono fun e w' ⟨v', he, ho, hb⟩ => ⟨v', he, by unfold OwnB; rw [List.length_append, Lib.byteCells_append]; exact ho, hb⟩

set_option maxHeartbeats 1000000 in
set_option maxRecDepth 100000 in
theorem appendText_own (B : Nat) (v : Value) (l : List UInt8) (s : ByteArray) (w : World) (hown : OwnB B v l w) (hBw : B ≤ w.heap.size) (hlim : l.length + s.size + 10 ≤ 140737488355328) :
    Calls Try.prog 22 #[v, .string s] w fun e w' => ∃ v', e = .returned v' ∧ OwnB B v' (l ++ (Lib.uvarint s.size ++ s.data.toList)) w' ∧ Below B w w' := by
  obtain ⟨i0, hi, hz0, hz1, hz2⟩ := info_parts bytesInfo
  have hlen := Lib.uvarint_length64 (x := s.size) (by omega)
  go_enter Try.func22, Try.ntmps22
  go_wp2_with fail
  refine (appendNum_own B s.size (by omega) v l w hown hBw (by omega)).mono ?_
  rintro e w1 ⟨v1, rfl, hown1, hb1⟩
  have hs1 := hb1.size
  have hl1 : (l ++ Lib.uvarint s.size).length ≤ l.length + 10 := by rw [List.length_append]; omega
  go_wp2_with (at_builtin; refine Lib.wpList_append_own_string _ rfl _ _ 49 9 rfl B 5 i0 Try.underlying49 Try.underlying9 hi hz0 hz1 hz2 _ _ _ rfl hown1 s rfl ?c1 ?c2 ?c3 ?_)
  case c1 => unfold maxLen; omega
  case c2 => omega
  case c3 => omega
  intro v2 w2 hown2 hg2 _
  go_wp2
  go_ret
  refine ⟨v2, rfl, ?_, hb1.grown hg2 (by omega) (fun k hk => (hown1.lt k hk).1)⟩
  unfold OwnB
  rw [← List.append_assoc, List.length_append, Lib.byteCells_append, ← Lib.strCells_eq]
  have e1 : s.data.toList.length = s.size := by simp
  rw [e1, List.length_append]
  exact hown2

set_option maxHeartbeats 1000000 in
set_option maxRecDepth 100000 in
theorem text_ok (s : ByteArray) (hs : s.size ≤ 65536) (w : World) :
    Calls Try.prog 13 #[.string s] w fun e w' => e = .returned (.tuple #[.string ⟨(Lib.uvarint s.size ++ s.data.toList).toArray⟩, .int .i64 0]) ∧ Below w.heap.size w w' := by
  go_enter Try.func13, Try.ntmps13
  go_wp2_with fail
  refine (appendText_own w.heap.size _ [] s w (ownB_nil _ _) (Nat.le_refl _) (by simp; omega)).mono ?_
  rintro e w' ⟨v', rfl, hown, hb⟩
  rw [List.nil_append] at hown
  have hconv := own_string (P := Try.prog) (dst := 9) Try.underlying49 Try.underlying5 Try.underlying9 hown
  go_wp2
  go_ret2
  exact ⟨rfl, hb⟩

set_option maxHeartbeats 1000000 in
set_option maxRecDepth 100000 in
theorem text_err (s : ByteArray) (hs : 65536 < s.size) (w : World) :
    Calls Try.prog 13 #[.string s] w fun e w' => e = .returned (.tuple #[.string ⟨#[]⟩, .int .i64 3]) ∧ w = w' := by
  go_enter Try.func13, Try.ntmps13
  go_wp2
  go_ret2
  exact ⟨rfl, rfl⟩

def encTexts : List ByteArray → List UInt8
  | [] => []
  | s :: r => Lib.uvarint s.size ++ s.data.toList ++ encTexts r

theorem encTexts_append (a b : List ByteArray) : encTexts (a ++ b) = encTexts a ++ encTexts b := by
  induction a with
  | nil => rfl
  | cons s r ih => simp [encTexts, ih]

theorem encTexts_take (ss : List ByteArray) (k : Nat) (hk : k < ss.length) : encTexts (ss.take (k + 1)) = encTexts (ss.take k) ++ (Lib.uvarint (ss.getD k ByteArray.empty).size ++ (ss.getD k ByteArray.empty).data.toList) := by
  rw [List.take_add_one, List.getElem?_eq_getElem hk, encTexts_append]
  simp [encTexts, List.getD, hk]

theorem encTexts_len (ss : List ByteArray) (h : ∀ s ∈ ss, s.size ≤ 65536) : (encTexts ss).length ≤ ss.length * 65546 := by
  induction ss with
  | nil => simp [encTexts]
  | cons s r ih =>
    have h1 := h s (List.mem_cons_self ..)
    have h2 := ih (fun x hx => h x (List.mem_cons_of_mem _ hx))
    have h3 := Lib.uvarint_length64 (x := s.size) (by omega)
    have h4 : s.data.toList.length = s.size := by simp
    simp only [encTexts, List.length_append, List.length_cons, h4]
    omega

/-- what wire.List answers of texts of which there are not too many -/
def ListEnd (ss : List ByteArray) (e : Ending) : Prop :=
  ((∃ s ∈ ss, 65536 < s.size) ∧ e = .returned (.tuple #[.string ⟨#[]⟩, .int .i64 3])) ∨
  ((∀ s ∈ ss, s.size ≤ 65536) ∧ e = .returned (.tuple #[.string ⟨(Lib.uvarint ss.length ++ encTexts ss).toArray⟩, .int .i64 0]))

end Go.Proofs.Ytmcabkoabecnnaa
