/-
  almonryref01's reader R: what each call answers.
-/
import Derived.Test.YtoiafhbembhppaaWireRList
import Derived.Test.YtoiafhbembhppaaWireTexts
import Derived.Test.YtoiafhbembhppaaWireInv
import Derived.Laws.ResultCell
namespace Go.Proofs.Ytoiafhbembhppaa
open Go.RowKit

/-- a state as a value -/
abbrev rv (st : ByteArray × Int) : Value := .agg #[.string st.1, .int .i64 st.2]

theorem lev_drop (l : List UInt8) (i : Nat) (h : i < l.length) : lev (l.drop i) = l[i].toNat % 128 + 128 * lev (l.drop (i + 1)) := by
  rw [List.drop_eq_getElem_cons h]; rfl

/-- numR, in the order in which the document's answer asks -/
theorem numR_form {l : List UInt8} (h1 : run l < l.length) (h2 : run l ≤ 7) (h3 : l.getD (run l) 0 = 0) (h4 : 0 < run l) : numR l = (0, 0, 5) := by
  have e : l.take (run l + 1) = l.take (run l) ++ [l[run l]] := by rw [List.take_succ_eq_append_getElem h1]
  have hz : l[run l] = 0 := by rw [List.getD_eq_getElem?_getD, List.getElem?_eq_getElem h1] at h3; exact h3
  have hv : lev (l.take (run l + 1)) = lev (l.take (run l)) := by rw [e, lev_snoc, hz]; simp
  have hlt := lev_lt (l.take (run l))
  have hle : (l.take (run l)).length = run l := by rw [List.length_take]; omega
  have hp : 128 ^ run l ≤ 128 ^ 7 := Nat.pow_le_pow_right (by omega) h2
  rw [hle] at hlt
  unfold numR
  rw [if_neg (by omega), if_neg (by rw [hv]; omega), if_pos ⟨h3, h4⟩]

theorem below2 (w : World) (o1 o2 : Obj) : Below w.heap.size w ((w.alloc o1).alloc o2) := ((Below.refl _ _).alloc (Nat.le_refl _) _).alloc (by simp) _

end Go.Proofs.Ytoiafhbembhppaa
