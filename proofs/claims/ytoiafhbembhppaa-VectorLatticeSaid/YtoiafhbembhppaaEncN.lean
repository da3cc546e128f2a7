/-
  Numbers' bytes, one behind the other; nothing of the program.
-/
import Derived.Test.YtoiafhbembhppaaWireInv
namespace Go.Proofs.Ytoiafhbembhppaa

theorem ba_len (s : ByteArray) : s.data.toList.length = s.size := by simp
/-- numbers' bytes, one behind the other -/
def encN : List Nat → List UInt8
  | [] => []
  | n :: r => Lib.uvarint n ++ encN r
theorem encN_append : ∀ (a b : List Nat), encN (a ++ b) = encN a ++ encN b := by
  intro a b
  induction a with
  | nil => rfl
  | cons x r ih => simp [encN, ih]
theorem encN_snoc (ns : List Nat) {k : Nat} (hk : k < ns.length) : encN (ns.take (k + 1)) = encN (ns.take k) ++ Lib.uvarint (ns.getD k 0) := by
  rw [List.take_succ_eq_append_getElem hk, encN_append, List.getD_eq_getElem?_getD, List.getElem?_eq_getElem hk]; simp [encN]
theorem encN_len : ∀ (ns : List Nat), (∀ n ∈ ns, n ≤ 9007199254740992) → (encN ns).length ≤ ns.length * 10 := by
  intro ns
  induction ns with
  | nil => intro _; simp [encN]
  | cons n r ih =>
    intro h
    have h1 := ih (fun x hx => h x (by simp [hx]))
    have h2 := Lib.uvarint_length64 (x := n) (by have := h n (by simp); omega)
    simp only [encN, List.length_append, List.length_cons]
    omega
end Go.Proofs.Ytoiafhbembhppaa
