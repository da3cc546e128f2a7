/-
  disk: spend and the panic; strings.Compare, HasPrefix.
-/
import Derived.Test.YtopigchjdegpeaaDoorDiskSmall
namespace Go.Proofs.YtopigchjdegpeaaDoor
open Go.RowKit

/-- The variable of the panic holds a pointer. -/
def Pow (a : Addr) (w : World) : Prop := w.cell? ⟨0, 0, none⟩ = some (.iface 91 (.pointer (some a)))
theorem Pow.lt {a : Addr} {w : World} (h : Pow a w) : 0 < w.heap.size := World.block_lt_of_cell? w _ h
theorem Pow.below {a : Addr} {B : Nat} {w w' : World} (h : Pow a w) (hb : Below B w w') (hB : 0 < B) : Pow a w' := by
  unfold Pow; rw [hb.cell (p := ⟨0, 0, none⟩) hB]; exact h

def powV (a : Addr) : Value := .iface 91 (.pointer (some a))

set_option maxHeartbeats 1000000 in
set_option maxRecDepth 100000 in
theorem spend_free {B : Nat} (m : MS) (w : World) (h : Lies B m w) (hf : m.fused = false) : Calls Tryd.prog 35 #[.pointer (some ⟨m.D, 0, none⟩)] w fun e w' => e = .returned (.tuple #[]) ∧ w = w' := by
  have hc3 := h.cell 3
  simp only [MS.head, List.getElem?_toArray, List.getElem?_cons_succ, List.getElem?_cons_zero, hf] at hc3
  clear hf
  go_enter Tryd.func35, Tryd.ntmps35
  go_wp2
  refine bodyPost_ret (results_none rfl _ _ _) rfl ?_
  exact ⟨rfl, rfl⟩

def MS.spent (m : MS) : MS := { m with left := m.left - 1 }

set_option maxHeartbeats 1000000 in
set_option maxRecDepth 100000 in
theorem spend_one {B : Nat} (m : MS) (w : World) (h : Lies B m w) (hf : m.fused = true) (hl : 1 ≤ m.left) (hm : m.left < 9223372036854775808) : Calls Tryd.prog 35 #[.pointer (some ⟨m.D, 0, none⟩)] w fun e w' => e = .returned (.tuple #[]) ∧ Lies B m.spent w' ∧ Chg m m.spent w w' := by
  have hc3 := h.cell 3
  have hc4 := h.cell 4
  have hf4 := h.free 4
  simp only [MS.head, List.getElem?_toArray, List.getElem?_cons_succ, List.getElem?_cons_zero, hf] at hc3 hc4
  have H := Lib.hid (h.setHead (m' := m.spent) 4 (.int .i64 ((m.left : Int) - 1)) (by simp [MS.head, MS.spent]; omega) rfl rfl rfl); clear h hf
  generalize m.left = k at hc4 hl hm H ⊢
  have h0 : ((k : Int) == 0) = false := by simp; omega
  go_enter Tryd.func35, Tryd.ntmps35
  go_wp2
  go_end0
  exact ⟨rfl, H.out⟩

set_option maxHeartbeats 1000000 in
set_option maxRecDepth 100000 in
theorem spend_out {B : Nat} (m : MS) (w : World) (h : Lies B m w) (a : Addr) (hp : Pow a w) (hf : m.fused = true) (hl : m.left = 0) : Calls Tryd.prog 35 #[.pointer (some ⟨m.D, 0, none⟩)] w fun e w' => e = .panicked [{ v := powV a, recovered := false }] ∧ w = w' := by
  have hc3 := h.cell 3
  have hc4 := h.cell 4
  simp only [MS.head, List.getElem?_toArray, List.getElem?_cons_succ, List.getElem?_cons_zero, hf, hl] at hc3 hc4
  unfold Pow at hp
  clear hf hl
  go_enter Tryd.func35, Tryd.ntmps35
  go_wp2
  exact ⟨rfl, rfl, rfl⟩

set_option maxHeartbeats 1000000 in
set_option maxRecDepth 100000 in
theorem cmpString_any (a b : ByteArray) (w : World) : Calls Tryd.prog 59 #[.string a, .string b] w fun e w' => e = .returned (.int .i64 (Lib.compareBytes a.data.toList b.data.toList)) ∧ w = w' := by
  go_enter Tryd.func59, Tryd.ntmps59
  go_wp2
  rw [run_callFunc_extern Tryd.func61 (by kernel_rfl) (by kernel_rfl) (by kernel_rfl) (e := Extern.BytealgCompare.compare) (by kernel_rfl), Lib.run_compareString]
  simp only [Result.andThen]
  rw [Oper.upon_value]
  go_wp2
  go_ret
  exact ⟨rfl, rfl⟩

set_option maxHeartbeats 1000000 in
set_option maxRecDepth 100000 in
theorem compare_any (a b : ByteArray) (w : World) : Calls Tryd.prog 52 #[.string a, .string b] w fun e w' => e = .returned (.int .i64 (Lib.compareBytes a.data.toList b.data.toList)) ∧ w = w' := by
  go_enter Tryd.func52, Tryd.ntmps52
  go_wp2_with fail
  refine (cmpString_any _ _ _).mono ?_
  rintro e w' ⟨rfl, rfl⟩
  go_wp2
  go_ret
  exact ⟨rfl, rfl⟩

set_option maxHeartbeats 1000000 in
set_option maxRecDepth 100000 in
/-- the function that find hands to the search: it looks at a file's name -/
theorem closure_any (n b : ByteArray) (v : Value) (k : Int) (w : World) : Calls Tryd.prog 51 #[.agg #[.string n, v, .int .i64 k], .string b] w fun e w' => e = .returned (.int .i64 (Lib.compareBytes n.data.toList b.data.toList)) ∧ w.alloc (.cells #[.string n, v, .int .i64 k] 57) = w' := by
  go_enter Tryd.func51, Tryd.ntmps51
  go_wp2_with fail
  refine (compare_any _ _ _).mono ?_
  rintro e w' ⟨rfl, rfl⟩
  go_wp2
  go_ret
  exact ⟨rfl, rfl⟩
end Go.Proofs.YtopigchjdegpeaaDoor
