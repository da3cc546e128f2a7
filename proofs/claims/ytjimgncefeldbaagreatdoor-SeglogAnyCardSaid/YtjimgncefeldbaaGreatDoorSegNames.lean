/-
  Plain facts: the names of a log's files.
-/
import Derived.Test.YtjimgncefeldbaaGreatDoorGSer
namespace Go.Proofs.YtjimgncefeldbaaGreatDoor
open Go.Lib Go.RowKit

def newB : ByteArray := ⟨#[108, 111, 103, 45, 110, 101, 119]⟩
def dashB : ByteArray := ⟨#[108, 111, 103, 45]⟩
/-- a generation's file -/
def genB (g : Nat) : ByteArray := ⟨([108, 111, 103, 45] ++ digL g).toArray⟩

theorem newB_eq : newN logB = newB := by decide +kernel
theorem dashB_eq : dashN logB = dashB := by decide +kernel
theorem genB_eq (g : Nat) : genN logB g = genB g := rfl
theorem gen_pre : ∀ g : Fin 12, Lib.hasPrefix (genB g.val).data.toList dashB.data.toList = true := by decide +kernel
theorem gen_nm : ∀ g : Fin 12, isNm (genB g.val) = true := by decide +kernel
theorem new_nm : isNm newB = true := by decide +kernel
theorem gen_size : ∀ g : Fin 12, (genB g.val).size = 12 := by decide +kernel
theorem gen_cmp : ∀ a b : Fin 12, compareBytes (genB a.val).data.toList (genB b.val).data.toList = sgn a.val b.val := by decide +kernel
theorem gen_new : ∀ a : Fin 12, compareBytes (genB a.val).data.toList newB.data.toList = -1 := by decide +kernel
theorem new_gen : ∀ a : Fin 12, compareBytes newB.data.toList (genB a.val).data.toList = 1 := by decide +kernel
theorem new_new : compareBytes newB.data.toList newB.data.toList = 0 := by decide +kernel
theorem gen_inj {a b : Nat} (ha : a < 12) (hb : b < 12) (h : genB a = genB b) : a = b := by
  have h1 := gen_cmp ⟨a, ha⟩ ⟨b, hb⟩
  simp only at h1
  rw [h] at h1
  have h2 := gen_cmp ⟨b, hb⟩ ⟨b, hb⟩
  simp only at h2
  rw [h2] at h1
  unfold sgn at h1
  simp only [Nat.lt_irrefl, if_false, if_true] at h1
  by_cases h3 : a < b
  · rw [if_pos h3] at h1; omega
  · rw [if_neg h3] at h1
    by_cases h4 : a = b
    · exact h4
    · rw [if_neg h4] at h1; omega
theorem gen_ne_new {a : Nat} (ha : a < 12) : genB a ≠ newB := fun e => by
  have h1 := gen_new ⟨a, ha⟩
  simp only at h1
  rw [e, new_new] at h1; omega
end Go.Proofs.YtjimgncefeldbaaGreatDoor
