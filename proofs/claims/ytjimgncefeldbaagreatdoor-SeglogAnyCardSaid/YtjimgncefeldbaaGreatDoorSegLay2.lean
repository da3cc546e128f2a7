/-
  seglog: lay, replace, begin.
-/
import Derived.Test.YtjimgncefeldbaaGreatDoorSegChoose
namespace Go.Proofs.YtjimgncefeldbaaGreatDoor
open Go.RowKit Go.Sort

/-- a file is made, and has its name -/
def LayS (s : DS) (body file : ByteArray) (s4 : DS) : Prop := ∃ s1 s2 s3, dropS s newB = (0, s1) ∧ appendS s1 newB body = (0, s2) ∧ syncS s2 newB = (0, s3) ∧ renameS s3 newB file = (0, s4)

theorem layS_of {s : DS} {body file : ByteArray} {s4 : DS} (h : LayS s body file s4) : layS s newB body file = (0, s4) := by
  obtain ⟨s1, s2, s3, h1, h2, h3, h4⟩ := h
  unfold layS
  rw [h1]
  simp only [ne_eq, not_true_eq_false, if_false]
  rw [h2]
  simp only [not_true_eq_false, if_false]
  rw [h3]
  simp only [not_true_eq_false, if_false]
  exact h4
theorem segLay {a : Addr} {B D L g : Nat} {s : DS} {bl : List Nat} {base : ByteArray} {rv : Value} {en : Bool} (w : World) (h : LW a B D s bl L g base rv en w) (body : ByteArray) (g' : Nat) (hg' : g' < 12) (s4 : DS) (hs : LayS s body (genB g') s4)
    (hb1 : body.size ≤ 1000000) :
    Calls Tryz.prog 106 #[sv D logB, .string body, .int .i64 (g' : Int)] w (Stays a B D L g base rv en 0 s4 bl w) := by
  have hl := lay_any logB log_ok w h.sw body g' (by omega) hb1
  rw [newB_eq, genB_eq, layS_of hs] at hl
  refine hl.mono ?_
  rintro e w1 ⟨bl1, rfl, hd, hf⟩
  exact ⟨bl1, rfl, h.step hd hf, hf⟩
end Go.Proofs.YtjimgncefeldbaaGreatDoor
