/-
  Plain facts: the disks that almonrylaw08.awake goes through.
-/
import Derived.Test.YtjimgncefeldbaaGreatDoorSegTwice
namespace Go.Proofs.YtjimgncefeldbaaGreatDoor
open Go.Lib Go.RowKit

def r0 : List UInt8 := [0, 81, 83, 125, 82]
def rA : List UInt8 := [1, 97, 196, 255, 110, 113]
def rB : List UInt8 := [1, 98, 48, 12, 62, 98]
def rX : List UInt8 := [4, 98, 97, 115, 101, 187, 178, 58, 58]
def rC : List UInt8 := [1, 99, 51, 143, 85, 144]
def baseB : ByteArray := ⟨#[98, 97, 115, 101]⟩

theorem rec0 : recB ⟨#[]⟩ = ⟨r0.toArray⟩ := by
  have h : encT ⟨#[]⟩ = [0] := by unfold encT; rw [show (ByteArray.mk #[]).size = 0 from rfl, Lib.uvarint_small (by omega)]; rfl
  unfold recB recF; rw [h]; decide +kernel
theorem recA : recB ⟨#[97]⟩ = ⟨rA.toArray⟩ := by
  have h : encT ⟨#[97]⟩ = [1, 97] := by unfold encT; rw [show (ByteArray.mk #[97]).size = 1 from rfl, Lib.uvarint_small (by omega)]; rfl
  unfold recB recF; rw [h]; decide +kernel
theorem recBB : recB ⟨#[98]⟩ = ⟨rB.toArray⟩ := by
  have h : encT ⟨#[98]⟩ = [1, 98] := by unfold encT; rw [show (ByteArray.mk #[98]).size = 1 from rfl, Lib.uvarint_small (by omega)]; rfl
  unfold recB recF; rw [h]; decide +kernel
theorem recX : recB baseB = ⟨rX.toArray⟩ := by
  have h : encT baseB = [4, 98, 97, 115, 101] := by unfold encT; rw [show baseB.size = 4 from rfl, Lib.uvarint_small (by omega)]; rfl
  unfold recB recF; rw [h]; decide +kernel
theorem recC : recB ⟨#[99]⟩ = ⟨rC.toArray⟩ := by
  have h : encT ⟨#[99]⟩ = [1, 99] := by unfold encT; rw [show (ByteArray.mk #[99]).size = 1 from rfl, Lib.uvarint_small (by omega)]; rfl
  unfold recB recF; rw [h]; decide +kernel

/-- a disk with one file -/
def sG (g : Nat) (b : List UInt8) (k : Nat) : DS := ⟨1000, [⟨genB g, b, k⟩], false, false, 0⟩
theorem calm_sG (g : Nat) (b : List UInt8) (k : Nat) : Calm (sG g b k) := ⟨rfl, rfl⟩
theorem fit_sG (g : Nat) (b : List UInt8) (k : Nat) (hb : b.length ≤ 1000) (hk : k ≤ b.length) : Fit (sG g b k) :=
  ⟨by simp [sG], by simp [sG], by simp [sG, stotal]; exact hb, by simp [sG], by simp [sG]; exact hk, by simp [sG]⟩

theorem aw1 : OpenS (newS 1000) 1 ⟨#[]⟩ [] (sG 1 r0 5) := by
  have h := open_none (s := newS 1000) ⟨rfl, rfl⟩ rfl (by decide) (by rw [rec0]; decide)
  have e : recF ⟨#[]⟩ = r0 := congrArg (fun x => x.data.toList) rec0
  rw [e] at h
  exact h
theorem aw2 : appendS (sG 1 r0 5) (genB 1) (recB ⟨#[97]⟩) = (0, sG 1 (r0 ++ rA) 5) := by rw [recA]; decide +kernel
theorem aw3 : syncS (sG 1 (r0 ++ rA) 5) (genB 1) = (0, sG 1 (r0 ++ rA) 11) := by decide +kernel
theorem aw4 : appendS (sG 1 (r0 ++ rA) 11) (genB 1) (recB ⟨#[98]⟩) = (0, sG 1 (r0 ++ rA ++ rB) 11) := by rw [recBB]; decide +kernel
theorem aw5 : syncS (sG 1 (r0 ++ rA ++ rB) 11) (genB 1) = (0, sG 1 (r0 ++ rA ++ rB) 17) := by decide +kernel
theorem aw6 : appendS (sG 1 (r0 ++ rA ++ rB) 17) ⟨#[108, 111, 103, 45, 48, 48, 48, 48, 48, 48, 48, 49]⟩ ⟨#[120]⟩ = (0, sG 1 (r0 ++ rA ++ rB ++ [120]) 17) := by decide +kernel
theorem aw7f : fallS ⟨(r0 ++ rA ++ rB ++ [120]).toArray⟩ = ([⟨#[]⟩, ⟨#[97]⟩, ⟨#[98]⟩], 17) := by decide +kernel
theorem aw7 : OpenS (sG 1 (r0 ++ rA ++ rB ++ [120]) 17) 2 ⟨#[]⟩ [⟨#[97]⟩, ⟨#[98]⟩] (sG 2 (r0 ++ rA ++ rB) 17) :=
  open_torn (s := sG 1 (r0 ++ rA ++ rB ++ [120]) 17) (fit_sG _ _ _ (by decide) (by decide)) (calm_sG _ _ _) (by decide) (by omega) (by omega) rfl rfl aw7f (by decide) (by decide)
theorem aw8 : ∃ s4, LayS (sG 2 (r0 ++ rA ++ rB) 17) (recB baseB) (genB 3) s4 ∧ AheadS 2 s4 (sG 3 rX 9) := by
  have h := lay_one (calm_sG 2 (r0 ++ rA ++ rB) 17) (g := 2) (by omega) (r0 ++ rA ++ rB) 17 rfl (recB baseB) (by rw [recX]; decide) (by decide)
  refine ⟨_, h.1, ?_⟩
  have h2 := h.2 (by omega)
  have e : (recB baseB).data.toList = rX := congrArg (fun x => x.data.toList) recX
  rw [e] at h2
  rw [e]
  exact h2
theorem aw9 : appendS (sG 3 rX 9) (genB 3) (recB ⟨#[99]⟩) = (0, sG 3 (rX ++ rC) 9) := by rw [recC]; decide +kernel
theorem aw10 : syncS (sG 3 (rX ++ rC) 9) (genB 3) = (0, sG 3 (rX ++ rC) 15) := by decide +kernel
theorem aw11f : fallS ⟨(rX ++ rC).toArray⟩ = ([baseB, ⟨#[99]⟩], 15) := by decide +kernel
theorem aw11 : OpenS (sG 3 (rX ++ rC) 15) 3 baseB [⟨#[99]⟩] (sG 3 (rX ++ rC) 15) :=
  open_whole (s := sG 3 (rX ++ rC) 15) (fit_sG _ _ _ (by decide) (by decide)) (calm_sG _ _ _) (by decide) (by omega) (by omega) rfl rfl aw11f
end Go.Proofs.YtjimgncefeldbaaGreatDoor
