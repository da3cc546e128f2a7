/-
  What the rows' condition on sha.constants gives the walks.
-/
import Derived.Test.YtmhjicfmbpjhhaaDoorShaLaws
import Derived.Lib.LaidTab
import Derived.LaidMore
import Derived.MakeChecks
import Derived.Stop.Joined
namespace Go.Proofs.YtmhjicfmbpjhhaaDoor
open Go.RowKit

theorem own : ownKnob Tryd.prog.godebug = none := by kernel_rfl
theorem laidOut : laidOutB Tryd.prog = true := by kernel_rfl
abbrev laidK : List (String × DataW Unit) := Rows.shaSumsRow.laid
/-- the table's name, as the row lists it -/
def nameK : String := (laidK.map (·.1)).headD ""
theorem gConst : Tryd.prog.globalNamed nameK = some 0 := by kernel_rfl
theorem tConst : (Tryd.prog.globals[0]?).map (·.type) = some 33 := by kernel_rfl
def Ki : List Int := Kn.map fun (n : Nat) => (n : Int)
theorem Ki_laid : laidK = (nameK, Lib.tabData .u32 Ki) :: [] := rfl
theorem Ki_at : ∀ j : Fin 64, Ki.getD j.val 0 = wv (Kw.getD j.val 0) := by decide +kernel

theorem tab_of {W : World} (h : laidMetH Tryd.prog laidK W) : Tab W := by
  rw [MakeChecks.laidMetH_plain _ _ _ (by kernel_rfl)] at h
  rw [Ki_laid] at h
  have ht := Lib.tabIs_of_head gConst tConst Tryd.underlying33 Tryd.underlying25 (by kernel_rfl) (by kernel_rfl) h
  intro j hj
  have hc := ht.cell gConst j (by show j < 64; exact hj)
  rw [hc]
  congr 2
  exact Ki_at ⟨j, hj⟩

theorem door_met (os : Os) (args : Array Value) : laidMetH Tryd.prog laidK ((World.doorLaid Tryd.prog 14 os).forCall (fun _ _ => 0) ⟨#[], args, []⟩).memory :=
  laidMetH_of_parts3 (fuel := 8) (laidMet_of_run' 8 (by kernel_rfl) (by kernel_rfl)) (by kernel_rfl) (by kernel_rfl)
end Go.Proofs.YtmhjicfmbpjhhaaDoor
