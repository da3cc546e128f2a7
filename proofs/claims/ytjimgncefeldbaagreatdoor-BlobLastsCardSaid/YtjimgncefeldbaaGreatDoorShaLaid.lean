/-
  What a row's condition on sha.constants gives the walks.
-/
import Derived.Test.YtjimgncefeldbaaGreatDoorGShaB
import Derived.Test.YtjimgncefeldbaaGreatDoorKit
import Derived.Lib.LaidTab
import Derived.Lib.LaidU8
import Derived.LaidMore
import Derived.MakeChecks
import Derived.Stop.Joined
namespace Go.Proofs.YtjimgncefeldbaaGreatDoor
open Go.RowKit

def Ki : List Int := Kn.map fun (n : Nat) => (n : Int)
theorem Ki_laid : (Rows.laid_almonry_sha_constants : DataW Unit) = Lib.tabData .u32 Ki := rfl
theorem Ki_at : ∀ j : Fin 64, Ki.getD j.val 0 = wv (Kw.getD j.val 0) := by decide +kernel
theorem tConst : (Tryz.prog.globals[2]?).map (·.type) = some 169 := by kernel_rfl

/-- Wherever the table stands on the row's list. -/
theorem tab_of {l : List (String × DataW Unit)} {n : String} {W : World} (h : laidMetH Tryz.prog l W) (hp : (l.all fun x => x.2.handleName?.isNone) = true)
    (hn : Tryz.prog.globalNamed n = some 2) (hm : (n, Rows.laid_almonry_sha_constants) ∈ l) : Tab W := by
  rw [MakeChecks.laidMetH_plain _ _ _ hp] at h
  obtain ⟨g, t, cs, fuel, p, hg, ht, hv, hd⟩ := Lib.laidMet.reads h hm
  obtain rfl := Option.some.inj (hn.symm.trans hg)
  obtain rfl := Option.some.inj (tConst.symm.trans ht)
  rw [Ki_laid] at hd
  have hcs := Lib.cells_of_tab Tryz.underlying169 Tryz.underlying93 (by kernel_rfl) (by kernel_rfl) hd
  have htab : Lib.TabIs Tryz.prog W n .u32 Ki := by unfold Lib.TabIs; rw [hv, ← hcs]
  intro j hj
  have hc := htab.cell hg j (by show j < 64; exact hj)
  rw [hc]
  congr 2
  exact Ki_at ⟨j, hj⟩
end Go.Proofs.YtjimgncefeldbaaGreatDoor
