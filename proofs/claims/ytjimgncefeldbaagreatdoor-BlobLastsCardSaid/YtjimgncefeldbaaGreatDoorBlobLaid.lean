/-
  BlobLasts: what the row's list says of the world.
-/
import Derived.Test.YtjimgncefeldbaaGreatDoorGBlobJ
namespace Go.Proofs.YtjimgncefeldbaaGreatDoor
open Go.RowKit
set_option maxRecDepth 100000

theorem pows_lt {w : World} (h : Pows w) : 5 < w.heap.size := by
  have hn : Tryz.prog.globalNamed "internal/strconv.uint64pow10" = some 5 := by kernel_rfl
  unfold Pows Lib.TabIs World.var? at h
  rw [hn] at h
  simp only [Option.bind_some] at h
  by_cases hlt : 5 < w.heap.size
  · exact hlt
  · rw [Array.getElem?_eq_none (by omega)] at h
    cases h

theorem blaid_of {W : World} (h : laidMetH Tryz.prog Rows.blobLastsRow.laid W) : ∃ a, LB a W := by
  have hT : Tab W := tab_of h (by rfl) (n := "almonry/sha.constants") (by kernel_rfl) (.tail _ (.tail _ (.head _)))
  have hP : ∃ a, Pow a W := by
    have h1 := laidMetH.filter (fun x => x.1 == "almonry/disk.errPower") h
    have e : (Rows.blobLastsRow.laid.filter fun x => x.1 == "almonry/disk.errPower") = [("almonry/disk.errPower", Rows.laid_almonry_disk_errPower)] := by rfl
    rw [e] at h1
    exact pow_of h1 (by kernel_rfl)
  have hS : Pows W := by
    rw [MakeChecks.laidMetH_plain _ _ _ (by rfl)] at h
    obtain ⟨g, t, cs, fuel, p, hg, ht, hv, hd⟩ := Lib.laidMet.reads (n := "internal/strconv.uint64pow10") (d := Rows.laid_internal_strconv_uint64pow10) h (.tail _ (.tail _ (.tail _ (.head _))))
    have hn : Tryz.prog.globalNamed "internal/strconv.uint64pow10" = some 5 := by kernel_rfl
    obtain rfl := Option.some.inj (hn.symm.trans hg)
    obtain rfl := Option.some.inj (tPow10.symm.trans ht)
    rw [pow10_laid] at hd
    have hcs := Lib.cells_of_tab Tryz.underlying189 Tryz.underlying130 (by kernel_rfl) (by kernel_rfl) hd
    unfold Pows Lib.TabIs
    rw [hv, ← hcs]
  obtain ⟨a, hp⟩ := hP
  exact ⟨a, hp, hS, hT, hp.lt, pows_lt hS, hT.lt⟩

theorem u8_of {f : Int} (h : (Lit.int .u8 f).wf = true) : 0 ≤ f ∧ f < 256 := by
  have h2 : IntKind.u8.min ≤ f ∧ f ≤ IntKind.u8.max := by simpa [Lit.wf] using h
  have h3 := h2
  have e1 : IntKind.u8.min = 0 := by decide
  have e2 : IntKind.u8.max = 255 := by decide
  omega

theorem lasts_row (p : Option Addr) (len cap : Nat) (ds : List Bd) (f keep : Int) (w : World) (hd : BdArg w p len ds) (hf : (Lit.int .u8 f).wf = true) (_hk : (Lit.int .i64 keep).wf = true) (hL : laidMetH Tryz.prog Rows.blobLastsRow.laid w) :
    Calls Tryz.prog 4 #[.slice p len cap, .int .u8 f, .int .i64 keep] w fun e w' => e = .returned (.bool true) ∧ Below w.heap.size w w' := by
  obtain ⟨a, hl⟩ := blaid_of hL
  have h1 := u8_of hf
  exact lasts_law p len cap ds f keep a w hd hl h1.1 h1.2
end Go.Proofs.YtjimgncefeldbaaGreatDoor
