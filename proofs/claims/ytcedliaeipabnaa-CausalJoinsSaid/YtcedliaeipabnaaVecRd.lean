/-
  Read: the program's.
-/
import Derived.Test.YtcedliaeipabnaaGCauP
import Derived.Test.YtcedliaeipabnaaGCauM
namespace Go.Proofs.Ytcedliaeipabnaa
set_option maxRecDepth 100000
open Go.RowKit

theorem VRow.grown {w w' : World} {b : Nat} {row : Option Nat} {l : Vc} (h : VRow w b l) (hg : w.grownBy w' row) (hne : row ≠ some b) : VRow w' b l := by
  unfold VRow; rw [hg.block b h.lt (fun j => hne j.symm)]; exact h
theorem retV {fn : Func} {p u : Tmp} (h : fn.results = #[.cell p 23, .tmp u]) (tmps : Array Value) (w : World) (g : Nat) (l : Vc) (x : Value)
    (hp : tmps.getD p undef = .pointer (some ⟨g, 0, none⟩)) (hx : tmps.getD u undef = x) (hg : VRow w g l) (hl : l.length = 16) :
    (results fn tmps).run Try.prog w = .ok (.tuple #[.agg (ics l), x]) w := by
  rw [results_cell_tmp h, hp, hx]
  simp [asAddr, run_loadVar_row w g 23 23 (ics l) (0, 0) (.array 16 3) hg Try.underlying23 rfl (infoV hl)]
theorem buildV (W : World) : (Instr.build 23 #[]).run Try.prog W = .ok (.agg (ics zV)) W := run_build W 23 #[] (ics zV) (by kernel_rfl)

end Go.Proofs.Ytcedliaeipabnaa
