/-
  How a manifest that came in is opened.
-/
import Derived.Test.YtiabbmdgddbgbaaDoorKit
import Derived.Test.YtiabbmdgddbgbaaDoorChunkMan
import Derived.Test.YtiabbmdgddbgbaaDoorTextArg
import Derived.Deep.Strs
import Derived.Deep.Slices
namespace Go.Proofs.YtiabbmdgddbgbaaDoor
open Go.ChangeShapes Go.WideShapes Go.ChangeAt Go.RowKit Go.Deep
open Go.ChangeMaps (open_string shut_string)

/-- a manifest's IDs lie in memory -/
structure ManArg (w : World) (m : Man) (a : Option Addr) : Prop where
  row : StrRow w a m.ids
  len : m.ids.length ≤ maxLen

theorem three {cs : List Value} {a b c : Value} (h : cs.length = 3) (h0 : (cs.drop 0).take 1 = [a]) (h1 : (cs.drop 1).take 1 = [b]) (h2 : (cs.drop 2).take 1 = [c]) : cs = [a, b, c] := by
  match cs, h with
  | [_, _, _], _ => simp_all

set_option maxRecDepth 100000 in
theorem open_man {H : Type} {enc : TypeId × Value → H} {W : World} {base : Nat} {v : Value} {d : DataW H} {p : List MemPlace}
    (hv : Value.okWide Tryd.prog W .any base 31 v) (h : DataW.Trod enc Tryd.prog W 0 (fun _ => true) true 31 v d p) :
    ∃ (m : Man) (a : Option Addr) (cap : Nat), v = mv m (.slice a m.ids.length cap) ∧ ManArg W m a := by
  obtain ⟨cs, rfl, _⟩ := okWide_struct Tryd.underlying31 hv
  obtain ⟨fuel, hf⟩ := h
  obtain ⟨y0, y1, y2, n, _, hlen, f0, f1, f2⟩ := trod_struct3 Tryd.underlying31 hf
  have hc3 : Tryd.prog.cellsOf 31 = 3 := by kernel_rfl
  rw [hc3] at hlen
  obtain ⟨z, e0, _, w0⟩ := DataW.trod_int Tryd.underlying3 f0
  obtain ⟨c, e1, _, w1⟩ := DataW.trod_int Tryd.underlying3 f1
  have hs : ∃ a len cap, (cs.toList.drop 2).take 1 = [Value.slice a len cap] := by
    have hf2 : DataW.trod enc Tryd.prog W 0 (fun _ => true) true n 23 ((cs.toList.drop 2).take 1) = some y2 := f2
    rcases open_strings Tryd.underlying23 Tryd.underlying9 (by kernel_rfl) hf2 with ⟨e, _⟩ | ⟨x, len, cap, ss, e, _⟩
    · exact ⟨none, 0, 0, e⟩
    · exact ⟨some x, len, cap, e⟩
  obtain ⟨a, len, cap, e2⟩ := hs
  have hT : DataW.Trod enc Tryd.prog W 0 (fun _ => true) true 23 (.slice a len cap) y2.1 y2.2 := by
    refine ⟨n, ?_⟩
    have hf2 : DataW.trod enc Tryd.prog W 0 (fun _ => true) true n 23 ((cs.toList.drop 2).take 1) = some y2 := f2
    rw [e2] at hf2
    exact hf2
  obtain ⟨ss, hss, hmx, hrow, _⟩ := strArg_of Tryd.underlying23 Tryd.underlying9 (by kernel_rfl) hT
  subst hss
  refine ⟨⟨z, c, ss⟩, a, cap, ?_, hrow, hmx⟩
  have hcs : cs.toList = [.int .i64 z, .int .i64 c, .slice a ss.length cap] := three hlen (by rw [← e0]; rfl) (by rw [← e1]; rfl) e2
  congr 1
  exact Array.toList_inj.1 hcs
end Go.Proofs.YtiabbmdgddbgbaaDoor
