/-
  Put: the program's, and the document's.
-/
import Derived.Test.YtoiafhbembhppaaVecChk
import Derived.Test.YtoiafhbembhppaaBldMem
import Derived.Test.YtoiafhbembhppaaLayI
import Derived.Test.YtoiafhbembhppaaWireOut
import Derived.Test.YtoiafhbembhppaaRefWire
namespace Go.Proofs.Ytoiafhbembhppaa
set_option maxRecDepth 100000
open Go.Shelf Go.RowKit Go.Sort

theorem natV_at {l : Vc} (h : chkV l = 0) {k : Nat} (hk : k < l.length) : l.getD k 0 = (((natV l).getD k 0 : Nat) : Int) ∧ (natV l).getD k 0 ≤ 9007199254740992 := by
  have hm := List.getElem_mem hk
  have h0 := (chkV_ok h _ hm).1
  have h1 := (chkV_ok h _ hm).2
  have e1 : (natV l)[k]? = some l[k].toNat := by simp [natV, List.getElem?_eq_getElem hk]
  have e2 : l[k]? = some l[k] := List.getElem?_eq_getElem hk
  rw [List.getD_eq_getElem?_getD, List.getD_eq_getElem?_getD, e1, e2]
  simp only [Option.getD_some]
  omega

set_option maxHeartbeats 4000000 in
set_option maxRecDepth 100000 in
theorem vputC (l : Vc) (hl : l.length = 16) (w : World) : Calls Try.prog 37 #[.agg (ics l)] w fun e w' => e = .returned (.tuple #[.string (putV l).1, .int .i64 (putV l).2]) ∧ Go.RowKit.Below w.heap.size w w' := by
  have hp : putV l = if chkV l = 0 then (⟨(encN (natV l)).toArray⟩, 0) else (⟨#[]⟩, 2) := rfl
  have HL := Lib.hid hl
  have HN := Lib.hid (VRow.new w l)
  have HCK := Lib.hid (fun W => vchkC l hl W)
  by_cases hz : chkV l = 0
  · rw [if_pos hz] at hp
    rw [hz] at HCK
    have HP := Lib.hid hp
    have HAT := Lib.hid (fun k (hk : k < 16) => natV_at hz (k := k) (by rw [hl]; exact hk))
    have hnl : (natV l).length = 16 := by rw [natV_len]; exact hl
    have HLAY := Lib.hid (fun W h => layI (some ⟨w.heap.size, 0, none⟩) 16 (natV l) W h (by omega) (fun n hn => by
      obtain ⟨i, hi, rfl⟩ := List.mem_iff_getElem.1 hn
      have := (HAT.out i (by omega)).2
      rwa [List.getD_eq_getElem?_getD, List.getElem?_eq_getElem hi] at this))
    rw [hnl] at HLAY
    have HROW := Lib.hid (fun (W : World) (h : VRow W w.heap.size l) => show IntRow W (some ⟨w.heap.size, 0, none⟩) (natV l) from .inr ⟨w.heap.size, rfl, h.lt, fun j hj => by
      rw [h.cell j (by omega), (HAT.out j (by omega)).1]⟩)
    clear hp hz hl hnl HAT
    go_enter Try.func37, Try.ntmps37
    go_wp2_with ((with_reducible refine vl_load ?_ (.tmp 1) ?_ w.heap.size l ?_ ?_ ?_ ?_); rfl; rfl; rfl; exact HN.out; exact HL.out)
    refine (HCK.out _).mono ?_
    rintro e w1 ⟨rfl, hb1⟩
    have HB1 := Lib.hid ((boxV_below w l).trans (hb1.mono (boxV_below w l).size))
    have HN1 := Lib.hid (HROW.out w1 (HN.out.keep hb1))
    clear hb1 HCK HN HROW
    go_wp2_with fail
    refine (HLAY.out _ HN1.out).mono ?_
    rintro e w2 ⟨rfl, hb2⟩
    have H2 := Lib.hid (HB1.out.trans (hb2.mono HB1.out.size))
    clear hb2
    go_wp2_with fail
    go_ret2
    rw [HP.out]
    exact ⟨rfl, H2.out⟩
  · rw [if_neg hz] at hp
    have h2 : chkV l = 2 := (chkV_cases l).resolve_left hz
    rw [h2] at HCK
    have HP := Lib.hid hp
    clear hp hz h2 hl
    go_enter Try.func37, Try.ntmps37
    go_wp2_with ((with_reducible refine vl_load ?_ (.tmp 1) ?_ w.heap.size l ?_ ?_ ?_ ?_); rfl; rfl; rfl; exact HN.out; exact HL.out)
    refine (HCK.out _).mono ?_
    rintro e w1 ⟨rfl, hb1⟩
    have HB1 := Lib.hid ((boxV_below w l).trans (hb1.mono (boxV_below w l).size))
    clear hb1
    go_wp2_with fail
    go_ret2
    rw [HP.out]
    exact ⟨rfl, HB1.out⟩

end Go.Proofs.Ytoiafhbembhppaa
