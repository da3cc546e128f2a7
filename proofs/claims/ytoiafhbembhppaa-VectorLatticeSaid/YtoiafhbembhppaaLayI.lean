/-
  list.Lay of numbers, each put as wire.Num puts it.
-/
import Derived.Test.YtoiafhbembhppaaBldMem
import Derived.Test.YtoiafhbembhppaaEncN
import Derived.Test.YtoiafhbembhppaaTextArg
import Derived.Test.YtoiafhbembhppaaWireOut
namespace Go.Proofs.Ytoiafhbembhppaa
set_option maxRecDepth 100000
open Go.Shelf Go.RowKit Go.Sort

set_option maxHeartbeats 4000000 in
set_option maxRecDepth 100000 in
theorem layI (a : Option Addr) (cap : Nat) (ns : List Nat) (w : World) (hrow : IntRow w a ns) (hl : ns.length ≤ 100000) (hsz : ∀ n ∈ ns, n ≤ 9007199254740992) :
    Calls Try.prog 44 #[.slice a ns.length cap, .func (.func 42) #[] #[]] w fun e w' => e = .returned (.tuple #[.string ⟨(encN ns).toArray⟩, .int .i64 0]) ∧ Go.RowKit.Below w.heap.size w w' := by
  have HROW := Lib.hid hrow
  have HSZ := Lib.hid hsz
  have hb0 : Go.RowKit.Below w.heap.size w (w.alloc (.cells #[.pointer none, .slice none 0 0] 77)) := (Below.refl _ _).alloc (Nat.le_refl _) _
  have HB0 := Lib.hid hb0
  have HBN := Lib.hid (bld_new w)
  clear hrow hsz hb0
  go_enter Try.func44, Try.ntmps44
  go_wp2_with fail
  go_loopw [13] (fun i wr => ∃ k : Nat, k ≤ ns.length ∧ i = .int .i64 k ∧ Hid (Lib.IsBuilder 77 5 w.heap.size w.heap.size (Lib.byteCells (encN (ns.take k))) wr ∧ Go.RowKit.Below w.heap.size w wr)) (fun i _ => ns.length - (intOf i).toNat)
  case atStart => exact ⟨0, Nat.zero_le _, rfl, ⟨HBN.out, HB0.out⟩⟩
  case round =>
    rename_i wr
    obtain ⟨k, hk, rfl, hh⟩ := hrel
    by_cases hlt : k < ns.length
    · obtain ⟨b, rfl, hlt', hc⟩ : ∃ b, a = some ⟨b, 0, none⟩ ∧ b < w.heap.size ∧ ∀ j, j < ns.length → wr.cell? ⟨b, j, none⟩ = some (.int .i64 (ns.getD j 0 : Nat)) := by
        rcases HROW.out with h | ⟨b, rfl, h1, h2⟩
        · rw [h] at hlt; simp at hlt
        · exact ⟨b, rfl, h1, fun j hj => by rw [hh.out.2.cell (p := ⟨b, j, none⟩) h1]; exact h2 j hj⟩
      have hck := hc k hlt
      have hbs := hh.out.2.size
      have hbw : b < wr.heap.size := by omega
      have hmem : ns.getD k 0 ∈ ns := by rw [List.getD_eq_getElem?_getD, List.getElem?_eq_getElem hlt]; exact List.getElem_mem _
      have HP := Lib.hid (num_ok _ (HSZ.out _ hmem) wr)
      have HE := Lib.hid (encN_snoc ns hlt)
      have HLE := Lib.hid (encN_len (ns.take k) (fun n hn => HSZ.out n (List.mem_of_mem_take hn)))
      have hul := Lib.uvarint_length64 (x := ns.getD k 0) (by have := HSZ.out _ hmem; omega)
      clear hc hmem
      generalize ns.getD k 0 = x at *
      obtain ⟨R, hR⟩ : ∃ R : ByteArray, ⟨(Lib.uvarint x).toArray⟩ = R := ⟨_, rfl⟩
      have HR := Lib.hid hR
      rw [hR] at HP
      clear hR
      go_wp2_with fail
      refine HP.out.mono ?_
      rintro e w2 ⟨rfl, hb2⟩
      have hbl := bld_below hh.out.1 hb2
      have HB2 := Lib.hid (hh.out.2.trans (hb2.mono hbs))
      have hRl : R.data.toList = Lib.uvarint x := by rw [← HR.out]
      have hws := Any.Builder_WriteString bldW bldX w.heap.size w.heap.size (Lib.byteCells (encN (ns.take k))) R w2 hbl (by
        have h2 := congrArg List.length hRl
        rw [ba_len] at h2
        have h3 := HLE.out
        rw [List.length_take] at h3
        simp only [Lib.byteCells, List.length_map]
        omega) HB2.out.size
      have HWS := Lib.hid hws
      have HRL := Lib.hid hRl
      clear hb2 hbl hws hRl hck
      go_wp2_with fail
      refine HWS.out.mono ?_
      rintro e w3 ⟨rfl, hbl3, hb3⟩
      have H3 := Lib.hid (show Lib.IsBuilder 77 5 w.heap.size w.heap.size (Lib.byteCells (encN (ns.take (k + 1)))) w3 ∧ Go.RowKit.Below w.heap.size w w3 from ⟨by
        rw [HE.out, ← HRL.out]
        right
        have e : Lib.byteCells (encN (ns.take k) ++ R.data.toList) = Lib.byteCells (encN (ns.take k)) ++ Lib.strCells R := by simp [Lib.byteCells, Lib.strCells]
        rw [e]; exact hbl3, HB2.out.trans hb3⟩)
      clear hbl3 hb3
      go_wp2_with fail
      go_roundw
      case rel => exact ⟨k + 1, by omega, by go_num, H3⟩
      case measure => simp [intOf]; omega
    · obtain rfl : k = ns.length := by omega
      have hs := Any.Builder_String_any bldS bldX w.heap.size w.heap.size (encN (ns.take ns.length)) wr hh.out.1 hh.out.2.size
      rw [List.take_length] at hs
      have HS := Lib.hid hs
      have HB := Lib.hid hh.out.2
      clear hs hh
      go_wp2_with fail
      refine HS.out.mono ?_
      rintro e w2 ⟨rfl, hb2⟩
      have H2 := Lib.hid (HB.out.trans hb2)
      clear hb2
      go_wp2_with fail
      go_ret2
      exact ⟨rfl, H2.out⟩

end Go.Proofs.Ytoiafhbembhppaa
