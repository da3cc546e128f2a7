/-
  strings.Builder: its methods' bodies are those that the library's contracts were proved of; the contracts, at the seat.
  strings.Builder: a new one; one that lies below what is made.
  list.Lay of numbers, each put as wire.Num puts it.
-/
import Derived.Test.YtkodololdjainaaGreatBase
import Derived.Shelf.Strings.Builder1
import Derived.Test.YtkodololdjainaaGreatGDelB
import Derived.Test.YtkodololdjainaaGreatGDelE
import Derived.Test.YtkodololdjainaaGreatGDelA
namespace Go.Proofs.YtkodololdjainaaGreat
open Go.Shelf Go.RowKit

def bldL_ren : Go.Shelf.Ren := ⟨fun | 166 => 49 | 169 => 50 | 240 => 76 | 276 => 89 | n => n, fun | 0 => 0 | 3 => 3 | 4 => 4 | 5 => 5 | 9 => 9 | 20 => 20 | 37 => 90 | 70 => 89 | 72 => 92 | 75 => 94 | 80 => 68 | 127 => 123 | 164 => 140 | n => n, fun | n => n⟩
theorem bldW : Lays.n166 Tryz.prog bldL_ren := {
  mixed := by kernel_rfl
  f166 := Tryz.func49.trans (congrArg some (by kernel_rfl))
  f240 := Tryz.func76.trans (congrArg some (by kernel_rfl))
  f276 := Tryz.func89.trans (congrArg some (by kernel_rfl))
  t0 := Tryz.underlying0
  a0 := Tryz.isAgg0
  z0 := Tryz.sizeOf0
  v0 := Tryz.zeroValue0
  t3 := Tryz.underlying3
  a3 := Tryz.isAgg3
  z3 := Tryz.sizeOf3
  v3 := Tryz.zeroValue3
  t4 := Tryz.underlying4
  a4 := Tryz.isAgg4
  z4 := Tryz.sizeOf4
  v4 := Tryz.zeroValue4
  t9 := Tryz.underlying9
  a9 := Tryz.isAgg9
  z9 := Tryz.sizeOf9
  v9 := Tryz.zeroValue9
  t20 := Tryz.underlying20
  a20 := Tryz.isAgg20
  z20 := Tryz.sizeOf20
  v20 := Tryz.zeroValue20
  t37 := Tryz.underlying90
  a37 := Tryz.isAgg90
  z37 := Tryz.sizeOf90
  v37 := Tryz.zeroValue90
  t70 := Tryz.underlying89
  a70 := Tryz.isAgg89
  z70 := Tryz.sizeOf89
  v70 := Tryz.zeroValue89
  t72 := Tryz.underlying92
  a72 := Tryz.isAgg92
  z72 := Tryz.sizeOf92
  v72 := Tryz.zeroValue92
  t75 := Tryz.underlying94
  a75 := Tryz.isAgg94
  z75 := Tryz.sizeOf94
  v75 := Tryz.zeroValue94
  t164 := Tryz.underlying140
  a164 := Tryz.isAgg140
  z164 := Tryz.sizeOf140
  v164 := Tryz.zeroValue140 }

theorem bldS : Lays.n169 Tryz.prog bldL_ren := {
  mixed := by kernel_rfl
  f169 := Tryz.func50.trans (congrArg some (by kernel_rfl))
  t0 := Tryz.underlying0
  a0 := Tryz.isAgg0
  z0 := Tryz.sizeOf0
  v0 := Tryz.zeroValue0
  t3 := Tryz.underlying3
  a3 := Tryz.isAgg3
  z3 := Tryz.sizeOf3
  v3 := Tryz.zeroValue3
  t9 := Tryz.underlying9
  a9 := Tryz.isAgg9
  z9 := Tryz.sizeOf9
  v9 := Tryz.zeroValue9
  t37 := Tryz.underlying90
  a37 := Tryz.isAgg90
  z37 := Tryz.sizeOf90
  v37 := Tryz.zeroValue90
  t70 := Tryz.underlying89
  a70 := Tryz.isAgg89
  z70 := Tryz.sizeOf89
  v70 := Tryz.zeroValue89
  t72 := Tryz.underlying92
  a72 := Tryz.isAgg92
  z72 := Tryz.sizeOf92
  v72 := Tryz.zeroValue92
  t127 := Tryz.underlying123
  a127 := Tryz.isAgg123
  z127 := Tryz.sizeOf123
  v127 := Tryz.zeroValue123 }

theorem bldX : Builder.Extra Tryz.prog bldL_ren := {
  sizeBuilder := by kernel_rfl
  liesBuilder := by kernel_rfl
  t5 := Tryz.underlying5
  a5 := Tryz.isAgg5
  z5 := Tryz.sizeOf5
  v5 := Tryz.zeroValue5
  infoByte := by kernel_rfl
  cellsByte := by kernel_rfl
  sizeByte := by kernel_rfl
  neB5 := by decide
}


end Go.Proofs.YtkodololdjainaaGreat

namespace Go.Proofs.YtkodololdjainaaGreat
open Go.Shelf Go.RowKit Go.Sort

theorem grownN_of_below {w w' : World} (h : Below w.heap.size w w') : w.grownBy w' none := ⟨h.os, h.tape, h.output, h.size, fun k hk _ => h.block k hk⟩
theorem bld_below {T e : TypeId} {B b : Nat} {bs : List Value} {w w' : World} (h : Lib.IsBuilder T e B b bs w) (hb : Below w.heap.size w w') : Lib.IsBuilder T e B b bs w' := by
  have key : ∀ p, Lib.BuilderAt T e B b p bs w → Lib.BuilderAt T e B b p bs w' := fun p hp => by
    have hlt := hp.lt
    obtain ⟨hB, v, hbk, hown, hne⟩ := hp
    exact ⟨hB, v, (hb.block b hlt).trans hbk, hown.kept (grownN_of_below hb) (by cases hv : v.ownBlock <;> simp), hne⟩
  exact h.imp (key _) (key _)
theorem bld_new (w : World) : Lib.IsBuilder 92 5 w.heap.size w.heap.size [] (w.alloc (.cells #[.pointer none, .slice none 0 0] 92)) :=
  .inl ⟨Nat.le_refl _, .slice none 0 0, heap_alloc_new w _, World.ownsRow_nil _ _ _ _, by simp [Value.ownBlock]⟩
end Go.Proofs.YtkodololdjainaaGreat

namespace Go.Proofs.YtkodololdjainaaGreat
set_option maxRecDepth 100000
open Go.Shelf Go.RowKit Go.Sort

set_option maxHeartbeats 4000000 in
set_option maxRecDepth 100000 in
theorem layI (a : Option Addr) (cap : Nat) (ns : List Nat) (w : World) (hrow : IntRow w a ns) (hl : ns.length ≤ 100000) (hsz : ∀ n ∈ ns, n ≤ 9007199254740992) :
    Calls Tryz.prog 17 #[.slice a ns.length cap, .func (.func 18) #[] #[]] w fun e w' => e = .returned (.tuple #[.string ⟨(encN ns).toArray⟩, .int .i64 0]) ∧ Go.RowKit.Below w.heap.size w w' := by
  have HROW := Lib.hid hrow
  have HSZ := Lib.hid hsz
  have hb0 : Go.RowKit.Below w.heap.size w (w.alloc (.cells #[.pointer none, .slice none 0 0] 92)) := (Below.refl _ _).alloc (Nat.le_refl _) _
  have HB0 := Lib.hid hb0
  have HBN := Lib.hid (bld_new w)
  clear hrow hsz hb0
  go_enter Tryz.func17, Tryz.ntmps17
  go_wp2_with fail
  go_loopw [13] (fun i wr => ∃ k : Nat, k ≤ ns.length ∧ i = .int .i64 k ∧ Hid (Lib.IsBuilder 92 5 w.heap.size w.heap.size (Lib.byteCells (encN (ns.take k))) wr ∧ Go.RowKit.Below w.heap.size w wr)) (fun i _ => ns.length - (intOf i).toNat)
  case atStart => exact ⟨0, Nat.zero_le _, rfl, ⟨HBN.out, HB0.out⟩⟩
  case round =>
    rename_i wr
    obtain ⟨k, hk, rfl, hh⟩ := hrel
    by_cases hlt : k < ns.length
    · obtain ⟨b, rfl, hlt', hc⟩ : ∃ b, a = some ⟨b, 0, none⟩ ∧ b < w.heap.size ∧ ∀ j, j < ns.length → wr.cell? ⟨b, j, none⟩ = some (.int .i64 (ns.getD j 0 : Nat)) := by
        rcases HROW.out with h | ⟨b, rfl, h1, h2⟩
        · rw [h] at hlt; simp at hlt
        · exact ⟨b, rfl, h1, fun j hj => by rw [hh.out.2.cell (p := ⟨b, j, none⟩) h1]; exact h2 j hj⟩
      have hck := hc k hlt
      have hbs := hh.out.2.size
      have hbw : b < wr.heap.size := by omega
      have hmem : ns.getD k 0 ∈ ns := by rw [List.getD_eq_getElem?_getD, List.getElem?_eq_getElem hlt]; exact List.getElem_mem _
      have HP := Lib.hid (num_ok _ (HSZ.out _ hmem) wr)
      have HE := Lib.hid (encN_snoc ns hlt)
      have HLE := Lib.hid (encN_len (ns.take k) (fun n hn => HSZ.out n (List.mem_of_mem_take hn)))
      have hul := Lib.uvarint_length64 (x := ns.getD k 0) (by have := HSZ.out _ hmem; omega)
      clear hc hmem
      generalize ns.getD k 0 = x at *
      obtain ⟨R, hR⟩ : ∃ R : ByteArray, ⟨(Lib.uvarint x).toArray⟩ = R := ⟨_, rfl⟩
      have HR := Lib.hid hR
      rw [hR] at HP
      clear hR
      go_wp2_with fail
      refine HP.out.mono ?_
      rintro e w2 ⟨rfl, hb2⟩
      have hbl := bld_below hh.out.1 hb2
      have HB2 := Lib.hid (hh.out.2.trans (hb2.mono hbs))
      have hRl : R.data.toList = Lib.uvarint x := by rw [← HR.out]
      have hws := Any.Builder_WriteString bldW bldX w.heap.size w.heap.size (Lib.byteCells (encN (ns.take k))) R w2 hbl (by
        have h2 := congrArg List.length hRl
        rw [ba_len] at h2
        have h3 := HLE.out
        rw [List.length_take] at h3
        simp only [Lib.byteCells, List.length_map]
        omega) HB2.out.size
      have HWS := Lib.hid hws
      have HRL := Lib.hid hRl
      clear hb2 hbl hws hRl hck
      go_wp2_with fail
      refine HWS.out.mono ?_
      rintro e w3 ⟨rfl, hbl3, hb3⟩
      have H3 := Lib.hid (show Lib.IsBuilder 92 5 w.heap.size w.heap.size (Lib.byteCells (encN (ns.take (k + 1)))) w3 ∧ Go.RowKit.Below w.heap.size w w3 from ⟨by
        rw [HE.out, ← HRL.out]
        right
        have e : Lib.byteCells (encN (ns.take k) ++ R.data.toList) = Lib.byteCells (encN (ns.take k)) ++ Lib.strCells R := by simp [Lib.byteCells, Lib.strCells]
        rw [e]; exact hbl3, HB2.out.trans hb3⟩)
      clear hbl3 hb3
      go_wp2_with fail
      go_roundw
      case rel => exact ⟨k + 1, by omega, by go_num, H3⟩
      case measure => simp [intOf]; omega
    · obtain rfl : k = ns.length := by omega
      have hs := Any.Builder_String_any bldS bldX w.heap.size w.heap.size (encN (ns.take ns.length)) wr hh.out.1 hh.out.2.size
      rw [List.take_length] at hs
      have HS := Lib.hid hs
      have HB := Lib.hid hh.out.2
      clear hs hh
      go_wp2_with fail
      refine HS.out.mono ?_
      rintro e w2 ⟨rfl, hb2⟩
      have H2 := Lib.hid (HB.out.trans hb2)
      clear hb2
      go_wp2_with fail
      go_ret2
      exact ⟨rfl, H2.out⟩

end Go.Proofs.YtkodololdjainaaGreat
