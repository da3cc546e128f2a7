/-
  strings.Builder: its methods' bodies are those that the library's contracts were proved of; the contracts, at the seat.
  blob: ready, last, Get, Has, failed, extend, records.
  maps.Keys, slices.Sorted, slices.ContainsFunc: their bodies are those that the library's contracts were proved of; the contracts, at the seat; maps.Copy at chunks; IDs.
-/
import Derived.Test.YtjimgncefeldbaaGreatDoorBase
import Derived.Shelf.Strings.Builder1
import Derived.Test.YtjimgncefeldbaaGreatDoorGBlobA
import Derived.Shelf.SlIter.Sorted
import Derived.Shelf.SortM.Plain
import Derived.Shelf.SortM.SortNone
import Derived.Shelf.SlicesE.IndexFunc
import Derived.Lib.SlMapMerge
import Derived.Maps.RangeWalk
namespace Go.Proofs.YtjimgncefeldbaaGreatDoor
open Go.Shelf Go.RowKit

def bldL_ren : Go.Shelf.Ren := ⟨fun | 166 => 104 | 169 => 105 | 240 => 129 | 276 => 147 | n => n, fun | 0 => 0 | 3 => 3 | 4 => 4 | 5 => 5 | 9 => 9 | 20 => 20 | 37 => 34 | 70 => 119 | 72 => 121 | 75 => 97 | 80 => 38 | 127 => 141 | 164 => 150 | n => n, fun | n => n⟩
theorem bldW : Lays.n166 Tryz.prog bldL_ren := {
  mixed := by kernel_rfl
  f166 := Tryz.func104.trans (congrArg some (by kernel_rfl))
  f240 := Tryz.func129.trans (congrArg some (by kernel_rfl))
  f276 := Tryz.func147.trans (congrArg some (by kernel_rfl))
  t0 := Tryz.underlying0
  a0 := Tryz.isAgg0
  z0 := Tryz.sizeOf0
  v0 := Tryz.zeroValue0
  t3 := Tryz.underlying3
  a3 := Tryz.isAgg3
  z3 := Tryz.sizeOf3
  v3 := Tryz.zeroValue3
  t4 := Tryz.underlying4
  a4 := Tryz.isAgg4
  z4 := Tryz.sizeOf4
  v4 := Tryz.zeroValue4
  t9 := Tryz.underlying9
  a9 := Tryz.isAgg9
  z9 := Tryz.sizeOf9
  v9 := Tryz.zeroValue9
  t20 := Tryz.underlying20
  a20 := Tryz.isAgg20
  z20 := Tryz.sizeOf20
  v20 := Tryz.zeroValue20
  t37 := Tryz.underlying34
  a37 := Tryz.isAgg34
  z37 := Tryz.sizeOf34
  v37 := Tryz.zeroValue34
  t70 := Tryz.underlying119
  a70 := Tryz.isAgg119
  z70 := Tryz.sizeOf119
  v70 := Tryz.zeroValue119
  t72 := Tryz.underlying121
  a72 := Tryz.isAgg121
  z72 := Tryz.sizeOf121
  v72 := Tryz.zeroValue121
  t75 := Tryz.underlying97
  a75 := Tryz.isAgg97
  z75 := Tryz.sizeOf97
  v75 := Tryz.zeroValue97
  t164 := Tryz.underlying150
  a164 := Tryz.isAgg150
  z164 := Tryz.sizeOf150
  v164 := Tryz.zeroValue150 }

theorem bldS : Lays.n169 Tryz.prog bldL_ren := {
  mixed := by kernel_rfl
  f169 := Tryz.func105.trans (congrArg some (by kernel_rfl))
  t0 := Tryz.underlying0
  a0 := Tryz.isAgg0
  z0 := Tryz.sizeOf0
  v0 := Tryz.zeroValue0
  t3 := Tryz.underlying3
  a3 := Tryz.isAgg3
  z3 := Tryz.sizeOf3
  v3 := Tryz.zeroValue3
  t9 := Tryz.underlying9
  a9 := Tryz.isAgg9
  z9 := Tryz.sizeOf9
  v9 := Tryz.zeroValue9
  t37 := Tryz.underlying34
  a37 := Tryz.isAgg34
  z37 := Tryz.sizeOf34
  v37 := Tryz.zeroValue34
  t70 := Tryz.underlying119
  a70 := Tryz.isAgg119
  z70 := Tryz.sizeOf119
  v70 := Tryz.zeroValue119
  t72 := Tryz.underlying121
  a72 := Tryz.isAgg121
  z72 := Tryz.sizeOf121
  v72 := Tryz.zeroValue121
  t127 := Tryz.underlying141
  a127 := Tryz.isAgg141
  z127 := Tryz.sizeOf141
  v127 := Tryz.zeroValue141 }

theorem bldX : Builder.Extra Tryz.prog bldL_ren := {
  sizeBuilder := by kernel_rfl
  liesBuilder := by kernel_rfl
  t5 := Tryz.underlying5
  a5 := Tryz.isAgg5
  z5 := Tryz.sizeOf5
  v5 := Tryz.zeroValue5
  infoByte := by kernel_rfl
  cellsByte := by kernel_rfl
  sizeByte := by kernel_rfl
  neB5 := by decide
}


end Go.Proofs.YtjimgncefeldbaaGreatDoor

namespace Go.Proofs.YtjimgncefeldbaaGreatDoor
open Go.RowKit Go.Sort Go.Maps

/-- the greatest number of a segment -/
def lastN (zs : List Nat) : Nat := zs.getLast?.getD 0
/-- a file is appended to, and made sure -/
def extendS (s : DS) (n t : ByteArray) : Int × DS := if (appendS s n t).1 ≠ 0 then appendS s n t else syncS (appendS s n t).2 n
/-- the chunk of an ID -/
def getS (M : DU) (id : ByteArray) : ByteArray × Int := if hasC M id then (strAt M id, 0) else (⟨#[]⟩, 7)

section
variable {a : Addr} {B D S seg m N vc : Nat} {s : DS} {bl : List Nat} {M : DU} {va : Option Addr} {zs : List Nat} {torn en : Bool}

set_option maxHeartbeats 1000000 in
theorem blobReady (w : World) (h : ST a B D s bl S seg m N M va vc zs torn false w) :
    Calls Tryz.prog 54 #[.pointer (some ⟨S, 0, none⟩)] w fun e w' => e = .returned (.int .i64 0) ∧ w = w' := by
  have c7 := h.blk.c7
  clear h
  go_enter Tryz.func54, Tryz.ntmps54
  go_wp2_with fail
  go_ret
  exact ⟨rfl, rfl⟩

set_option maxHeartbeats 1000000 in
set_option maxRecDepth 100000 in
theorem last_any (w : World) (h : ST a B D s bl S seg m N M va vc zs torn en w) (hz : zs.length ≤ 1000) :
    Calls Tryz.prog 99 #[.pointer (some ⟨S, 0, none⟩)] w fun e w' => e = .returned (.int .i64 (lastN zs : Nat)) ∧ Below w.heap.size w w' := by
  have c5 := h.blk.c5
  have hlt := h.blk.lt
  obtain ⟨a', cap', e1, hrow, hcap, hmax⟩ := ownI_row h.own
  obtain ⟨rfl, rfl⟩ : va = a' ∧ vc = cap' := by simpa using e1
  clear h e1
  by_cases h0 : zs = []
  · subst h0
    go_enter Tryz.func99, Tryz.ntmps99
    go_wp2_with fail
    go_ret
    exact ⟨rfl, Below.refl _ _⟩
  · have hpos : 0 < zs.length := List.length_pos_iff.2 h0
    rcases hrow with hr | ⟨g, rfl, hg, hc⟩
    · exact absurd hr h0
    have hcl := hc (zs.length - 1) (by omega)
    have hlast : zs.getD (zs.length - 1) 0 = lastN zs := by
      unfold lastN
      rw [List.getD_eq_getElem?_getD, List.getLast?_eq_getElem?]
    rw [hlast] at hcl
    generalize lastN zs = Z at *
    clear hc hlast h0
    generalize zs.length = n at *
    have hne : ((n : Int) == 0) = false := by simp; omega
    have hp1 : ((n : Int) - 1).toNat = n - 1 := by omega
    have hp2 : (0 : Int) ≤ (n : Int) - 1 := by omega
    have hp3 : (n : Int) - 1 < (n : Int) := by omega
    have hp6 : IntKind.i64.wrap ((n : Int) - 1) = (n : Int) - 1 := by rw [IntKind.wrap_i64]; omega
    go_enter Tryz.func99, Tryz.ntmps99
    go_wp2_with fail
    go_quiet (fail)
    go_wp2_with fail
    go_ret
    exact ⟨rfl, belowN (Below.refl _ _) nq⟩

set_option maxHeartbeats 1000000 in
set_option maxRecDepth 100000 in
theorem get_any (w : World) (h : ST a B D s bl S seg m N M va vc zs torn en w) (id : ByteArray) (hid : id.size ≤ maxLen) :
    Calls Tryz.prog 27 #[.pointer (some ⟨S, 0, none⟩), .string id] w fun e w' => e = .returned (.tuple #[.string (getS M id).1, .int .i64 (getS M id).2]) ∧ Below w.heap.size w w' := by
  have c4 := h.blk.c4
  have hlt := h.blk.lt
  have hown := h.map
  unfold getS
  clear h
  cases hh : hasC M id
  · rw [if_neg (by simp)]
    have hh' : Maps.has M (kL id) = false := hh
    go_enter Tryz.func27, Tryz.ntmps27
    go_wp2_with (at_lookup; refine wpList_lookup_own_ok _ rfl _ _ 77 rfl 9 83 strKeyed Tryz.underlying77 pieceE (zeroPiece _) (vL ByteArray.empty) [] rfl m N M rfl hown _ (kL id) rfl (strKey hid) ?_; intro v ps hv; obtain ⟨s, rfl, hs⟩ := pieceE_inv hv; rw [hh'])
    go_ret2
    exact ⟨rfl, (Below.refl _ _).alloc (Nat.le_refl _) _⟩
  · rw [if_pos rfl]
    have hh' : Maps.has M (kL id) = true := hh
    go_enter Tryz.func27, Tryz.ntmps27
    go_wp2_with (at_lookup; refine wpList_lookup_own_ok _ rfl _ _ 77 rfl 9 83 strKeyed Tryz.underlying77 pieceE (zeroPiece _) (vL ByteArray.empty) [] rfl m N M rfl hown _ (kL id) rfl (strKey hid) ?_; intro v ps hv; obtain ⟨s, rfl, hs⟩ := pieceE_inv hv; rw [hh']; have hsa : strAt M id = s := strAt_eq (Prod.mk.inj hs).1)
    go_ret2
    exact ⟨by rw [hsa]; rfl, (Below.refl _ _).alloc (Nat.le_refl _) _⟩

set_option maxHeartbeats 1000000 in
set_option maxRecDepth 100000 in
theorem has_any (w : World) (h : ST a B D s bl S seg m N M va vc zs torn en w) (id : ByteArray) (hid : id.size ≤ maxLen) :
    Calls Tryz.prog 46 #[.pointer (some ⟨S, 0, none⟩), .string id] w fun e w' => e = .returned (.bool (hasC M id)) ∧ Below w.heap.size w w' := by
  have hg := get_any w h id hid
  clear h
  have hd : (((getS M id).2 == 0) = hasC M id) := by unfold getS; cases hasC M id <;> rfl
  rw [← hd]
  generalize (getS M id).1 = x at *
  generalize (getS M id).2 = y at *
  clear hd
  go_enter Tryz.func46, Tryz.ntmps46
  go_wp2_with fail
  refine hg.mono ?_
  rintro e w1 ⟨rfl, hb⟩
  clear hg
  go_wp2_with fail
  go_ret
  exact ⟨rfl, hb⟩

set_option maxHeartbeats 1000000 in
set_option maxRecDepth 100000 in
theorem failed_any (w : World) (h : ST a B D s bl S seg m N M va vc zs torn en w) (r : Int) :
    Calls Tryz.prog 64 #[.pointer (some ⟨S, 0, none⟩), .int .i64 r] w fun e w' => e = .returned (.int .i64 r) ∧ ST a B D s bl S seg m N M va vc zs torn (r != 9) w' ∧ Fr (sal S m va bl) (sal S m va bl) w w' := by
  have f7 := h.blk.free 7
  have c7 := h.blk.c7
  have hlt := h.blk.lt
  have H := Lib.hid (And.intro (h.setEnd (r != 9)) (h.fr_set 7 (.bool (r != 9))))
  clear h
  go_enter Tryz.func64, Tryz.ntmps64
  go_wp2_with fail
  go_ret
  exact ⟨rfl, H.out⟩

set_option maxHeartbeats 1000000 in
set_option maxRecDepth 100000 in
theorem extend_any (w : World) (h : ST a B D s bl S seg m N M va vc zs torn en w) (n t : ByteArray) (hn : n.size ≤ 1000) (ht : t.size ≤ 1000000) :
    Calls Tryz.prog 98 #[.pointer (some ⟨S, 0, none⟩), .string n, .string t] w fun e w' => ∃ bl', e = .returned (.int .i64 (extendS s n t).1) ∧ ST a B D (extendS s n t).2 bl' S seg m N M va vc zs torn en w' ∧ Fr (sal S m va bl) (sal S m va bl') w w' := by
  have c0 := h.blk.c0
  have hap := dAppend h.sw.disk n t a h.sw.pow h.sw.g1 (by omega) (by omega)
  have H := Lib.hid h
  obtain ⟨r1, s1, e1⟩ : ∃ r1 s1, appendS s n t = (r1, s1) := ⟨_, _, rfl⟩
  obtain ⟨r2, s2, e2⟩ : ∃ r2 s2, syncS s1 n = (r2, s2) := ⟨_, _, rfl⟩
  have he : extendS s n t = if r1 ≠ 0 then (r1, s1) else (r2, s2) := by unfold extendS; rw [e1]; simp only; rw [e2]
  have hsy := fun W bl1 (hW : SW a B D s1 bl1 W) => dSync hW.disk n a hW.pow hW.g1
  rw [e2] at hsy
  rw [he]
  rw [e1] at hap
  have HSY := Lib.hid hsy
  clear h e1 e2 he hsy
  by_cases h1 : r1 = 0
  · subst h1
    rw [if_neg (by simp)]
    go_enter Tryz.func98, Tryz.ntmps98
    go_wp2_with fail
    refine hap.mono ?_
    rintro e w1 ⟨bl1, rfl, hd, hf⟩
    have H1 := Lib.hid (And.intro (H.out.step hd hf) (H.out.stepFr hf))
    clear hd hf hap c0
    have c0 := H1.out.1.blk.c0
    go_wp2_with fail
    refine (HSY.out _ _ H1.out.1.sw).mono ?_
    rintro e w2 ⟨bl2, rfl, hd, hf⟩
    have H2 := Lib.hid (And.intro (H1.out.1.step hd hf) (H1.out.2.tr (H1.out.1.stepFr hf)))
    clear hd hf c0
    go_wp2_with fail
    go_ret
    exact ⟨bl2, rfl, H2.out⟩
  · rw [if_pos h1]
    have hne : (r1 != 0) = true := by simp [h1]
    go_enter Tryz.func98, Tryz.ntmps98
    go_wp2_with fail
    refine hap.mono ?_
    rintro e w1 ⟨bl1, rfl, hd, hf⟩
    have H1 := Lib.hid (And.intro (H.out.step hd hf) (H.out.stepFr hf))
    clear hd hf hap c0
    go_wp2_with fail
    go_ret
    exact ⟨bl1, rfl, H1.out⟩
end
end Go.Proofs.YtjimgncefeldbaaGreatDoor

namespace Go.Proofs.YtjimgncefeldbaaGreatDoor
open Go.Shelf Go.RowKit Go.Maps Go.Sort

def keysL_ren : Go.Shelf.Ren := ⟨fun | 7 => 88 | 10 => 117 | n => n, fun | 23 => 77 | 26 => 9 | 3 => 83 | 28 => 111 | 0 => 0 | 27 => 110 | 33 => 65 | 4 => 4 | n => n, fun | n => n⟩
theorem keysL : SlLaysZ.n7 Tryz.prog keysL_ren := {
  mixed := by kernel_rfl
  f7 := ⟨Tryz.f88.name, by decide, Tryz.func88.trans (congrArg some (by kernel_rfl))⟩
  f10 := ⟨Tryz.f117.name, by decide, Tryz.func117.trans (congrArg some (by kernel_rfl))⟩
  t0 := Tryz.underlying0
  a0 := Tryz.isAgg0
  z0 := Tryz.sizeOf0
  v0 := Tryz.zeroValue0
  t4 := Tryz.underlying4
  a4 := Tryz.isAgg4
  z4 := Tryz.sizeOf4
  v4 := Tryz.zeroValue4
  t23 := Tryz.underlying77
  a23 := Tryz.isAgg77
  z23 := Tryz.sizeOf77
  v23 := Tryz.zeroValue77
  t26 := Tryz.underlying9
  a26 := Tryz.isAgg9
  z26 := Tryz.sizeOf9
  v26 := Tryz.zeroValue9
  t27 := Tryz.underlying110
  a27 := Tryz.isAgg110
  z27 := Tryz.sizeOf110
  v27 := Tryz.zeroValue110
  t28 := Tryz.underlying111
  a28 := Tryz.isAgg111
  z28 := Tryz.sizeOf111
  v28 := Tryz.zeroValue111
  t33 := Tryz.underlying65
  a33 := Tryz.isAgg65
  z33 := Tryz.sizeOf65
  v33 := Tryz.zeroValue65 }

def sortedL_ren : Go.Shelf.Ren := ⟨fun | 6 => 87 | 8 => 115 | 9 => 116 | 11 => 140 | 13 => 142 | 12 => 141 | 23 => 166 | 24 => 167 | 14 => 157 | 15 => 158 | 16 => 159 | 17 => 160 | 18 => 161 | 19 => 162 | 20 => 163 | 21 => 164 | 22 => 165 | 25 => 179 | 26 => 180 | 27 => 181 | 28 => 182 | 29 => 183 | 30 => 184 | 31 => 192 | n => n, fun | 26 => 9 | 28 => 111 | 24 => 40 | 0 => 0 | 3 => 3 | 37 => 95 | 48 => 93 | 50 => 130 | 4 => 4 | 40 => 162 | 39 => 161 | 45 => 66 | 5 => 5 | 9 => 9 | 51 => 180 | 55 => 184 | 57 => 197 | 58 => 198 | 33 => 65 | n => n, fun | n => n⟩
theorem sortedL : SlLaysZ.n6 Tryz.prog sortedL_ren := {
  mixed := by kernel_rfl
  f6 := ⟨Tryz.f87.name, by decide, Tryz.func87.trans (congrArg some (by kernel_rfl))⟩
  f8 := ⟨Tryz.f115.name, by decide, Tryz.func115.trans (congrArg some (by kernel_rfl))⟩
  f11 := ⟨Tryz.f140.name, by decide, Tryz.func140.trans (congrArg some (by kernel_rfl))⟩
  t0 := Tryz.underlying0
  a0 := Tryz.isAgg0
  z0 := Tryz.sizeOf0
  v0 := Tryz.zeroValue0
  t24 := Tryz.underlying40
  a24 := Tryz.isAgg40
  z24 := Tryz.sizeOf40
  v24 := Tryz.zeroValue40
  t26 := Tryz.underlying9
  a26 := Tryz.isAgg9
  z26 := Tryz.sizeOf9
  v26 := Tryz.zeroValue9
  t28 := Tryz.underlying111
  a28 := Tryz.isAgg111
  z28 := Tryz.sizeOf111
  v28 := Tryz.zeroValue111
  i26 := by kernel_rfl }

def sortL_ren : Go.Shelf.Ren := ⟨fun | 6 => 116 | 8 => 142 | 9 => 141 | 19 => 166 | 20 => 167 | 21 => 157 | 22 => 158 | 23 => 159 | 24 => 160 | 25 => 161 | 26 => 162 | 27 => 163 | 28 => 164 | 29 => 165 | 36 => 179 | 31 => 180 | 32 => 181 | 37 => 182 | 38 => 183 | 39 => 184 | 41 => 192 | n => n, fun | 27 => 40 | 29 => 9 | 3 => 3 | 32 => 95 | 26 => 40 | 0 => 0 | 44 => 93 | 46 => 130 | 4 => 4 | 36 => 162 | 35 => 161 | 41 => 66 | 5 => 5 | 9 => 9 | 53 => 180 | 57 => 184 | 63 => 197 | 64 => 198 | n => n, fun | n => n⟩
theorem sortL : SlLaysM.n6 Tryz.prog sortL_ren := {
  mixed := by kernel_rfl
  f6 := ⟨Tryz.f116.name, by decide, Tryz.func116.trans (congrArg some (by kernel_rfl))⟩
  f8 := Tryz.func142.trans (congrArg some (by kernel_rfl))
  f9 := ⟨Tryz.f141.name, by decide, Tryz.func141.trans (congrArg some (by kernel_rfl))⟩
  f19 := Tryz.func166.trans (congrArg some (by kernel_rfl))
  f20 := Tryz.func167.trans (congrArg some (by kernel_rfl))
  f21 := ⟨Tryz.f157.name, by decide, Tryz.func157.trans (congrArg some (by kernel_rfl))⟩
  f22 := ⟨Tryz.f158.name, by decide, Tryz.func158.trans (congrArg some (by kernel_rfl))⟩
  f23 := ⟨Tryz.f159.name, by decide, Tryz.func159.trans (congrArg some (by kernel_rfl))⟩
  f24 := ⟨Tryz.f160.name, by decide, Tryz.func160.trans (congrArg some (by kernel_rfl))⟩
  f25 := ⟨Tryz.f161.name, by decide, Tryz.func161.trans (congrArg some (by kernel_rfl))⟩
  f26 := ⟨Tryz.f162.name, by decide, Tryz.func162.trans (congrArg some (by kernel_rfl))⟩
  f27 := ⟨Tryz.f163.name, by decide, Tryz.func163.trans (congrArg some (by kernel_rfl))⟩
  f28 := ⟨Tryz.f164.name, by decide, Tryz.func164.trans (congrArg some (by kernel_rfl))⟩
  f29 := ⟨Tryz.f165.name, by decide, Tryz.func165.trans (congrArg some (by kernel_rfl))⟩
  f31 := Tryz.func180.trans (congrArg some (by kernel_rfl))
  f32 := Tryz.func181.trans (congrArg some (by kernel_rfl))
  f36 := ⟨Tryz.f179.name, by decide, Tryz.func179.trans (congrArg some (by kernel_rfl))⟩
  f37 := ⟨Tryz.f182.name, by decide, Tryz.func182.trans (congrArg some (by kernel_rfl))⟩
  f38 := ⟨Tryz.f183.name, by decide, Tryz.func183.trans (congrArg some (by kernel_rfl))⟩
  f39 := ⟨Tryz.f184.name, by decide, Tryz.func184.trans (congrArg some (by kernel_rfl))⟩
  f41 := ⟨Tryz.f192.name, by decide, Tryz.func192.trans (congrArg some (by kernel_rfl))⟩
  t0 := Tryz.underlying0
  a0 := Tryz.isAgg0
  z0 := Tryz.sizeOf0
  v0 := Tryz.zeroValue0
  t3 := Tryz.underlying3
  a3 := Tryz.isAgg3
  z3 := Tryz.sizeOf3
  v3 := Tryz.zeroValue3
  t4 := Tryz.underlying4
  a4 := Tryz.isAgg4
  z4 := Tryz.sizeOf4
  v4 := Tryz.zeroValue4
  t5 := Tryz.underlying5
  a5 := Tryz.isAgg5
  z5 := Tryz.sizeOf5
  v5 := Tryz.zeroValue5
  t9 := Tryz.underlying9
  a9 := Tryz.isAgg9
  z9 := Tryz.sizeOf9
  v9 := Tryz.zeroValue9
  t26 := Tryz.underlying40
  a26 := Tryz.isAgg40
  z26 := Tryz.sizeOf40
  v26 := Tryz.zeroValue40
  t27 := Tryz.underlying40
  a27 := Tryz.isAgg40
  z27 := Tryz.sizeOf40
  v27 := Tryz.zeroValue40
  t29 := Tryz.underlying9
  a29 := Tryz.isAgg9
  z29 := Tryz.sizeOf9
  v29 := Tryz.zeroValue9
  t32 := Tryz.underlying95
  a32 := Tryz.isAgg95
  z32 := Tryz.sizeOf95
  v32 := Tryz.zeroValue95
  t35 := Tryz.underlying161
  a35 := Tryz.isAgg161
  z35 := Tryz.sizeOf161
  v35 := Tryz.zeroValue161
  t36 := Tryz.underlying162
  a36 := Tryz.isAgg162
  z36 := Tryz.sizeOf162
  v36 := Tryz.zeroValue162
  t41 := Tryz.underlying66
  a41 := Tryz.isAgg66
  z41 := Tryz.sizeOf66
  v41 := Tryz.zeroValue66
  t44 := Tryz.underlying93
  a44 := Tryz.isAgg93
  z44 := Tryz.sizeOf93
  v44 := Tryz.zeroValue93
  t46 := Tryz.underlying130
  a46 := Tryz.isAgg130
  z46 := Tryz.sizeOf130
  v46 := Tryz.zeroValue130
  t53 := Tryz.underlying180
  a53 := Tryz.isAgg180
  z53 := Tryz.sizeOf180
  v53 := Tryz.zeroValue180
  t57 := Tryz.underlying184
  a57 := Tryz.isAgg184
  z57 := Tryz.sizeOf184
  v57 := Tryz.zeroValue184
  t63 := Tryz.underlying197
  a63 := Tryz.isAgg197
  z63 := Tryz.sizeOf197
  v63 := Tryz.zeroValue197
  t64 := Tryz.underlying198
  a64 := Tryz.isAgg198
  z64 := Tryz.sizeOf198
  v64 := Tryz.zeroValue198 }

def contL_ren : Go.Shelf.Ren := ⟨fun | 8 => 55 | 6 => 94 | n => n, fun | 22 => 40 | 23 => 9 | 25 => 65 | 4 => 4 | 3 => 3 | 0 => 0 | n => n, fun | n => n⟩
theorem contL : SlLaysH.n8 Tryz.prog contL_ren := {
  mixed := by kernel_rfl
  f6 := ⟨Tryz.f94.name, by decide, Tryz.func94.trans (congrArg some (by kernel_rfl))⟩
  f8 := ⟨Tryz.f55.name, by decide, Tryz.func55.trans (congrArg some (by kernel_rfl))⟩
  t0 := Tryz.underlying0
  a0 := Tryz.isAgg0
  z0 := Tryz.sizeOf0
  v0 := Tryz.zeroValue0
  t3 := Tryz.underlying3
  a3 := Tryz.isAgg3
  z3 := Tryz.sizeOf3
  v3 := Tryz.zeroValue3
  t4 := Tryz.underlying4
  a4 := Tryz.isAgg4
  z4 := Tryz.sizeOf4
  v4 := Tryz.zeroValue4
  t22 := Tryz.underlying40
  a22 := Tryz.isAgg40
  z22 := Tryz.sizeOf40
  v22 := Tryz.zeroValue40
  a23 := Tryz.isAgg9
  z23 := Tryz.sizeOf9
  t25 := Tryz.underlying65
  a25 := Tryz.isAgg65
  z25 := Tryz.sizeOf65
  v25 := Tryz.zeroValue65 }


theorem sortsIn (m : Nat) : AnyZ.SortsIn Tryz.prog sortedL_ren Fence.wide m :=
  ⟨fun blk off cap ss W hH hblk hsz => callsIn_wide.2 (AnyM.slices_Sort_string sortL blk off cap ss W hH hblk hsz),
   fun p cap W => callsIn_wide.2 (AnyM.slices_Sort_string_none sortL p cap W)⟩

theorem keysC (mb : Option Nat) (W : World) : CallsIn Fence.wide 5 Tryz.prog 88 #[.map mb] W fun e w' => e = .returned (.func (.func 117) #[] #[.pointer (some ⟨W.heap.size, 0, none⟩)]) ∧ w' = W.alloc (.cells #[.map mb] 77) :=
  AnyZ.keys_in keysL Fence.wide 5 trivial rfl mb W

set_option maxHeartbeats 1000000 in
theorem sortedC (b nn : Nat) (M : DU) (w : World) (hown : OM w b nn M) (hmax : Maps.size M ≤ maxLen) (hbytes : Maps.size M * 16 ≤ 140737488355328) :
    CallsIn Fence.wide 5 Tryz.prog 87 #[.func (.func 117) #[] #[.pointer (some ⟨w.heap.size, 0, none⟩)]] (w.alloc (.cells #[.map (some b)] 77)) fun e w' => ∃ (v : Value) (ss : List (List UInt8)), e = .returned v ∧ ss.Perm (strKeys M) ∧
      w'.ownsRow (w.alloc (.cells #[.map (some b)] 77)).heap.size 9 1 v ss.length ((ss.mergeSort (fun x y => decide (x ≤ y))).map encStr) ∧ (v = .slice none 0 0 ↔ ss = []) ∧ Below (w.alloc (.cells #[.map (some b)] 77)).heap.size (w.alloc (.cells #[.map (some b)] 77)) w' := by
  have hbl := hown.lt
  have hseq : SeqGives Fence.wide 2 Tryz.prog 117 #[.pointer (some ⟨w.heap.size, 0, none⟩)] encStr (fun ss => ss.Perm (strKeys M)) (Maps.size M) (w.alloc (.cells #[.map (some b)] 77)) :=
    AnyZ.keys_gives (ρ := keysL_ren) { keysL with } Fence.wide _ trivial rfl (by omega) w.heap.size b nn M _ (by simp) (by simp) (by
      obtain ⟨es, clock, hb, Ft, hs, hD⟩ := hown
      exact ⟨es, clock, (Below.heap_alloc _ _ b hbl).trans hb, Ft, hs, hD⟩)
  exact AnyZ.sorted_in sortedL Fence.wide 5 trivial trivial trivial trivial rfl (by omega) (sortsIn _) (enters_of Tryz.func116 (by kernel_rfl) rfl) 117 #[.pointer (some ⟨w.heap.size, 0, none⟩)] trivial (enters_of Tryz.func117 (by kernel_rfl) rfl) _ _ hmax hbytes _ hseq

/-- these are the IDs of all chunks that are there -/
structure IdsOf (M : DU) (L : List ByteArray) : Prop where
  mem : ∀ id, id ∈ L ↔ hasC M id = true
  len : L.length = Maps.size M
  small : ∀ id ∈ L, id.size ≤ maxLen

theorem ids_of {w : World} {m N : Nat} {M : DU} (h : OM w m N M) {ss : List (List UInt8)} (hp : ss.Perm (strKeys M)) : IdsOf M ((ss.mergeSort (fun x y => decide (x ≤ y))).map fun l => ⟨l.toArray⟩) := by
  have hmem : ∀ x, x ∈ ss.mergeSort (fun x y => decide (x ≤ y)) ↔ x ∈ strKeys M := fun x => ((List.mergeSort_perm ss _).trans hp).mem_iff
  have hle := strKeys_le h Tryz.underlying9
  obtain ⟨es, rfl, hko⟩ := h.keysOf
  have hk : ∀ p ∈ es, ∃ x, p.1 = .string x := fun p hp => by obtain ⟨v, hv⟩ := hko p hp; obtain ⟨x, _, hx, _⟩ := Maps.keyOf_str Tryz.underlying9 hv; exact ⟨x, hx⟩
  refine ⟨fun id => ?_, ?_, fun id hid => ?_⟩
  · unfold hasC kL
    rw [has_eq, List.any_eq_true, List.mem_map]
    constructor
    · rintro ⟨x, hx, rfl⟩
      have hx' := (hmem x).1 hx
      obtain ⟨p, hp', rfl⟩ := List.mem_map.1 hx'
      obtain ⟨a, ha⟩ := hk p hp'
      exact ⟨p, hp', by rw [ha]; simp [Lit.sameKey, strOf]⟩
    · rintro ⟨p, hp', hs⟩
      obtain ⟨a, ha⟩ := hk p hp'
      rw [ha] at hs
      have hs' : a = id.data.toList := by simpa [Lit.sameKey] using hs
      refine ⟨a, (hmem a).2 (List.mem_map.2 ⟨p, hp', by rw [ha]; rfl⟩), ?_⟩
      rw [hs']
  · rw [List.length_map, List.length_mergeSort, hp.length_eq]
    simp [strKeys, Maps.size]
  · obtain ⟨x, hx, rfl⟩ := List.mem_map.1 hid
    exact hle x ((hmem x).1 hx)

set_option maxHeartbeats 1000000 in
set_option maxRecDepth 100000 in
theorem ids_any {a : Addr} {B D S seg m N vc : Nat} {s : DS} {bl : List Nat} {M : DU} {va : Option Addr} {zs : List Nat} {torn en : Bool} (w : World) (h : ST a B D s bl S seg m N M va vc zs torn en w) (hN : N ≤ 1000000) :
    Calls Tryz.prog 45 #[.pointer (some ⟨S, 0, none⟩)] w fun e w' => ∃ v L, e = .returned v ∧ OwnS w.heap.size v L w' ∧ IdsOf M L ∧ Below w.heap.size w w' := by
  have c4 := h.blk.c4
  have hlt := h.blk.lt
  have hown := h.map
  have hsz := hown.size_le
  have hids := fun (ss : List (List UInt8)) (hp : ss.Perm (strKeys M)) => ids_of hown hp
  have HS := Lib.hid (sortedC m N M w hown (by unfold maxLen; omega) (by omega))
  clear h
  refine (callsIn_wide (n := 6)).1 ?_
  have hfK : Fence.wide.fn 88 := trivial
  have hfS : Fence.wide.fn 87 := trivial
  refine callsIn_of_wp Tryz.func45 rfl trivial ?_ rfl
  simp only [Tryz.ntmps45, List.size_toArray, List.length_cons, List.length_nil, Nat.reduceAdd, Nat.reduceSub, Array.replicate_succ, Array.replicate_zero, List.push_toArray, List.append_toArray, List.nil_append, List.cons_append]
  gi_wp2_with (first
    | (gi_at_call 88; refine (keysC _ _).mono ?_; rintro e w' ⟨rfl, rfl⟩)
    | (gi_at_call 87; refine HS.out.mono ?_; rintro e w' ⟨v, ss, rfl, hS, hrow, hnil, hb⟩))
  go_ret
  refine ⟨v, _, rfl, ?_, hids ss hS, ((Below.refl _ w).alloc (Nat.le_refl _) _).trans (hb.mono (by simp))⟩
  have hr := ownsRow_base_a hrow (show w.heap.size ≤ _ by simp)
  unfold OwnS
  rw [List.length_map, List.length_mergeSort, List.map_map]
  exact hr

set_option maxHeartbeats 4000000 in
set_option maxRecDepth 100000 in
/-- maps.Copy of chunks into another map -/
theorem copyC (bd bs nd ns : Nat) (Dd Ds : DU) (w : World) (hd : OM w bd nd Dd) (hs : OM w bs ns Ds) (hne : bd ≠ bs) (hroom : nd + Maps.size Ds ≤ maxLen) :
    Calls Tryz.prog 59 #[.map (some bd), .map (some bs)] w fun e w' => e = .returned (.tuple #[]) ∧ ∃ Dout, OM w' bd (nd + Maps.size Ds) Dout ∧ Merged Dout Dd Ds (fun _ => false) ∧ w.grownBy w' (some bd) := by
  have hbd := hd.lt
  have hbs := hs.lt
  go_enter Tryz.func59, Tryz.ntmps59
  go_wp2_with (first
    | (at_range; refine wpList_range_own _ rfl _ 77 rfl 9 83 strKeyed Tryz.underlying77 pieceE bs ns _ rfl hs ?_; intro w0 hrg0 hg0 hs0)
    | go_in)
  go_frame
  go_loopw [8] (fun _ wr => ∃ (left : Lit → Bool) (cnt : Nat) (Dout : DU), wr.ranges Tryz.prog 9 pieceE bs w.heap.size ns Ds left cnt ∧ cnt ≤ Maps.size Ds ∧
      OM wr bd (nd + (Maps.size Ds - cnt)) Dout ∧ Merged Dout Dd Ds left ∧ w.grownBy wr (some bd))
    (fun _ wr => wr.rangeLeft bs w.heap.size)
  case atStart =>
    exact ⟨_, _, Dd, hrg0, Nat.le_refl _, (hd.kept hg0 (by simp)).mono (by omega), merged_start Dd Ds, hg0.but _⟩
  case round =>
    obtain ⟨left, cnt, Dout, hrg, hcs, hout, hM, hgw⟩ := hrel
    go_wp2_with (first
      | (at_next; refine wpList_next_ranges _ rfl _ rfl 9 strKeyed pieceE encStr (fun s : ByteArray => Value.agg #[Value.string s]) (fun key kl hk => by obtain ⟨x, hx, _⟩ := Maps.keyOf_str Tryz.underlying9 hk; exact ⟨x, hx⟩) (fun v y hv => by obtain ⟨s, rfl, _⟩ := pieceE_inv hv; exact ⟨s, rfl⟩) bs w.heap.size ns _ _ _ rfl hrg ?_ ?_)
      | go_in)
    · -- nothing is left
      intro hc0 hl0
      go_wp2
      go_end0
      subst hc0
      obtain rfl : left = fun _ => false := funext hl0
      exact ⟨rfl, Dout, by simpa using hout, hM, hgw⟩
    · -- an entry has come
      intro x c kl yd yp w1 cnt1 hkey hlx hv hat hrg1 hlt hg1 hs1 hen
      have hout1 := hout.kept hg1 (fun e => by have := Option.some.inj e; omega)
      have hgA := World.grownBy_alloc w1 (.cells #[.string c] 83) (some bd)
      have hout2 := hout1.alloc (.cells #[.string c] 83)
      have hrgA := hrg1.kept hgA (fun e => hne (Option.some.inj e).symm) (fun e => by have := Option.some.inj e; omega)
      clear hs1
      go_wp2_with (first
        | (at_mapUpdate; refine wpList_mapUpdate_own _ rfl _ _ _ 77 rfl 9 83 strKeyed Tryz.underlying77 pieceE bd _ _ rfl hout2 (by omega) _ _ _ rfl rfl hkey yd yp hv ?_; intro w2 hout3 hg2; go_frame)
        | go_in)
      have hrg2 := hrgA.kept hg2 (fun e => hne (Option.some.inj e).symm) (fun e => by have := Option.some.inj e; omega)
      go_roundw
      case rel =>
        exact ⟨_, cnt1, _, hrg2, by omega, hout3.mono (by omega), merged_step hM hout.isMap (strKeyed.key hkey) hat, ((hgw.andThen hg1 (fun j hj => .inl (by cases hj; exact Nat.le_refl _))).andThen hgA (fun j hj => .inr hj)).andThen hg2 (fun j hj => .inr hj)⟩
      case measure => rw [hrg2.left_eq, hrg.left_eq]; exact hlt
end Go.Proofs.YtjimgncefeldbaaGreatDoor
