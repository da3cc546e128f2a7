/-
  strconv.ParseUint, strconv.Itoa and strings.CutPrefix: their bodies are those that the library's contracts were proved of; the contracts, at the seat.
  What the row's list says of the world: the sentinel of disk, the table of the powers of ten.
  Plain facts: the names of numbered files.
  A disk, and what the calls on it want of the world.
-/
import Derived.Test.YtjimgncefeldbaaGreatDoorBase
import Derived.Shelf.Pu.ParseUintPublic10
import Derived.Shelf.Strconv.Itoa3
import Derived.Shelf.Small.Wraps
import Derived.Lib.AppendIntMem
import Derived.Test.YtjimgncefeldbaaGreatDoorGDeeds
import Derived.LaidSub
import Derived.Lib.LaidTab
import Derived.Test.YtjimgncefeldbaaGreatDoorGDiskF
import Derived.Test.YtjimgncefeldbaaGreatDoorGFrame
import Derived.Lib.ItoaNum
import Derived.Lib.ParseIntB
import Derived.Test.YtjimgncefeldbaaGreatDoorGWireB
namespace Go.Proofs.YtjimgncefeldbaaGreatDoor
open Go.Shelf Go.RowKit

def puL_ren : Go.Shelf.Ren := ⟨fun | 14 => 114 | 16 => 138 | 17 => 139 | 19 => 151 | 20 => 152 | 21 => 153 | 22 => 154 | 23 => 155 | 24 => 156 | 25 => 177 | 27 => 107 | 26 => 178 | 28 => 131 | 29 => 149 | 30 => 172 | 31 => 173 | 32 => 174 | 33 => 175 | 35 => 167 | 34 => 187 | 36 => 188 | 37 => 189 | 38 => 190 | 39 => 194 | 40 => 195 | n => n, fun | 9 => 9 | 3 => 3 | 22 => 130 | 24 => 97 | 25 => 131 | 4 => 4 | 34 => 156 | 5 => 5 | 36 => 95 | 37 => 34 | 0 => 0 | 39 => 157 | 21 => 21 | 44 => 178 | 47 => 141 | 50 => 196 | 48 => 194 | 2 => 2 | 52 => 173 | 55 => 175 | 59 => 189 | 60 => 93 | 20 => 20 | 61 => 190 | 65 => 200 | 66 => 201 | 67 => 38 | n => n, fun | 0 => 3 | 1 => 4 | 2 => 5 | 3 => 6 | 4 => 7 | n => n⟩
theorem puL : LaysPu.n14 Tryz.prog puL_ren := {
  mixed := by kernel_rfl
  f14 := Tryz.func114.trans (congrArg some (by kernel_rfl))
  f16 := Tryz.func138.trans (congrArg some (by kernel_rfl))
  f17 := Tryz.func139.trans (congrArg some (by kernel_rfl))
  f19 := Tryz.func151.trans (congrArg some (by kernel_rfl))
  f20 := Tryz.func152.trans (congrArg some (by kernel_rfl))
  f21 := Tryz.func153.trans (congrArg some (by kernel_rfl))
  f22 := Tryz.func154.trans (congrArg some (by kernel_rfl))
  f23 := Tryz.func155.trans (congrArg some (by kernel_rfl))
  f24 := Tryz.func156.trans (congrArg some (by kernel_rfl))
  f25 := Tryz.func177.trans (congrArg some (by kernel_rfl))
  f26 := Tryz.func178.trans (congrArg some (by kernel_rfl))
  f27 := Tryz.func107.trans (congrArg some (by kernel_rfl))
  f28 := Tryz.func131.trans (congrArg some (by kernel_rfl))
  f29 := Tryz.func149.trans (congrArg some (by kernel_rfl))
  f30 := Tryz.func172.trans (congrArg some (by kernel_rfl))
  f31 := Tryz.func173.trans (congrArg some (by kernel_rfl))
  f32 := Tryz.func174.trans (congrArg some (by kernel_rfl))
  f33 := Tryz.func175.trans (congrArg some (by kernel_rfl))
  f34 := Tryz.func187.trans (congrArg some (by kernel_rfl))
  f35 := Tryz.func167.trans (congrArg some (by kernel_rfl))
  f36 := Tryz.func188.trans (congrArg some (by kernel_rfl))
  f37 := Tryz.func189.trans (congrArg some (by kernel_rfl))
  f38 := Tryz.func190.trans (congrArg some (by kernel_rfl))
  f39 := Tryz.func194.trans (congrArg some (by kernel_rfl))
  f40 := Tryz.func195.trans (congrArg some (by kernel_rfl))
  t0 := Tryz.underlying0
  a0 := Tryz.isAgg0
  z0 := Tryz.sizeOf0
  v0 := Tryz.zeroValue0
  i0 := by kernel_rfl
  t2 := Tryz.underlying2
  a2 := Tryz.isAgg2
  z2 := Tryz.sizeOf2
  v2 := Tryz.zeroValue2
  i2 := by kernel_rfl
  t3 := Tryz.underlying3
  a3 := Tryz.isAgg3
  z3 := Tryz.sizeOf3
  v3 := Tryz.zeroValue3
  i3 := by kernel_rfl
  t4 := Tryz.underlying4
  a4 := Tryz.isAgg4
  z4 := Tryz.sizeOf4
  v4 := Tryz.zeroValue4
  i4 := by kernel_rfl
  t5 := Tryz.underlying5
  a5 := Tryz.isAgg5
  z5 := Tryz.sizeOf5
  v5 := Tryz.zeroValue5
  i5 := by kernel_rfl
  t9 := Tryz.underlying9
  a9 := Tryz.isAgg9
  z9 := Tryz.sizeOf9
  v9 := Tryz.zeroValue9
  i9 := by kernel_rfl
  t20 := Tryz.underlying20
  a20 := Tryz.isAgg20
  z20 := Tryz.sizeOf20
  v20 := Tryz.zeroValue20
  i20 := by kernel_rfl
  t21 := Tryz.underlying21
  a21 := Tryz.isAgg21
  z21 := Tryz.sizeOf21
  v21 := Tryz.zeroValue21
  i21 := by kernel_rfl
  t22 := Tryz.underlying130
  a22 := Tryz.isAgg130
  z22 := Tryz.sizeOf130
  v22 := Tryz.zeroValue130
  i22 := by kernel_rfl
  t24 := Tryz.underlying97
  a24 := Tryz.isAgg97
  z24 := Tryz.sizeOf97
  v24 := Tryz.zeroValue97
  i24 := by kernel_rfl
  t25 := Tryz.underlying131
  a25 := Tryz.isAgg131
  z25 := Tryz.sizeOf131
  v25 := Tryz.zeroValue131
  i25 := by kernel_rfl
  t34 := Tryz.underlying156
  a34 := Tryz.isAgg156
  z34 := Tryz.sizeOf156
  v34 := Tryz.zeroValue156
  i34 := by kernel_rfl
  c34 := by kernel_rfl
  t36 := Tryz.underlying95
  a36 := Tryz.isAgg95
  z36 := Tryz.sizeOf95
  v36 := Tryz.zeroValue95
  i36 := by kernel_rfl
  t37 := Tryz.underlying34
  a37 := Tryz.isAgg34
  z37 := Tryz.sizeOf34
  v37 := Tryz.zeroValue34
  i37 := by kernel_rfl
  t39 := Tryz.underlying157
  a39 := Tryz.isAgg157
  z39 := Tryz.sizeOf157
  v39 := Tryz.zeroValue157
  i39 := by kernel_rfl
  t44 := Tryz.underlying178
  a44 := Tryz.isAgg178
  z44 := Tryz.sizeOf178
  v44 := Tryz.zeroValue178
  i44 := by kernel_rfl
  t47 := Tryz.underlying141
  a47 := Tryz.isAgg141
  z47 := Tryz.sizeOf141
  v47 := Tryz.zeroValue141
  i47 := by kernel_rfl
  t48 := Tryz.underlying194
  a48 := Tryz.isAgg194
  z48 := Tryz.sizeOf194
  v48 := Tryz.zeroValue194
  i48 := by kernel_rfl
  t50 := Tryz.underlying196
  a50 := Tryz.isAgg196
  z50 := Tryz.sizeOf196
  v50 := Tryz.zeroValue196
  i50 := by kernel_rfl
  t52 := Tryz.underlying173
  a52 := Tryz.isAgg173
  z52 := Tryz.sizeOf173
  v52 := Tryz.zeroValue173
  i52 := by kernel_rfl
  t55 := Tryz.underlying175
  a55 := Tryz.isAgg175
  z55 := Tryz.sizeOf175
  v55 := Tryz.zeroValue175
  i55 := by kernel_rfl
  t59 := Tryz.underlying189
  a59 := Tryz.isAgg189
  z59 := Tryz.sizeOf189
  v59 := Tryz.zeroValue189
  i59 := by kernel_rfl
  t60 := Tryz.underlying93
  a60 := Tryz.isAgg93
  z60 := Tryz.sizeOf93
  v60 := Tryz.zeroValue93
  i60 := by kernel_rfl
  t61 := Tryz.underlying190
  a61 := Tryz.isAgg190
  z61 := Tryz.sizeOf190
  t65 := Tryz.underlying200
  a65 := Tryz.isAgg200
  z65 := Tryz.sizeOf200
  v65 := Tryz.zeroValue200
  i65 := by kernel_rfl
  t66 := Tryz.underlying201
  a66 := Tryz.isAgg201
  z66 := Tryz.sizeOf201
  v66 := Tryz.zeroValue201
  i66 := by kernel_rfl
  t67 := Tryz.underlying38
  a67 := Tryz.isAgg38
  z67 := Tryz.sizeOf38
  v67 := Tryz.zeroValue38
  i67 := by kernel_rfl
  g0 := by kernel_rfl
  m0 := by kernel_rfl
  g1 := by kernel_rfl
  m1 := by kernel_rfl
  g2 := by kernel_rfl
  m2 := by kernel_rfl
  g3 := by kernel_rfl
  m3 := by kernel_rfl
  g4 := by kernel_rfl
  m4 := by kernel_rfl }

def itoaL_ren : Go.Shelf.Ren := ⟨fun | 171 => 107 | 243 => 131 | 246 => 149 | 283 => 172 | 284 => 173 | 285 => 174 | 286 => 175 | 129 => 167 | 317 => 187 | 318 => 188 | 319 => 189 | 320 => 190 | 337 => 194 | 338 => 195 | n => n, fun | 3 => 3 | 9 => 9 | 2 => 2 | 4 => 4 | 171 => 173 | 0 => 0 | 53 => 130 | 37 => 34 | 5 => 5 | 173 => 175 | 212 => 189 | 51 => 93 | 20 => 20 | 213 => 190 | 46 => 95 | 232 => 200 | 233 => 201 | n => n, fun | 17 => 5 | 18 => 6 | 19 => 7 | n => n⟩
theorem itoaL : LaysM.n171 Tryz.prog itoaL_ren := {
  mixed := by kernel_rfl
  f129 := Tryz.func167.trans (congrArg some (by kernel_rfl))
  f171 := Tryz.func107.trans (congrArg some (by kernel_rfl))
  f243 := Tryz.func131.trans (congrArg some (by kernel_rfl))
  f246 := Tryz.func149.trans (congrArg some (by kernel_rfl))
  f283 := Tryz.func172.trans (congrArg some (by kernel_rfl))
  f284 := Tryz.func173.trans (congrArg some (by kernel_rfl))
  f285 := Tryz.func174.trans (congrArg some (by kernel_rfl))
  f286 := Tryz.func175.trans (congrArg some (by kernel_rfl))
  f317 := Tryz.func187.trans (congrArg some (by kernel_rfl))
  f318 := Tryz.func188.trans (congrArg some (by kernel_rfl))
  f319 := Tryz.func189.trans (congrArg some (by kernel_rfl))
  f320 := Tryz.func190.trans (congrArg some (by kernel_rfl))
  f337 := Tryz.func194.trans (congrArg some (by kernel_rfl))
  f338 := Tryz.func195.trans (congrArg some (by kernel_rfl))
  t0 := Tryz.underlying0
  a0 := Tryz.isAgg0
  z0 := Tryz.sizeOf0
  v0 := Tryz.zeroValue0
  t2 := Tryz.underlying2
  a2 := Tryz.isAgg2
  z2 := Tryz.sizeOf2
  v2 := Tryz.zeroValue2
  t3 := Tryz.underlying3
  a3 := Tryz.isAgg3
  z3 := Tryz.sizeOf3
  v3 := Tryz.zeroValue3
  t4 := Tryz.underlying4
  a4 := Tryz.isAgg4
  z4 := Tryz.sizeOf4
  v4 := Tryz.zeroValue4
  t5 := Tryz.underlying5
  a5 := Tryz.isAgg5
  z5 := Tryz.sizeOf5
  v5 := Tryz.zeroValue5
  t9 := Tryz.underlying9
  a9 := Tryz.isAgg9
  z9 := Tryz.sizeOf9
  v9 := Tryz.zeroValue9
  t20 := Tryz.underlying20
  a20 := Tryz.isAgg20
  z20 := Tryz.sizeOf20
  v20 := Tryz.zeroValue20
  t37 := Tryz.underlying34
  a37 := Tryz.isAgg34
  z37 := Tryz.sizeOf34
  v37 := Tryz.zeroValue34
  t46 := Tryz.underlying95
  a46 := Tryz.isAgg95
  z46 := Tryz.sizeOf95
  v46 := Tryz.zeroValue95
  t51 := Tryz.underlying93
  a51 := Tryz.isAgg93
  z51 := Tryz.sizeOf93
  v51 := Tryz.zeroValue93
  t53 := Tryz.underlying130
  a53 := Tryz.isAgg130
  z53 := Tryz.sizeOf130
  v53 := Tryz.zeroValue130
  t171 := Tryz.underlying173
  a171 := Tryz.isAgg173
  z171 := Tryz.sizeOf173
  v171 := Tryz.zeroValue173
  t173 := Tryz.underlying175
  a173 := Tryz.isAgg175
  z173 := Tryz.sizeOf175
  v173 := Tryz.zeroValue175
  t212 := Tryz.underlying189
  a212 := Tryz.isAgg189
  z212 := Tryz.sizeOf189
  v212 := Tryz.zeroValue189
  t213 := Tryz.underlying190
  a213 := Tryz.isAgg190
  z213 := Tryz.sizeOf190
  t232 := Tryz.underlying200
  a232 := Tryz.isAgg200
  z232 := Tryz.sizeOf200
  v232 := Tryz.zeroValue200
  t233 := Tryz.underlying201
  a233 := Tryz.isAgg201
  z233 := Tryz.sizeOf201
  v233 := Tryz.zeroValue201
  g17 := by kernel_rfl
  g18 := by kernel_rfl
  g19 := by kernel_rfl
  i0 := by kernel_rfl
  i2 := by kernel_rfl
  i3 := by kernel_rfl
  i4 := by kernel_rfl
  i5 := by kernel_rfl
  i9 := by kernel_rfl
  i20 := by kernel_rfl
  i37 := by kernel_rfl
  i46 := by kernel_rfl
  i51 := by kernel_rfl
  i53 := by kernel_rfl
  i171 := by kernel_rfl
  i173 := by kernel_rfl
  i212 := by kernel_rfl
  i232 := by kernel_rfl
  i233 := by kernel_rfl
  m17 := by kernel_rfl
  m18 := by kernel_rfl
  m19 := by kernel_rfl }

def cutL_ren : Go.Shelf.Ren := ⟨fun | 103 => 113 | 210 => 137 | 206 => 143 | n => n, fun | 9 => 9 | 4 => 4 | 24 => 128 | 3 => 3 | n => n, fun | n => n⟩
theorem cutL : Lays.n103 Tryz.prog cutL_ren := {
  mixed := by kernel_rfl
  f103 := Tryz.func113.trans (congrArg some (by kernel_rfl))
  f206 := Tryz.func143.trans (congrArg some (by kernel_rfl))
  f210 := Tryz.func137.trans (congrArg some (by kernel_rfl))
  t3 := Tryz.underlying3
  a3 := Tryz.isAgg3
  z3 := Tryz.sizeOf3
  v3 := Tryz.zeroValue3
  t4 := Tryz.underlying4
  a4 := Tryz.isAgg4
  z4 := Tryz.sizeOf4
  v4 := Tryz.zeroValue4
  t9 := Tryz.underlying9
  a9 := Tryz.isAgg9
  z9 := Tryz.sizeOf9
  v9 := Tryz.zeroValue9
  t24 := Tryz.underlying128
  a24 := Tryz.isAgg128
  z24 := Tryz.sizeOf128
  v24 := Tryz.zeroValue128 }

theorem parseU (s : ByteArray) (hmax : s.size ≤ 9223372036854775806) (u : Nat) (h : Lib.parseUintB 64 s.data.toList = .ok u) (w : World) :
    Calls Tryz.prog 114 #[.string s, .int .i64 10, .int .i64 64] w fun e w' => e = .returned (.tuple #[.int .u64 u, .nilIface]) ∧ Below w.heap.size w w' := by
  refine (Any.strconv_ParseUint_10_at64_ok puL s hmax u h w).mono ?_
  rintro e w' ⟨rfl, hw⟩
  refine ⟨rfl, ?_⟩
  rcases hw with rfl | rfl
  · exact Below.refl _ _
  · exact Lib.bytesWorld_below _ _ _

/-- the table of the powers of ten is as the library lays it -/
def Pows (w : World) : Prop := Lib.TabIs Tryz.prog w "internal/strconv.uint64pow10" .u64 Lib.pow10Tab

theorem itoaC (n : Int) (h0 : -9223372036854775808 ≤ n) (h1 : n ≤ 9223372036854775807) (w : World) (ht : Pows w) :
    Calls Tryz.prog 107 #[.int .i64 n] w fun e w' => e = .returned (.string ⟨(Lib.itoa n).toArray⟩) ∧ Below w.heap.size w w' := by
  refine (Any.strconv_Itoa itoaL n h0 h1 w ht).mono ?_
  rintro e w' ⟨rfl, k, os, rfl⟩
  exact ⟨rfl, by
    exact Lib.below_grow _ _ (Nat.le_refl _) k os⟩

theorem cutC (s p : ByteArray) (w : World) :
    Calls Tryz.prog 113 #[.string s, .string p] w fun e w' => e = .returned (.tuple #[.string ⟨(Lib.trimPrefix s.data.toList p.data.toList).toArray⟩, .bool (Lib.hasPrefix s.data.toList p.data.toList)]) ∧ w' = w := Any.strings_CutPrefix cutL s p w
end Go.Proofs.YtjimgncefeldbaaGreatDoor

namespace Go.Proofs.YtjimgncefeldbaaGreatDoor
open Go.RowKit
set_option maxRecDepth 100000

theorem tPow10 : (Tryz.prog.globals[5]?).map (·.type) = some 189 := by kernel_rfl
theorem pow10_laid : (Rows.laid_internal_strconv_uint64pow10 : DataW Unit) = Lib.tabData .u64 Lib.pow10Tab := by rfl

theorem laid_of {W : World} (h : laidMetH Tryz.prog Rows.seglogAnyRow.laid W) : (∃ a, Pow a W) ∧ Pows W := by
  constructor
  · have h1 := laidMetH.filter (fun x => x.1 == "almonry/disk.errPower") h
    have e : (Rows.seglogAnyRow.laid.filter fun x => x.1 == "almonry/disk.errPower") = [("almonry/disk.errPower", Rows.laid_almonry_disk_errPower)] := by rfl
    rw [e] at h1
    exact pow_of h1 (by kernel_rfl)
  · rw [MakeChecks.laidMetH_plain _ _ _ (by rfl)] at h
    obtain ⟨g, t, cs, fuel, p, hg, ht, hv, hd⟩ := Lib.laidMet.reads (n := "internal/strconv.uint64pow10") (d := Rows.laid_internal_strconv_uint64pow10) h (.tail _ (.tail _ (.head _)))
    have hn : Tryz.prog.globalNamed "internal/strconv.uint64pow10" = some 5 := by kernel_rfl
    obtain rfl := Option.some.inj (hn.symm.trans hg)
    obtain rfl := Option.some.inj (tPow10.symm.trans ht)
    rw [pow10_laid] at hd
    have hcs := Lib.cells_of_tab Tryz.underlying189 Tryz.underlying130 (by kernel_rfl) (by kernel_rfl) hd
    unfold Pows Lib.TabIs
    rw [hv, ← hcs]

theorem Pows.kept {B : Nat} {w w' : World} (h : Pows w) (hb : Below B w w') (hB : 5 < B) : Pows w' := by
  have hn : Tryz.prog.globalNamed "internal/strconv.uint64pow10" = some 5 := by kernel_rfl
  unfold Pows Lib.TabIs World.var? at h ⊢
  rw [hn] at h ⊢
  simp only [Option.bind_some] at h ⊢
  rw [hb.block _ hB]
  exact h
end Go.Proofs.YtjimgncefeldbaaGreatDoor

namespace Go.Proofs.YtjimgncefeldbaaGreatDoor
open Go.Lib Go.RowKit

/-- a number, with a 1 ahead, and as it stands in a name -/
def wrapL (g : Nat) : List UInt8 := Lib.itoa ((100000000 : Int) + (g : Int))
def digL (g : Nat) : List UInt8 := (wrapL g).drop ((wrapL g).length - 8)
def dashN (nm : ByteArray) : ByteArray := ⟨(nm.data.toList ++ [45]).toArray⟩
def newN (nm : ByteArray) : ByteArray := ⟨(nm.data.toList ++ [45, 110, 101, 119]).toArray⟩
def genN (nm : ByteArray) (g : Nat) : ByteArray := ⟨(nm.data.toList ++ (45 :: digL g)).toArray⟩
def logB : ByteArray := ⟨#[108, 111, 103]⟩
def blobB : ByteArray := ⟨#[98, 108, 111, 98]⟩

theorem wrap_len : ∀ g : Fin 32, (wrapL g.val).length = 9 := by decide +kernel
theorem dig_len : ∀ g : Fin 32, (digL g.val).length = 8 := by decide +kernel
theorem dig_parse : ∀ g : Fin 32, Lib.parseUintB 64 (digL g.val) = .ok g.val := by decide +kernel
theorem log_gen_nm : ∀ g : Fin 32, isNm (genN logB g.val) = true := by decide +kernel
theorem blob_gen_nm : ∀ g : Fin 32, isNm (genN blobB g.val) = true := by decide +kernel
/-- how two numbers stand -/
def sgn (a b : Nat) : Int := if a < b then -1 else if a = b then 0 else 1
theorem dig_cmp : ∀ a b : Fin 32, compareBytes (digL a.val) (digL b.val) = sgn a.val b.val := by decide +kernel
theorem dig_new : ∀ a : Fin 32, compareBytes (digL a.val) [110, 101, 119] = -1 := by decide +kernel
theorem new_dig : ∀ a : Fin 32, compareBytes [110, 101, 119] (digL a.val) = 1 := by decide +kernel

/-- a name that a series may have -/
structure NmOk (nm : ByteArray) : Prop where
  pos : 0 < nm.size
  size : nm.size ≤ 32
  letters : ∀ (i : Nat) (hi : i < nm.size), 97 ≤ (nm[i]'hi).toNat ∧ (nm[i]'hi).toNat ≤ 122
  gen : ∀ g, g < 32 → isNm (genN nm g) = true
  new : isNm (newN nm) = true
theorem log_ok : NmOk logB := ⟨by decide, by decide, by decide, fun g hg => log_gen_nm ⟨g, hg⟩, by decide +kernel⟩
theorem blob_ok : NmOk blobB := ⟨by decide, by decide, by decide, fun g hg => blob_gen_nm ⟨g, hg⟩, by decide +kernel⟩

theorem prefix_app (p x : List UInt8) : Lib.hasPrefix (p ++ x) p = true := by unfold Lib.hasPrefix; exact List.isPrefixOf_iff_prefix.2 (List.prefix_append p x)
theorem trim_app (p x : List UInt8) : Lib.trimPrefix (p ++ x) p = x := by unfold Lib.trimPrefix; rw [prefix_app, if_pos rfl, List.drop_left]
theorem cmp_app (p a b : List UInt8) : compareBytes (p ++ a) (p ++ b) = compareBytes a b := by
  induction p with
  | nil => rfl
  | cons x p ih =>
    rw [List.cons_append, List.cons_append]
    conv => lhs; unfold compareBytes
    simp [ih]

theorem genN_list (nm : ByteArray) (g : Nat) : (genN nm g).data.toList = (nm.data.toList ++ [45]) ++ digL g := by simp [genN]
theorem newN_list (nm : ByteArray) : (newN nm).data.toList = (nm.data.toList ++ [45]) ++ [110, 101, 119] := by simp [newN]
theorem dashN_list (nm : ByteArray) : (dashN nm).data.toList = nm.data.toList ++ [45] := by simp [dashN]
theorem genN_size (nm : ByteArray) {g : Nat} (hg : g < 32) : (genN nm g).size = nm.size + 9 := by
  have h1 := dig_len ⟨g, hg⟩
  simp only at h1
  rw [← ba_len, genN_list, List.length_append, List.length_append, h1, ba_len]; simp
theorem newN_size (nm : ByteArray) : (newN nm).size = nm.size + 4 := by rw [← ba_len, newN_list, List.length_append, List.length_append, ba_len]; simp
theorem gen_preN (nm : ByteArray) (g : Nat) : Lib.hasPrefix (genN nm g).data.toList (dashN nm).data.toList = true := by rw [genN_list, dashN_list, prefix_app]
theorem new_preN (nm : ByteArray) : Lib.hasPrefix (newN nm).data.toList (dashN nm).data.toList = true := by rw [newN_list, dashN_list, prefix_app]
theorem gen_trimN (nm : ByteArray) (g : Nat) : Lib.trimPrefix (genN nm g).data.toList (dashN nm).data.toList = digL g := by rw [genN_list, dashN_list, trim_app]
theorem new_trimN (nm : ByteArray) : Lib.trimPrefix (newN nm).data.toList (dashN nm).data.toList = [110, 101, 119] := by rw [newN_list, dashN_list, trim_app]
theorem gen_cmpN (nm : ByteArray) {a b : Nat} (ha : a < 32) (hb : b < 32) : compareBytes (genN nm a).data.toList (genN nm b).data.toList = sgn a b := by rw [genN_list, genN_list, cmp_app]; exact dig_cmp ⟨a, ha⟩ ⟨b, hb⟩
theorem gen_newN (nm : ByteArray) {a : Nat} (ha : a < 32) : compareBytes (genN nm a).data.toList (newN nm).data.toList = -1 := by rw [genN_list, newN_list, cmp_app]; exact dig_new ⟨a, ha⟩
theorem new_genN (nm : ByteArray) {a : Nat} (ha : a < 32) : compareBytes (newN nm).data.toList (genN nm a).data.toList = 1 := by rw [genN_list, newN_list, cmp_app]; exact new_dig ⟨a, ha⟩
theorem new_newN (nm : ByteArray) : compareBytes (newN nm).data.toList (newN nm).data.toList = 0 := (cmp_zero _ _).2 rfl
theorem sgn_lt_iff {a b : Nat} : sgn a b < 0 ↔ a < b := by unfold sgn; split <;> (try split) <;> omega
theorem sgn_zero {a b : Nat} : sgn a b = 0 ↔ a = b := by unfold sgn; split <;> (try split) <;> omega
theorem genN_inj (nm : ByteArray) {a b : Nat} (ha : a < 32) (hb : b < 32) (h : genN nm a = genN nm b) : a = b := by
  have h1 := gen_cmpN nm ha hb
  rw [h, (cmp_zero _ _).2 rfl] at h1
  exact sgn_zero.1 h1.symm
theorem genN_ne_new (nm : ByteArray) {a : Nat} (ha : a < 32) : genN nm a ≠ newN nm := fun e => by
  have h1 := gen_newN nm ha
  rw [e, new_newN] at h1; omega
end Go.Proofs.YtjimgncefeldbaaGreatDoor

namespace Go.Proofs.YtjimgncefeldbaaGreatDoor
open Go.RowKit Go.Sort

theorem Fr.tr {b0 b1 b2 : List Nat} {w w1 w2 : World} (h : Fr b0 b1 w w1) (g : Fr b1 b2 w1 w2) : Fr b0 b2 w w2 :=
  ⟨g.os.trans h.os, g.tape.trans h.tape, g.output.trans h.output, Nat.le_trans h.size g.size,
    fun k hk hn => (g.block k (Nat.lt_of_lt_of_le hk h.size) (fun hb => by rcases h.fresh k hb with h1 | h1; exact hn h1; omega)).trans (h.block k hk hn),
    fun k hk => by
      rcases g.fresh k hk with h1 | h1
      · exact h.fresh k h1
      · exact .inr (Nat.le_trans h.size h1)⟩
theorem Fr.out {b0 b1 : List Nat} {w w1 : World} (h : Fr b0 b1 w w1) {k : Nat} (hk : k < w.heap.size) (hn : k ∉ b0) : k ∉ b1 := fun hb => by
  rcases h.fresh k hb with h1 | h1
  · exact hn h1
  · omega
theorem Fr.cons {b0 b1 : List Nat} {w w1 : World} (h : Fr b0 b1 w w1) (L : Nat) : Fr (L :: b0) (L :: b1) w w1 :=
  ⟨h.os, h.tape, h.output, h.size, fun k hk hn => h.block k hk (fun hb => hn (List.mem_cons_of_mem _ hb)), fun k hk => by
    rcases List.mem_cons.1 hk with rfl | hk
    · exact .inl (List.mem_cons_self ..)
    · rcases h.fresh k hk with h1 | h1
      · exact .inl (List.mem_cons_of_mem _ h1)
      · exact .inr h1⟩
theorem strRow_fr {b0 b1 : List Nat} {w w1 : World} {a : Option Addr} {ss : List ByteArray} (h : StrRow w a ss) (hf : Fr b0 b1 w w1) (hn : ∀ b off, a = some ⟨b, off, none⟩ → b ∉ b0) : StrRow w1 a ss := by
  rcases h with h | ⟨b, off, rfl, hlt, hc⟩
  · exact .inl h
  · refine .inr ⟨b, off, rfl, Nat.lt_of_lt_of_le hlt hf.size, fun j hj => ?_⟩
    rw [← hc j hj]
    exact World.cell?_of_block (hf.block b hlt (hn b off rfl))

/-- A disk, and what the calls on it want of the world. -/
structure SW (a : Addr) (B D : Nat) (s : DS) (bl : List Nat) (w : World) : Prop where
  disk : Disk B D s bl w
  pow : Pow a w
  tab : Pows w
  g1 : 0 < B
  g2 : 5 < B
theorem SW.size {a : Addr} {B D : Nat} {s : DS} {bl : List Nat} {w : World} (h : SW a B D s bl w) : B ≤ w.heap.size := by have := h.disk.base; omega
theorem SW.keep {a : Addr} {B D : Nat} {s : DS} {bl : List Nat} {w w' : World} (h : SW a B D s bl w) (hb : Below w.heap.size w w') : SW a B D s bl w' :=
  have hb' : Below B w w' := hb.mono h.size
  ⟨h.disk.keep hb, h.pow.below hb' h.g1, h.tab.kept hb' h.g2, h.g1, h.g2⟩
theorem SW.step {a : Addr} {B D : Nat} {s s' : DS} {bl bl' : List Nat} {w w' : World} (h : SW a B D s bl w) (hd : Disk B D s' bl' w') (hf : Fr bl bl' w w') : SW a B D s' bl' w' :=
  have hb : Below B w w' := hf.below (fun k hk => (h.disk.lt k hk).1) h.size
  ⟨hd, h.pow.below hb h.g1, h.tab.kept hb h.g2, h.g1, h.g2⟩
theorem SW.other {a : Addr} {B D : Nat} {s : DS} {bl b1 b2 : List Nat} {w w' : World} (h : SW a B D s bl w) (hf : Fr b1 b2 w w') (hB : ∀ k ∈ b1, B ≤ k) (hd : ∀ k ∈ bl, k ∉ b1) : SW a B D s bl w' :=
  have hb : Below B w w' := hf.below hB h.size
  ⟨(h.disk.other hf hd).1, h.pow.below hb h.g1, h.tab.kept hb h.g2, h.g1, h.g2⟩
theorem Fr.set (L : Nat) (i : Nat) (v : Value) (w : World) : Fr [L] [L] w (w.setCell ⟨L, i, none⟩ v) :=
  ⟨rfl, rfl, rfl, by simp, fun k _ hn => Below.heap_setCell _ _ _ _ (by simpa using hn), fun k hk => .inl hk⟩
theorem Fr.sets (L : Nat) (bl : List Nat) (i : Nat) (v : Value) (w : World) : Fr (L :: bl) (L :: bl) w (w.setCell ⟨L, i, none⟩ v) :=
  ⟨rfl, rfl, rfl, by simp, fun k _ hn => Below.heap_setCell _ _ _ _ (by simp at hn; exact hn.1), fun k hk => .inl hk⟩

/-- a file is removed, if it is there -/
def dropS (s : DS) (n : ByteArray) : Int × DS := if (removeS s n).1 = 7 then (0, (removeS s n).2) else removeS s n
/-- a file is made by way of another name -/
def layS (s : DS) (fresh body file : ByteArray) : Int × DS :=
  if (dropS s fresh).1 ≠ 0 then dropS s fresh else
  if (appendS (dropS s fresh).2 fresh body).1 ≠ 0 then appendS (dropS s fresh).2 fresh body else
  if (syncS (appendS (dropS s fresh).2 fresh body).2 fresh).1 ≠ 0 then syncS (appendS (dropS s fresh).2 fresh body).2 fresh else
  renameS (syncS (appendS (dropS s fresh).2 fresh body).2 fresh).2 fresh file
end Go.Proofs.YtjimgncefeldbaaGreatDoor
