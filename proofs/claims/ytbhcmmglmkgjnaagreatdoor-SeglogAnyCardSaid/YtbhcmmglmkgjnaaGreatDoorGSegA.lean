/-
  strconv.ParseUint, strconv.Itoa and strings.CutPrefix: their bodies are those that the library's contracts were proved of; the contracts, at the seat.
  What the row's list says of the world: the sentinel of disk, the table of the powers of ten.
  Plain facts: the names of a log's files.
  Plain facts: what seglog's acts make of a disk that has no fuse.
-/
import Derived.Test.YtbhcmmglmkgjnaaGreatDoorBase
import Derived.Shelf.Pu.ParseUintPublic10
import Derived.Shelf.Strconv.Itoa3
import Derived.Shelf.Small.Wraps
import Derived.Lib.AppendIntMem
import Derived.Test.YtbhcmmglmkgjnaaGreatDoorGDeeds
import Derived.LaidSub
import Derived.Lib.LaidTab
import Derived.Test.YtbhcmmglmkgjnaaGreatDoorGDiskF
import Derived.Test.YtbhcmmglmkgjnaaGreatDoorGFrame
import Derived.Lib.ItoaNum
import Derived.Lib.ParseIntB
namespace Go.Proofs.YtbhcmmglmkgjnaaGreatDoor
open Go.Shelf Go.RowKit

def puL_ren : Go.Shelf.Ren := ⟨fun | 14 => 66 | 16 => 79 | 17 => 80 | 19 => 88 | 20 => 89 | 21 => 90 | 22 => 91 | 23 => 92 | 24 => 93 | 25 => 101 | 27 => 57 | 26 => 102 | 28 => 70 | 29 => 85 | 30 => 96 | 31 => 97 | 32 => 98 | 33 => 99 | 35 => 105 | 34 => 104 | 36 => 106 | 37 => 107 | 38 => 108 | 39 => 110 | 40 => 111 | n => n, fun | 9 => 9 | 3 => 3 | 22 => 88 | 24 => 69 | 25 => 89 | 4 => 4 | 34 => 101 | 5 => 5 | 36 => 67 | 37 => 34 | 0 => 0 | 39 => 103 | 21 => 21 | 44 => 113 | 47 => 124 | 50 => 127 | 48 => 125 | 2 => 2 | 52 => 107 | 55 => 110 | 59 => 118 | 60 => 65 | 20 => 20 | 61 => 119 | 65 => 129 | 66 => 130 | 67 => 38 | n => n, fun | 0 => 2 | 1 => 3 | 2 => 4 | 3 => 5 | 4 => 6 | n => n⟩
theorem puL : LaysPu.n14 Tryz.prog puL_ren := {
  mixed := by kernel_rfl
  f14 := Tryz.func66.trans (congrArg some (by kernel_rfl))
  f16 := Tryz.func79.trans (congrArg some (by kernel_rfl))
  f17 := Tryz.func80.trans (congrArg some (by kernel_rfl))
  f19 := Tryz.func88.trans (congrArg some (by kernel_rfl))
  f20 := Tryz.func89.trans (congrArg some (by kernel_rfl))
  f21 := Tryz.func90.trans (congrArg some (by kernel_rfl))
  f22 := Tryz.func91.trans (congrArg some (by kernel_rfl))
  f23 := Tryz.func92.trans (congrArg some (by kernel_rfl))
  f24 := Tryz.func93.trans (congrArg some (by kernel_rfl))
  f25 := Tryz.func101.trans (congrArg some (by kernel_rfl))
  f26 := Tryz.func102.trans (congrArg some (by kernel_rfl))
  f27 := Tryz.func57.trans (congrArg some (by kernel_rfl))
  f28 := Tryz.func70.trans (congrArg some (by kernel_rfl))
  f29 := Tryz.func85.trans (congrArg some (by kernel_rfl))
  f30 := Tryz.func96.trans (congrArg some (by kernel_rfl))
  f31 := Tryz.func97.trans (congrArg some (by kernel_rfl))
  f32 := Tryz.func98.trans (congrArg some (by kernel_rfl))
  f33 := Tryz.func99.trans (congrArg some (by kernel_rfl))
  f34 := Tryz.func104.trans (congrArg some (by kernel_rfl))
  f35 := Tryz.func105.trans (congrArg some (by kernel_rfl))
  f36 := Tryz.func106.trans (congrArg some (by kernel_rfl))
  f37 := Tryz.func107.trans (congrArg some (by kernel_rfl))
  f38 := Tryz.func108.trans (congrArg some (by kernel_rfl))
  f39 := Tryz.func110.trans (congrArg some (by kernel_rfl))
  f40 := Tryz.func111.trans (congrArg some (by kernel_rfl))
  t0 := Tryz.underlying0
  a0 := Tryz.isAgg0
  z0 := Tryz.sizeOf0
  v0 := Tryz.zeroValue0
  i0 := by kernel_rfl
  t2 := Tryz.underlying2
  a2 := Tryz.isAgg2
  z2 := Tryz.sizeOf2
  v2 := Tryz.zeroValue2
  i2 := by kernel_rfl
  t3 := Tryz.underlying3
  a3 := Tryz.isAgg3
  z3 := Tryz.sizeOf3
  v3 := Tryz.zeroValue3
  i3 := by kernel_rfl
  t4 := Tryz.underlying4
  a4 := Tryz.isAgg4
  z4 := Tryz.sizeOf4
  v4 := Tryz.zeroValue4
  i4 := by kernel_rfl
  t5 := Tryz.underlying5
  a5 := Tryz.isAgg5
  z5 := Tryz.sizeOf5
  v5 := Tryz.zeroValue5
  i5 := by kernel_rfl
  t9 := Tryz.underlying9
  a9 := Tryz.isAgg9
  z9 := Tryz.sizeOf9
  v9 := Tryz.zeroValue9
  i9 := by kernel_rfl
  t20 := Tryz.underlying20
  a20 := Tryz.isAgg20
  z20 := Tryz.sizeOf20
  v20 := Tryz.zeroValue20
  i20 := by kernel_rfl
  t21 := Tryz.underlying21
  a21 := Tryz.isAgg21
  z21 := Tryz.sizeOf21
  v21 := Tryz.zeroValue21
  i21 := by kernel_rfl
  t22 := Tryz.underlying88
  a22 := Tryz.isAgg88
  z22 := Tryz.sizeOf88
  v22 := Tryz.zeroValue88
  i22 := by kernel_rfl
  t24 := Tryz.underlying69
  a24 := Tryz.isAgg69
  z24 := Tryz.sizeOf69
  v24 := Tryz.zeroValue69
  i24 := by kernel_rfl
  t25 := Tryz.underlying89
  a25 := Tryz.isAgg89
  z25 := Tryz.sizeOf89
  v25 := Tryz.zeroValue89
  i25 := by kernel_rfl
  t34 := Tryz.underlying101
  a34 := Tryz.isAgg101
  z34 := Tryz.sizeOf101
  v34 := Tryz.zeroValue101
  i34 := by kernel_rfl
  c34 := by kernel_rfl
  t36 := Tryz.underlying67
  a36 := Tryz.isAgg67
  z36 := Tryz.sizeOf67
  v36 := Tryz.zeroValue67
  i36 := by kernel_rfl
  t37 := Tryz.underlying34
  a37 := Tryz.isAgg34
  z37 := Tryz.sizeOf34
  v37 := Tryz.zeroValue34
  i37 := by kernel_rfl
  t39 := Tryz.underlying103
  a39 := Tryz.isAgg103
  z39 := Tryz.sizeOf103
  v39 := Tryz.zeroValue103
  i39 := by kernel_rfl
  t44 := Tryz.underlying113
  a44 := Tryz.isAgg113
  z44 := Tryz.sizeOf113
  v44 := Tryz.zeroValue113
  i44 := by kernel_rfl
  t47 := Tryz.underlying124
  a47 := Tryz.isAgg124
  z47 := Tryz.sizeOf124
  v47 := Tryz.zeroValue124
  i47 := by kernel_rfl
  t48 := Tryz.underlying125
  a48 := Tryz.isAgg125
  z48 := Tryz.sizeOf125
  v48 := Tryz.zeroValue125
  i48 := by kernel_rfl
  t50 := Tryz.underlying127
  a50 := Tryz.isAgg127
  z50 := Tryz.sizeOf127
  v50 := Tryz.zeroValue127
  i50 := by kernel_rfl
  t52 := Tryz.underlying107
  a52 := Tryz.isAgg107
  z52 := Tryz.sizeOf107
  v52 := Tryz.zeroValue107
  i52 := by kernel_rfl
  t55 := Tryz.underlying110
  a55 := Tryz.isAgg110
  z55 := Tryz.sizeOf110
  v55 := Tryz.zeroValue110
  i55 := by kernel_rfl
  t59 := Tryz.underlying118
  a59 := Tryz.isAgg118
  z59 := Tryz.sizeOf118
  v59 := Tryz.zeroValue118
  i59 := by kernel_rfl
  t60 := Tryz.underlying65
  a60 := Tryz.isAgg65
  z60 := Tryz.sizeOf65
  v60 := Tryz.zeroValue65
  i60 := by kernel_rfl
  t61 := Tryz.underlying119
  a61 := Tryz.isAgg119
  z61 := Tryz.sizeOf119
  t65 := Tryz.underlying129
  a65 := Tryz.isAgg129
  z65 := Tryz.sizeOf129
  v65 := Tryz.zeroValue129
  i65 := by kernel_rfl
  t66 := Tryz.underlying130
  a66 := Tryz.isAgg130
  z66 := Tryz.sizeOf130
  v66 := Tryz.zeroValue130
  i66 := by kernel_rfl
  t67 := Tryz.underlying38
  a67 := Tryz.isAgg38
  z67 := Tryz.sizeOf38
  v67 := Tryz.zeroValue38
  i67 := by kernel_rfl
  g0 := by kernel_rfl
  m0 := by kernel_rfl
  g1 := by kernel_rfl
  m1 := by kernel_rfl
  g2 := by kernel_rfl
  m2 := by kernel_rfl
  g3 := by kernel_rfl
  m3 := by kernel_rfl
  g4 := by kernel_rfl
  m4 := by kernel_rfl }

def itoaL_ren : Go.Shelf.Ren := ⟨fun | 171 => 57 | 243 => 70 | 246 => 85 | 283 => 96 | 284 => 97 | 285 => 98 | 286 => 99 | 129 => 105 | 317 => 104 | 318 => 106 | 319 => 107 | 320 => 108 | 337 => 110 | 338 => 111 | n => n, fun | 3 => 3 | 9 => 9 | 2 => 2 | 4 => 4 | 171 => 107 | 0 => 0 | 53 => 88 | 37 => 34 | 5 => 5 | 173 => 110 | 212 => 118 | 51 => 65 | 20 => 20 | 213 => 119 | 46 => 67 | 232 => 129 | 233 => 130 | n => n, fun | 17 => 4 | 18 => 5 | 19 => 6 | n => n⟩
theorem itoaL : LaysM.n171 Tryz.prog itoaL_ren := {
  mixed := by kernel_rfl
  f129 := Tryz.func105.trans (congrArg some (by kernel_rfl))
  f171 := Tryz.func57.trans (congrArg some (by kernel_rfl))
  f243 := Tryz.func70.trans (congrArg some (by kernel_rfl))
  f246 := Tryz.func85.trans (congrArg some (by kernel_rfl))
  f283 := Tryz.func96.trans (congrArg some (by kernel_rfl))
  f284 := Tryz.func97.trans (congrArg some (by kernel_rfl))
  f285 := Tryz.func98.trans (congrArg some (by kernel_rfl))
  f286 := Tryz.func99.trans (congrArg some (by kernel_rfl))
  f317 := Tryz.func104.trans (congrArg some (by kernel_rfl))
  f318 := Tryz.func106.trans (congrArg some (by kernel_rfl))
  f319 := Tryz.func107.trans (congrArg some (by kernel_rfl))
  f320 := Tryz.func108.trans (congrArg some (by kernel_rfl))
  f337 := Tryz.func110.trans (congrArg some (by kernel_rfl))
  f338 := Tryz.func111.trans (congrArg some (by kernel_rfl))
  t0 := Tryz.underlying0
  a0 := Tryz.isAgg0
  z0 := Tryz.sizeOf0
  v0 := Tryz.zeroValue0
  t2 := Tryz.underlying2
  a2 := Tryz.isAgg2
  z2 := Tryz.sizeOf2
  v2 := Tryz.zeroValue2
  t3 := Tryz.underlying3
  a3 := Tryz.isAgg3
  z3 := Tryz.sizeOf3
  v3 := Tryz.zeroValue3
  t4 := Tryz.underlying4
  a4 := Tryz.isAgg4
  z4 := Tryz.sizeOf4
  v4 := Tryz.zeroValue4
  t5 := Tryz.underlying5
  a5 := Tryz.isAgg5
  z5 := Tryz.sizeOf5
  v5 := Tryz.zeroValue5
  t9 := Tryz.underlying9
  a9 := Tryz.isAgg9
  z9 := Tryz.sizeOf9
  v9 := Tryz.zeroValue9
  t20 := Tryz.underlying20
  a20 := Tryz.isAgg20
  z20 := Tryz.sizeOf20
  v20 := Tryz.zeroValue20
  t37 := Tryz.underlying34
  a37 := Tryz.isAgg34
  z37 := Tryz.sizeOf34
  v37 := Tryz.zeroValue34
  t46 := Tryz.underlying67
  a46 := Tryz.isAgg67
  z46 := Tryz.sizeOf67
  v46 := Tryz.zeroValue67
  t51 := Tryz.underlying65
  a51 := Tryz.isAgg65
  z51 := Tryz.sizeOf65
  v51 := Tryz.zeroValue65
  t53 := Tryz.underlying88
  a53 := Tryz.isAgg88
  z53 := Tryz.sizeOf88
  v53 := Tryz.zeroValue88
  t171 := Tryz.underlying107
  a171 := Tryz.isAgg107
  z171 := Tryz.sizeOf107
  v171 := Tryz.zeroValue107
  t173 := Tryz.underlying110
  a173 := Tryz.isAgg110
  z173 := Tryz.sizeOf110
  v173 := Tryz.zeroValue110
  t212 := Tryz.underlying118
  a212 := Tryz.isAgg118
  z212 := Tryz.sizeOf118
  v212 := Tryz.zeroValue118
  t213 := Tryz.underlying119
  a213 := Tryz.isAgg119
  z213 := Tryz.sizeOf119
  t232 := Tryz.underlying129
  a232 := Tryz.isAgg129
  z232 := Tryz.sizeOf129
  v232 := Tryz.zeroValue129
  t233 := Tryz.underlying130
  a233 := Tryz.isAgg130
  z233 := Tryz.sizeOf130
  v233 := Tryz.zeroValue130
  g17 := by kernel_rfl
  g18 := by kernel_rfl
  g19 := by kernel_rfl
  i0 := by kernel_rfl
  i2 := by kernel_rfl
  i3 := by kernel_rfl
  i4 := by kernel_rfl
  i5 := by kernel_rfl
  i9 := by kernel_rfl
  i20 := by kernel_rfl
  i37 := by kernel_rfl
  i46 := by kernel_rfl
  i51 := by kernel_rfl
  i53 := by kernel_rfl
  i171 := by kernel_rfl
  i173 := by kernel_rfl
  i212 := by kernel_rfl
  i232 := by kernel_rfl
  i233 := by kernel_rfl
  m17 := by kernel_rfl
  m18 := by kernel_rfl
  m19 := by kernel_rfl }

def cutL_ren : Go.Shelf.Ren := ⟨fun | 103 => 65 | 210 => 78 | 206 => 74 | n => n, fun | 9 => 9 | 4 => 4 | 24 => 86 | 3 => 3 | n => n, fun | n => n⟩
theorem cutL : Lays.n103 Tryz.prog cutL_ren := {
  mixed := by kernel_rfl
  f103 := Tryz.func65.trans (congrArg some (by kernel_rfl))
  f206 := Tryz.func74.trans (congrArg some (by kernel_rfl))
  f210 := Tryz.func78.trans (congrArg some (by kernel_rfl))
  t3 := Tryz.underlying3
  a3 := Tryz.isAgg3
  z3 := Tryz.sizeOf3
  v3 := Tryz.zeroValue3
  t4 := Tryz.underlying4
  a4 := Tryz.isAgg4
  z4 := Tryz.sizeOf4
  v4 := Tryz.zeroValue4
  t9 := Tryz.underlying9
  a9 := Tryz.isAgg9
  z9 := Tryz.sizeOf9
  v9 := Tryz.zeroValue9
  t24 := Tryz.underlying86
  a24 := Tryz.isAgg86
  z24 := Tryz.sizeOf86
  v24 := Tryz.zeroValue86 }

theorem parseU (s : ByteArray) (hmax : s.size ≤ 9223372036854775806) (u : Nat) (h : Lib.parseUintB 64 s.data.toList = .ok u) (w : World) :
    Calls Tryz.prog 66 #[.string s, .int .i64 10, .int .i64 64] w fun e w' => e = .returned (.tuple #[.int .u64 u, .nilIface]) ∧ Below w.heap.size w w' := by
  refine (Any.strconv_ParseUint_10_at64_ok puL s hmax u h w).mono ?_
  rintro e w' ⟨rfl, hw⟩
  refine ⟨rfl, ?_⟩
  rcases hw with rfl | rfl
  · exact Below.refl _ _
  · exact Lib.bytesWorld_below _ _ _

/-- the table of the powers of ten is as the library lays it -/
def Pows (w : World) : Prop := Lib.TabIs Tryz.prog w "internal/strconv.uint64pow10" .u64 Lib.pow10Tab

theorem itoaC (n : Int) (h0 : -9223372036854775808 ≤ n) (h1 : n ≤ 9223372036854775807) (w : World) (ht : Pows w) :
    Calls Tryz.prog 57 #[.int .i64 n] w fun e w' => e = .returned (.string ⟨(Lib.itoa n).toArray⟩) ∧ Below w.heap.size w w' := by
  refine (Any.strconv_Itoa itoaL n h0 h1 w ht).mono ?_
  rintro e w' ⟨rfl, k, os, rfl⟩
  exact ⟨rfl, by
    exact Lib.below_grow _ _ (Nat.le_refl _) k os⟩

theorem cutC (s p : ByteArray) (w : World) :
    Calls Tryz.prog 65 #[.string s, .string p] w fun e w' => e = .returned (.tuple #[.string ⟨(Lib.trimPrefix s.data.toList p.data.toList).toArray⟩, .bool (Lib.hasPrefix s.data.toList p.data.toList)]) ∧ w' = w := Any.strings_CutPrefix cutL s p w
end Go.Proofs.YtbhcmmglmkgjnaaGreatDoor

namespace Go.Proofs.YtbhcmmglmkgjnaaGreatDoor
open Go.RowKit
set_option maxRecDepth 100000

theorem tPow10 : (Tryz.prog.globals[4]?).map (·.type) = some 118 := by kernel_rfl
theorem pow10_laid : (Rows.laid_internal_strconv_uint64pow10 : DataW Unit) = Lib.tabData .u64 Lib.pow10Tab := by rfl

theorem laid_of {W : World} (h : laidMetH Tryz.prog Rows.seglogAnyRow.laid W) : (∃ a, Pow a W) ∧ Pows W := by
  constructor
  · have h1 := laidMetH.filter (fun x => x.1 == "almonry/disk.errPower") h
    have e : (Rows.seglogAnyRow.laid.filter fun x => x.1 == "almonry/disk.errPower") = [("almonry/disk.errPower", Rows.laid_almonry_disk_errPower)] := by rfl
    rw [e] at h1
    exact pow_of h1 (by kernel_rfl)
  · rw [MakeChecks.laidMetH_plain _ _ _ (by rfl)] at h
    obtain ⟨g, t, cs, fuel, p, hg, ht, hv, hd⟩ := Lib.laidMet.reads (n := "internal/strconv.uint64pow10") (d := Rows.laid_internal_strconv_uint64pow10) h (.tail _ (.tail _ (.head _)))
    have hn : Tryz.prog.globalNamed "internal/strconv.uint64pow10" = some 4 := by kernel_rfl
    obtain rfl := Option.some.inj (hn.symm.trans hg)
    obtain rfl := Option.some.inj (tPow10.symm.trans ht)
    rw [pow10_laid] at hd
    have hcs := Lib.cells_of_tab Tryz.underlying118 Tryz.underlying88 (by kernel_rfl) (by kernel_rfl) hd
    unfold Pows Lib.TabIs
    rw [hv, ← hcs]

theorem Pows.kept {B : Nat} {w w' : World} (h : Pows w) (hb : Below B w w') (hB : 4 < B) : Pows w' := by
  have hn : Tryz.prog.globalNamed "internal/strconv.uint64pow10" = some 4 := by kernel_rfl
  unfold Pows Lib.TabIs World.var? at h ⊢
  rw [hn] at h ⊢
  simp only [Option.bind_some] at h ⊢
  rw [hb.block _ hB]
  exact h
end Go.Proofs.YtbhcmmglmkgjnaaGreatDoor

namespace Go.Proofs.YtbhcmmglmkgjnaaGreatDoor
open Go.Lib Go.RowKit

def logB : ByteArray := ⟨#[108, 111, 103]⟩
def newB : ByteArray := ⟨#[108, 111, 103, 45, 110, 101, 119]⟩
def dashB : ByteArray := ⟨#[108, 111, 103, 45]⟩
/-- a generation, with a 1 ahead, and as it stands in a name -/
def wrapL (g : Nat) : List UInt8 := Lib.itoa ((100000000 : Int) + (g : Int))
def digL (g : Nat) : List UInt8 := (wrapL g).drop ((wrapL g).length - 8)
def genB (g : Nat) : ByteArray := ⟨([108, 111, 103, 45] ++ digL g).toArray⟩

theorem wrap_len : ∀ g : Fin 12, (wrapL g.val).length = 9 := by decide +kernel
theorem dig_len : ∀ g : Fin 12, (digL g.val).length = 8 := by decide +kernel
theorem gen_parse : ∀ g : Fin 12, Lib.parseUintB 64 (digL g.val) = .ok g.val := by decide +kernel
theorem gen_pre : ∀ g : Fin 12, Lib.hasPrefix (genB g.val).data.toList dashB.data.toList = true := by decide +kernel
theorem gen_trim : ∀ g : Fin 12, Lib.trimPrefix (genB g.val).data.toList dashB.data.toList = digL g.val := by decide +kernel
theorem gen_nm : ∀ g : Fin 12, isNm (genB g.val) = true := by decide +kernel
theorem new_nm : isNm newB = true := by decide +kernel
theorem gen_size : ∀ g : Fin 12, (genB g.val).size = 12 := by decide +kernel
/-- how two names stand -/
def sgn (a b : Nat) : Int := if a < b then -1 else if a = b then 0 else 1
theorem gen_cmp : ∀ a b : Fin 12, compareBytes (genB a.val).data.toList (genB b.val).data.toList = sgn a.val b.val := by decide +kernel
theorem gen_new : ∀ a : Fin 12, compareBytes (genB a.val).data.toList newB.data.toList = -1 := by decide +kernel
theorem new_gen : ∀ a : Fin 12, compareBytes newB.data.toList (genB a.val).data.toList = 1 := by decide +kernel
theorem new_new : compareBytes newB.data.toList newB.data.toList = 0 := by decide +kernel
theorem gen_inj {a b : Nat} (ha : a < 12) (hb : b < 12) (h : genB a = genB b) : a = b := by
  have h1 := gen_cmp ⟨a, ha⟩ ⟨b, hb⟩
  simp only at h1
  rw [h] at h1
  have h2 := gen_cmp ⟨b, hb⟩ ⟨b, hb⟩
  simp only at h2
  rw [h2] at h1
  unfold sgn at h1
  simp only [Nat.lt_irrefl, if_false, if_true] at h1
  by_cases h3 : a < b
  · rw [if_pos h3] at h1; omega
  · rw [if_neg h3] at h1
    by_cases h4 : a = b
    · exact h4
    · rw [if_neg h4] at h1; omega
theorem gen_ne_new {a : Nat} (ha : a < 12) : genB a ≠ newB := fun e => by
  have h1 := gen_new ⟨a, ha⟩
  simp only at h1
  rw [e, new_new] at h1; omega
end Go.Proofs.YtbhcmmglmkgjnaaGreatDoor

namespace Go.Proofs.YtbhcmmglmkgjnaaGreatDoor
open Go.Lib Go.RowKit

/-- a file is removed, if it is there -/
def dropS (s : DS) (n : ByteArray) : Int × DS := if (removeS s n).1 = 7 then (0, (removeS s n).2) else removeS s n
def eachS : DS → List ByteArray → Int × DS
  | s, [] => (0, s)
  | s, n :: t => if (dropS s n).1 = 0 then eachS (dropS s n).2 t else dropS s n

/-- neither off nor with a fuse -/
structure Calm (s : DS) : Prop where
  off : s.off = false
  fused : s.fused = false

theorem Calm.out {s : DS} (c : Calm s) : s.out = false := by unfold DS.out; rw [c.fused]; rfl
theorem Calm.pay {s : DS} (c : Calm s) : s.pay = s := by cases s; have := c.fused; simp only at this; subst this; simp [DS.pay]
theorem Calm.act {s : DS} (c : Calm s) (l : List FS) : actS s l = (0, { s with l := l }) := by unfold actS; rw [c.out, c.pay]; rfl

theorem cmpS_self {n : ByteArray} {f : FS} (h : f.name = n) : cmpS n f = 0 := by unfold cmpS; rw [h]; exact (cmp_zero _ _).2 rfl
theorem cmp_ne {a b : ByteArray} (h : compareBytes a.data.toList b.data.toList ≠ 0) : a ≠ b := fun e => h (by rw [e]; exact (cmp_zero _ _).2 rfl)

theorem not_there {l : List FS} (h : SRise l) {n : ByteArray} (ht : sthere l n = false) : ∀ f ∈ l, f.name ≠ n := by
  intro f hf e
  obtain ⟨k, hk⟩ := List.mem_iff_getElem?.1 hf
  have h0 := cmpS_self e
  by_cases hlt : k < spos l n
  · have := before_pos hlt hk; omega
  · have := after_pos h ht (by omega) hk; omega
theorem is_there {l : List FS} (h : SRise l) {f : FS} (hf : f ∈ l) : sthere l f.name = true ∧ l[spos l f.name]? = some f := by
  cases ht : sthere l f.name
  · exact absurd rfl (not_there h ht f hf)
  · refine ⟨rfl, ?_⟩
    obtain ⟨g, hg, hn⟩ := sthere_at ht
    obtain ⟨k, hk⟩ := List.mem_iff_getElem?.1 hf
    by_cases h1 : k < spos l f.name
    · have := before_pos h1 hk; have := cmpS_self (f := f) rfl; omega
    · by_cases h2 : k = spos l f.name
      · rw [← h2]; exact hk
      · have h3 := rises_le h (show spos l f.name < k by omega) hg hk
        rw [hn, (cmp_zero _ _).2 rfl] at h3; omega

theorem sdel_filter {l : List FS} (h : SRise l) {n : ByteArray} (ht : sthere l n = true) : sdel l (spos l n) = l.filter fun f => decide (f.name ≠ n) := by
  obtain ⟨f, hf, hn⟩ := sthere_at ht
  obtain ⟨hi, he⟩ := List.getElem?_eq_some_iff.1 hf
  have hb : ∀ a ∈ l.take (spos l n), decide (a.name ≠ n) = true := fun a ha => by
    obtain ⟨k, hk, rfl⟩ := List.mem_iff_getElem.1 ha
    have hk2 : k < spos l n := by simp at hk; omega
    have hkl : k < l.length := by simp at hk; omega
    have h1 := before_pos (n := n) hk2 (List.getElem?_eq_getElem hkl)
    rw [List.getElem_take]
    have : (l[k]).name ≠ n := fun e => by have := cmpS_self e; omega
    simpa using this
  have ha : ∀ a ∈ l.drop (spos l n + 1), decide (a.name ≠ n) = true := fun a ha => by
    obtain ⟨k, hk, rfl⟩ := List.mem_iff_getElem.1 ha
    have hkl : spos l n + 1 + k < l.length := by simp at hk; omega
    rw [List.getElem_drop]
    have h1 := rises_le h (show spos l n < spos l n + 1 + k by omega) hf (List.getElem?_eq_getElem hkl)
    have : (l[spos l n + 1 + k]).name ≠ n := fun e => by rw [e, hn, (cmp_zero _ _).2 rfl] at h1; omega
    simpa using this
  conv => rhs; rw [← List.take_append_drop (spos l n) l, List.drop_eq_getElem_cons hi, he, List.filter_append, List.filter_cons]
  rw [List.filter_eq_self.2 hb, List.filter_eq_self.2 ha, if_neg (by simp [hn])]
  rfl

def lessS (s : DS) (p : FS → Bool) : DS := { s with l := s.l.filter p }

theorem Calm.less {s : DS} (c : Calm s) (p : FS → Bool) : Calm (lessS s p) := ⟨c.off, c.fused⟩
theorem drop_calm {s : DS} (h : Fit s) (c : Calm s) (n : ByteArray) : dropS s n = (0, lessS s fun f => decide (f.name ≠ n)) ∧ Fit (lessS s fun f => decide (f.name ≠ n)) := by
  obtain ⟨k, hk, e⟩ : ∃ k : Int, (k = 7 ∨ k = 0) ∧ removeS s n = (k, lessS s fun f => decide (f.name ≠ n)) := by
    unfold removeS
    rw [if_neg (by rw [c.off]; simp)]
    cases ht : sthere s.l n
    · rw [if_pos (by simp)]
      have : lessS s (fun f => decide (f.name ≠ n)) = s := by
        unfold lessS
        rw [List.filter_eq_self.2 (fun f hf => by simpa using not_there h.rises ht f hf)]
      rw [this]
      exact ⟨7, .inl rfl, rfl⟩
    · rw [if_neg (by simp), c.act, sdel_filter h.rises ht]
      exact ⟨0, .inr rfl, rfl⟩
  have hf := fit_remove h n
  unfold dropS
  rw [e] at hf ⊢
  refine ⟨?_, hf⟩
  rcases hk with rfl | rfl
  · rw [if_pos rfl]
  · rw [if_neg (show ¬ ((0 : Int) = 7) by decide)]

/-- a file of none of these names -/
def noneOf (ns : List ByteArray) (f : FS) : Bool := ns.all fun n => decide (f.name ≠ n)

theorem each_calm : ∀ (ns : List ByteArray) {s : DS}, Fit s → Calm s → eachS s ns = (0, lessS s (noneOf ns)) ∧ Fit (lessS s (noneOf ns))
  | [], s, h, c => by
    have : lessS s (noneOf []) = s := by unfold lessS; rw [List.filter_eq_self.2 (fun f _ => by simp [noneOf])]
    rw [this]
    exact ⟨rfl, h⟩
  | n :: t, s, h, c => by
    obtain ⟨h1, h2⟩ := drop_calm h c n
    obtain ⟨h3, h4⟩ := each_calm t h2 (c.less _)
    have e : lessS (lessS s fun f => decide (f.name ≠ n)) (noneOf t) = lessS s (noneOf (n :: t)) := by
      unfold lessS
      simp only
      rw [List.filter_filter]
      congr 1
      apply List.filter_congr
      intro f _
      simp [noneOf, Bool.and_comm]
    rw [e] at h3 h4
    refine ⟨?_, h4⟩
    unfold eachS
    rw [h1, if_pos rfl, h3]

/-- every file's name is a generation's, of these -/
def Gens (M : Nat) (s : DS) : Prop := ∀ f ∈ s.l, ∃ g, 1 ≤ g ∧ g ≤ M ∧ f.name = genB g

theorem list_gens {M : Nat} {s : DS} (c : Calm s) (hg : Gens M s) (hM : M < 12) : listD s dashB = s.l.map (·.name) := by
  unfold listD
  rw [if_neg (by rw [c.off]; simp)]
  apply List.filter_eq_self.2
  intro n hn
  obtain ⟨f, hf, rfl⟩ := List.mem_map.1 hn
  obtain ⟨g, h1, h2, h3⟩ := hg f hf
  rw [h3]
  exact gen_pre ⟨g, by omega⟩

/-- is a file's first record whole? -/
def wholeS (s : DS) (n : ByteArray) : Bool := decide ((frd (readD s n).1).2.2 = 0)

theorem read_there {s : DS} (h : Fit s) (c : Calm s) {f : FS} (hf : f ∈ s.l) : readD s f.name = (⟨f.body.toArray⟩, 0) := by
  unfold readD
  rw [if_neg (by rw [c.off]; simp), (is_there h.rises hf).2]
  simp [cmpS_self (f := f) rfl]

theorem filter_one {l : List FS} (h : SRise l) {f : FS} (hf : f ∈ l) : (l.filter fun x => decide (x.name = f.name)) = [f] := by
  induction l with
  | nil => simp at hf
  | cons a l ih =>
    have h2 := List.pairwise_cons.1 h
    rcases List.mem_cons.1 hf with rfl | hf'
    · rw [List.filter_cons, if_pos (by simp)]
      congr 1
      apply List.filter_eq_nil_iff.2
      intro x hx
      have h3 := h2.1 x hx
      have : x.name ≠ f.name := fun e => by rw [e, (cmp_zero _ _).2 rfl] at h3; omega
      simpa using this
    · have h3 := h2.1 f hf'
      have : a.name ≠ f.name := fun e => by rw [e, (cmp_zero _ _).2 rfl] at h3; omega
      rw [List.filter_cons, if_neg (by simpa using this)]
      exact ih h2.2 hf'

/-- what is chosen where one file's first record is whole -/
theorem choose_plain {M : Nat} {s : DS} (h : Fit s) (c : Calm s) (hg : Gens M s) (hM : M < 12) {f0 : FS} (hf0 : f0 ∈ s.l) (hw : (frd ⟨f0.body.toArray⟩).2.2 = 0) :
    ∃ G f, 1 ≤ G ∧ G ≤ M ∧ f ∈ s.l ∧ f.name = genB G ∧ (frd ⟨f.body.toArray⟩).2.2 = 0 ∧ ((s.l.map (·.name)).filter (wholeS s)).getLast? = some (genB G) ∧
      eachS s (((s.l.map (·.name)).filter fun n => decide (n ≠ genB G)) ++ [newB]) = (0, { s with l := [f] }) ∧ Fit { s with l := [f] } := by
  have hm : f0.name ∈ (s.l.map (·.name)).filter (wholeS s) := by
    refine List.mem_filter.2 ⟨List.mem_map.2 ⟨f0, hf0, rfl⟩, ?_⟩
    unfold wholeS
    rw [read_there h c hf0]
    simpa using hw
  obtain ⟨n, hn⟩ : ∃ n, ((s.l.map (·.name)).filter (wholeS s)).getLast? = some n := by
    cases e : ((s.l.map (·.name)).filter (wholeS s)).getLast? with
    | none => rw [List.getLast?_eq_none_iff.1 e] at hm; simp at hm
    | some n => exact ⟨n, rfl⟩
  obtain ⟨hn1, hn2⟩ := List.mem_filter.1 (List.mem_of_getLast? hn)
  obtain ⟨f, hf, rfl⟩ := List.mem_map.1 hn1
  obtain ⟨G, h1, h2, h3⟩ := hg f hf
  obtain ⟨h4, h5⟩ := each_calm (((s.l.map (·.name)).filter fun n => decide (n ≠ genB G)) ++ [newB]) h c
  have e : lessS s (noneOf (((s.l.map (·.name)).filter fun n => decide (n ≠ genB G)) ++ [newB])) = { s with l := [f] } := by
    unfold lessS
    congr 1
    rw [← filter_one h.rises hf]
    apply List.filter_congr
    intro x hx
    obtain ⟨g, g1, g2, g3⟩ := hg x hx
    have hnew : x.name ≠ newB := by rw [g3]; exact gen_ne_new (by omega)
    have hin : x.name ∈ s.l.map (·.name) := List.mem_map.2 ⟨x, hx, rfl⟩
    rw [h3]
    by_cases hx2 : x.name = genB G
    · rw [decide_eq_true hx2]
      unfold noneOf
      rw [List.all_eq_true]
      intro n hn
      rcases List.mem_append.1 hn with hn | hn
      · have := (List.mem_filter.1 hn).2
        rw [hx2]
        simp at this ⊢
        exact fun e => this e.symm
      · simp at hn; subst hn; simpa using hnew
    · rw [decide_eq_false hx2]
      unfold noneOf
      rw [List.all_eq_false]
      exact ⟨x.name, List.mem_append.2 (.inl (List.mem_filter.2 ⟨hin, by simpa using hx2⟩)), by simp⟩
  rw [e] at h4 h5
  refine ⟨G, f, h1, h2, hf, h3, ?_, by rw [← h3]; exact hn, h4, h5⟩
  unfold wholeS at hn2
  rw [read_there h c hf] at hn2
  simpa using hn2
end Go.Proofs.YtbhcmmglmkgjnaaGreatDoor
