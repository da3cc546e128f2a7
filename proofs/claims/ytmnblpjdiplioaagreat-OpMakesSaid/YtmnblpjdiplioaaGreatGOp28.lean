/-
  slices.SortFunc at []api.Dot: its bodies are those that the library's contract was proved of.
  slices.Clone and slices.SortFunc of names; Sort, the program's.
  What the statements' proofs share: how arguments that came in are opened.
  How a name that came in is opened.
  How a stamp, stamps and two numbers that came in are opened.
  How a fact and facts that came in are opened.
-/
import Derived.Test.YtmnblpjdiplioaaGreatGOp02
import Derived.Shelf.SlSortCmp.NoneTotal
import Derived.Test.YtmnblpjdiplioaaGreatGOp21
import Derived.BigQuiet
import Derived.Test.YtmnblpjdiplioaaGreatGOp01
import Derived.ProofKit
import Derived.OpenShut
import Derived.ShutString
import Derived.ChangeOld
import Derived.Below
import Derived.SliceStrings
import Derived.Carry
import Derived.LaidMore
import Derived.MakeChecks
import Derived.Stop.Joined
import Derived.Lib.LaidTab
import Derived.LaidLaws
import Derived.Test.YtmnblpjdiplioaaGreatGOp03
import Derived.Deep.Slices
import Derived.Test.YtmnblpjdiplioaaGreatGOp05
namespace Go.Proofs.YtmnblpjdiplioaaGreat
set_option maxRecDepth 100000
open Go.Shelf

def sortDl_ren : Go.Shelf.Ren := ⟨fun | 6 => 83 | 15 => 103 | 14 => 104 | 28 => 124 | 29 => 125 | 20 => 126 | 21 => 127 | 22 => 128 | 23 => 129 | 24 => 130 | 25 => 131 | 26 => 132 | 27 => 133 | 46 => 147 | 47 => 142 | 48 => 143 | 49 => 148 | 50 => 149 | 57 => 158 | n => n, fun | 22 => 41 | 24 => 36 | 25 => 110 | 3 => 3 | 39 => 118 | 0 => 0 | 53 => 153 | 55 => 87 | 4 => 4 | 46 => 146 | 45 => 145 | 50 => 138 | 5 => 5 | 9 => 9 | 66 => 165 | 70 => 169 | 76 => 180 | 77 => 181 | n => n, fun | n => n⟩
theorem sortDl : SlLaysF0.n6 Tryz.prog sortDl_ren := {
  mixed := by kernel_rfl
  f6 := ⟨Tryz.f83.name, by decide, Tryz.func83.trans (congrArg some (by kernel_rfl))⟩
  f14 := ⟨Tryz.f104.name, by decide, Tryz.func104.trans (congrArg some (by kernel_rfl))⟩
  f15 := Tryz.func103.trans (congrArg some (by kernel_rfl))
  f20 := ⟨Tryz.f126.name, by decide, Tryz.func126.trans (congrArg some (by kernel_rfl))⟩
  f21 := ⟨Tryz.f127.name, by decide, Tryz.func127.trans (congrArg some (by kernel_rfl))⟩
  f22 := ⟨Tryz.f128.name, by decide, Tryz.func128.trans (congrArg some (by kernel_rfl))⟩
  f23 := ⟨Tryz.f129.name, by decide, Tryz.func129.trans (congrArg some (by kernel_rfl))⟩
  f24 := ⟨Tryz.f130.name, by decide, Tryz.func130.trans (congrArg some (by kernel_rfl))⟩
  f25 := ⟨Tryz.f131.name, by decide, Tryz.func131.trans (congrArg some (by kernel_rfl))⟩
  f26 := ⟨Tryz.f132.name, by decide, Tryz.func132.trans (congrArg some (by kernel_rfl))⟩
  f27 := ⟨Tryz.f133.name, by decide, Tryz.func133.trans (congrArg some (by kernel_rfl))⟩
  f28 := Tryz.func124.trans (congrArg some (by kernel_rfl))
  f29 := Tryz.func125.trans (congrArg some (by kernel_rfl))
  f46 := ⟨Tryz.f147.name, by decide, Tryz.func147.trans (congrArg some (by kernel_rfl))⟩
  f47 := Tryz.func142.trans (congrArg some (by kernel_rfl))
  f48 := Tryz.func143.trans (congrArg some (by kernel_rfl))
  f49 := ⟨Tryz.f148.name, by decide, Tryz.func148.trans (congrArg some (by kernel_rfl))⟩
  f50 := ⟨Tryz.f149.name, by decide, Tryz.func149.trans (congrArg some (by kernel_rfl))⟩
  f57 := ⟨Tryz.f158.name, by decide, Tryz.func158.trans (congrArg some (by kernel_rfl))⟩
  t0 := Tryz.underlying0
  a0 := Tryz.isAgg0
  z0 := Tryz.sizeOf0
  v0 := Tryz.zeroValue0
  t3 := Tryz.underlying3
  a3 := Tryz.isAgg3
  z3 := Tryz.sizeOf3
  v3 := Tryz.zeroValue3
  t4 := Tryz.underlying4
  a4 := Tryz.isAgg4
  z4 := Tryz.sizeOf4
  v4 := Tryz.zeroValue4
  t5 := Tryz.underlying5
  a5 := Tryz.isAgg5
  z5 := Tryz.sizeOf5
  v5 := Tryz.zeroValue5
  t9 := Tryz.underlying9
  a9 := Tryz.isAgg9
  z9 := Tryz.sizeOf9
  v9 := Tryz.zeroValue9
  t22 := Tryz.underlying41
  a22 := Tryz.isAgg41
  z22 := Tryz.sizeOf41
  v22 := Tryz.zeroValue41
  t25 := Tryz.underlying110
  a25 := Tryz.isAgg110
  z25 := Tryz.sizeOf110
  v25 := Tryz.zeroValue110
  t39 := Tryz.underlying118
  a39 := Tryz.isAgg118
  z39 := Tryz.sizeOf118
  v39 := Tryz.zeroValue118
  t45 := Tryz.underlying145
  a45 := Tryz.isAgg145
  z45 := Tryz.sizeOf145
  v45 := Tryz.zeroValue145
  t46 := Tryz.underlying146
  a46 := Tryz.isAgg146
  z46 := Tryz.sizeOf146
  v46 := Tryz.zeroValue146
  t50 := Tryz.underlying138
  a50 := Tryz.isAgg138
  z50 := Tryz.sizeOf138
  v50 := Tryz.zeroValue138
  t53 := Tryz.underlying153
  a53 := Tryz.isAgg153
  z53 := Tryz.sizeOf153
  v53 := Tryz.zeroValue153
  t55 := Tryz.underlying87
  a55 := Tryz.isAgg87
  z55 := Tryz.sizeOf87
  v55 := Tryz.zeroValue87
  t66 := Tryz.underlying165
  a66 := Tryz.isAgg165
  z66 := Tryz.sizeOf165
  v66 := Tryz.zeroValue165
  t70 := Tryz.underlying169
  a70 := Tryz.isAgg169
  z70 := Tryz.sizeOf169
  v70 := Tryz.zeroValue169
  t76 := Tryz.underlying180
  a76 := Tryz.isAgg180
  z76 := Tryz.sizeOf180
  v76 := Tryz.zeroValue180
  t77 := Tryz.underlying181
  a77 := Tryz.isAgg181
  z77 := Tryz.sizeOf181
  v77 := Tryz.zeroValue181 }
end Go.Proofs.YtmnblpjdiplioaaGreat

namespace Go.Proofs.YtmnblpjdiplioaaGreat
set_option maxRecDepth 100000
open Go.RowKit Go.Shelf Go.Lib Go.Sort

/-! the order, as sorting asks for it -/
theorem lt_cmpD (a b : Dt) : ltOf cmpD a b = ltD a b := by
  unfold ltOf cmpD
  by_cases h : a = b
  · subst h; simp [ltD_irr]
  · rw [if_neg h]
    by_cases h2 : ltD a b = true
    · simp [h2]
    · simp [h2]
theorem swoD : SWO (ltOf cmpD) := {
  irrefl := fun x => by rw [lt_cmpD]; exact ltD_irr x
  trans := fun x y z h1 h2 => by rw [lt_cmpD] at *; exact ltD_trans h1 h2
  ntrans := fun x y z h1 h2 => by
    rw [lt_cmpD] at *
    rw [ltD_no] at *
    omega }
theorem cmpLaysD (blk off size : Nat) (w : World) : CmpLays Tryz.prog 84 #[] dcs 2 cmpD blk off size w := fun _ _ _ _ x y => orderC x y _

theorem below_sortedK (w : World) (B blk off n : Nat) (d : Array Dt) (os : Array Obj) (hB : B ≤ blk) (hblk : blk < w.heap.size) : Go.RowKit.Below B w (sortWorldK dcs 2 w blk off n d os) := by
  refine ⟨rfl, rfl, rfl, ?_, fun k hk => ?_⟩
  · unfold sortWorldK putRowK; rw [size_grow, Sort.size_putRow]; exact Nat.le_add_right _ _
  · unfold sortWorldK putRowK
    rw [heap_grow_old _ _ (by rw [Sort.size_putRow]; show k < w.heap.size; omega)]
    unfold putRow mapBlock
    rw [Array.getElem?_modify, if_neg (by omega)]
    rfl

theorem holds_own {w : World} {B g cap : Nat} {l : List Dt} (h : OwnD B (.slice (some ⟨g, 0, none⟩) l.length cap) l w) : HoldsK dcs 2 w g 0 l.toArray := by
  intro t ht
  have ht2 : t < l.length * 2 := by rw [size_flatK] at ht; simpa using ht
  have hil : t / 2 < l.length := by omega
  rw [get_flatK _ _ _ _ (by simpa using ht2)]
  have hg : l.toArray[t / 2]! = l[t / 2] := by rw [getElem!_pos l.toArray (t / 2) (by simpa using hil)]; simp
  rw [hg]
  unfold OwnD at h
  refine ⟨?_, World.ownsRow.frozenAt h _⟩
  rw [Nat.zero_add, World.ownsRow.cellAt h t ht2]
  obtain ⟨h1, h2⟩ := rowD_at l (t / 2) l[t / 2] (List.getElem?_eq_getElem hil)
  rcases Nat.mod_two_eq_zero_or_one t with hm | hm
  · have e : t / 2 * 2 = t := by omega
    rw [e] at h1
    rw [h1, hm]; rfl
  · have e : t / 2 * 2 + 1 = t := by omega
    rw [e] at h2
    rw [h2, hm]; rfl

theorem sortCallD (l : List Dt) (v : Value) (B : Nat) (w : World) (hlen : l.length ≤ 65536) (hown : OwnD B v l w) (hB : B ≤ w.heap.size) :
    Calls Tryz.prog 83 #[v, .func (.func 84) #[] #[]] w fun e w' =>
      e = .returned (.tuple #[]) ∧ ∃ (s : List Dt) (a : Option Addr) (cap : Nat), v = .slice a s.length cap ∧ s.length = l.length ∧ s.Perm l ∧ s.Pairwise (fun a b => ltD b a = false) ∧ DIn w' a s ∧ Go.RowKit.Below B w w' := by
  obtain ⟨hl, hv⟩ := id hown
  rcases hv with ⟨rfl, h0⟩ | ⟨g, cap, cur, rfl, hBg, hg, hn, hm, hs, htk⟩
  · have hl0 : l = [] := List.length_eq_zero_iff.1 h0
    subst hl0
    have hcon := AnyF.slices_SortFunc_none (P := Tryz.prog) (ρ := sortDl_ren) sortDl none 0 (.func (.func 84) #[] #[]) w
    exact Calls.mono (f := 83) hcon fun e w' h => by
      obtain ⟨he, hw⟩ := h
      subst hw
      exact ⟨he, [], none, 0, rfl, rfl, List.Perm.refl _, .nil, .inl rfl, Go.RowKit.Below.refl _ _⟩
  · have hH := holds_own hown
    have hlt : g < w.heap.size := lt_of_block hg
    have eg : ∀ args w, (callFunc 84 args).run Tryz.prog w = .ok (.enter 84 args) w := enters_of Tryz.func84 (by kernel_rfl) rfl
    have hsz : l.toArray.size = l.length := by simp
    have hcon := AnyQ.slices_SortFunc sortDl 2 Tryz.isAgg36 Tryz.sizeOf36 dcs (fun _ => rfl) (fun x u hu => by simp [dcs] at hu; rcases hu with rfl | rfl <;> rfl) cmpD swoD 84 #[] g 0 cap l.toArray w eg (cmpLaysD g 0 _ w) hH hlt (by omega)
    rw [hsz] at hcon
    refine Calls.mono (f := 83) hcon ?_
    rintro e w' ⟨rfl, d', n, os, hp, hsd, rfl⟩
    obtain ⟨hp1, _, hp2⟩ := hp
    have e1 : d'.extract 0 l.length = d' := by rw [← hsz, ← hp1]; exact Array.extract_size
    have e2 : l.toArray.extract 0 l.length = l.toArray := by rw [← hsz]; exact Array.extract_size
    rw [e1, e2] at hp2
    have hdl : d'.toList.length = l.length := by simp; omega
    refine ⟨rfl, d'.toList, some ⟨g, 0, none⟩, cap, by rw [hdl], hdl, by simpa using hp2, ?_, .inr ⟨g, 0, rfl, lt_sortWorldK dcs 2 w g 0 n d' os hlt, fun j d hj => ?_⟩, below_sortedK w B g 0 n d' os hBg hlt⟩
    · rw [List.pairwise_iff_getElem]
      intro i j hi hj hij
      have h := hsd i j (Nat.zero_le _) hij (by omega)
      rw [lt_cmpD] at h
      rw [getElem!_pos d' j (by simpa using hj), getElem!_pos d' i (by simpa using hi)] at h
      simpa using h
    · have hjl : j < d'.size := by have := (List.getElem?_eq_some_iff.1 hj).1; simpa using this
      have hK := holdsK_sortWorldK dcs 2 w g 0 n l.toArray d' os hlt hH (by omega)
      have c0 := (hK.cell (i := j) (c := 0) hjl (by omega)).1
      have c1 := (hK.cell (i := j) (c := 1) hjl (by omega)).1
      have hd : d'[j]! = d := by
        rw [getElem!_pos d' j hjl]
        have := hj
        rw [Array.getElem?_toList, Array.getElem?_eq_getElem hjl] at this
        exact Option.some.inj this
      rw [hd] at c0 c1
      exact ⟨c0, c1⟩

set_option maxHeartbeats 4000000 in
set_option maxRecDepth 100000 in
theorem sortC (l : List Dt) (a : Option Addr) (cap : Nat) (w : World) (h : DIn w a l) (hl : l.length ≤ 65536) :
    Calls Tryz.prog 55 #[.slice a l.length cap] w fun e w' => ∃ v', e = .returned v' ∧ OwnD w.heap.size v' (sortD l) w' ∧ Below w.heap.size w w' := by
  obtain ⟨i0, hi, hz0, hz1, hz2⟩ := info_parts dotInfo
  have H := Lib.hid h
  clear h
  go_enter Tryz.func55, Tryz.ntmps55
  go_wp2_with fail
  refine (cloneD l a cap w H.out hl).mono ?_
  rintro e w1 ⟨v1, rfl, hown1, hb1⟩
  have hs1 := hb1.size
  have HO1 := Lib.hid hown1
  have HB1 := Lib.hid hb1
  clear hown1 hb1
  go_wp2_with fail
  refine (sortCallD l v1 w.heap.size w1 hl HO1.out hs1).mono ?_
  rintro e w2 ⟨rfl, s, sa, sc, rfl, hsl, hperm, hsort, hdin, hb2⟩
  have hs2 := hb2.size
  have hsl' : s.length ≤ 65536 := by omega
  have HB2 := Lib.hid (HB1.out.trans hb2)
  have HP := Lib.hid hperm
  have HS := Lib.hid hsort
  have HD := Lib.hid hdin
  clear hsl hperm hsort hdin hb2 HO1 HB1 H
  go_wp2_with fail
  go_loopw [4, 13] (fun v i wr => ∃ (k : Nat) (out : List Dt), k ≤ s.length ∧ i = .int .i64 k ∧ Kept s k out ∧ OwnD w2.heap.size v out wr ∧ Below w2.heap.size w2 wr) (fun _ i _ => s.length - (intOf i).toNat)
  case atStart => exact ⟨0, [], Nat.zero_le _, rfl, Kept.start s, ownD_nil _ _, Below.refl _ _⟩
  case round =>
    obtain ⟨k, out, hk, rfl, hkept, hown, hb⟩ := hrel
    have hol := hkept.len
    have HK := Lib.hid hkept
    have HOWN := Lib.hid hown
    have HB := Lib.hid hb
    have hbs := hb.size
    clear hkept hown hb
    by_cases hlt : k < s.length
    · obtain ⟨d, hd⟩ : ∃ d, s[k]? = some d := ⟨_, List.getElem?_eq_getElem hlt⟩
      obtain ⟨b, off, rfl, hbl, c0, c1⟩ := (HD.out.below HB.out).at hd
      have hde : s[k] = d := by rw [List.getElem?_eq_getElem hlt] at hd; exact Option.some.inj hd
      have HDE := Lib.hid hde
      obtain ⟨r, q⟩ := d
      simp only at c0 c1
      have hi1 : (k : Int) < (s.length : Int) := by omega
      clear hd hde
      by_cases hk0 : k = 0
      · have hk2 : Kept s (k + 1) (out ++ [(r, q)]) := by rw [← HDE.out]; exact HK.out.more HS.out hlt (fun j hj => by omega)
        have HK2 := Lib.hid hk2
        have hg : ((k : Int) == 0) = true := by simp; omega
        clear hk2 hk0
        go_wp2_with fail
        go_quiet (fail)
        go_wp2_with (at_builtin; refine wpList_append_own _ rfl _ _ 41 rfl w2.heap.size 36 i0 (.agg #[.int .i64 0, .int .i64 0]) 2 16 Tryz.underlying41 hi hz0 hz1 hz2 rfl (by decide) _ _ _ rfl ((World.ownsRow.alloc (HOWN.out) _).alloc _) ⟨wr.heap.size + 1, 0, none⟩ 1 1 [Value.int .i64 r, Value.int .i64 q] rfl rfl ?c1 ?c2 ?c3 ?c4 ?c5 ?_)
        case c1 =>
          intro j u hj
          match j, hj with
          | 0, hj => simp at hj; subst hj; simp [Addr.add, go_sem]
          | 1, hj => simp at hj; subst hj; simp [Addr.add, go_sem]
        case c2 => intro u hu; simp at hu; rcases hu with rfl | rfl <;> rfl
        case c3 => unfold maxLen; omega
        case c4 => omega
        case c5 => simp; omega
        intro v' w3 hown4 hg3 _
        have hB3 : Below w2.heap.size w2 w3 := ((belowN (HB.out.alloc hbs _) _).alloc (by simp; omega) _).grown hg3 (by simp; omega) (fun j hj => (World.ownsRow.lt HOWN.out j hj).1)
        have hown5 : OwnD w2.heap.size v' (out ++ [(r, q)]) w3 := by unfold OwnD; rw [List.length_append, rowD_append]; exact hown4
        have HOWN5 := Lib.hid hown5
        have HB3 := Lib.hid hB3
        clear hown4 hg3 hown5 hB3
        go_wp2_with fail
        go_roundw
        case rel => exact ⟨k + 1, _, by omega, by go_num, HK2.out, HOWN5.out, HB3.out⟩
        case measure => simp [intOf]; omega
      · obtain ⟨m, rfl⟩ : ∃ m, k = m + 1 := ⟨k - 1, by omega⟩
        obtain ⟨d', hd'⟩ : ∃ d, s[m]? = some d := ⟨_, List.getElem?_eq_getElem (by omega)⟩
        obtain ⟨b', off', hbe, hbl', p0, p1⟩ := (HD.out.below HB.out).at hd'
        have hbe2 := Option.some.inj hbe
        obtain ⟨rfl, rfl⟩ : b = b' ∧ off = off' := by injection hbe2 with h1 h2; exact ⟨h1, h2⟩
        have hde' : s[m]'(by omega) = d' := by rw [List.getElem?_eq_getElem (by omega)] at hd'; exact Option.some.inj hd'
        have HDE' := Lib.hid hde'
        obtain ⟨r', q'⟩ := d'
        simp only at p0 p1
        have hg : ((m : Int) + 1 == 0) = false := by simp; omega
        have hm0 : (0 : Int) ≤ (m : Int) := by omega
        have hm1 : (m : Int) < (s.length : Int) := by omega
        have hm2 : IntKind.i64.wrap (m : Int) = m := by simp [IntKind.wrap, IntKind.bits, IntKind.signed]; omega
        clear hbe hbe2 hbl' hd' hde'
        by_cases he : (r, q) = (r', q')
        · have hnq := fun W => neqD (r, q) (r', q') W
          rw [decide_eq_true he] at hnq
          have hk2 : Kept s (m + 1 + 1) out := HK.out.same hlt (by rw [HDE.out, HDE'.out, he])
          have HK2 := Lib.hid hk2
          have HE := Lib.hid he
          clear hk2 he
          go_wp2_with fail
          go_quiet (fail)
          go_wp2_with fail
          go_roundw
          case rel => exact ⟨m + 1 + 1, _, by omega, by go_num, HK2.out, HOWN.out.alloc _, belowN (HB.out.alloc hbs _) _⟩
          case measure => simp [intOf]; omega
        · have hnq := fun W => neqD (r, q) (r', q') W
          rw [decide_eq_false he] at hnq
          have hk2 : Kept s (m + 1 + 1) (out ++ [(r, q)]) := by rw [← HDE.out]; exact HK.out.more HS.out hlt (fun j hj => by
            obtain rfl : j = m := by omega
            rw [HDE.out, HDE'.out]; exact he)
          have HK2 := Lib.hid hk2
          clear hk2 he
          go_wp2_with fail
          go_quiet (fail)
          go_wp2_with (at_builtin; refine wpList_append_own _ rfl _ _ 41 rfl w2.heap.size 36 i0 (.agg #[.int .i64 0, .int .i64 0]) 2 16 Tryz.underlying41 hi hz0 hz1 hz2 rfl (by decide) _ _ _ rfl ((World.ownsRow.alloc (HOWN.out) _).alloc _) ⟨wr.heap.size + 1, 0, none⟩ 1 1 [Value.int .i64 r, Value.int .i64 q] rfl rfl ?c1 ?c2 ?c3 ?c4 ?c5 ?_)
          case c1 =>
            intro j u hj
            match j, hj with
            | 0, hj => simp at hj; subst hj; simp [Addr.add, go_sem]
            | 1, hj => simp at hj; subst hj; simp [Addr.add, go_sem]
          case c2 => intro u hu; simp at hu; rcases hu with rfl | rfl <;> rfl
          case c3 => unfold maxLen; omega
          case c4 => omega
          case c5 => simp; omega
          intro v' w3 hown4 hg3 _
          have hB3 : Below w2.heap.size w2 w3 := ((belowN (HB.out.alloc hbs _) _).alloc (by simp; omega) _).grown hg3 (by simp; omega) (fun j hj => (World.ownsRow.lt HOWN.out j hj).1)
          have hown5 : OwnD w2.heap.size v' (out ++ [(r, q)]) w3 := by unfold OwnD; rw [List.length_append, rowD_append]; exact hown4
          have HOWN5 := Lib.hid hown5
          have HB3 := Lib.hid hB3
          clear hown4 hg3 hown5 hB3
          go_wp2_with fail
          go_roundw
          case rel => exact ⟨m + 1 + 1, _, by omega, by go_num, HK2.out, HOWN5.out, HB3.out⟩
          case measure => simp [intOf]; omega
    · have hk' : s.length ≤ k := by omega
      have hfin : out = sortD l := HK.out.all hk' (fun z => HP.out.mem_iff)
      have hown' := HOWN.out.mono (show w.heap.size ≤ w2.heap.size by omega)
      rw [hfin] at hown'
      have HF := Lib.hid (And.intro hown' (HB2.out.trans (HB.out.mono (by omega))))
      clear hfin hown'
      go_wp2_with fail
      go_ret
      exact ⟨_, rfl, HF.out.1, HF.out.2⟩
end Go.Proofs.YtmnblpjdiplioaaGreat

namespace Go.Proofs.YtmnblpjdiplioaaGreat
open Go.ChangeShapes Go.WideShapes Go.ChangeAt Go.RowKit
open Go.ChangeMaps (open_string shut_string)
set_option linter.unusedVariables false

theorem own : ownKnob Tryz.prog.godebug = none := by kernel_rfl
theorem laidOut : laidOutB Tryz.prog = true := by kernel_rfl

end Go.Proofs.YtmnblpjdiplioaaGreat

namespace Go.Proofs.YtmnblpjdiplioaaGreat
set_option maxRecDepth 100000
open Go.ChangeShapes Go.WideShapes Go.ChangeAt Go.RowKit Go.Deep
open Go.ChangeMaps (open_string shut_string)

theorem pair_of {cs : List Value} {a b : Value} (h : cs.length = 2) (h0 : (cs.drop 0).take 1 = [a]) (h1 : (cs.drop 1).take 1 = [b]) : cs = [a, b] := by
  match cs, h with
  | [_, _], _ => simp_all

theorem dot_cells {H : Type} {enc : TypeId × Value → H} {W : World} {b0 : Nat} {sp : Nat → Bool} {held : Bool} {fuel : Nat} {cs : List Value} {x : DataW H × List MemPlace}
    (h : DataW.trod enc Tryz.prog W b0 sp held fuel 36 cs = some x) : ∃ d : Dt, cs = dcs d := by
  obtain ⟨xs, n, _, _, hlen, hxl, hf⟩ := DataW.trod_struct Tryz.underlying36 h
  have hc2 : Tryz.prog.cellsOf 36 = 2 := by kernel_rfl
  have hc1 : Tryz.prog.cellsOf 3 = 1 := by kernel_rfl
  rw [hc2] at hlen
  have get : ∀ i, i < 2 → ∃ y, xs[i]? = some y := fun i hi => ⟨_, List.getElem?_eq_getElem (by rw [hxl]; simpa using hi)⟩
  obtain ⟨y0, g0⟩ := get 0 (by omega)
  obtain ⟨y1, g1⟩ := get 1 (by omega)
  have f0 := (hf 0 _ rfl).trans g0
  have f1 := (hf 1 _ rfl).trans g1
  obtain ⟨k, e0, _, w0⟩ := DataW.trod_int Tryz.underlying3 f0
  obtain ⟨i, e1, _, w1⟩ := DataW.trod_int Tryz.underlying3 f1
  exact ⟨(k, i), pair_of hlen (by rw [← e0]; rfl) (by rw [← e1]; rfl)⟩

end Go.Proofs.YtmnblpjdiplioaaGreat

namespace Go.Proofs.YtmnblpjdiplioaaGreat
set_option maxRecDepth 100000
open Go.ChangeShapes Go.WideShapes Go.ChangeAt Go.RowKit Go.Deep
open Go.ChangeMaps (open_string shut_string)

theorem three_of {cs : List Value} {a b c : Value} (h : cs.length = 3) (h0 : (cs.drop 0).take 1 = [a]) (h1 : (cs.drop 1).take 1 = [b]) (h2 : (cs.drop 2).take 1 = [c]) : cs = [a, b, c] := by
  match cs, h with
  | [_, _, _], _ => simp_all

theorem stamp_cells {H : Type} {enc : TypeId × Value → H} {W : World} {b0 : Nat} {sp : Nat → Bool} {held : Bool} {fuel : Nat} {cs : List Value} {x : DataW H × List MemPlace}
    (h : DataW.trod enc Tryz.prog W b0 sp held fuel 38 cs = some x) : ∃ d : St, cs = scs d := by
  obtain ⟨xs, n, _, _, hlen, hxl, hf⟩ := DataW.trod_struct Tryz.underlying38 h
  have hc3 : Tryz.prog.cellsOf 38 = 3 := by kernel_rfl
  rw [hc3] at hlen
  have get : ∀ i, i < 3 → ∃ y, xs[i]? = some y := fun i hi => ⟨_, List.getElem?_eq_getElem (by rw [hxl]; simpa using hi)⟩
  obtain ⟨y0, g0⟩ := get 0 (by omega)
  obtain ⟨y1, g1⟩ := get 1 (by omega)
  obtain ⟨y2, g2⟩ := get 2 (by omega)
  have f0 := (hf 0 _ rfl).trans g0
  have f1 := (hf 1 _ rfl).trans g1
  have f2 := (hf 2 _ rfl).trans g2
  obtain ⟨k, e0, _, w0⟩ := DataW.trod_int Tryz.underlying3 f0
  obtain ⟨i, e1, _, w1⟩ := DataW.trod_int Tryz.underlying3 f1
  obtain ⟨j, e2, _, w2⟩ := DataW.trod_int Tryz.underlying3 f2
  exact ⟨⟨k, i, j⟩, three_of hlen (by rw [← e0]; rfl) (by rw [← e1]; rfl) (by rw [← e2]; rfl)⟩

end Go.Proofs.YtmnblpjdiplioaaGreat

namespace Go.Proofs.YtmnblpjdiplioaaGreat
set_option maxRecDepth 100000
open Go.ChangeShapes Go.WideShapes Go.ChangeAt Go.RowKit Go.Deep
open Go.ChangeMaps (open_string shut_string)

theorem eight_of {cs : List Value} {a b c d e f g h : Value} (hl : cs.length = 8) (h0 : (cs.drop 0).take 2 = [a, b]) (h1 : (cs.drop 2).take 3 = [c, d, e]) (h2 : (cs.drop 5).take 1 = [f]) (h3 : (cs.drop 6).take 1 = [g]) (h4 : (cs.drop 7).take 1 = [h]) : cs = [a, b, c, d, e, f, g, h] := by
  match cs, hl with
  | [_, _, _, _, _, _, _, _], _ => simp_all

theorem fact_cells {H : Type} {enc : TypeId × Value → H} {W : World} {b0 : Nat} {sp : Nat → Bool} {held : Bool} {fuel : Nat} {cs : List Value} {x : DataW H × List MemPlace}
    (h : DataW.trod enc Tryz.prog W b0 sp held fuel 63 cs = some x) : ∃ f : Ft, cs = fcs f ∧ f.n.size ≤ maxLen ∧ f.v.size ≤ maxLen := by
  obtain ⟨xs, n, _, _, hlen, hxl, hf⟩ := DataW.trod_struct Tryz.underlying63 h
  have hc8 : Tryz.prog.cellsOf 63 = 8 := by kernel_rfl
  rw [hc8] at hlen
  have get : ∀ i, i < 5 → ∃ y, xs[i]? = some y := fun i hi => ⟨_, List.getElem?_eq_getElem (by rw [hxl]; simpa using hi)⟩
  obtain ⟨y0, g0⟩ := get 0 (by omega)
  obtain ⟨y1, g1⟩ := get 1 (by omega)
  obtain ⟨y2, g2⟩ := get 2 (by omega)
  obtain ⟨y3, g3⟩ := get 3 (by omega)
  obtain ⟨y4, g4⟩ := get 4 (by omega)
  have f0 := (hf 0 _ rfl).trans g0
  have f1 := (hf 1 _ rfl).trans g1
  have f2 := (hf 2 _ rfl).trans g2
  have f3 := (hf 3 _ rfl).trans g3
  have f4 := (hf 4 _ rfl).trans g4
  obtain ⟨d, e0⟩ := dot_cells f0
  obtain ⟨s, e1⟩ := stamp_cells f1
  obtain ⟨k, e2, _, w2⟩ := DataW.trod_int Tryz.underlying3 f2
  obtain ⟨nm, e3, _, w3⟩ := DataW.trod_string Tryz.underlying9 f3
  obtain ⟨v, e4, _, w4⟩ := DataW.trod_string Tryz.underlying9 f4
  exact ⟨⟨d, s, k, nm, v⟩, eight_of hlen (by have := e0; unfold dcs at this; rw [← this]; rfl) (by have := e1; unfold scs at this; rw [← this]; rfl) (by rw [← e2]; rfl) (by rw [← e3]; rfl) (by rw [← e4]; rfl), w3, w4⟩

abbrev fv (f : Ft) : Value := .agg (fcs f).toArray
/-- Facts that came in: they lie there, and are no more than can be, nor are their texts. -/
def FactArg (w : World) (a : Option Addr) (len : Nat) (l : List Ft) : Prop := l.length = len ∧ len ≤ maxLen ∧ FIn w a l ∧ ∀ f ∈ l, f.n.size ≤ maxLen ∧ f.v.size ≤ maxLen

theorem facts_of {H : Type} {enc : TypeId × Value → H} {W : World} {sp : Nat → Bool} {held : Bool} {a : Option Addr} {len cap : Nat} {d : DataW H} {p : List MemPlace}
    (h : DataW.Trod enc Tryz.prog W 0 sp held 22 (.slice a len cap) d p) : ∃ l, FactArg W a len l := by
  obtain ⟨fuel, hf⟩ := h
  have hc8 : Tryz.prog.cellsOf 63 = 8 := by kernel_rfl
  rcases open_slice Tryz.underlying22 hf with ⟨hcs, _⟩ | ⟨x, l, c, m, n, D, Pl, hcs, _, hl, hm, hmm, _, hi⟩
  · simp [Value.cells] at hcs
    obtain ⟨rfl, rfl, rfl⟩ := hcs
    exact ⟨[], rfl, by simp [maxLen], .inl rfl, fun f hf => by simp at hf⟩
  · simp [Value.cells] at hcs
    obtain ⟨rfl, rfl, rfl⟩ := hcs
    rw [hc8] at hi
    have hlm : len ≤ m := by rw [hmm]; split <;> omega
    have hd : ∀ i, i < len → ∃ dd : Ft, (dd.n.size ≤ maxLen ∧ dd.v.size ≤ maxLen) ∧ ∀ j u, (fcs dd)[j]? = some u → W.cell? ((x.add (i * 8)).add j) = some u := fun i hil => by
      obtain ⟨cs', hcell, ht⟩ := hi i (by omega)
      obtain ⟨_, hlen, hat⟩ := World.cells?_some hcell
      obtain ⟨dd, rfl, hs⟩ := fact_cells ht
      exact ⟨dd, hs, fun j u hju => by rw [hat j (by have := (List.getElem?_eq_some_iff.1 hju).1; rw [fcs_len] at this; omega)]; exact hju⟩
    let z : Ft := ⟨(0, 0), ⟨0, 0, 0⟩, 0, ⟨#[]⟩, ⟨#[]⟩⟩
    obtain ⟨g, hg⟩ : ∃ g : Nat → Ft, ∀ i, i < len → ((g i).n.size ≤ maxLen ∧ (g i).v.size ≤ maxLen) ∧ ∀ j u, (fcs (g i))[j]? = some u → W.cell? ((x.add (i * 8)).add j) = some u :=
      ⟨fun i => if h : i < len then (hd i h).choose else z, fun i h => by simp only [h, dif_pos]; exact (hd i h).choose_spec⟩
    refine ⟨(List.range len).map g, by simp, by omega, ?_, fun f hf => ?_⟩
    · by_cases h0 : len = 0
      · subst h0; exact .inl (by simp)
      · obtain ⟨b, off, spot⟩ := x
        have hc0 := (hg 0 (by omega)).2 0 _ rfl
        have hspot : spot = none := by simpa [Addr.add] using World.cell?_spot hc0
        subst hspot
        have add0 : ∀ k, (⟨b, off, none⟩ : Addr).add k = ⟨b, off + k, none⟩ := fun k => by cases k <;> simp [Addr.add]
        have add1 : ∀ o k, (⟨b, o, none⟩ : Addr).add k = ⟨b, o + k, none⟩ := fun o k => by cases k <;> simp [Addr.add]
        refine .inr ⟨b, off, rfl, by have := World.block_lt_of_cell? W _ hc0; rw [add0, add1] at this; exact this, fun j dd hj i u hu => ?_⟩
        have hjl : j < len := by have := (List.getElem?_eq_some_iff.1 hj).1; simpa using this
        have he : g j = dd := by simpa [hjl] using hj
        have hcell := (hg j hjl).2 i u (by rw [he]; exact hu)
        simp only [add0, add1] at hcell
        exact hcell
    · obtain ⟨i, hil, rfl⟩ := List.mem_map.1 hf
      exact (hg i (List.mem_range.1 hil)).1
end Go.Proofs.YtmnblpjdiplioaaGreat
