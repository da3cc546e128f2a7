/-
  list.Compare of names by dot.Less.
  slices.Grow of none, slices.Concat of two rows of names.
  order; whether names stand in their order.
  list.Has at names: its closure, a name looked for among names that stand in order.
  What is there, told by a closure: teller, its closure, Has.
-/
import Derived.Test.YtcedliaeipabnaaGCauG
import Derived.Test.YtcedliaeipabnaaGCauI
import Derived.Lib.AppendZerosOnto
import Derived.Shelf.Abstract
import Derived.Test.YtcedliaeipabnaaGCauD
import Derived.Test.YtcedliaeipabnaaDotSort
import Derived.Deep.RegionHeld3
namespace Go.Proofs.Ytcedliaeipabnaa
set_option maxRecDepth 100000
open Go.RowKit Go.Sort

theorem cmpD_lt {a b : Dt} (h : ltD a b = true) : cmpD a b = -1 := by
  unfold cmpD
  rw [if_neg (fun e => by rw [e, ltD_irr] at h; cases h), if_pos h]
theorem cmpD_gt {a b : Dt} (h : ltD b a = true) : cmpD a b = 1 := by
  unfold cmpD
  rw [if_neg (fun e => by rw [e, ltD_irr] at h; cases h), if_neg (by rw [ltD_asym h]; simp)]
theorem cmpD_eq {a b : Dt} (h1 : ltD a b = false) (h2 : ltD b a = false) : cmpD a b = 0 := by
  rcases ltD_tri a b with h | h | h
  · rw [h1] at h; cases h
  · unfold cmpD; rw [if_pos h]
  · rw [h2] at h; cases h

/-- what Compare leaves: the parameters' boxes, and those of the calls -/
def cmpW (w : World) (a b : Dt) : World := if ltD a b = true then boxD (boxD (boxD (boxD w a) b) a) b else boxD (boxD (boxD (boxD (boxD (boxD w a) b) a) b) b) a
set_option maxHeartbeats 1000000 in
theorem compareD (a b : Dt) (w : World) : Calls Try.prog 83 #[.func (.func 63) #[] #[], .agg #[.int .i64 a.1, .int .i64 a.2], .agg #[.int .i64 b.1, .int .i64 b.2]] w fun e w' => e = .returned (.int .i64 (cmpD a b)) ∧ w' = cmpW w a b := by
  have hl := fun W => lessC a b W
  have hm := fun W => lessC b a W
  unfold boxD at hl hm
  unfold cmpW boxD
  by_cases e1 : ltD a b = true
  · rw [cmpD_lt e1, if_pos e1]
    rw [e1] at hl
    clear e1 hm
    obtain ⟨r, n⟩ := a
    obtain ⟨s, m⟩ := b
    simp only at *
    go_enter Try.func83, Try.ntmps83
    go_wp2_with fail
    refine (hl _).mono ?_
    rintro e w1 ⟨rfl, rfl⟩
    go_wp2
    go_ret
    exact ⟨rfl, rfl⟩
  · have e1' : ltD a b = false := by simpa using e1
    rw [if_neg e1]
    by_cases e2 : ltD b a = true
    · rw [cmpD_gt e2]
      rw [e1'] at hl
      rw [e2] at hm
      clear e1 e2 e1'
      obtain ⟨r, n⟩ := a
      obtain ⟨s, m⟩ := b
      simp only at *
      go_enter Try.func83, Try.ntmps83
      go_wp2_with fail
      refine (hl _).mono ?_
      rintro e w1 ⟨rfl, rfl⟩
      go_wp2_with fail
      refine (hm _).mono ?_
      rintro e w1 ⟨rfl, rfl⟩
      go_wp2
      go_ret
      exact ⟨rfl, rfl⟩
    · have e2' : ltD b a = false := by simpa using e2
      rw [cmpD_eq e1' e2']
      rw [e1'] at hl
      rw [e2'] at hm
      clear e1 e2 e1' e2'
      obtain ⟨r, n⟩ := a
      obtain ⟨s, m⟩ := b
      simp only at *
      go_enter Try.func83, Try.ntmps83
      go_wp2_with fail
      refine (hl _).mono ?_
      rintro e w1 ⟨rfl, rfl⟩
      go_wp2_with fail
      refine (hm _).mono ?_
      rintro e w1 ⟨rfl, rfl⟩
      go_wp2
      go_ret
      exact ⟨rfl, rfl⟩
theorem cmpW_below (w : World) (a b : Dt) : Below w.heap.size w (cmpW w a b) := by
  have h1 := boxD2_below w a b
  have h2 := h1.trans ((boxD2_below (boxD (boxD w a) b) a b).mono (by simp [boxD_size]; omega))
  have h3 := h2.trans ((boxD2_below (boxD (boxD (boxD (boxD w a) b) a) b) b a).mono (by simp [boxD_size]; omega))
  unfold cmpW
  split
  · exact h2
  · exact h3
theorem cmpW_grow (w : World) (a b : Dt) : ∃ os, cmpW w a b = grow w os := by
  unfold cmpW boxD
  split
  · exact ⟨_, by rw [alloc_eq_grow, alloc_eq_grow, alloc_eq_grow, alloc_eq_grow, grow_grow, grow_grow, grow_grow]⟩
  · exact ⟨_, by rw [alloc_eq_grow, alloc_eq_grow, alloc_eq_grow, alloc_eq_grow, alloc_eq_grow, alloc_eq_grow, grow_grow, grow_grow, grow_grow, grow_grow, grow_grow]⟩
end Go.Proofs.Ytcedliaeipabnaa

namespace Go.Proofs.Ytcedliaeipabnaa
set_option maxRecDepth 100000
open Go.RowKit Go.Sort

theorem own_zeros (w : World) (n cap : Nat) (_hn : n ≤ cap) (hc : cap ≤ maxLen) (hsz : n + (cap - n) = cap) : OwnD w.heap.size (.slice (some ⟨w.heap.size, 0, none⟩) 0 cap) [] (w.drew.alloc (.cells (Builtin.zeroCells #[.int .i64 0, .int .i64 0] n ++ Builtin.zeroCells #[.int .i64 0, .int .i64 0] (cap - n)) 31)) := by
  refine ⟨by simp [rowD], .inr ⟨w.heap.size, cap, _, rfl, Nat.le_refl _, heap_alloc_new w.drew _, Nat.zero_le _, hc, ?_, by simp [rowD]⟩⟩
  rw [Array.size_append, size_zeroCells, size_zeroCells, ← Nat.add_mul, hsz]
  simp

set_option maxHeartbeats 4000000 in
theorem growD (n : Nat) (hn : n ≤ 65536) (w : World) :
    Calls Try.prog 68 #[.slice none 0 0, .int .i64 (n : Int)] w fun e w' => ∃ v', e = .returned v' ∧ OwnD w.heap.size v' [] w' ∧ Go.RowKit.Below w.heap.size w w' := by
  by_cases h0 : n = 0
  · subst h0
    go_enter Try.func68, Try.ntmps68
    go_wp2_with fail
    go_ret
    exact ⟨_, rfl, ownD_nil _ _, Below.refl _ _⟩
  · obtain ⟨i0, hi, hz0, hz1, hz2⟩ := info_parts dotInfo
    have hap := Lib.run_append_nil_zeros (P := Try.prog) w 24 3 24 31 i0 _ .i64 .i64 Try.underlying24 Try.underlying3 hi hz0 n (by omega) (by rw [hz1]; omega) (by omega) (by rw [hz2]; omega)
    have hge := grownCap_ge w n 0 31
    have hle := grownCap_le_maxLen w n 0 31 (by unfold maxLen; omega)
    generalize grownCap w n 0 31 = cap at *
    have hown := own_zeros w n cap hge hle (by omega)
    have hB : Go.RowKit.Below w.heap.size w (w.drew.alloc (.cells (Builtin.zeroCells #[.int .i64 0, .int .i64 0] n ++ Builtin.zeroCells #[.int .i64 0, .int .i64 0] (cap - n)) 31)) := (Below.refl _ _).drew.alloc (Nat.le_refl _) _
    have HF := Lib.hid (And.intro hown hB)
    have hpos : (0 : Int) < (n : Int) := by omega
    obtain ⟨p, hs, hd⟩ := takeS (some ⟨w.heap.size, 0, none⟩) n cap 0 (by omega) hge hle
    have ht' : Try.prog.underlying 24 = some (.slice (Try.prog.elem 24)) := by simp [Program.elem, Try.underlying24]
    have he : Try.prog.elem 24 = 31 := by simp [Program.elem, Try.underlying24]
    clear hown hB hs hd
    have hcap0 : cap ≠ 0 := by omega
    have hsl : ∀ W, (Instr.slice 24 (.slice (some ⟨w.heap.size, 0, none⟩) n cap) none (some (.int .i64 0)) none).run Try.prog W = .ok (.slice (some ⟨w.heap.size, 0, none⟩) 0 cap) W := fun W => by
      have h := run_slice_h (P := Try.prog) W 24 (some ⟨w.heap.size, 0, none⟩) n cap ht' .i64 0 (by omega) (by omega)
      rw [he, Try.sizeOf31] at h
      rw [h]
      simp [Result.andThen, sliced, hcap0, Addr.add]
    clear ht' he hi hz0 hz1 hz2
    go_enter Try.func68, Try.ntmps68
    go_wp2_with (at_builtin; refine Lib.wpList_append_run _ rfl _ _ 24 3 rfl (.slice none 0 0) (.int .i64 (n : Int)) rfl rfl _ _ hap ?_)
    go_ret
    exact ⟨_, rfl, HF.out.1, HF.out.2⟩

/-- two slices, one behind the other, in a block -/
structure TwoS (w : World) (g : Nat) (x y : Value) : Prop where
  c0 : w.cell? ⟨g, 0, none⟩ = some x
  c1 : w.cell? ⟨g, 1, none⟩ = some y
  lt : g < w.heap.size
theorem TwoS.below {w w' : World} {g : Nat} {x y : Value} (h : TwoS w g x y) (hb : Go.RowKit.Below w.heap.size w w') : TwoS w' g x y :=
  ⟨by rw [hb.cell (p := ⟨g, 0, none⟩) h.lt]; exact h.c0, by rw [hb.cell (p := ⟨g, 1, none⟩) h.lt]; exact h.c1, Nat.lt_of_lt_of_le h.lt hb.size⟩

set_option maxHeartbeats 8000000 in
theorem concatD (x y : List Dt) (a b : Option Addr) (ca cb g : Nat) (w : World) (hx : DIn w a x) (hy : DIn w b y) (hl : x.length + y.length ≤ 65536) (hg : TwoS w g (.slice a x.length ca) (.slice b y.length cb)) :
    Calls Try.prog 40 #[.slice (some ⟨g, 0, none⟩) 2 2] w fun e w' => ∃ v', e = .returned v' ∧ OwnD w.heap.size v' (x ++ y) w' ∧ Go.RowKit.Below w.heap.size w w' := by
  have H := Lib.hid (And.intro hx (And.intro hy hg))
  have c0 := hg.c0
  have c1 := hg.c1
  have hlt := hg.lt
  clear hx hy hg
  go_enter Try.func40, Try.ntmps40
  go_wp2_with fail
  go_loopw [3, 11] (fun z i wr => ((i = .int .i64 0 ∧ z = .int .i64 0) ∨ (i = .int .i64 1 ∧ z = .int .i64 (x.length : Int)) ∨ (i = .int .i64 2 ∧ z = .int .i64 ((x.length : Int) + (y.length : Int)))) ∧ wr = w) (fun _ i _ => 2 - (intOf i).toNat)
  case atStart => exact ⟨.inl ⟨rfl, rfl⟩, rfl⟩
  case round =>
    obtain ⟨hrel, rfl⟩ := hrel
    rcases hrel with ⟨rfl, rfl⟩ | ⟨rfl, rfl⟩ | ⟨rfl, rfl⟩
    · go_wp2_with fail
      go_roundw
      case rel => exact ⟨.inr (.inl ⟨rfl, rfl⟩), trivial⟩
      case measure => simp [intOf]
    · go_wp2_with fail
      go_roundw
      case rel => exact ⟨.inr (.inr ⟨rfl, rfl⟩), trivial⟩
      case measure => simp [intOf]
    · have hgr := growD (x.length + y.length) hl wr
      rw [Int.natCast_add] at hgr
      have HG := Lib.hid hgr
      clear hgr
      go_wp2_with fail
      refine HG.out.mono ?_
      rintro e w2 ⟨v2, rfl, hown2, hb2⟩
      have HO := Lib.hid hown2
      have H2 := Lib.hid (And.intro (H.out.1.below hb2) (And.intro (H.out.2.1.below hb2) (H.out.2.2.below hb2)))
      have hb2s := hb2.size
      have HB2 := Lib.hid hb2
      clear HG c0 c1 hown2 hb2
      have c0 := H2.out.2.2.c0
      have c1 := H2.out.2.2.c1
      have hlt2 := H2.out.2.2.lt
      go_wp2_with fail
      obtain ⟨W, hWW⟩ : ∃ W, W = wr.heap.size := ⟨_, rfl⟩
      go_loopw [6, 27] (fun v i wq => ((i = .int .i64 0 ∧ OwnD wr.heap.size v [] wq) ∨ (i = .int .i64 1 ∧ OwnD wr.heap.size v x wq) ∨ (i = .int .i64 2 ∧ OwnD wr.heap.size v (x ++ y) wq)) ∧ Go.RowKit.Below wr.heap.size wr wq) (fun _ i _ => 2 - (intOf i).toNat)
      case atStart => exact ⟨.inl ⟨rfl, HO.out⟩, HB2.out⟩
      case round =>
        rename World => wq
        obtain ⟨hrel, hb3⟩ := hrel
        have HB3 := Lib.hid hb3
        have h3 := H.out.2.2.below hb3
        have HD3 := Lib.hid (And.intro (H.out.1.below hb3) (H.out.2.1.below hb3))
        have c0 := h3.c0
        have c1 := h3.c1
        have hlt3 := h3.lt
        have hbs := hb3.size
        clear h3 hb3
        rcases hrel with ⟨rfl, ho⟩ | ⟨rfl, ho⟩ | ⟨rfl, ho⟩
        · obtain ⟨oa, oc, rfl, -, -, -⟩ := ho.din2
          obtain ⟨q, qc, w4, hr4, ho4, hb4⟩ := appD (c := ca) ho HD3.out.1 hbs x.length (by simp) (by omega)
          have H4 := Lib.hid (And.intro ho4 (HB3.out.trans hb4))
          clear ho ho4 hb4
          simp only [List.length_nil] at hr4 ⊢
          go_wp2_with (at_builtin; refine wpList_append_run rfl _ _ 24 24 rfl (.slice oa 0 oc) (.slice a x.length ca) _ w4 rfl rfl hr4 ?_)
          go_roundw
          case rel => exact ⟨.inr (.inl ⟨rfl, H4.out.1⟩), H4.out.2⟩
          case measure => simp [intOf]
        · obtain ⟨oa, oc, rfl, -, -, -⟩ := ho.din2
          obtain ⟨q, qc, w4, hr4, ho4, hb4⟩ := appD (c := cb) ho HD3.out.2 hbs (x.length + y.length) rfl (by omega)
          have e9 : (x ++ y).length = x.length + y.length := List.length_append
          have H4 := Lib.hid (And.intro ho4 (HB3.out.trans hb4))
          clear ho ho4 hb4
          go_wp2_with (at_builtin; refine wpList_append_run rfl _ _ 24 24 rfl (.slice oa x.length oc) (.slice b y.length cb) _ w4 rfl rfl hr4 ?_)
          go_roundw
          case rel => exact ⟨.inr (.inr ⟨rfl, H4.out.1⟩), H4.out.2⟩
          case measure => simp [intOf]
        · have HF := Lib.hid (And.intro ho HB3.out)
          clear ho
          go_wp2_with fail
          go_ret
          exact ⟨_, rfl, HF.out.1, HF.out.2⟩
end Go.Proofs.Ytcedliaeipabnaa

namespace Go.Proofs.Ytcedliaeipabnaa
set_option maxRecDepth 100000
open Go.RowKit Go.Sort Go.Shelf

theorem cmpD_neg (a b : Dt) : cmpD a b < 0 ↔ ltD a b = true := by
  unfold cmpD
  by_cases h : a = b
  · subst h; simp [ltD_irr]
  · rw [if_neg h]
    by_cases h2 : ltD a b = true
    · simp [h2]
    · simp [h2]
theorem cmpD_zero (a b : Dt) : cmpD a b = 0 ↔ a = b := by
  unfold cmpD
  by_cases h : a = b
  · simp [h]
  · rw [if_neg h]
    split <;> simp [h]

set_option maxHeartbeats 1000000 in
theorem orderK (a b : Dt) (w : World) : Calls Try.prog 60 #[.agg #[.int .i64 a.1, .int .i64 a.2], .agg #[.int .i64 b.1, .int .i64 b.2]] w fun e w' => e = .returned (.int .i64 (cmpD a b)) ∧ Go.RowKit.Below w.heap.size w w' := by
  have hl := fun W => compareD a b W
  have h1 := boxD2_below w a b
  have h2 := h1.trans ((cmpW_below (boxD (boxD w a) b) a b).mono (by simp [boxD_size]; omega))
  have HB := Lib.hid h2
  clear h1 h2
  unfold boxD at HB
  generalize cmpD a b = c at *
  obtain ⟨r, n⟩ := a
  obtain ⟨s, m⟩ := b
  simp only at *
  go_enter Try.func60, Try.ntmps60
  go_wp2_with fail
  refine (hl _).mono ?_
  rintro e w1 ⟨rfl, rfl⟩
  go_wp2
  go_ret
  exact ⟨rfl, HB.out⟩

theorem ent_order : ∀ args w, (callFunc 60 args).run Try.prog w = .ok (.enter 60 args) w := enters_of Try.func60 (by kernel_rfl) rfl

/-- none is less than one ahead of it -/
def Stands (l : List Dt) : Prop := l.Pairwise (fun a b => ltD b a = false)
theorem stands_of {l : List Dt} (h : ∀ (j : Nat) (x y : Dt), l[j]? = some x → l[j + 1]? = some y → ltD y x = false) : Stands l := by
  unfold Stands
  have key : ∀ (d i : Nat) (x y : Dt), l[i]? = some x → l[i + d + 1]? = some y → ltD y x = false := by
    intro d
    induction d with
    | zero => intro i x y hx hy; exact h i x y hx hy
    | succ d ih =>
      intro i x y hx hy
      have hlt : i + (d + 1) + 1 < l.length := (List.getElem?_eq_some_iff.1 hy).1
      obtain ⟨z, hz⟩ : ∃ z, l[i + d + 1]? = some z := ⟨_, List.getElem?_eq_getElem (by omega)⟩
      have h1 := ih i x z hx hz
      have h2 := h (i + d + 1) z y hz (by rw [show i + d + 1 + 1 = i + (d + 1) + 1 by omega]; exact hy)
      rw [ltD_no] at *
      omega
  rw [List.pairwise_iff_getElem]
  intro i j hi hj hij
  obtain ⟨d, rfl⟩ : ∃ d, j = i + d + 1 := ⟨j - i - 1, by omega⟩
  exact key d i _ _ (List.getElem?_eq_getElem hi) (List.getElem?_eq_getElem hj)

set_option maxHeartbeats 4000000 in
theorem isSortedD (l : List Dt) (a : Option Addr) (cap : Nat) (w : World) (h : DIn w a l) (hl : l.length ≤ 65536) :
    Calls Try.prog 59 #[.slice a l.length cap, .func (.func 60) #[] #[]] w fun e w' => (∃ b : Bool, e = .returned (.bool b) ∧ (b = true → Stands l)) ∧ Go.RowKit.Below w.heap.size w w' := by
  have hent := ent_order
  have H := Lib.hid h
  clear h
  go_enter Try.func59, Try.ntmps59
  go_wp2_with fail
  go_loopw [5] (fun x wr => ∃ i : Int, x = .int .i64 i ∧ -1 ≤ i ∧ i < l.length ∧ Hid (∀ (j : Nat) (x y : Dt), i ≤ (j : Int) → l[j]? = some x → l[j + 1]? = some y → ltD y x = false) ∧ Go.RowKit.Below w.heap.size w wr) (fun x _ => (intOf x).toNat)
  case atStart => exact ⟨(l.length : Int) - 1, by go_num, by omega, by omega, Lib.hid (fun j x y hj hx hy => by have := (List.getElem?_eq_some_iff.1 hy).1; omega), Below.refl _ _⟩
  case round =>
    obtain ⟨i, rfl, hi0, hi1, HK, hb⟩ := hrel
    have HB := Lib.hid hb
    have hbs := hb.size
    clear hb
    by_cases hpos : 0 < i
    · obtain ⟨m, rfl⟩ : ∃ m : Nat, i = (m : Int) + 1 := ⟨(i - 1).toNat, by omega⟩
      obtain ⟨x, hx⟩ : ∃ x, l[m]? = some x := ⟨_, List.getElem?_eq_getElem (by omega)⟩
      obtain ⟨y, hy⟩ : ∃ y, l[m + 1]? = some y := ⟨_, List.getElem?_eq_getElem (by omega)⟩
      obtain ⟨b, off, rfl, hbl, c0, c1⟩ := (H.out.below HB.out).at hx
      obtain ⟨b', off', hbe, hbl', p0, p1⟩ := (H.out.below HB.out).at hy
      have hbe2 := Option.some.inj hbe
      obtain ⟨rfl, rfl⟩ : b = b' ∧ off = off' := by injection hbe2 with h1 h2; exact ⟨h1, h2⟩
      have hj0 : (0 : Int) ≤ (m : Int) := by omega
      have hj1 : (m : Int) < (l.length : Int) := by omega
      have hj2 : (m : Int) + 1 < (l.length : Int) := by omega
      have hj3 : IntKind.i64.wrap (m : Int) = m := by simp [IntKind.wrap, IntKind.bits, IntKind.signed]; omega
      have hj4 : (0 : Int) ≤ (m : Int) + 1 := by omega
      have r0 := fun d os => cell_regrown c0 d os
      have r1 := fun d os => cell_regrown c1 d os
      have r2 := fun d os => cell_regrown p0 d os
      have r3 := fun d os => cell_regrown p1 d os
      have cX := fun d os => Calls.regrown_of (orderK y x (grow (redrawn wr d) os))
      have hneg := cmpD_neg y x
      have HXY := Lib.hid (And.intro hx hy)
      generalize cmpD y x = c at *
      have HCX := Lib.hid cX
      obtain ⟨xr, xq⟩ := x
      obtain ⟨yr, yq⟩ := y
      simp only at r0 r1 r2 r3 HCX
      clear hx hy cX hbe hbe2 hbl'
      by_cases hc : c < 0
      · have hd : decide (c < 0) = true := by simp [hc]
        clear hneg hpos hi0 hi1
        go_upto_region 4 with fail
        clear c0 c1 p0 p1
        refine wp_region_quiet_below (by kernel_rfl) (by kernel_rfl) ?_
        repeat (first | go_big_quiet_step ((go_at_call 60; with_reducible exact HCX.out _ _)) | quiet_step ((go_at_call 60; with_reducible exact HCX.out _ _)))
        refine wpQuiet_nil ?_
        intro _ hw'
        obtain ⟨⟨dq, osq⟩, hw''⟩ := hw'
        subst hw''
        have HB9 := Lib.hid (HB.out.trans ((below_regrown wr dq osq).mono hbs))
        clear HCX r0 r1 r2 r3
        generalize grow (redrawn wr dq) osq = W at *
        go_wp2_with fail
        go_ret
        exact ⟨⟨false, rfl, fun h => by cases h⟩, HB9.out⟩
      · have hd : decide (c < 0) = false := by simp; omega
        have HK2 := Lib.hid (show ∀ (j : Nat) (x y : Dt), (m : Int) ≤ (j : Int) → l[j]? = some x → l[j + 1]? = some y → ltD y x = false from fun j x y hj hx hy => by
          by_cases e : j = m
          · subst e
            rw [HXY.out.1] at hx
            rw [HXY.out.2] at hy
            obtain rfl := Option.some.inj hx
            obtain rfl := Option.some.inj hy
            exact Bool.eq_false_iff.2 (fun h => hc (hneg.2 h))
          · exact HK.out j x y (by omega) hx hy)
        clear hneg hpos hi0 hi1
        go_upto_region 4 with fail
        clear c0 c1 p0 p1
        refine wp_region_quiet_below (by kernel_rfl) (by kernel_rfl) ?_
        repeat (first | go_big_quiet_step ((go_at_call 60; with_reducible exact HCX.out _ _)) | quiet_step ((go_at_call 60; with_reducible exact HCX.out _ _)))
        refine wpQuiet_nil ?_
        intro _ hw'
        obtain ⟨⟨dq, osq⟩, hw''⟩ := hw'
        subst hw''
        have HB9 := Lib.hid (HB.out.trans ((below_regrown wr dq osq).mono hbs))
        clear HCX r0 r1 r2 r3
        generalize grow (redrawn wr dq) osq = W at *
        go_wp2_with fail
        go_roundw
        case rel => exact ⟨(m : Int), by go_num, by omega, by omega, HK2, HB9.out⟩
        case measure => simp [intOf] <;> omega
    · have hfin : Stands l := stands_of fun j x y hx hy => HK.out j x y (by omega) hx hy
      have HF := Lib.hid hfin
      clear hfin
      go_wp2_with fail
      go_ret
      first | exact ⟨⟨true, rfl, fun _ => HF.out⟩, HB.out⟩ | exact ⟨.inr ⟨rfl, HF.out⟩, HB.out⟩

/-- the place of the first one that is not less -/
theorem found_iff {l : List Dt} (hs : Stands l) (d : Dt) {i : Nat} (h1 : ∀ (k : Nat) (x : Dt), k < i → l[k]? = some x → ltD x d = true) (h2 : ∀ (k : Nat) (x : Dt), i ≤ k → l[k]? = some x → ltD x d = false) :
    decide (d ∈ l) = true ↔ l[i]? = some d := by
  rw [decide_eq_true_eq]
  constructor
  · intro hd
    obtain ⟨j, hj, hjd⟩ := List.mem_iff_getElem.1 hd
    have hjd' : l[j]? = some d := by rw [List.getElem?_eq_getElem hj, hjd]
    rcases Nat.lt_or_ge j i with h | h
    · have := h1 j d h hjd'
      rw [ltD_irr] at this; cases this
    · rcases Nat.eq_or_lt_of_le h with e | h3
      · rw [e]; exact hjd'
      · obtain ⟨x, hx⟩ : ∃ x, l[i]? = some x := ⟨_, List.getElem?_eq_getElem (by omega)⟩
        have h4 := h2 i x (Nat.le_refl _) hx
        have h5 := List.pairwise_iff_getElem.1 hs i j (by omega) hj h3
        obtain ⟨hil, hxe⟩ := List.getElem?_eq_some_iff.1 hx
        rw [hxe, hjd] at h5
        rcases ltD_tri x d with h6 | h6 | h6
        · rw [h4] at h6; cases h6
        · rw [hx, h6]
        · rw [h5] at h6; cases h6
  · exact fun h => List.mem_of_getElem? h

end Go.Proofs.Ytcedliaeipabnaa

namespace Go.Proofs.Ytcedliaeipabnaa
set_option maxRecDepth 100000
open Go.RowKit Go.Sort Go.Shelf

/-- a block that holds dot.Less -/
structure LessD (w : World) (b : Nat) : Prop where
  cell : w.cell? ⟨b, 0, none⟩ = some (.func (.func 63) #[] #[])
  lt : b < w.heap.size
theorem LessD.below {w w' : World} {b : Nat} (h : LessD w b) (hb : Go.RowKit.Below w.heap.size w w') : LessD w' b :=
  ⟨by rw [hb.cell (p := ⟨b, 0, none⟩) h.lt]; exact h.cell, Nat.lt_of_lt_of_le h.lt hb.size⟩
abbrev hasFD (b : Nat) : Value := .func (.func 85) #[] #[.pointer (some ⟨b, 0, none⟩)]
theorem ent_hasD : ∀ args w, (callFunc 85 args).run Try.prog w = .ok (.enter 85 args) w := enters_of Try.func85 (by kernel_rfl) rfl

set_option maxHeartbeats 1000000 in
theorem hasD1 (a b : Dt) (bl : Nat) (w : World) (h : LessD w bl) : Calls Try.prog 85 #[.agg #[.int .i64 a.1, .int .i64 a.2], .agg #[.int .i64 b.1, .int .i64 b.2], .pointer (some ⟨bl, 0, none⟩)] w fun e w' => e = .returned (.int .i64 (cmpD a b)) ∧ Go.RowKit.Below w.heap.size w w' := by
  have hl := fun W => compareD a b W
  have h1 := boxD2_below w a b
  have hc := (h.below h1).cell
  have h2 := h1.trans ((cmpW_below (boxD (boxD w a) b) a b).mono (by simp [boxD_size]; omega))
  have HB := Lib.hid h2
  clear h1 h2 h
  unfold boxD at HB hc
  generalize cmpD a b = c at *
  obtain ⟨r, n⟩ := a
  obtain ⟨s, m⟩ := b
  simp only at *
  go_enter Try.func85, Try.ntmps85
  go_wp2_with fail
  refine (hl _).mono ?_
  rintro e w1 ⟨rfl, rfl⟩
  go_wp2
  go_ret
  exact ⟨rfl, HB.out⟩

set_option maxHeartbeats 4000000 in
theorem searchD (l : List Dt) (d : Dt) (a : Option Addr) (cap : Nat) (w : World) (h : DIn w a l) (hl : l.length ≤ 65536) (hs : Stands l) (bl : Nat) (hle : LessD w bl) :
    Calls Try.prog 84 #[.slice a l.length cap, .agg #[.int .i64 d.1, .int .i64 d.2], .func (.func 85) #[] #[.pointer (some ⟨bl, 0, none⟩)]] w fun e w' => (∃ i : Nat, e = .returned (.tuple #[.int .i64 (i : Int), .bool (decide (d ∈ l))])) ∧ Go.RowKit.Below w.heap.size w w' := by
  have hent := ent_hasD
  have H := Lib.hid h
  have HS := Lib.hid hs
  have hm : ∀ i : Nat, (∀ (k : Nat) (x : Dt), k < i → l[k]? = some x → ltD x d = true) → (∀ (k : Nat) (x : Dt), i ≤ k → l[k]? = some x → ltD x d = false) → (decide (d ∈ l) = true ↔ l[i]? = some d) := fun i h1 h2 => found_iff HS.out d h1 h2
  have HM := Lib.hid hm
  have hdp : ∃ u, u = decide (d ∈ l) := ⟨_, rfl⟩
  obtain ⟨u, hu⟩ := hdp
  rw [← hu] at HM
  rw [← hu]
  clear hu hm
  have hB0 := boxD_below w d
  have q0 : (boxD w d).cell? ⟨w.heap.size, 0, none⟩ = some (.int .i64 d.1) := by unfold boxD; rw [Joins.cell_of_block (heap_alloc_new w _)]; rfl
  have q1 : (boxD w d).cell? ⟨w.heap.size, 1, none⟩ = some (.int .i64 d.2) := by unfold boxD; rw [Joins.cell_of_block (heap_alloc_new w _)]; rfl
  have HQ := Lib.hid (And.intro q0 (And.intro q1 (And.intro hB0 (show w.heap.size < (boxD w d).heap.size by rw [boxD_size]; omega))))
  have HLE := Lib.hid (hle.below hB0)
  clear h hs hB0 q0 q1 hle
  have hX := fun x W (hW : LessD W bl) => hasD1 x d bl W hW
  have hN := fun x => cmpD_neg x d
  have hZ := fun x => cmpD_zero x d
  have HX := Lib.hid (And.intro hX (And.intro hN hZ))
  clear hX hN hZ
  unfold boxD at HQ HLE
  obtain ⟨dr, dq⟩ := d
  simp only at HQ HX HM HLE ⊢
  go_enter Try.func84, Try.ntmps84
  go_wp2_with fail
  generalize hW0 : w.alloc (.cells #[.int .i64 dr, .int .i64 dq] 31) = W0 at *
  clear hW0
  go_loopw [9, 10] (fun x y wr => ∃ i j : Nat, i ≤ j ∧ j ≤ l.length ∧ x = .int .i64 i ∧ y = .int .i64 j ∧ Hid (∀ (k : Nat) (x : Dt), k < i → l[k]? = some x → ltD x (dr, dq) = true) ∧ Hid (∀ (k : Nat) (x : Dt), j ≤ k → l[k]? = some x → ltD x (dr, dq) = false) ∧ Go.RowKit.Below W0.heap.size W0 wr) (fun x y _ => (intOf y).toNat - (intOf x).toNat)
  case atStart => exact ⟨0, l.length, by omega, Nat.le_refl _, rfl, rfl, Lib.hid (fun k x hk => absurd hk (by omega)), Lib.hid (fun k x hk hf => absurd (List.getElem?_eq_some_iff.1 hf).1 (by omega)), Below.refl _ _⟩
  case round =>
    obtain ⟨i, j, hij, hj, rfl, rfl, h1, h2, hb⟩ := hrel
    have HB := Lib.hid hb
    have hbs := hb.size
    have k0 : wr.cell? ⟨w.heap.size, 0, none⟩ = some (.int .i64 dr) := by rw [hb.cell (p := ⟨w.heap.size, 0, none⟩) HQ.out.2.2.2]; exact HQ.out.1
    have k1 : wr.cell? ⟨w.heap.size, 1, none⟩ = some (.int .i64 dq) := by rw [hb.cell (p := ⟨w.heap.size, 1, none⟩) HQ.out.2.2.2]; exact HQ.out.2.1
    have s0 := fun d os => cell_regrown k0 d os
    have s1 := fun d os => cell_regrown k1 d os
    have hin : DIn wr a l := (H.out.below HQ.out.2.2.1).below hb
    have hle2 := HLE.out.below hb
    clear hb
    by_cases hlt : i < j
    · obtain ⟨x, hx⟩ : ∃ x, l[(i + j) / 2]? = some x := ⟨_, List.getElem?_eq_getElem (by omega)⟩
      obtain ⟨b, off, rfl, hbl, c0, c1⟩ := hin.at hx
      have r0 := fun d os => cell_regrown c0 d os
      have r1 := fun d os => cell_regrown c1 d os
      have cX := fun d os => Calls.regrown_of (HX.out.1 x (grow (redrawn wr d) os) (hle2.below (below_regrown wr d os)))
      have hneg := HX.out.2.1 x
      have HXX := Lib.hid hx
      generalize cmpD x (dr, dq) = c at *
      have HCX := Lib.hid cX
      obtain ⟨xr, xq⟩ := x
      simp only at r0 r1 HCX
      clear hx cX hin hle2
      have hm0 : (((i + j) / 2 : Nat) : Int) < (l.length : Int) := by omega
      have hm1 : (0 : Int) ≤ (((i + j) / 2 : Nat) : Int) := by omega
      by_cases hc : c < 0
      · have hd : decide (c < 0) = true := by simp [hc]
        have hlt1 : ltD (xr, xq) (dr, dq) = true := hneg.1 hc
        have HK2 := Lib.hid (show ∀ (k : Nat) (x : Dt), k < (i + j) / 2 + 1 → l[k]? = some x → ltD x (dr, dq) = true from fun k y hk hy => by
          by_cases e : k = (i + j) / 2
          · subst e
            rw [HXX.out] at hy
            obtain rfl := Option.some.inj hy
            exact hlt1
          · obtain ⟨hk1, hk2⟩ := List.getElem?_eq_some_iff.1 hy
            obtain ⟨hk3, hk4⟩ := List.getElem?_eq_some_iff.1 HXX.out
            have h5 := List.pairwise_iff_getElem.1 HS.out k ((i + j) / 2) hk1 hk3 (by omega)
            rw [hk2, hk4] at h5
            rcases ltD_tri y (dr, dq) with h6 | h6 | h6
            · exact h6
            · subst h6; rw [hlt1] at h5; cases h5
            · have := ltD_trans hlt1 h6; rw [this] at h5; cases h5)
        clear hneg hlt1
        go_upto_region 5 with fail
        clear c0 c1 k0 k1
        refine wp_region_quiet_below (by kernel_rfl) (by kernel_rfl) ?_
        repeat (first | go_big_quiet_step ((go_at_call 85; with_reducible exact HCX.out _ _)) | quiet_step ((go_at_call 85; with_reducible exact HCX.out _ _)))
        refine wpQuiet_nil ?_
        intro _ hw'
        obtain ⟨⟨dq', osq⟩, hw''⟩ := hw'
        subst hw''
        have HB9 := Lib.hid (HB.out.trans ((below_regrown wr dq' osq).mono hbs))
        clear HCX r0 r1 s0 s1
        generalize grow (redrawn wr dq') osq = W at *
        go_wp2_with fail
        go_roundw
        case rel => exact ⟨(i + j) / 2 + 1, j, by omega, hj, by go_num, rfl, HK2, h2, HB9.out⟩
        case measure => simp [intOf]; omega
      · have hd : decide (c < 0) = false := by simp; omega
        have hlt1 : ltD (xr, xq) (dr, dq) = false := Bool.eq_false_iff.2 (fun h => hc (hneg.2 h))
        have HK2 := Lib.hid (show ∀ (k : Nat) (x : Dt), (i + j) / 2 ≤ k → l[k]? = some x → ltD x (dr, dq) = false from fun k y hk hy => by
          by_cases e : k = (i + j) / 2
          · subst e
            rw [HXX.out] at hy
            obtain rfl := Option.some.inj hy
            exact hlt1
          · obtain ⟨hk1, hk2⟩ := List.getElem?_eq_some_iff.1 hy
            obtain ⟨hk3, hk4⟩ := List.getElem?_eq_some_iff.1 HXX.out
            have h5 := List.pairwise_iff_getElem.1 HS.out ((i + j) / 2) k hk3 hk1 (by omega)
            rw [hk2, hk4] at h5
            refine Bool.eq_false_iff.2 fun h6 => ?_
            rcases ltD_tri (xr, xq) y with h7 | h7 | h7
            · have := ltD_trans h7 h6; rw [this] at hlt1; cases hlt1
            · rw [h7] at hlt1; rw [h6] at hlt1; cases hlt1
            · rw [h5] at h7; cases h7)
        clear hneg hlt1
        go_upto_region 5 with fail
        clear c0 c1 k0 k1
        refine wp_region_quiet_below (by kernel_rfl) (by kernel_rfl) ?_
        repeat (first | go_big_quiet_step ((go_at_call 85; with_reducible exact HCX.out _ _)) | quiet_step ((go_at_call 85; with_reducible exact HCX.out _ _)))
        refine wpQuiet_nil ?_
        intro _ hw'
        obtain ⟨⟨dq', osq⟩, hw''⟩ := hw'
        subst hw''
        have HB9 := Lib.hid (HB.out.trans ((below_regrown wr dq' osq).mono hbs))
        clear HCX r0 r1 s0 s1
        generalize grow (redrawn wr dq') osq = W at *
        go_wp2_with fail
        go_roundw
        case rel => exact ⟨i, (i + j) / 2, by omega, by omega, rfl, by go_num, h1, HK2, HB9.out⟩
        case measure => simp [intOf]; omega
    · obtain rfl : i = j := by omega
      have hfound := HM.out i h1.out h2.out
      by_cases hil : i < l.length
      · obtain ⟨x, hx⟩ : ∃ x, l[i]? = some x := ⟨_, List.getElem?_eq_getElem hil⟩
        obtain ⟨b, off, rfl, hbl, c0, c1⟩ := hin.at hx
        have r0 := fun d os => cell_regrown c0 d os
        have r1 := fun d os => cell_regrown c1 d os
        have cX := fun d os => Calls.regrown_of (HX.out.1 x (grow (redrawn wr d) os) (hle2.below (below_regrown wr d os)))
        have hzero := HX.out.2.2 x
        have hue : (cmpD x (dr, dq) == 0) = u := by
          rw [Bool.eq_iff_iff]
          rw [hfound, hx]
          simp only [beq_iff_eq, Option.some.injEq]
          exact hzero
        generalize cmpD x (dr, dq) = c at *
        have HCX := Lib.hid cX
        obtain ⟨xr, xq⟩ := x
        simp only at r0 r1 HCX
        have hm0 : (i : Int) < (l.length : Int) := by omega
        have hm2 : decide ((i : Int) < (l.length : Int)) = true := by simp; omega
        clear hx cX hin hzero hfound hlt hle2
        go_upto_region 8 with fail
        clear c0 c1 k0 k1
        refine wp_region_quiet_below (by kernel_rfl) (by kernel_rfl) ?_
        repeat (first | go_big_quiet_step ((go_at_call 85; with_reducible exact HCX.out _ _)) | quiet_step ((go_at_call 85; with_reducible exact HCX.out _ _)))
        refine wpQuiet_nil ?_
        intro _ hw'
        obtain ⟨⟨dq', osq⟩, hw''⟩ := hw'
        subst hw''
        have HB9 := Lib.hid (HQ.out.2.2.1.trans ((HB.out.trans ((below_regrown wr dq' osq).mono hbs)).mono HQ.out.2.2.1.size))
        clear HCX r0 r1 s0 s1
        generalize grow (redrawn wr dq') osq = W at *
        go_wp2_with fail
        go_ret2
        exact ⟨⟨i, by first | rfl | (rw [← hue]; rfl) | (rw [hue]; rfl)⟩, HB9.out⟩
      · have hue : u = false := by
          refine Bool.eq_false_iff.2 fun h => ?_
          have := (List.getElem?_eq_some_iff.1 (hfound.1 h)).1
          omega
        have hm2 : decide ((i : Int) < (l.length : Int)) = false := by simp; omega
        subst hue
        clear hin hfound hlt hle2
        go_upto_region 8 with fail
        clear k0 k1
        refine wp_region_quiet_below (by kernel_rfl) (by kernel_rfl) ?_
        repeat (first | go_big_quiet_step (fail) | quiet_step (fail))
        refine wpQuiet_nil ?_
        intro _ hw'
        obtain ⟨⟨dq', osq⟩, hw''⟩ := hw'
        subst hw''
        have HB9 := Lib.hid (HQ.out.2.2.1.trans ((HB.out.trans ((below_regrown wr dq' osq).mono hbs)).mono HQ.out.2.2.1.size))
        clear s0 s1
        generalize grow (redrawn wr dq') osq = W at *
        go_wp2_with fail
        go_ret2
        exact ⟨⟨i, rfl⟩, HB9.out⟩

set_option maxHeartbeats 1000000 in
theorem lhasD (l : List Dt) (d : Dt) (a : Option Addr) (cap : Nat) (w : World) (h : DIn w a l) (hl : l.length ≤ 65536) (hs : Stands l) :
    Calls Try.prog 62 #[.slice a l.length cap, .func (.func 63) #[] #[], .agg #[.int .i64 d.1, .int .i64 d.2]] w fun e w' => e = .returned (.bool (decide (d ∈ l))) ∧ Go.RowKit.Below w.heap.size w w' := by
  have hB0 : Go.RowKit.Below w.heap.size w (boxD (w.alloc (.cells #[.func (.func 63) #[] #[]] 92)) d) := ((Below.refl _ w).alloc (Nat.le_refl _) _).trans ((boxD_below _ d).mono (by simp))
  have hle : LessD (boxD (w.alloc (.cells #[.func (.func 63) #[] #[]] 92)) d) w.heap.size :=
    LessD.below ⟨by rw [Joins.cell_of_block (heap_alloc_new w _)]; rfl, by simp⟩ (boxD_below _ d)
  have HS := Lib.hid (searchD l d a cap _ (h.below hB0) hl hs w.heap.size hle)
  have HB := Lib.hid hB0
  clear h hs hB0 hle
  unfold boxD at HS HB
  generalize decide (d ∈ l) = u at *
  obtain ⟨dr, dq⟩ := d
  simp only at HS HB ⊢
  go_enter Try.func62, Try.ntmps62
  go_wp2_with fail
  refine HS.out.mono ?_
  rintro e w1 ⟨⟨i, rfl⟩, hb⟩
  have H1 := Lib.hid (HB.out.trans (hb.mono HB.out.size))
  clear hb HS
  go_wp2_with fail
  go_ret
  exact ⟨rfl, H1.out⟩
end Go.Proofs.Ytcedliaeipabnaa

namespace Go.Proofs.Ytcedliaeipabnaa
set_option maxRecDepth 100000
open Go.RowKit Go.Sort Go.Shelf

theorem stands_rise {l : List Dt} (h : Rise l) : Stands l := List.Pairwise.imp (fun {_ _} h => ltD_asym h) h

/-- a closure that tells whether a context has a name -/
structure Tells (w : World) (c : Cx) (b1 b2 : Nat) (s : Value) (cl : List Dt) (p : Option Addr) (k : Nat) : Prop where
  row : CRow w b1 c.v s
  cell : w.cell? ⟨b2, 0, none⟩ = some (.slice p cl.length k)
  lt : b2 < w.heap.size
  din : DIn w p cl
  st : Stands cl
  mem : ∀ d, d ∈ cl ↔ d ∈ c.l
  len : cl.length ≤ 65536
  v16 : c.v.length = 16
theorem Tells.below {w w' : World} {c : Cx} {b1 b2 : Nat} {s : Value} {cl : List Dt} {p : Option Addr} {k : Nat} (h : Tells w c b1 b2 s cl p k) (hb : Go.RowKit.Below w.heap.size w w') : Tells w' c b1 b2 s cl p k :=
  ⟨h.row.keep hb, by rw [hb.cell (p := ⟨b2, 0, none⟩) h.lt]; exact h.cell, Nat.lt_of_lt_of_le h.lt hb.size, h.din.below hb, h.st, h.mem, h.len, h.v16⟩
def tellF (b1 b2 : Nat) : Value := .func (.func 61) #[] #[.pointer (some ⟨b1, 0, none⟩), .pointer (some ⟨b2, 0, none⟩)]

set_option maxHeartbeats 4000000 in
theorem tellC (c : Cx) (a : Option Addr) (cap : Nat) (w : World) (h : CIn w c a) :
    Calls Try.prog 29 #[.agg (ccs c.v (.slice a c.l.length cap))] w fun e w' => (∃ b1 b2 s cl p k, e = .returned (tellF b1 b2) ∧ Tells w' c b1 b2 s cl p k) ∧ Go.RowKit.Below w.heap.size w w' := by
  have hlen := h.len
  have hv := h.v16
  have hrow := CRow.new w c.v (.slice a c.l.length cap)
  have c16 := hrow.cloud hv
  have HV := Lib.hid hv
  have HT := Lib.hid (And.intro h.din (And.intro hrow (boxC_below w c.v (.slice a c.l.length cap))))
  unfold boxC at HT
  clear h hrow hv
  have hmf : ∀ (fn : Fn) (first cap : Array Value) (w : World), (Instr.makeFunc fn first cap).run Try.prog w = .ok (.func fn first cap) w := fun _ _ _ _ => rfl
  go_enter Try.func29, Try.ntmps29
  go_upto_region 2 with fail
  generalize hW : (w.alloc (.cells (ccs c.v (.slice a c.l.length cap)) 26)) = W at *
  have hs : W.heap.size = w.heap.size + 1 := by rw [← hW]; simp
  clear hW
  have HB2 := Lib.hid (HT.out.2.2.alloc HT.out.2.2.size (.cells #[.slice a c.l.length cap] 24))
  have hd2 : DIn (W.alloc (.cells #[.slice a c.l.length cap] 24)) a c.l := (HT.out.1.below HT.out.2.2).alloc _
  have hr2 : CRow (W.alloc (.cells #[.slice a c.l.length cap] 24)) w.heap.size c.v (.slice a c.l.length cap) := HT.out.2.1.alloc _
  have hcell2 : (W.alloc (.cells #[.slice a c.l.length cap] 24)).cell? ⟨w.heap.size + 1, 0, none⟩ = some (.slice a c.l.length cap) := by rw [← hs, Joins.cell_of_block (heap_alloc_new W _)]; rfl
  have hfree2 : (W.alloc (.cells #[.slice a c.l.length cap] 24)).frozen? ⟨w.heap.size + 1, 0, none⟩ = false := by rw [← hs]; exact Joins.unfrozen_of_block (heap_alloc_new W _) 0
  have H2 := Lib.hid (And.intro hd2 (And.intro hr2 (And.intro hcell2 hfree2)))
  have hz2 : w.heap.size + 1 < (W.alloc (.cells #[.slice a c.l.length cap] 24)).heap.size := by simp; omega
  clear hd2 hr2 c16 hfree2
  go_wp2_with fail
  generalize W.alloc (.cells #[.slice a c.l.length cap] 24) = W2 at *
  clear hcell2 HT
  refine (isSortedD c.l a cap W2 H2.out.1 (by omega)).mono ?_
  rintro e w3 ⟨⟨b, rfl, hst⟩, hb3⟩
  have H3 := Lib.hid (And.intro (H2.out.1.below hb3) (H2.out.2.1.keep hb3))
  have hc3 : w3.cell? ⟨w.heap.size + 1, 0, none⟩ = some (.slice a c.l.length cap) := by rw [hb3.cell (p := ⟨w.heap.size + 1, 0, none⟩) hz2]; exact H2.out.2.2.1
  have hf3 : w3.frozen? ⟨w.heap.size + 1, 0, none⟩ = false := by rw [hb3.frozen (p := ⟨w.heap.size + 1, 0, none⟩) hz2]; exact H2.out.2.2.2
  have hz3 : w.heap.size + 1 < w3.heap.size := Nat.lt_of_lt_of_le hz2 hb3.size
  have HB3 := Lib.hid (HB2.out.trans (hb3.mono HB2.out.size))
  have HC3 := Lib.hid (And.intro hc3 hf3)
  clear hb3 H2 HB2 hz2
  cases b with
  | true =>
    have HST := Lib.hid (hst rfl)
    clear hst hc3 hf3
    go_wp2_with fail
    go_ret
    exact ⟨⟨w.heap.size, w.heap.size + 1, .slice a c.l.length cap, c.l, a, cap, rfl, H3.out.2, HC3.out.1, hz3, H3.out.1, HST.out, fun _ => Iff.rfl, by omega, HV.out⟩, HB3.out⟩
  | false =>
    clear hst
    go_wp2_with fail
    refine (sortC c.l a cap w3 H3.out.1 (by omega)).mono ?_
    rintro e w4 ⟨v4, rfl, hown4, hb4⟩
    obtain ⟨a4, c4, rfl, hd4, hm4⟩ := hown4.din
    have hsl := sortD_len c.l
    have hc4 : w4.cell? ⟨w.heap.size + 1, 0, none⟩ = some (.slice a c.l.length cap) := by rw [hb4.cell (p := ⟨w.heap.size + 1, 0, none⟩) hz3]; exact HC3.out.1
    have hf4 : w4.frozen? ⟨w.heap.size + 1, 0, none⟩ = false := by rw [hb4.frozen (p := ⟨w.heap.size + 1, 0, none⟩) hz3]; exact HC3.out.2
    have hz4 : w.heap.size + 1 < w4.heap.size := Nat.lt_of_lt_of_le hz3 hb4.size
    have hd5 : DIn (w4.setCell ⟨w.heap.size + 1, 0, none⟩ (.slice a4 (sortD c.l).length c4)) a4 (sortD c.l) := by
      rcases hown4.2 with ⟨he, h0⟩ | ⟨g, cap', cur, he, hB, hg, hn, hm, hs, htk⟩
      · exact .inl (List.length_eq_zero_iff.1 h0)
      · rcases hd4 with h | ⟨b, off, ha4, hlt, hc⟩
        · exact .inl h
        · have hbg : b = g := by rw [ha4] at he; injection he with h1 h2 h3; injection h1 with h1; injection h1
          have hbne : b ≠ w.heap.size + 1 := by omega
          refine .inr ⟨b, off, ha4, by simpa using hlt, fun j d hj => ?_⟩
          obtain ⟨h1, h2⟩ := hc j d hj
          exact ⟨by rw [World.cell?_setCell_other _ _ _ _ (fun e => hbne (congrArg Addr.block e).symm)]; exact h1, by rw [World.cell?_setCell_other _ _ _ _ (fun e => hbne (congrArg Addr.block e).symm)]; exact h2⟩
    have H4 := Lib.hid (And.intro hd5 (And.intro ((H3.out.2.keep hb4).other (show w.heap.size ≠ w.heap.size + 1 by omega) 0 (.slice a4 (sortD c.l).length c4)) (World.cell?_setCell_same _ _ (.slice a4 (sortD c.l).length c4) hc4)))
    have HB4 := Lib.hid (show Go.RowKit.Below w.heap.size w (w4.setCell ⟨w.heap.size + 1, 0, none⟩ (.slice a4 (sortD c.l).length c4)) from (HB3.out.trans (hb4.mono HB3.out.size)).setCell (Nat.le_succ _) _)
    clear hown4 hb4 hd4 hd5 hc3 hf3 HC3 H3
    go_wp2_with fail
    go_ret
    exact ⟨⟨w.heap.size, w.heap.size + 1, .slice a c.l.length cap, sortD c.l, a4, c4, rfl, H4.out.2.1, H4.out.2.2, by simpa using hz4, H4.out.1, stands_rise (rise_sortD _), fun d => mem_sortD, by omega, HV.out⟩, HB4.out⟩

theorem chk_and (d : Dt) (u : Bool) : (u && decide (chkD d = 0)) = (decide (chkD d = 0) && u) := Bool.and_comm _ _

set_option maxHeartbeats 4000000 in
theorem tell1C {c : Cx} {b1 b2 : Nat} {s : Value} {cl : List Dt} {p : Option Addr} {k : Nat} (d : Dt) (w : World) (h : Tells w c b1 b2 s cl p k) :
    Calls Try.prog 61 #[.agg #[.int .i64 d.1, .int .i64 d.2], .pointer (some ⟨b1, 0, none⟩), .pointer (some ⟨b2, 0, none⟩)] w fun e w' => e = .returned (.bool (hasC c d)) ∧ Go.RowKit.Below w.heap.size w w' := by
  have hh : hasC c d = (hasV c.v d || (decide (d ∈ cl) && (chkD d == 0))) := by
    rw [hasC_or, Bool.and_comm (decide (d ∈ cl))]
    congr 2
    exact decide_eq_decide.2 (h.mem d).symm
  have hB0 := boxD_below w d
  have HT0 := h.below hB0
  have q0 : (boxD w d).cell? ⟨w.heap.size, 0, none⟩ = some (.int .i64 d.1) := by unfold boxD; rw [Joins.cell_of_block (heap_alloc_new w _)]; rfl
  have q1 : (boxD w d).cell? ⟨w.heap.size, 1, none⟩ = some (.int .i64 d.2) := by unfold boxD; rw [Joins.cell_of_block (heap_alloc_new w _)]; rfl
  have hz0 : w.heap.size < (boxD w d).heap.size := by rw [boxD_size]; omega
  have H0 := Lib.hid (And.intro HT0 (And.intro hB0 (And.intro q0 q1)))
  have HV := Lib.hid h.v16
  have hvh := fun W => vhasC c.v d HV.out W
  have hck := fun W => checkCb d W
  have hsd := fun W hin => lhasD cl d p k W hin h.len h.st
  have HS := Lib.hid hsd
  have HCK := Lib.hid hck
  have HVH := Lib.hid hvh
  have HH := Lib.hid hh
  clear h hB0 HT0 hsd hck hvh hh
  unfold boxD at H0 q0 q1 hz0
  obtain ⟨dr, dq⟩ := d
  simp only at H0 q0 q1 hz0 HS HCK HVH HH ⊢
  go_enter Try.func61, Try.ntmps61
  go_upto_region 1 with fail
  generalize w.alloc (.cells #[.int .i64 dr, .int .i64 dq] 31) = W0 at *
  go_wp2_with ((with_reducible refine cl_loadV ?_ (.tmp 5) ?_ b1 c.v s ?_ ?_ ?_ ?_); rfl; rfl; rfl; exact H0.out.1.row; exact HV.out)
  refine (HVH.out W0).mono ?_
  rintro e w1 ⟨rfl, hb1⟩
  have HT1 := Lib.hid (H0.out.1.below hb1)
  have HB1 := Lib.hid (H0.out.2.1.trans (hb1.mono H0.out.2.1.size))
  have k0 : w1.cell? ⟨w.heap.size, 0, none⟩ = some (.int .i64 dr) := by rw [hb1.cell (p := ⟨w.heap.size, 0, none⟩) hz0]; exact q0
  have k1 : w1.cell? ⟨w.heap.size, 1, none⟩ = some (.int .i64 dq) := by rw [hb1.cell (p := ⟨w.heap.size, 1, none⟩) hz0]; exact q1
  have c2 := HT1.out.cell
  have hz1 := HT1.out.lt
  have hz01 : w.heap.size < w1.heap.size := Nat.lt_of_lt_of_le hz0 hb1.size
  clear hb1 q0 q1 H0 HVH hz0
  have hho := HH.out
  generalize hasV c.v (dr, dq) = u1 at *
  cases u1 with
  | true =>
    have HO := Lib.hid hho
    clear hho c2 k0 k1
    go_wp2_with fail
    go_ret
    exact ⟨by rw [HO.out]; rfl, HB1.out⟩
  | false =>
    have HO := Lib.hid hho
    clear hho
    go_wp2_with fail
    refine (HS.out w1 HT1.out.din).mono ?_
    rintro e w2 ⟨rfl, hb2⟩
    have HB2 := Lib.hid (HB1.out.trans (hb2.mono HB1.out.size))
    have k0' : w2.cell? ⟨w.heap.size, 0, none⟩ = some (.int .i64 dr) := by rw [hb2.cell (p := ⟨w.heap.size, 0, none⟩) hz01]; exact k0
    have k1' : w2.cell? ⟨w.heap.size, 1, none⟩ = some (.int .i64 dq) := by rw [hb2.cell (p := ⟨w.heap.size, 1, none⟩) hz01]; exact k1
    have hho := HO.out
    clear hb2 k0 k1 c2 HS HB1 HT1
    generalize decide ((dr, dq) ∈ cl) = u2 at *
    cases u2 with
    | false =>
      have HO := Lib.hid hho
      clear hho k0' k1'
      go_wp2_with fail
      go_ret
      exact ⟨by rw [HO.out]; rfl, HB2.out⟩
    | true =>
      go_wp2_with fail
      refine (HCK.out w2).mono ?_
      rintro e w3 ⟨rfl, hb3⟩
      have HB3 := Lib.hid (HB2.out.trans (hb3.mono HB2.out.size))
      have HO := Lib.hid hho
      clear hb3 k0' k1' hho HCK
      generalize chkD (dr, dq) = c3 at *
      go_wp2_with fail
      go_ret
      exact ⟨by rw [HO.out]; rfl, HB3.out⟩
end Go.Proofs.Ytcedliaeipabnaa
