/-
  Check, Less, order, of the program; Check, Less, of the document.
  list.Compare of names by dot.Less.
  fact: cmp.Compare of texts, cmp.Or, list.Compare of stamps; order, Less.
  slices.SortFunc at []api.Fact: its bodies are those that the library's contract was proved of.
  slices.Clone and slices.SortFunc of facts.
-/
import Derived.Test.YtcedliaeipabnaaGreatGKernC
import Derived.Shelf.SlSortCmp.QuietGrown
import Derived.Deep.Cut
import Derived.Deep.DeepCutAuto
import Derived.Test.YtcedliaeipabnaaGreatGKernB
import Derived.Test.YtcedliaeipabnaaGreatGKernD
import Derived.Deep.RegionHeld3
import Derived.Shelf.SlSortCmp.NoneTotal
import Derived.BigQuiet
namespace Go.Proofs.YtcedliaeipabnaaGreat
set_option maxRecDepth 100000
open Go.RowKit Go.Sort

set_option maxHeartbeats 1000000 in
set_option maxRecDepth 100000 in
theorem lessC (a b : Dt) (w : World) : Calls Tryz.prog 75 #[.agg #[.int .i64 a.1, .int .i64 a.2], .agg #[.int .i64 b.1, .int .i64 b.2]] w fun e w' => e = .returned (.bool (ltD a b)) ∧ boxD (boxD w a) b = w' := by
  obtain ⟨r, n⟩ := a
  obtain ⟨s, m⟩ := b
  have hl : ltD (r, n) (s, m) = (decide (r < s) || (decide (r = s) && decide (n < m))) := rfl
  unfold boxD
  simp only at *
  by_cases h : r = s
  · subst h
    have h1 : (r != r) = false := by simp
    have h2 : ltD (r, n) (r, m) = decide (n < m) := by rw [hl]; simp
    rw [h2]; clear h2 hl
    go_enter Tryz.func75, Tryz.ntmps75
    go_wp2
    go_ret
    exact ⟨rfl, rfl⟩
  · have h1 : (r != s) = true := by simp [h]
    have h2 : ltD (r, n) (s, m) = decide (r < s) := by rw [hl]; simp [h]
    rw [h2]; clear h2 hl
    go_enter Tryz.func75, Tryz.ntmps75
    go_wp2
    go_ret
    exact ⟨rfl, rfl⟩

set_option maxHeartbeats 1000000 in
set_option maxRecDepth 100000 in
theorem lessR (a b : Dt) (w : World) : Calls Tryz.prog 68 #[.agg #[.int .i64 a.1, .int .i64 a.2], .agg #[.int .i64 b.1, .int .i64 b.2]] w fun e w' => e = .returned (.bool (ltD a b)) ∧ boxD (boxD w a) b = w' := by
  obtain ⟨r, n⟩ := a
  obtain ⟨s, m⟩ := b
  have hl : ltD (r, n) (s, m) = (decide (r < s) || (decide (r = s) && decide (n < m))) := rfl
  unfold boxD
  simp only at *
  by_cases h : r < s
  · have h1 : decide (r < s) = true := by simp [h]
    have h2 : ltD (r, n) (s, m) = true := by rw [hl, h1]; rfl
    rw [h2]; clear h2 hl
    go_enter Tryz.func68, Tryz.ntmps68
    go_wp2
    go_ret
    exact ⟨rfl, rfl⟩
  · have h1 : decide (r < s) = false := by simp [h]
    by_cases e : r = s
    · have e1 : (r == s) = true := by simp [e]
      have h2 : ltD (r, n) (s, m) = decide (n < m) := by rw [hl, h1]; simp [e]
      rw [h2]; clear h2 hl e
      go_enter Tryz.func68, Tryz.ntmps68
      go_wp2
      go_ret
      exact ⟨rfl, rfl⟩
    · have e1 : (r == s) = false := by simp [e]
      have h2 : ltD (r, n) (s, m) = false := by rw [hl, h1]; simp [e]
      rw [h2]; clear h2 hl e
      go_enter Tryz.func68, Tryz.ntmps68
      go_wp2
      go_ret
      exact ⟨rfl, rfl⟩

/-- what order answers -/
def cmpD (a b : Dt) : Int := if a = b then 0 else if ltD a b = true then -1 else 1

set_option maxHeartbeats 1000000 in
set_option maxRecDepth 100000 in
theorem orderC (a b : Dt) (w : World) : Calls Tryz.prog 95 #[.agg #[.int .i64 a.1, .int .i64 a.2], .agg #[.int .i64 b.1, .int .i64 b.2]] w fun e w' => e = .returned (.int .i64 (cmpD a b)) ∧ ∃ q os, w' = grow (w.drewN q) os := by
  have hq := eqD a b
  have hl := fun W => lessC a b W
  unfold boxD at hl
  have hc : cmpD a b = if a = b then 0 else if ltD a b = true then -1 else 1 := rfl
  generalize cmpD a b = c at hc ⊢
  generalize ltD a b = l at hl hc
  by_cases h : a = b
  · rw [if_pos h] at hc
    have hdb : decide (a = b) = true := by simp [h]
    rw [hdb] at hq
    subst hc
    clear h hdb hl
    obtain ⟨r, n⟩ := a
    obtain ⟨s, m⟩ := b
    simp only at *
    go_enter Tryz.func95, Tryz.ntmps95
    go_wp2
    go_ret
    exact ⟨rfl, 0, _, by rw [alloc_eq_grow, alloc_eq_grow, grow_grow]; rfl⟩
  · rw [if_neg h] at hc
    have hdb : decide (a = b) = false := by simp [h]
    rw [hdb] at hq
    clear h hdb
    obtain ⟨r, n⟩ := a
    obtain ⟨s, m⟩ := b
    simp only at *
    cases l with
    | true =>
      obtain rfl : c = -1 := by rw [hc]; rfl
      go_enter Tryz.func95, Tryz.ntmps95
      go_wp2_with fail
      refine (hl _).mono ?_
      rintro e w1 ⟨rfl, rfl⟩
      go_wp2
      go_ret
      exact ⟨rfl, 0, _, by rw [alloc_eq_grow, alloc_eq_grow, alloc_eq_grow, alloc_eq_grow, grow_grow, grow_grow, grow_grow]; rfl⟩
    | false =>
      obtain rfl : c = 1 := by rw [hc]; rfl
      go_enter Tryz.func95, Tryz.ntmps95
      go_wp2_with fail
      refine (hl _).mono ?_
      rintro e w1 ⟨rfl, rfl⟩
      go_wp2
      go_ret
      exact ⟨rfl, 0, _, by rw [alloc_eq_grow, alloc_eq_grow, alloc_eq_grow, alloc_eq_grow, grow_grow, grow_grow, grow_grow]; rfl⟩
end Go.Proofs.YtcedliaeipabnaaGreat

namespace Go.Proofs.YtcedliaeipabnaaGreat
set_option maxRecDepth 100000
open Go.RowKit Go.Sort

theorem cmpD_lt {a b : Dt} (h : ltD a b = true) : cmpD a b = -1 := by
  unfold cmpD
  rw [if_neg (fun e => by rw [e, ltD_irr] at h; cases h), if_pos h]
theorem cmpD_gt {a b : Dt} (h : ltD b a = true) : cmpD a b = 1 := by
  unfold cmpD
  rw [if_neg (fun e => by rw [e, ltD_irr] at h; cases h), if_neg (by rw [ltD_asym h]; simp)]
theorem cmpD_eq {a b : Dt} (h1 : ltD a b = false) (h2 : ltD b a = false) : cmpD a b = 0 := by
  rcases ltD_tri a b with h | h | h
  · rw [h1] at h; cases h
  · unfold cmpD; rw [if_pos h]
  · rw [h2] at h; cases h

/-- what Compare leaves: the parameters' boxes, and those of the calls -/
def cmpW (w : World) (a b : Dt) : World := if ltD a b = true then boxD (boxD (boxD (boxD w a) b) a) b else boxD (boxD (boxD (boxD (boxD (boxD w a) b) a) b) b) a
set_option maxHeartbeats 1000000 in
theorem compareD (a b : Dt) (w : World) : Calls Tryz.prog 84 #[.func (.func 75) #[] #[], .agg #[.int .i64 a.1, .int .i64 a.2], .agg #[.int .i64 b.1, .int .i64 b.2]] w fun e w' => e = .returned (.int .i64 (cmpD a b)) ∧ w' = cmpW w a b := by
  have hl := fun W => lessC a b W
  have hm := fun W => lessC b a W
  unfold boxD at hl hm
  unfold cmpW boxD
  by_cases e1 : ltD a b = true
  · rw [cmpD_lt e1, if_pos e1]
    rw [e1] at hl
    clear e1 hm
    obtain ⟨r, n⟩ := a
    obtain ⟨s, m⟩ := b
    simp only at *
    go_enter Tryz.func84, Tryz.ntmps84
    go_wp2_with fail
    refine (hl _).mono ?_
    rintro e w1 ⟨rfl, rfl⟩
    go_wp2
    go_ret
    exact ⟨rfl, rfl⟩
  · have e1' : ltD a b = false := by simpa using e1
    rw [if_neg e1]
    by_cases e2 : ltD b a = true
    · rw [cmpD_gt e2]
      rw [e1'] at hl
      rw [e2] at hm
      clear e1 e2 e1'
      obtain ⟨r, n⟩ := a
      obtain ⟨s, m⟩ := b
      simp only at *
      go_enter Tryz.func84, Tryz.ntmps84
      go_wp2_with fail
      refine (hl _).mono ?_
      rintro e w1 ⟨rfl, rfl⟩
      go_wp2_with fail
      refine (hm _).mono ?_
      rintro e w1 ⟨rfl, rfl⟩
      go_wp2
      go_ret
      exact ⟨rfl, rfl⟩
    · have e2' : ltD b a = false := by simpa using e2
      rw [cmpD_eq e1' e2']
      rw [e1'] at hl
      rw [e2'] at hm
      clear e1 e2 e1' e2'
      obtain ⟨r, n⟩ := a
      obtain ⟨s, m⟩ := b
      simp only at *
      go_enter Tryz.func84, Tryz.ntmps84
      go_wp2_with fail
      refine (hl _).mono ?_
      rintro e w1 ⟨rfl, rfl⟩
      go_wp2_with fail
      refine (hm _).mono ?_
      rintro e w1 ⟨rfl, rfl⟩
      go_wp2
      go_ret
      exact ⟨rfl, rfl⟩
theorem cmpW_below (w : World) (a b : Dt) : Below w.heap.size w (cmpW w a b) := by
  have h1 := boxD2_below w a b
  have h2 := h1.trans ((boxD2_below (boxD (boxD w a) b) a b).mono (by simp [boxD_size]; omega))
  have h3 := h2.trans ((boxD2_below (boxD (boxD (boxD (boxD w a) b) a) b) b a).mono (by simp [boxD_size]; omega))
  unfold cmpW
  split
  · exact h2
  · exact h3
theorem cmpW_grow (w : World) (a b : Dt) : ∃ os, cmpW w a b = grow w os := by
  unfold cmpW boxD
  split
  · exact ⟨_, by rw [alloc_eq_grow, alloc_eq_grow, alloc_eq_grow, alloc_eq_grow, grow_grow, grow_grow, grow_grow]⟩
  · exact ⟨_, by rw [alloc_eq_grow, alloc_eq_grow, alloc_eq_grow, alloc_eq_grow, alloc_eq_grow, alloc_eq_grow, grow_grow, grow_grow, grow_grow, grow_grow, grow_grow]⟩
end Go.Proofs.YtcedliaeipabnaaGreat

namespace Go.Proofs.YtcedliaeipabnaaGreat
set_option linter.unusedSimpArgs false
open Go.RowKit Go.Sort
set_option maxRecDepth 100000

/-! what comparing answers -/
def cmpO {α : Type} (lt : α → α → Bool) (a b : α) : Int := if lt a b = true then -1 else if lt b a = true then 1 else 0
theorem cmpO_zero {α : Type} {lt : α → α → Bool} (h : TotO lt) {a b : α} : cmpO lt a b = 0 ↔ a = b := by
  unfold cmpO
  constructor
  · intro e
    rcases h.tri a b with k | k | k
    · rw [if_pos k] at e; cases e
    · exact k
    · exfalso
      revert e
      cases lt a b <;> simp [k]
  · rintro rfl
    rw [h.irr]; simp
theorem cmpO_neg {α : Type} (lt : α → α → Bool) (a b : α) : decide (cmpO lt a b < 0) = lt a b := by
  unfold cmpO
  cases h : lt a b with
  | true => simp
  | false => cases k : lt b a <;> simp
theorem cmpO_lex {α β : Type} [DecidableEq α] {l1 : α → α → Bool} {l2 : β → β → Bool} (h : TotO l1) (p q : α × β) : cmpO (lexL l1 l2) p q = if cmpO l1 p.1 q.1 ≠ 0 then cmpO l1 p.1 q.1 else cmpO l2 p.2 q.2 := by
  by_cases e : p.1 = q.1
  · rw [if_neg (fun k => k ((cmpO_zero h).2 e))]
    unfold cmpO
    rw [lexL_eq e, lexL_eq e.symm]
  · rw [if_pos (fun k => e ((cmpO_zero h).1 k))]
    unfold cmpO
    rw [lexL_ne e, lexL_ne (fun k => e k.symm)]
/-- the first that is not 0 -/
def orP : List Int → Int
  | [] => 0
  | x :: r => if x ≠ 0 then x else orP r
abbrev cmpX : ByteArray → ByteArray → Int := cmpO ltX
abbrev cmpF : Ft → Ft → Int := cmpO ltF
theorem cmpT_O (x y : Int) : cmpT x y = cmpO (fun x y : Int => decide (x < y)) x y := by
  unfold cmpT cmpO
  simp
theorem cmpD_O (x y : Dt) : cmpD x y = cmpO ltD x y := by
  unfold cmpD cmpO
  by_cases h : x = y
  · subst h; simp [ltD_irr]
  · rw [if_neg h]
    rcases ltD_tri x y with k | k | k
    · simp [k]
    · exact absurd k h
    · simp [k, ltD_asym k]
theorem cmpF_or (a b : Ft) : cmpF a b = orP [cmpX a.n b.n, cmpT a.k b.k, cmpD a.d b.d, cmpO ltS a.s b.s, cmpX a.v b.v] := by
  have e : cmpF a b = cmpO (lexL ltX (lexL (fun x y : Int => decide (x < y)) (lexL ltD (lexL ltS ltX)))) (keyF a) (keyF b) := rfl
  rw [e, cmpO_lex totX, cmpO_lex totI, cmpO_lex totD, cmpO_lex totS, cmpT_O, cmpD_O]
  have h5 : ∀ z : Int, (if z ≠ 0 then z else 0) = z := fun z => by
    by_cases h : z = 0
    · simp [h]
    · simp [h]
  simp only [orP, keyF, h5]
  rfl

theorem cmpXC (x y : ByteArray) (w : World) : Calls Tryz.prog 82 #[.string x, .string y] w fun e w' => e = .returned (.int .i64 (cmpX x y)) ∧ w = w' := by
  have hn : ∀ (z : ByteArray) (W : World), Calls Tryz.prog 109 #[.string z] W fun e w' => e = .returned (.bool false) ∧ W = w' := by
    intro z W
    go_enter Tryz.func109, Tryz.ntmps109
    go_wp2
    go_ret
    exact ⟨by simp, rfl⟩
  have e : cmpX x y = if Op.bytesLess x.toList y.toList = true then -1 else if Op.bytesLess y.toList x.toList = true then 1 else 0 := rfl
  rw [e]
  clear e
  cases h1 : Op.bytesLess x.toList y.toList with
  | true =>
    rw [if_pos rfl]
    go_enter Tryz.func82, Tryz.ntmps82
    go_wp2_with (refine (hn _ _).mono ?_; rintro e w1 ⟨rfl, rfl⟩)
    go_ret
    exact ⟨rfl, rfl⟩
  | false =>
    rw [if_neg (by simp)]
    cases h2 : Op.bytesLess y.toList x.toList with
    | true =>
      have hq : (x.toList == y.toList) = false := by
        simp only [beq_eq_false_iff_ne, ne_eq]
        intro e
        rw [e, less_irr] at h2
        cases h2
      rw [if_pos rfl]
      go_enter Tryz.func82, Tryz.ntmps82
      go_wp2_with (refine (hn _ _).mono ?_; rintro e w1 ⟨rfl, rfl⟩)
      go_ret
      exact ⟨rfl, rfl⟩
    | false =>
      have hq : (x.toList == y.toList) = true := by
        rcases less_tri x.toList y.toList with k | k | k
        · rw [h1] at k; cases k
        · simp [k]
        · rw [h2] at k; cases k
      rw [if_neg (by simp)]
      go_enter Tryz.func82, Tryz.ntmps82
      go_wp2_with (refine (hn _ _).mono ?_; rintro e w1 ⟨rfl, rfl⟩)
      go_ret
      exact ⟨rfl, rfl⟩

set_option maxHeartbeats 1000000 in
theorem orC (xs : List Int) (B n : Nat) (w : World) (hn : n = xs.length) (hmax : n ≤ 1000) (hc : ∀ j, j < xs.length → w.cell? ⟨B, j, none⟩ = some (.int .i64 (xs.getD j 0))) :
    Calls Tryz.prog 81 #[.slice (some ⟨B, 0, none⟩) n n] w fun e w' => e = .returned (.int .i64 (orP xs)) ∧ w = w' := by
  have HC := Lib.hid hc
  have HN := Lib.hid hn
  clear hc hn
  go_enter Tryz.func81, Tryz.ntmps81
  go_wp2_with fail
  go_loopw [5, 8] (fun _ i wr => ∃ k : Nat, k ≤ n ∧ i = .int .i64 k ∧ orP (xs.drop k) = orP xs ∧ w = wr) (fun _ i _ => n - (intOf i).toNat)
  case atStart => exact ⟨0, Nat.zero_le _, rfl, rfl, rfl⟩
  case round =>
    obtain ⟨k, hk, rfl, hp, rfl⟩ := hrel
    by_cases hlt : k < n
    · have hkl : k < xs.length := by rw [← HN.out]; exact hlt
      have hdrop : xs.drop k = xs[k] :: xs.drop (k + 1) := List.drop_eq_getElem_cons hkl
      have hcell := HC.out k hkl
      have hi1 : (k : Int) < (n : Int) := by omega
      rw [List.getD_eq_getElem?_getD, List.getElem?_eq_getElem hkl, Option.getD_some] at hcell
      rw [hdrop] at hp
      clear hdrop
      generalize xs[k] = x at hp hcell
      by_cases hx : x = 0
      · subst hx
        have HP := Lib.hid (show orP (xs.drop (k + 1)) = orP xs from by rw [← hp]; rfl)
        clear hp
        go_wp2_with fail
        exact ⟨⟨k + 1, by omega, by go_num, HP.out, trivial⟩, by simp [intOf]; omega⟩
      · have HP := Lib.hid (show x = orP xs from by rw [← hp]; show _ = if x ≠ 0 then x else _; rw [if_pos hx])
        have hne : (x != 0) = true := by simp [hx]
        clear hp hx
        go_wp2_with fail
        go_ret
        exact ⟨by rw [← HP.out]; rfl, rfl⟩
    · obtain rfl : k = n := by omega
      have HP := Lib.hid (show (0 : Int) = orP xs from by rw [← hp, List.drop_eq_nil_of_le (by rw [← HN.out]; omega)]; rfl)
      clear hp
      go_wp2_with fail
      go_ret
      exact ⟨by rw [← HP.out]; rfl, rfl⟩

set_option maxHeartbeats 1000000 in
theorem compareS (a b : St) (w : World) : Calls Tryz.prog 85 #[.func (.func 86) #[] #[], .agg #[.int .i64 a.t, .int .i64 a.c, .int .i64 a.r], .agg #[.int .i64 b.t, .int .i64 b.c, .int .i64 b.r]] w fun e w' => e = .returned (.int .i64 (cmpO ltS a b)) ∧ Gr w w' := by
  have hl := fun W => tlessG a b W
  have hm := fun W => tlessG b a W
  have hr : SRow (boxS (boxS w a) b) w.heap.size a ∧ SRow (boxS (boxS w a) b) (w.heap.size + 1) b := ⟨(SRow.new w a).alloc _, by have := SRow.new (boxS w a) b; rwa [boxS_size] at this⟩
  have HG0 := Lib.hid (show Gr w (boxS (boxS w a) b) from ((Gr.refl _).alloc _).alloc _)
  have HR0 := Lib.hid hr
  clear hr
  have e : cmpO ltS a b = if ltS a b = true then -1 else if ltS b a = true then 1 else 0 := rfl
  rw [e]
  clear e
  generalize ltS a b = p at *
  generalize ltS b a = q at *
  obtain ⟨at', ac, ar⟩ := a
  obtain ⟨bt, bc, br⟩ := b
  unfold boxS at HG0 HR0
  simp only at hl hm HG0 HR0 ⊢
  have HL := Lib.hid hl
  have HM := Lib.hid hm
  clear hl hm
  cases p with
  | true =>
    rw [if_pos rfl]
    clear HM
    go_enter Tryz.func85, Tryz.ntmps85
    go_wp2_with fail
    refine (HL.out _).mono ?_
    rintro e w1 ⟨rfl, hg⟩
    have H := Lib.hid (HG0.out.trans hg)
    clear hg
    go_wp2_with fail
    go_ret
    exact ⟨rfl, H.out⟩
  | false =>
    rw [if_neg (by simp)]
    go_enter Tryz.func85, Tryz.ntmps85
    go_wp2_with fail
    refine (HL.out _).mono ?_
    rintro e w1 ⟨rfl, hg⟩
    have H := Lib.hid (HG0.out.trans hg)
    have a0 := (HR0.out.1.keep hg.below).cell 0 _ rfl
    have a1 := (HR0.out.1.keep hg.below).cell 1 _ rfl
    have a2 := (HR0.out.1.keep hg.below).cell 2 _ rfl
    have b0 := (HR0.out.2.keep hg.below).cell 0 _ rfl
    have b1 := (HR0.out.2.keep hg.below).cell 1 _ rfl
    have b2 := (HR0.out.2.keep hg.below).cell 2 _ rfl
    clear hg
    cases q with
    | true =>
      go_wp2_with fail
      refine (HM.out _).mono ?_
      rintro e w2 ⟨rfl, hg⟩
      have H2 := Lib.hid (H.out.trans hg)
      clear hg
      go_wp2_with fail
      go_ret
      exact ⟨rfl, H2.out⟩
    | false =>
      go_wp2_with fail
      refine (HM.out _).mono ?_
      rintro e w2 ⟨rfl, hg⟩
      have H2 := Lib.hid (H.out.trans hg)
      clear hg
      go_wp2_with fail
      go_ret
      exact ⟨rfl, H2.out⟩

/-! a fact's box -/
def boxF (w : World) (f : Ft) : World := w.alloc (.cells (fcs f).toArray 61)
theorem boxF_size (w : World) (f : Ft) : (boxF w f).heap.size = w.heap.size + 1 := by simp [boxF]
theorem boxF_gr (w : World) (f : Ft) : Gr w (boxF w f) := Gr.one w _
theorem boxF_in (w : World) (f : Ft) : (boxF w f).rangeAt w.heap.size 0 (fcs f) := fun j v hv => by
  unfold boxF
  rw [Nat.zero_add, Joins.cell_of_block (heap_alloc_new w _)]
  simpa using hv
theorem boxF2_in (w : World) (a b : Ft) : (boxF (boxF w a) b).rangeAt w.heap.size 0 (fcs a) ∧ (boxF (boxF w a) b).rangeAt (w.heap.size + 1) 0 (fcs b) :=
  ⟨range_below (boxF_in w a) (boxF_gr _ b).below (by rw [boxF_size]; omega), by have := boxF_in (boxF w a) b; rwa [boxF_size] at this⟩
theorem range_one {w : World} {b o : Nat} {cs : List Value} (h : w.rangeAt b o cs) (j : Nat) {v : Value} (hv : cs[j]? = some v) : w.cell? ⟨b, o + j, none⟩ = some v := h j v hv

theorem fyield_I {ops : Array Oper} {S : World → Prop} {o : Oper} {a : Act} (hw : Region.wanted o (yielded ops a.tmps) = true) (x : Operand) (ho : o.op = .load 3 x) (g off : Nat) (z : Int) (hx : a.eval x = .pointer (some ⟨g, off, none⟩))
    (hg : ∀ w, S w → w.cell? ⟨g, off, none⟩ = some (.int .i64 z)) : YieldsIf Tryz.prog ops S o (.int .i64 z) a := by
  refine .inl ⟨hw, fun w hS => ?_⟩
  have h0 := hg w hS
  unfold execOp
  simp only [ho, hx]
  go_simp
theorem fyield_X {ops : Array Oper} {S : World → Prop} {o : Oper} {a : Act} (hw : Region.wanted o (yielded ops a.tmps) = true) (x : Operand) (ho : o.op = .load 9 x) (g off : Nat) (z : ByteArray) (hx : a.eval x = .pointer (some ⟨g, off, none⟩))
    (hg : ∀ w, S w → w.cell? ⟨g, off, none⟩ = some (.string z)) : YieldsIf Tryz.prog ops S o (.string z) a := by
  refine .inl ⟨hw, fun w hS => ?_⟩
  have h0 := hg w hS
  unfold execOp
  simp only [ho, hx]
  go_simp
theorem dotSize : (Tryz.prog.info? 50).map (·.size) = some 2 := by kernel_rfl
theorem fyield_D {ops : Array Oper} {S : World → Prop} {o : Oper} {a : Act} (hw : Region.wanted o (yielded ops a.tmps) = true) (x : Operand) (ho : o.op = .load 50 x) (g : Nat) (d : Dt) (hx : a.eval x = .pointer (some ⟨g, 0, none⟩))
    (hg : ∀ w, S w → w.rangeAt g 0 [.int .i64 d.1, .int .i64 d.2]) : YieldsIf Tryz.prog ops S o (.agg #[.int .i64 d.1, .int .i64 d.2]) a :=
  yieldsIf_load_mid hw 50 x ho g 0 hx [.int .i64 d.1, .int .i64 d.2] _ hg Tryz.underlying50 rfl dotSize
theorem fyield_S {ops : Array Oper} {S : World → Prop} {o : Oper} {a : Act} (hw : Region.wanted o (yielded ops a.tmps) = true) (x : Operand) (ho : o.op = .load 52 x) (g : Nat) (d : St) (hx : a.eval x = .pointer (some ⟨g, 2, none⟩))
    (hg : ∀ w, S w → w.rangeAt g 2 [.int .i64 d.t, .int .i64 d.c, .int .i64 d.r]) : YieldsIf Tryz.prog ops S o (.agg #[.int .i64 d.t, .int .i64 d.c, .int .i64 d.r]) a :=
  yieldsIf_load_mid hw 52 x ho g 2 hx [.int .i64 d.t, .int .i64 d.c, .int .i64 d.r] _ hg Tryz.underlying52 rfl stampInfo
theorem range_dot {w : World} {b : Nat} {f : Ft} (h : w.rangeAt b 0 (fcs f)) : w.rangeAt b 0 [.int .i64 f.d.1, .int .i64 f.d.2] := fun j v hv => by
  match j, hv with
  | 0, hv => exact h 0 v hv
  | 1, hv => exact h 1 v hv
theorem range_stamp {w : World} {b : Nat} {f : Ft} (h : w.rangeAt b 0 (fcs f)) : w.rangeAt b 2 [.int .i64 f.s.t, .int .i64 f.s.c, .int .i64 f.s.r] := fun j v hv => by
  match j, hv with
  | 0, hv => exact h 2 v hv
  | 1, hv => exact h 3 v hv
  | 2, hv => exact h 4 v hv

set_option maxHeartbeats 4000000 in
theorem orderF (a b : Ft) (w : World) : Calls Tryz.prog 50 #[.agg (fcs a).toArray, .agg (fcs b).toArray] w fun e w' => e = .returned (.int .i64 (cmpF a b)) ∧ Gr w w' := by
  have hin := boxF2_in w a b
  have hgr : Gr w (boxF (boxF w a) b) := (boxF_gr w a).trans (boxF_gr _ b)
  have hlt : w.heap.size < (boxF (boxF w a) b).heap.size ∧ w.heap.size + 1 < (boxF (boxF w a) b).heap.size := by rw [boxF_size, boxF_size]; omega
  have hor := cmpF_or a b
  have hX1 := fun W => cmpXC a.n b.n W
  have hT := fun W => cmpTC a.k b.k W
  have hD := fun W => compareD a.d b.d W
  have hS := fun W => compareS a.s b.s W
  have hX2 := fun W => cmpXC a.v b.v W
  generalize cmpF a b = c at *
  generalize cmpX a.n b.n = c1 at *
  generalize cmpT a.k b.k = c2 at *
  generalize cmpD a.d b.d = c3 at *
  generalize cmpO ltS a.s b.s = c4 at *
  generalize cmpX a.v b.v = c5 at *
  have HIN := Lib.hid hin
  have HGR := Lib.hid hgr
  have HLT := Lib.hid hlt
  have HOR := Lib.hid hor
  have HX1 := Lib.hid hX1
  have HT := Lib.hid hT
  have HD := Lib.hid hD
  have HS := Lib.hid hS
  have HX2 := Lib.hid hX2
  clear hin hgr hlt hor hX1 hT hD hS hX2
  go_enter Tryz.func50, Tryz.ntmps50
  go_upto_region 1 with fail
  change Code.wp _ _ _ _ (boxF (boxF w a) b)
  generalize boxF (boxF w a) b = W at *
  refine wp_region_held (S := fun U => Gr W U) (by kernel_rfl) ?_
  change wpAnyH _ _ _ _ _ _ _ _ W.drew
  have K0 : (fun U => Gr W U) W.drew := (Gr.drew1 _)
  refine wpAnyH_take (i := 0) (oi := { dst := some 5, op := _, type := _, pos := _, after := _, guard := _ }) (v := ?v1) rfl (by kernel_rfl) (by kernel_rfl) (by kernel_rfl) (fun _ _ _ h => h) (Or.inl ⟨by rfl, ?hy1⟩) K0 ?rest1
  case hy1 => (intro w hSw; (try dsimp only at hSw); first | (go_simp; done) | (go_simp; with_reducible rfl))
  try simp only [Act.put, List.setIfInBounds_toArray, List.set_cons_zero, List.set_cons_succ]
  refine wpAnyH_take (i := 1) (oi := { dst := some 6, op := _, type := _, pos := _, after := _, guard := _ }) rfl (by kernel_rfl) (by kernel_rfl) (by kernel_rfl) (fun _ _ _ h => h) (fyield_X (by rfl) (.tmp 5) rfl w.heap.size 6 a.n rfl (fun U hU => by have h := (range_below HIN.out.1 (Gr.below hU) HLT.out.1) 6 _ rfl; rwa [Nat.zero_add] at h)) K0 ?_
  try simp only [Act.put, List.setIfInBounds_toArray, List.set_cons_zero, List.set_cons_succ]
  refine wpAnyH_take (i := 2) (oi := { dst := some 7, op := _, type := _, pos := _, after := _, guard := _ }) (v := ?v3) rfl (by kernel_rfl) (by kernel_rfl) (by kernel_rfl) (fun _ _ _ h => h) (Or.inl ⟨by rfl, ?hy3⟩) K0 ?rest3
  case hy3 => (intro w hSw; (try dsimp only at hSw); first | (go_simp; done) | (go_simp; with_reducible rfl))
  try simp only [Act.put, List.setIfInBounds_toArray, List.set_cons_zero, List.set_cons_succ]
  refine wpAnyH_take (i := 3) (oi := { dst := some 8, op := _, type := _, pos := _, after := _, guard := _ }) rfl (by kernel_rfl) (by kernel_rfl) (by kernel_rfl) (fun _ _ _ h => h) (fyield_X (by rfl) (.tmp 7) rfl (w.heap.size + 1) 6 b.n rfl (fun U hU => by have h := (range_below HIN.out.2 (Gr.below hU) HLT.out.2) 6 _ rfl; rwa [Nat.zero_add] at h)) K0 ?_
  try simp only [Act.put, List.setIfInBounds_toArray, List.set_cons_zero, List.set_cons_succ]
  refine wpAnyH_take (i := 5) (oi := { dst := some 10, op := _, type := _, pos := _, after := _, guard := _ }) (v := ?v5) rfl (by kernel_rfl) (by kernel_rfl) (by kernel_rfl) (fun _ _ _ h => h) (Or.inl ⟨by rfl, ?hy5⟩) K0 ?rest5
  case hy5 => (intro w hSw; (try dsimp only at hSw); first | (go_simp; done) | (go_simp; with_reducible rfl))
  try simp only [Act.put, List.setIfInBounds_toArray, List.set_cons_zero, List.set_cons_succ]
  refine wpAnyH_take (i := 6) (oi := { dst := some 11, op := _, type := _, pos := _, after := _, guard := _ }) rfl (by kernel_rfl) (by kernel_rfl) (by kernel_rfl) (fun _ _ _ h => h) (fyield_I (by rfl) (.tmp 10) rfl w.heap.size 5 a.k rfl (fun U hU => by have h := (range_below HIN.out.1 (Gr.below hU) HLT.out.1) 5 _ rfl; rwa [Nat.zero_add] at h)) K0 ?_
  try simp only [Act.put, List.setIfInBounds_toArray, List.set_cons_zero, List.set_cons_succ]
  refine wpAnyH_take (i := 7) (oi := { dst := some 12, op := _, type := _, pos := _, after := _, guard := _ }) (v := ?v7) rfl (by kernel_rfl) (by kernel_rfl) (by kernel_rfl) (fun _ _ _ h => h) (Or.inl ⟨by rfl, ?hy7⟩) K0 ?rest7
  case hy7 => (intro w hSw; (try dsimp only at hSw); first | (go_simp; done) | (go_simp; with_reducible rfl))
  try simp only [Act.put, List.setIfInBounds_toArray, List.set_cons_zero, List.set_cons_succ]
  refine wpAnyH_take (i := 8) (oi := { dst := some 13, op := _, type := _, pos := _, after := _, guard := _ }) rfl (by kernel_rfl) (by kernel_rfl) (by kernel_rfl) (fun _ _ _ h => h) (fyield_I (by rfl) (.tmp 12) rfl (w.heap.size + 1) 5 b.k rfl (fun U hU => by have h := (range_below HIN.out.2 (Gr.below hU) HLT.out.2) 5 _ rfl; rwa [Nat.zero_add] at h)) K0 ?_
  try simp only [Act.put, List.setIfInBounds_toArray, List.set_cons_zero, List.set_cons_succ]
  refine wpAnyH_take (i := 10) (oi := { dst := some 15, op := _, type := _, pos := _, after := _, guard := _ }) (v := ?v9) rfl (by kernel_rfl) (by kernel_rfl) (by kernel_rfl) (fun _ _ _ h => h) (Or.inl ⟨by rfl, ?hy9⟩) K0 ?rest9
  case hy9 => (intro w hSw; (try dsimp only at hSw); first | (go_simp; done) | (go_simp; with_reducible rfl))
  try simp only [Act.put, List.setIfInBounds_toArray, List.set_cons_zero, List.set_cons_succ]
  refine wpAnyH_take (i := 11) (oi := { dst := some 16, op := _, type := _, pos := _, after := _, guard := _ }) rfl (by kernel_rfl) (by kernel_rfl) (by kernel_rfl) (fun _ _ _ h => h) (fyield_D (by rfl) (.tmp 15) rfl w.heap.size a.d rfl (fun U hU => range_dot (range_below HIN.out.1 (Gr.below hU) HLT.out.1))) K0 ?_
  try simp only [Act.put, List.setIfInBounds_toArray, List.set_cons_zero, List.set_cons_succ]
  refine wpAnyH_take (i := 12) (oi := { dst := some 17, op := _, type := _, pos := _, after := _, guard := _ }) (v := ?v11) rfl (by kernel_rfl) (by kernel_rfl) (by kernel_rfl) (fun _ _ _ h => h) (Or.inl ⟨by rfl, ?hy11⟩) K0 ?rest11
  case hy11 => (intro w hSw; (try dsimp only at hSw); first | (go_simp; done) | (go_simp; with_reducible rfl))
  try simp only [Act.put, List.setIfInBounds_toArray, List.set_cons_zero, List.set_cons_succ]
  refine wpAnyH_take (i := 13) (oi := { dst := some 18, op := _, type := _, pos := _, after := _, guard := _ }) rfl (by kernel_rfl) (by kernel_rfl) (by kernel_rfl) (fun _ _ _ h => h) (fyield_D (by rfl) (.tmp 17) rfl (w.heap.size + 1) b.d rfl (fun U hU => range_dot (range_below HIN.out.2 (Gr.below hU) HLT.out.2))) K0 ?_
  try simp only [Act.put, List.setIfInBounds_toArray, List.set_cons_zero, List.set_cons_succ]
  refine wpAnyH_take (i := 15) (oi := { dst := some 20, op := _, type := _, pos := _, after := _, guard := _ }) (v := ?v13) rfl (by kernel_rfl) (by kernel_rfl) (by kernel_rfl) (fun _ _ _ h => h) (Or.inl ⟨by rfl, ?hy13⟩) K0 ?rest13
  case hy13 => (intro w hSw; (try dsimp only at hSw); first | (go_simp; done) | (go_simp; with_reducible rfl))
  try simp only [Act.put, List.setIfInBounds_toArray, List.set_cons_zero, List.set_cons_succ]
  refine wpAnyH_take (i := 16) (oi := { dst := some 21, op := _, type := _, pos := _, after := _, guard := _ }) rfl (by kernel_rfl) (by kernel_rfl) (by kernel_rfl) (fun _ _ _ h => h) (fyield_S (by rfl) (.tmp 20) rfl w.heap.size a.s rfl (fun U hU => range_stamp (range_below HIN.out.1 (Gr.below hU) HLT.out.1))) K0 ?_
  try simp only [Act.put, List.setIfInBounds_toArray, List.set_cons_zero, List.set_cons_succ]
  refine wpAnyH_take (i := 17) (oi := { dst := some 22, op := _, type := _, pos := _, after := _, guard := _ }) (v := ?v15) rfl (by kernel_rfl) (by kernel_rfl) (by kernel_rfl) (fun _ _ _ h => h) (Or.inl ⟨by rfl, ?hy15⟩) K0 ?rest15
  case hy15 => (intro w hSw; (try dsimp only at hSw); first | (go_simp; done) | (go_simp; with_reducible rfl))
  try simp only [Act.put, List.setIfInBounds_toArray, List.set_cons_zero, List.set_cons_succ]
  refine wpAnyH_take (i := 18) (oi := { dst := some 23, op := _, type := _, pos := _, after := _, guard := _ }) rfl (by kernel_rfl) (by kernel_rfl) (by kernel_rfl) (fun _ _ _ h => h) (fyield_S (by rfl) (.tmp 22) rfl (w.heap.size + 1) b.s rfl (fun U hU => range_stamp (range_below HIN.out.2 (Gr.below hU) HLT.out.2))) K0 ?_
  try simp only [Act.put, List.setIfInBounds_toArray, List.set_cons_zero, List.set_cons_succ]
  refine wpAnyH_take (i := 20) (oi := { dst := some 25, op := _, type := _, pos := _, after := _, guard := _ }) (v := ?v17) rfl (by kernel_rfl) (by kernel_rfl) (by kernel_rfl) (fun _ _ _ h => h) (Or.inl ⟨by rfl, ?hy17⟩) K0 ?rest17
  case hy17 => (intro w hSw; (try dsimp only at hSw); first | (go_simp; done) | (go_simp; with_reducible rfl))
  try simp only [Act.put, List.setIfInBounds_toArray, List.set_cons_zero, List.set_cons_succ]
  refine wpAnyH_take (i := 21) (oi := { dst := some 26, op := _, type := _, pos := _, after := _, guard := _ }) rfl (by kernel_rfl) (by kernel_rfl) (by kernel_rfl) (fun _ _ _ h => h) (fyield_X (by rfl) (.tmp 25) rfl w.heap.size 7 a.v rfl (fun U hU => by have h := (range_below HIN.out.1 (Gr.below hU) HLT.out.1) 7 _ rfl; rwa [Nat.zero_add] at h)) K0 ?_
  try simp only [Act.put, List.setIfInBounds_toArray, List.set_cons_zero, List.set_cons_succ]
  refine wpAnyH_take (i := 22) (oi := { dst := some 27, op := _, type := _, pos := _, after := _, guard := _ }) (v := ?v19) rfl (by kernel_rfl) (by kernel_rfl) (by kernel_rfl) (fun _ _ _ h => h) (Or.inl ⟨by rfl, ?hy19⟩) K0 ?rest19
  case hy19 => (intro w hSw; (try dsimp only at hSw); first | (go_simp; done) | (go_simp; with_reducible rfl))
  try simp only [Act.put, List.setIfInBounds_toArray, List.set_cons_zero, List.set_cons_succ]
  refine wpAnyH_take (i := 23) (oi := { dst := some 28, op := _, type := _, pos := _, after := _, guard := _ }) rfl (by kernel_rfl) (by kernel_rfl) (by kernel_rfl) (fun _ _ _ h => h) (fyield_X (by rfl) (.tmp 27) rfl (w.heap.size + 1) 7 b.v rfl (fun U hU => by have h := (range_below HIN.out.2 (Gr.below hU) HLT.out.2) 7 _ rfl; rwa [Nat.zero_add] at h)) K0 ?_
  try simp only [Act.put, List.setIfInBounds_toArray, List.set_cons_zero, List.set_cons_succ]
  refine wpAnyH_ready (rs := [4]) (by kernel_rfl) (by simp) ?_
  refine AllReadyH.cons (o := { dst := some 9, op := _, type := _, pos := _, after := _, guard := _ }) rfl (fun K hK => ?_) AllReadyH.nil
  go_simp
  refine (HX1.out _).mono ?_
  rintro e u4 ⟨rfl, hw⟩
  have K4 := K0
  rw [hw] at K4
  clear hw
  refine hK.out _ _ K4 (fun _ => ?_)
  clear hK K
  try simp only [Act.put, List.setIfInBounds_toArray, List.set_cons_zero, List.set_cons_succ]
  refine wpAnyH_ready (rs := [9]) (by kernel_rfl) (by simp) ?_
  refine AllReadyH.cons (o := { dst := some 14, op := _, type := _, pos := _, after := _, guard := _ }) rfl (fun K hK => ?_) AllReadyH.nil
  go_simp
  refine (HT.out _).mono ?_
  rintro e u9 ⟨rfl, hw⟩
  have K9 := K4
  rw [hw] at K9
  clear hw
  refine hK.out _ _ K9 (fun _ => ?_)
  clear hK K
  try simp only [Act.put, List.setIfInBounds_toArray, List.set_cons_zero, List.set_cons_succ]
  refine wpAnyH_ready (rs := [14]) (by kernel_rfl) (by simp) ?_
  refine AllReadyH.cons (o := { dst := some 19, op := _, type := _, pos := _, after := _, guard := _ }) rfl (fun K hK => ?_) AllReadyH.nil
  go_simp
  refine (HD.out _).mono ?_
  rintro e u14 ⟨rfl, hw⟩
  have K14 := K9
  have K14 := K14.trans (show Gr _ u14 from by obtain ⟨os, hos⟩ := cmpW_grow _ a.d b.d; exact ⟨0, os, hw.trans hos⟩)
  clear hw
  refine hK.out _ _ K14 (fun _ => ?_)
  clear hK K
  try simp only [Act.put, List.setIfInBounds_toArray, List.set_cons_zero, List.set_cons_succ]
  refine wpAnyH_ready (rs := [19]) (by kernel_rfl) (by simp) ?_
  refine AllReadyH.cons (o := { dst := some 24, op := _, type := _, pos := _, after := _, guard := _ }) rfl (fun K hK => ?_) AllReadyH.nil
  go_simp
  refine (HS.out _).mono ?_
  rintro e u19 ⟨rfl, hw⟩
  have K19 := K14
  have K19 := K19.trans hw
  clear hw
  refine hK.out _ _ K19 (fun _ => ?_)
  clear hK K
  try simp only [Act.put, List.setIfInBounds_toArray, List.set_cons_zero, List.set_cons_succ]
  refine wpAnyH_ready (rs := [24]) (by kernel_rfl) (by simp) ?_
  refine AllReadyH.cons (o := { dst := some 29, op := _, type := _, pos := _, after := _, guard := _ }) rfl (fun K hK => ?_) AllReadyH.nil
  go_simp
  refine (HX2.out _).mono ?_
  rintro e u24 ⟨rfl, hw⟩
  have K24 := K19
  rw [hw] at K24
  clear hw
  refine hK.out _ _ K24 (fun _ => ?_)
  clear hK K
  try simp only [Act.put, List.setIfInBounds_toArray, List.set_cons_zero, List.set_cons_succ]
  refine wpAnyH_ready (rs := [25]) (by kernel_rfl) (by simp) ?_
  refine AllReadyH.cons (o := { dst := some 30, op := _, type := _, pos := _, after := _, guard := _ }) rfl (fun K hK => ?_) AllReadyH.nil
  go_simp
  have K25 := K24
  have K25 := Gr.alloc K25 (.cells #[.int .i64 c1, .int .i64 c2, .int .i64 c3, .int .i64 c4, .int .i64 c5] 3)
  refine hK.out _ _ K25 (fun _ => ?_)
  clear hK K
  try simp only [Act.put, List.setIfInBounds_toArray, List.set_cons_zero, List.set_cons_succ]
  refine wpAnyH_ready (rs := [26]) (by kernel_rfl) (by simp) ?_
  refine AllReadyH.cons (o := { dst := some 31, op := _, type := _, pos := _, after := _, guard := _ }) rfl (fun K hK => ?_) AllReadyH.nil
  go_simp
  refine (orC [c1, c2, c3, c4, c5] u24.heap.size 5 (u24.alloc (.cells #[.int .i64 c1, .int .i64 c2, .int .i64 c3, .int .i64 c4, .int .i64 c5] 3)) rfl (by omega) (fun j hj => ?hc)).mono ?_
  case hc => (rw [Joins.cell_of_block (heap_alloc_new u24 _)]; match j, hj with | 0, _ => rfl | 1, _ => rfl | 2, _ => rfl | 3, _ => rfl | 4, _ => rfl)
  rintro e u26 ⟨rfl, hw⟩
  have K26 := K25
  rw [hw] at K26
  clear hw
  refine hK.out _ _ K26 (fun _ => ?_)
  clear hK K
  try simp only [Act.put, List.setIfInBounds_toArray, List.set_cons_zero, List.set_cons_succ]
  refine wpAnyH_take (i := 27) (oi := { dst := some 4, op := _, type := _, pos := _, after := _, guard := _ }) (v := ?v21) rfl (by kernel_rfl) (by kernel_rfl) (by kernel_rfl) (fun _ _ _ h => h) (Or.inl ⟨by rfl, ?hy21⟩) K26 ?rest21
  case hy21 => (intro w hSw; (try dsimp only at hSw); first | (go_simp; done) | (go_simp; with_reducible rfl))
  try simp only [Act.put, List.setIfInBounds_toArray, List.set_cons_zero, List.set_cons_succ]
  refine wpAnyH_done (by kernel_rfl) ?_ _
  try simp only [Act.put, List.setIfInBounds_toArray, List.set_cons_zero, List.set_cons_succ]
  have HK := Lib.hid (HGR.out.trans K26)
  clear K26
  go_wp2_with fail
  go_ret
  exact ⟨by rw [HOR.out]; rfl, HK.out⟩

set_option maxHeartbeats 1000000 in
theorem lessFG (a b : Ft) (w : World) : Calls Tryz.prog 36 #[.agg (fcs a).toArray, .agg (fcs b).toArray] w fun e w' => e = .returned (.bool (ltF a b)) ∧ Gr w w' := by
  have hin := boxF2_in w a b
  have l1 := Lib.hid hin.1
  have l2 := Lib.hid hin.2
  have HGR := Lib.hid (show Gr w (boxF (boxF w a) b) from (boxF_gr w a).trans (boxF_gr _ b))
  have HO := Lib.hid (fun W => orderF a b W)
  have HN := Lib.hid (show decide (cmpF a b < 0) = ltF a b from cmpO_neg ltF a b)
  generalize cmpF a b = c at *
  clear hin
  unfold boxF at l1 l2 HGR
  go_enter Tryz.func36, Tryz.ntmps36
  go_wp2_with (first | ((with_reducible refine fl_load ?_ (.tmp 2) ?_ w.heap.size 0 a ?_ ?_ ?_); rfl; rfl; rfl; exact l1.out) | ((with_reducible refine fl_load ?_ (.tmp 3) ?_ (w.heap.size + 1) 0 b ?_ ?_ ?_); rfl; rfl; rfl; exact l2.out))
  refine (HO.out _).mono ?_
  rintro e w1 ⟨rfl, hg⟩
  have H := Lib.hid (HGR.out.trans hg)
  clear hg
  go_wp2_with fail
  go_ret
  exact ⟨by rw [← HN.out]; rfl, H.out⟩
theorem lessFC (a b : Ft) (w : World) : Calls Tryz.prog 36 #[.agg (fcs a).toArray, .agg (fcs b).toArray] w fun e w' => e = .returned (.bool (ltF a b)) ∧ Below w.heap.size w w' :=
  (lessFG a b w).mono fun _ _ h => ⟨h.1, h.2.below⟩
end Go.Proofs.YtcedliaeipabnaaGreat

namespace Go.Proofs.YtcedliaeipabnaaGreat
set_option maxRecDepth 100000
open Go.Shelf

def sortFl_ren : Go.Shelf.Ren := ⟨fun | 6 => 49 | 15 => 80 | 14 => 79 | 28 => 107 | 29 => 108 | 20 => 99 | 21 => 100 | 22 => 101 | 23 => 102 | 24 => 103 | 25 => 104 | 26 => 105 | 27 => 106 | 46 => 124 | 47 => 125 | 48 => 126 | 49 => 127 | 50 => 128 | 57 => 145 | n => n, fun | 22 => 22 | 24 => 61 | 25 => 84 | 3 => 3 | 39 => 107 | 0 => 0 | 53 => 136 | 55 => 138 | 4 => 4 | 46 => 130 | 45 => 129 | 50 => 102 | 5 => 5 | 9 => 9 | 66 => 156 | 70 => 160 | 76 => 176 | 77 => 177 | n => n, fun | n => n⟩
theorem sortFl : SlLaysF0.n6 Tryz.prog sortFl_ren := {
  mixed := by kernel_rfl
  f6 := ⟨Tryz.f49.name, by decide, Tryz.func49.trans (congrArg some (by kernel_rfl))⟩
  f14 := ⟨Tryz.f79.name, by decide, Tryz.func79.trans (congrArg some (by kernel_rfl))⟩
  f15 := Tryz.func80.trans (congrArg some (by kernel_rfl))
  f20 := ⟨Tryz.f99.name, by decide, Tryz.func99.trans (congrArg some (by kernel_rfl))⟩
  f21 := ⟨Tryz.f100.name, by decide, Tryz.func100.trans (congrArg some (by kernel_rfl))⟩
  f22 := ⟨Tryz.f101.name, by decide, Tryz.func101.trans (congrArg some (by kernel_rfl))⟩
  f23 := ⟨Tryz.f102.name, by decide, Tryz.func102.trans (congrArg some (by kernel_rfl))⟩
  f24 := ⟨Tryz.f103.name, by decide, Tryz.func103.trans (congrArg some (by kernel_rfl))⟩
  f25 := ⟨Tryz.f104.name, by decide, Tryz.func104.trans (congrArg some (by kernel_rfl))⟩
  f26 := ⟨Tryz.f105.name, by decide, Tryz.func105.trans (congrArg some (by kernel_rfl))⟩
  f27 := ⟨Tryz.f106.name, by decide, Tryz.func106.trans (congrArg some (by kernel_rfl))⟩
  f28 := Tryz.func107.trans (congrArg some (by kernel_rfl))
  f29 := Tryz.func108.trans (congrArg some (by kernel_rfl))
  f46 := ⟨Tryz.f124.name, by decide, Tryz.func124.trans (congrArg some (by kernel_rfl))⟩
  f47 := Tryz.func125.trans (congrArg some (by kernel_rfl))
  f48 := Tryz.func126.trans (congrArg some (by kernel_rfl))
  f49 := ⟨Tryz.f127.name, by decide, Tryz.func127.trans (congrArg some (by kernel_rfl))⟩
  f50 := ⟨Tryz.f128.name, by decide, Tryz.func128.trans (congrArg some (by kernel_rfl))⟩
  f57 := ⟨Tryz.f145.name, by decide, Tryz.func145.trans (congrArg some (by kernel_rfl))⟩
  t0 := Tryz.underlying0
  a0 := Tryz.isAgg0
  z0 := Tryz.sizeOf0
  v0 := Tryz.zeroValue0
  t3 := Tryz.underlying3
  a3 := Tryz.isAgg3
  z3 := Tryz.sizeOf3
  v3 := Tryz.zeroValue3
  t4 := Tryz.underlying4
  a4 := Tryz.isAgg4
  z4 := Tryz.sizeOf4
  v4 := Tryz.zeroValue4
  t5 := Tryz.underlying5
  a5 := Tryz.isAgg5
  z5 := Tryz.sizeOf5
  v5 := Tryz.zeroValue5
  t9 := Tryz.underlying9
  a9 := Tryz.isAgg9
  z9 := Tryz.sizeOf9
  v9 := Tryz.zeroValue9
  t22 := Tryz.underlying22
  a22 := Tryz.isAgg22
  z22 := Tryz.sizeOf22
  v22 := Tryz.zeroValue22
  t25 := Tryz.underlying84
  a25 := Tryz.isAgg84
  z25 := Tryz.sizeOf84
  v25 := Tryz.zeroValue84
  t39 := Tryz.underlying107
  a39 := Tryz.isAgg107
  z39 := Tryz.sizeOf107
  v39 := Tryz.zeroValue107
  t45 := Tryz.underlying129
  a45 := Tryz.isAgg129
  z45 := Tryz.sizeOf129
  v45 := Tryz.zeroValue129
  t46 := Tryz.underlying130
  a46 := Tryz.isAgg130
  z46 := Tryz.sizeOf130
  v46 := Tryz.zeroValue130
  t50 := Tryz.underlying102
  a50 := Tryz.isAgg102
  z50 := Tryz.sizeOf102
  v50 := Tryz.zeroValue102
  t53 := Tryz.underlying136
  a53 := Tryz.isAgg136
  z53 := Tryz.sizeOf136
  v53 := Tryz.zeroValue136
  t55 := Tryz.underlying138
  a55 := Tryz.isAgg138
  z55 := Tryz.sizeOf138
  v55 := Tryz.zeroValue138
  t66 := Tryz.underlying156
  a66 := Tryz.isAgg156
  z66 := Tryz.sizeOf156
  v66 := Tryz.zeroValue156
  t70 := Tryz.underlying160
  a70 := Tryz.isAgg160
  z70 := Tryz.sizeOf160
  v70 := Tryz.zeroValue160
  t76 := Tryz.underlying176
  a76 := Tryz.isAgg176
  z76 := Tryz.sizeOf176
  v76 := Tryz.zeroValue176
  t77 := Tryz.underlying177
  a77 := Tryz.isAgg177
  z77 := Tryz.sizeOf177
  v77 := Tryz.zeroValue177 }
end Go.Proofs.YtcedliaeipabnaaGreat

namespace Go.Proofs.YtcedliaeipabnaaGreat
set_option maxRecDepth 100000
open Go.RowKit Go.Shelf Go.Lib Go.Sort

theorem FIn.cells {w : World} {a : Option Addr} {l : List Ft} (h : FIn w a l) {x : Addr} (hx : a = some x) : ∀ j u, (rowF l)[j]? = some u → w.cell? (x.add j) = some u := by
  intro j u hj
  rcases h with rfl | ⟨b, off, ha, hlt, hc⟩
  · simp [rowF] at hj
  · obtain rfl := Option.some.inj (hx.symm.trans ha)
    have e1 : ∀ k, (⟨b, off, none⟩ : Addr).add k = ⟨b, off + k, none⟩ := fun k => by cases k <;> simp [Addr.add]
    rw [e1]
    obtain ⟨i, f, k, hi, rfl, hu⟩ := rowF_get l j u hj
    rw [← Nat.add_assoc]
    exact hc i f hi k u hu

theorem own_emptyF (w : World) (e : TypeId) (sz : Nat) : (w.alloc (.cells #[] e)).ownsRow w.heap.size e sz (.slice (some ⟨w.heap.size, 0, none⟩) 0 0) 0 [] :=
  ⟨by simp, .inr ⟨w.heap.size, 0, #[], rfl, Nat.le_refl _, heap_alloc_new w _, Nat.le_refl _, by simp [maxLen], by simp, by simp⟩⟩

set_option maxHeartbeats 1000000 in
set_option maxRecDepth 100000 in
theorem cloneF (l : List Ft) (a : Option Addr) (cap : Nat) (w : World) (h : FIn w a l) (hl : l.length ≤ 65536) :
    Calls Tryz.prog 48 #[.slice a l.length cap] w fun e w' => ∃ v', e = .returned v' ∧ OwnF w.heap.size v' l w' ∧ Below w.heap.size w w' := by
  obtain ⟨i0, hi, hz0, hz1, hz2⟩ := info_parts factInfo
  have hq := fun (w : World) (a : Option Addr) (n c : Nat) => Lib.run_eql_slice_nil (P := Tryz.prog) w 22 61 a n c 0 0 Tryz.underlying22
  cases a with
  | none =>
    have hl0 : l = [] := by
      rcases h with h | ⟨b, off, ha, _⟩
      · exact h
      · cases ha
    subst hl0
    clear h
    go_enter Tryz.func48, Tryz.ntmps48
    go_wp2_with fail
    go_ret
    exact ⟨_, rfl, ownF_nil _ _, Below.refl _ _⟩
  | some x =>
    have hcells := (h.alloc (.cells #[] 61)).cells rfl
    obtain ⟨v', W', hr, ho, hgr, hsf, hform⟩ := run_append_sf (P := Tryz.prog) (w.alloc (.cells #[] 61)) w.heap.size 22 22 22 61 i0 _ 8 80 Tryz.underlying22 hi hz0 hz1 hz2 rfl _ 0 [] (own_emptyF w _ _)
      (.slice (some x) l.length cap) l.length (rowF l) (Src.ofSlice _ Tryz.underlying22 x l.length cap _ (rowF_len l) hcells (rowF_cell l)) (by unfold maxLen; omega) (by omega) (by simp)
    simp only [Nat.zero_add, List.nil_append] at ho
    have hbel : Below w.heap.size w W' := (Joins.below_alloc1 w _).grown hgr (by simp) (fun k hk => by simp [Value.ownBlock] at hk; omega)
    have HF := Lib.hid (show OwnF w.heap.size v' l W' ∧ Below w.heap.size w W' from ⟨ho, hbel⟩)
    clear h hcells ho hgr hsf hform hbel hi hz0 hz1 hz2
    generalize l.length = n at *
    go_enter Tryz.func48, Tryz.ntmps48
    go_wp2_with (at_builtin; refine wpList_append_run rfl _ _ 22 22 rfl (.slice (some ⟨w.heap.size, 0, none⟩) 0 0) (.slice (some x) n cap) _ W' rfl rfl hr ?_)
    go_ret
    exact ⟨_, rfl, HF.out.1, HF.out.2⟩

/-! the order, as sorting asks for it -/
theorem lt_cmpF (a b : Ft) : ltOf cmpF a b = ltF a b := cmpO_neg ltF a b
theorem swoF : SWO (ltOf cmpF) := {
  irrefl := fun x => by rw [lt_cmpF]; exact ltF_irr x
  trans := fun x y z h1 h2 => by rw [lt_cmpF] at *; exact ltF_trans h1 h2
  ntrans := fun x y z h1 h2 => by
    rw [lt_cmpF] at *
    rcases ltF_tri x z with h | h | h
    · rcases ltF_tri x y with k | k | k
      · rw [k] at h1; cases h1
      · subst k; rw [h] at h2; cases h2
      · rcases ltF_tri y z with m | m | m
        · rw [m] at h2; cases h2
        · subst m; rw [ltF_asym k] at h; cases h
        · have := ltF_trans m k; rw [ltF_asym this] at h; cases h
    · subst h; exact ltF_irr _
    · exact ltF_asym h }
theorem orderFq (a b : Ft) (w : World) : Calls Tryz.prog 50 #[.agg (fcs a).toArray, .agg (fcs b).toArray] w fun e w' => e = .returned (.int .i64 (cmpF a b)) ∧ ∃ q os, w' = grow (w.drewN q) os := orderF a b w
instance : Inhabited Ft := ⟨⟨(0, 0), ⟨0, 0, 0⟩, 0, ⟨#[]⟩, ⟨#[]⟩⟩⟩
theorem cmpLaysF (blk off size : Nat) (w : World) : CmpLays Tryz.prog 50 #[] fcs 8 cmpF blk off size w := fun _ _ _ _ x y => orderFq x y _

theorem below_sortedF (w : World) (B blk off n : Nat) (d : Array Ft) (os : Array Obj) (hB : B ≤ blk) (hblk : blk < w.heap.size) : Go.RowKit.Below B w (sortWorldK fcs 8 w blk off n d os) := by
  refine ⟨rfl, rfl, rfl, ?_, fun k hk => ?_⟩
  · unfold sortWorldK putRowK; rw [size_grow, Sort.size_putRow]; exact Nat.le_add_right _ _
  · unfold sortWorldK putRowK
    rw [heap_grow_old _ _ (by rw [Sort.size_putRow]; show k < w.heap.size; omega)]
    unfold putRow mapBlock
    rw [Array.getElem?_modify, if_neg (by omega)]
    rfl

theorem holds_ownF {w : World} {B g cap : Nat} {l : List Ft} (h : OwnF B (.slice (some ⟨g, 0, none⟩) l.length cap) l w) : HoldsK fcs 8 w g 0 l.toArray := by
  intro t ht
  have ht2 : t < l.length * 8 := by rw [size_flatK] at ht; simpa using ht
  have hil : t / 8 < l.length := by omega
  rw [get_flatK _ _ _ _ (by simpa using ht2)]
  have hg : l.toArray[t / 8]! = l[t / 8] := by rw [getElem!_pos l.toArray (t / 8) (by simpa using hil)]; simp
  rw [hg]
  unfold OwnF at h
  refine ⟨?_, World.ownsRow.frozenAt h _⟩
  rw [Nat.zero_add, World.ownsRow.cellAt h t ht2]
  have hk : t % 8 < (fcs l[t / 8]).length := by rw [fcs_len]; omega
  have h1 := rowF_at l (t / 8) l[t / 8] (List.getElem?_eq_getElem hil) (t % 8) _ (List.getElem?_eq_getElem hk)
  rw [show t / 8 * 8 + t % 8 = t by omega] at h1
  rw [h1, getElem!_pos (fcs l[t / 8]) (t % 8) hk]
  rfl

/-- Block g holds the facts l, and may be written. -/
structure FH (w : World) (g : Nat) (l : List Ft) : Prop where
  lt : g < w.heap.size
  at' : ∀ j f, l[j]? = some f → w.rangeAt g (j * 8) (fcs f)
  free : w.there g 0 (l.length * 8)

theorem sortCallF (l : List Ft) (v : Value) (B : Nat) (w : World) (hlen : l.length ≤ 65536) (hown : OwnF B v l w) (_hB : B ≤ w.heap.size) :
    Calls Tryz.prog 49 #[v, .func (.func 50) #[] #[]] w fun e w' =>
      e = .returned (.tuple #[]) ∧ ((l = [] ∧ v = .slice none 0 0 ∧ w' = w) ∨ ∃ (s : List Ft) (g cap : Nat), v = .slice (some ⟨g, 0, none⟩) s.length cap ∧ s.length ≤ cap ∧ B ≤ g ∧ s.length = l.length ∧ s.Perm l ∧ s.Pairwise (fun a b => ltF b a = false) ∧ FH w' g s ∧ Go.RowKit.Below B w w') := by
  obtain ⟨hl, hv⟩ := id hown
  rcases hv with ⟨rfl, h0⟩ | ⟨g, cap, cur, rfl, hBg, hg, hn, hm, hs, htk⟩
  · have hl0 : l = [] := List.length_eq_zero_iff.1 h0
    subst hl0
    have hcon := AnyF.slices_SortFunc_none (P := Tryz.prog) (ρ := sortFl_ren) sortFl none 0 (.func (.func 50) #[] #[]) w
    exact Calls.mono (f := 49) hcon fun e w' h => by
      obtain ⟨he, hw⟩ := h
      exact ⟨he, .inl ⟨rfl, rfl, hw⟩⟩
  · have hH := holds_ownF hown
    have hlt : g < w.heap.size := lt_of_block hg
    have eg : ∀ args w, (callFunc 50 args).run Tryz.prog w = .ok (.enter 50 args) w := enters_of Tryz.func50 (by kernel_rfl) rfl
    have hsz : l.toArray.size = l.length := by simp
    have hcon := AnyQ.slices_SortFunc sortFl 8 Tryz.isAgg61 Tryz.sizeOf61 fcs (fun _ => rfl) fcs_cell cmpF swoF 50 #[] g 0 cap l.toArray w eg (cmpLaysF g 0 _ w) hH hlt (by omega)
    rw [hsz] at hcon
    refine Calls.mono (f := 49) hcon ?_
    rintro e w' ⟨rfl, d', n, os, hp, hsd, rfl⟩
    obtain ⟨hp1, _, hp2⟩ := hp
    have e1 : d'.extract 0 l.length = d' := by rw [← hsz, ← hp1]; exact Array.extract_size
    have e2 : l.toArray.extract 0 l.length = l.toArray := by rw [← hsz]; exact Array.extract_size
    rw [e1, e2] at hp2
    have hdl : d'.toList.length = l.length := by simp; omega
    have hK := holdsK_sortWorldK fcs 8 w g 0 n l.toArray d' os hlt hH (by omega)
    refine ⟨rfl, .inr ⟨d'.toList, g, cap, by rw [hdl], by rw [hdl]; exact hn, hBg, hdl, by simpa using hp2, ?_, ⟨lt_sortWorldK fcs 8 w g 0 n d' os hlt, fun j f hj c u hu => ?_, fun t ht => ?_⟩, below_sortedF w B g 0 n d' os hBg hlt⟩⟩
    · rw [List.pairwise_iff_getElem]
      intro i j hi hj hij
      have h := hsd i j (Nat.zero_le _) hij (by omega)
      rw [lt_cmpF] at h
      rw [getElem!_pos d' j (by simpa using hj), getElem!_pos d' i (by simpa using hi)] at h
      simpa using h
    · have hjl : j < d'.size := by have := (List.getElem?_eq_some_iff.1 hj).1; simpa using this
      have hc : c < 8 := by have := (List.getElem?_eq_some_iff.1 hu).1; rwa [fcs_len] at this
      have c0 := (hK.cell (i := j) (c := c) hjl hc).1
      have hd : d'[j]! = f := by
        rw [getElem!_pos d' j hjl]
        have := hj
        rw [Array.getElem?_toList, Array.getElem?_eq_getElem hjl] at this
        exact Option.some.inj this
      rw [hd, getElem!_pos (fcs f) c (by rw [fcs_len]; exact hc)] at c0
      rw [Nat.zero_add] at c0
      rw [c0, ← hu, List.getElem?_eq_getElem (by rw [fcs_len]; exact hc)]
    · have htl : t / 8 < d'.size := by simp at ht; omega
      have c0 := hK.cell (i := t / 8) (c := t % 8) htl (by omega)
      rw [show 0 + t / 8 * 8 + t % 8 = 0 + t by omega] at c0
      exact ⟨by rw [c0.1]; rfl, c0.2⟩

end Go.Proofs.YtcedliaeipabnaaGreat
