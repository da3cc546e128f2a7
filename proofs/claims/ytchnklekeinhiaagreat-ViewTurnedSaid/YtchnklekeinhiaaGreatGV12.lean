/-
  stamp: what compares two stamps by one of their numbers; ahead; Less.
  Check, Less, order, of the program; Check, Less, of the document.
  list.Compare of names by dot.Less.
-/
import Derived.Test.YtchnklekeinhiaaGreatGV11
import Derived.Test.YtchnklekeinhiaaGreatGV10
import Derived.Shelf.SlSortCmp.QuietGrown
import Derived.Deep.Cut
import Derived.Deep.DeepCutAuto
namespace Go.Proofs.YtchnklekeinhiaaGreat
open Go.RowKit
set_option maxRecDepth 100000

def cmpT (x y : Int) : Int := if x < y then -1 else if y < x then 1 else 0

theorem cmpTC (x y : Int) (w : World) : Calls Tryz.prog 102 #[.int .i64 x, .int .i64 y] w fun e w' => e = .returned (.int .i64 (cmpT x y)) ∧ w = w' := by
  have hn : ∀ (z : Int) (W : World), Calls Tryz.prog 143 #[.int .i64 z] W fun e w' => e = .returned (.bool false) ∧ W = w' := by
    intro z W
    go_enter Tryz.func143, Tryz.ntmps143
    go_wp2
    go_ret
    exact ⟨by simp, rfl⟩
  unfold cmpT
  by_cases h1 : x < y
  · rw [if_pos h1]
    go_enter Tryz.func102, Tryz.ntmps102
    go_wp2_with (refine (hn _ _).mono ?_; rintro e w1 ⟨rfl, rfl⟩)
    go_ret
    exact ⟨rfl, rfl⟩
  · rw [if_neg h1]
    by_cases h2 : y < x
    · rw [if_pos h2]
      go_enter Tryz.func102, Tryz.ntmps102
      go_wp2_with (refine (hn _ _).mono ?_; rintro e w1 ⟨rfl, rfl⟩)
      go_ret
      exact ⟨rfl, rfl⟩
    · rw [if_neg h2]
      go_enter Tryz.func102, Tryz.ntmps102
      go_wp2_with (refine (hn _ _).mono ?_; rintro e w1 ⟨rfl, rfl⟩)
      go_ret
      exact ⟨rfl, rfl⟩

set_option maxHeartbeats 1000000 in
theorem byTimeC (a b : St) (w : World) : Calls Tryz.prog 110 #[.agg #[.int .i64 a.t, .int .i64 a.c, .int .i64 a.r], .agg #[.int .i64 b.t, .int .i64 b.c, .int .i64 b.r]] w fun e w' => e = .returned (.int .i64 (cmpT a.t b.t)) ∧ Gr w w' := by
  obtain ⟨at', ac, ar⟩ := a
  obtain ⟨bt, bc, br⟩ := b
  simp only
  have hc := fun W => cmpTC at' bt W
  generalize cmpT at' bt = x at hc ⊢
  go_enter Tryz.func110, Tryz.ntmps110
  go_wp2_with fail
  refine (hc _).mono ?_
  rintro e w1 ⟨rfl, rfl⟩
  go_wp2
  go_ret
  exact ⟨rfl, ((Gr.refl _).alloc _).alloc _⟩

set_option maxHeartbeats 1000000 in
theorem byCountC (a b : St) (w : World) : Calls Tryz.prog 111 #[.agg #[.int .i64 a.t, .int .i64 a.c, .int .i64 a.r], .agg #[.int .i64 b.t, .int .i64 b.c, .int .i64 b.r]] w fun e w' => e = .returned (.int .i64 (cmpT a.c b.c)) ∧ Gr w w' := by
  obtain ⟨at', ac, ar⟩ := a
  obtain ⟨bt, bc, br⟩ := b
  simp only
  have hc := fun W => cmpTC ac bc W
  generalize cmpT ac bc = x at hc ⊢
  go_enter Tryz.func111, Tryz.ntmps111
  go_wp2_with fail
  refine (hc _).mono ?_
  rintro e w1 ⟨rfl, rfl⟩
  go_wp2
  go_ret
  exact ⟨rfl, ((Gr.refl _).alloc _).alloc _⟩

set_option maxHeartbeats 1000000 in
theorem byReplicaC (a b : St) (w : World) : Calls Tryz.prog 112 #[.agg #[.int .i64 a.t, .int .i64 a.c, .int .i64 a.r], .agg #[.int .i64 b.t, .int .i64 b.c, .int .i64 b.r]] w fun e w' => e = .returned (.int .i64 (cmpT a.r b.r)) ∧ Gr w w' := by
  obtain ⟨at', ac, ar⟩ := a
  obtain ⟨bt, bc, br⟩ := b
  simp only
  have hc := fun W => cmpTC ar br W
  generalize cmpT ar br = x at hc ⊢
  go_enter Tryz.func112, Tryz.ntmps112
  go_wp2_with fail
  refine (hc _).mono ?_
  rintro e w1 ⟨rfl, rfl⟩
  go_wp2
  go_ret
  exact ⟨rfl, ((Gr.refl _).alloc _).alloc _⟩

/-- of two rows of numbers the first that tell apart -/
def aheadP : List (FuncId × Int × Int) → Bool
  | [] => false
  | q :: r => if q.2.1 = q.2.2 then aheadP r else decide (q.2.1 < q.2.2)

theorem cmpT_eq {x y : Int} (h : x = y) : cmpT x y = 0 := by unfold cmpT; rw [if_neg (by omega), if_neg (by omega)]
theorem cmpT_lt {x y : Int} (h : x < y) : cmpT x y = -1 := by unfold cmpT; rw [if_pos h]
theorem cmpT_gt {x y : Int} (h : y < x) : cmpT x y = 1 := by unfold cmpT; rw [if_neg (by omega), if_pos h]

theorem run_enter {P : Program} {f : FuncId} {fn : Func} (hf : P.funcs[f]? = some fn) (hname : (fn.name == "runtime.NumGoroutine") = false) (hb : fn.body.isNone = false) (args : Array Value) (w : World) :
    (callFunc f args).run P w = .ok (.enter f args) w := by
  have h1 : fn.name ≠ "runtime.NumGoroutine" := by simpa using hname
  have h3 : ¬ fn.body = none := by intro h; simp [h] at hb
  simp [callFunc, hf, h1, h3]

set_option maxHeartbeats 2000000 in
theorem aheadC (a b : St) (ks : List (FuncId × Int × Int)) (B n : Nat) (w : World) (hB : B < w.heap.size) (hn : n = ks.length) (hmax : n ≤ 1000)
    (hk : ∀ j, j < ks.length → ∀ q, ks[j]? = some q → w.cell? ⟨B, j, none⟩ = some (.func (.func q.1) #[] #[]) ∧ (∀ args W, (callFunc q.1 args).run Tryz.prog W = .ok (.enter q.1 args) W) ∧ ∀ W, Calls Tryz.prog q.1 #[.agg #[.int .i64 a.t, .int .i64 a.c, .int .i64 a.r], .agg #[.int .i64 b.t, .int .i64 b.c, .int .i64 b.r]] W fun e w' => e = .returned (.int .i64 (cmpT q.2.1 q.2.2)) ∧ Gr W w') :
    Calls Tryz.prog 109 #[.agg #[.int .i64 a.t, .int .i64 a.c, .int .i64 a.r], .agg #[.int .i64 b.t, .int .i64 b.c, .int .i64 b.r], .slice (some ⟨B, 0, none⟩) n n] w fun e w' => e = .returned (.bool (aheadP ks)) ∧ Gr w w' := by
  obtain ⟨at', ac, ar⟩ := a
  obtain ⟨bt, bc, br⟩ := b
  simp only at *
  obtain ⟨W0, hW0⟩ : ∃ W0, W0 = boxS (boxS w ⟨at', ac, ar⟩) ⟨bt, bc, br⟩ := ⟨_, rfl⟩
  have hg0 : Gr w (boxS (boxS w ⟨at', ac, ar⟩) ⟨bt, bc, br⟩) := ((Gr.refl _).alloc _).alloc _
  have hb0 := hg0.below
  have hs0 : (boxS (boxS w ⟨at', ac, ar⟩) ⟨bt, bc, br⟩).heap.size = w.heap.size + 2 := by rw [boxS_size, boxS_size]
  have hcA : ∀ j u, (scs ⟨at', ac, ar⟩)[j]? = some u → (boxS (boxS w ⟨at', ac, ar⟩) ⟨bt, bc, br⟩).cell? ⟨w.heap.size, j, none⟩ = some u := fun j u hu => by
    rw [(boxS_below (boxS w ⟨at', ac, ar⟩) ⟨bt, bc, br⟩).cell (p := ⟨w.heap.size, j, none⟩) (by rw [boxS_size]; simp)]
    unfold boxS
    rw [Joins.cell_of_block (heap_alloc_new w _)]
    simpa [scs] using hu
  have hcB : ∀ j u, (scs ⟨bt, bc, br⟩)[j]? = some u → (boxS (boxS w ⟨at', ac, ar⟩) ⟨bt, bc, br⟩).cell? ⟨w.heap.size + 1, j, none⟩ = some u := fun j u hu => by
    have h1 := heap_alloc_new (boxS w ⟨at', ac, ar⟩) (.cells #[.int .i64 bt, .int .i64 bc, .int .i64 br] 46)
    rw [boxS_size] at h1
    show ((boxS w ⟨at', ac, ar⟩).alloc _).cell? _ = _
    rw [Joins.cell_of_block h1]
    simpa [scs] using hu
  rw [← hW0] at hb0 hg0 hs0 hcA hcB
  have HW0 := Lib.hid hW0
  have HB0 := Lib.hid hg0
  clear hg0
  have HA := Lib.hid hcA
  have HBB := Lib.hid hcB
  have HK := Lib.hid hk
  have HN := Lib.hid hn
  clear hW0 hcA hcB hk hn
  have hbox : (w.alloc (.cells #[.int .i64 at', .int .i64 ac, .int .i64 ar] 46)).alloc (.cells #[.int .i64 bt, .int .i64 bc, .int .i64 br] 46) = W0 := HW0.out.symm
  go_enter Tryz.func109, Tryz.ntmps109
  go_wp2
  go_loopw [8, 9, 12] (fun _ _ i wr => ∃ k : Nat, k ≤ n ∧ i = .int .i64 (k : Int) ∧ aheadP (ks.drop k) = aheadP ks ∧ Gr W0 wr) (fun _ _ i _ => n - (intOf i).toNat)
  case atStart => exact ⟨0, by omega, rfl, rfl, Gr.refl _⟩
  case round =>
    obtain ⟨k, hk, rfl, hp, hgr⟩ := hrel
    have hb := hgr.below
    have HB := Lib.hid hgr
    clear hgr
    have HP := Lib.hid hp
    clear hbox
    by_cases hlt : k < n
    · have hkl : k < ks.length := by rw [← HN.out]; exact hlt
      obtain ⟨hc, hent, hcall⟩ := HK.out k hkl ks[k] (List.getElem?_eq_getElem hkl)
      have hdrop : ks.drop k = ks[k] :: ks.drop (k + 1) := (List.drop_eq_getElem_cons hkl)
      rw [hdrop] at hp
      have HD := Lib.hid hdrop
      clear hdrop HP
      generalize ks[k] = q at hp hc hcall hent
      obtain ⟨F, x, y⟩ := q
      simp only [aheadP] at hp hc hcall hent
      have hcell : wr.cell? ⟨B, k, none⟩ = some (.func (.func F) #[] #[]) := by
        rw [hb.cell (p := ⟨B, k, none⟩) (by show B < W0.heap.size; omega), hb0.cell (p := ⟨B, k, none⟩) (by show B < w.heap.size; omega)]; exact hc
      have a0 : wr.cell? ⟨w.heap.size, 0, none⟩ = some (.int .i64 at') := by rw [hb.cell (p := ⟨w.heap.size, 0, none⟩) (by show w.heap.size < W0.heap.size; omega)]; exact HA.out 0 _ rfl
      have a1 : wr.cell? ⟨w.heap.size, 1, none⟩ = some (.int .i64 ac) := by rw [hb.cell (p := ⟨w.heap.size, 1, none⟩) (by show w.heap.size < W0.heap.size; omega)]; exact HA.out 1 _ rfl
      have a2 : wr.cell? ⟨w.heap.size, 2, none⟩ = some (.int .i64 ar) := by rw [hb.cell (p := ⟨w.heap.size, 2, none⟩) (by show w.heap.size < W0.heap.size; omega)]; exact HA.out 2 _ rfl
      have b0 : wr.cell? ⟨w.heap.size + 1, 0, none⟩ = some (.int .i64 bt) := by rw [hb.cell (p := ⟨w.heap.size + 1, 0, none⟩) (by show w.heap.size + 1 < W0.heap.size; omega)]; exact HBB.out 0 _ rfl
      have b1 : wr.cell? ⟨w.heap.size + 1, 1, none⟩ = some (.int .i64 bc) := by rw [hb.cell (p := ⟨w.heap.size + 1, 1, none⟩) (by show w.heap.size + 1 < W0.heap.size; omega)]; exact HBB.out 1 _ rfl
      have b2 : wr.cell? ⟨w.heap.size + 1, 2, none⟩ = some (.int .i64 br) := by rw [hb.cell (p := ⟨w.heap.size + 1, 2, none⟩) (by show w.heap.size + 1 < W0.heap.size; omega)]; exact HBB.out 2 _ rfl
      have hbs := hb.size
      clear hb hc hb0 hs0 hbs
      rcases Int.lt_trichotomy x y with h | h | h
      · rw [if_neg (by omega), decide_eq_true h] at hp
        rw [cmpT_lt h] at hcall
        have HCALL := Lib.hid hcall
        have HP := Lib.hid hp
        clear hcall hp h
        go_wp2_with fail
        refine (HCALL.out _).mono ?_
        rintro e w1 ⟨rfl, hb1⟩
        have HB1 := Lib.hid (HB.out.trans hb1)
        clear hb1
        go_wp2
        go_ret
        exact ⟨by rw [← HP.out]; rfl, HB0.out.trans HB1.out⟩
      · rw [if_pos h] at hp
        rw [cmpT_eq h] at hcall
        have HCALL := Lib.hid hcall
        have HP := Lib.hid hp
        clear hcall hp h
        go_wp2_with fail
        refine (HCALL.out _).mono ?_
        rintro e w1 ⟨rfl, hb1⟩
        have HB1 := Lib.hid (HB.out.trans hb1)
        clear hb1
        go_wp2
        exact ⟨⟨k + 1, by omega, by go_num, HP.out, HB1.out⟩, by simp [intOf]; omega⟩
      · rw [if_neg (by omega), decide_eq_false (by omega)] at hp
        rw [cmpT_gt h] at hcall
        have HCALL := Lib.hid hcall
        have HP := Lib.hid hp
        clear hcall hp h
        go_wp2_with fail
        refine (HCALL.out _).mono ?_
        rintro e w1 ⟨rfl, hb1⟩
        have HB1 := Lib.hid (HB.out.trans hb1)
        clear hb1
        go_wp2
        go_ret
        exact ⟨by rw [← HP.out]; rfl, HB0.out.trans HB1.out⟩
    · obtain rfl : k = n := by omega
      have hp0 : aheadP ks = false := by rw [← hp, List.drop_eq_nil_of_le (by rw [← HN.out]; omega)]; rfl
      have HP0 := Lib.hid hp0
      clear hb hp hp0 hs0 hb0
      go_wp2
      go_ret
      exact ⟨by rw [HP0.out]; rfl, HB0.out.trans HB.out⟩

def keys3 (a b : St) : List (FuncId × Int × Int) := [(110, a.t, b.t), (111, a.c, b.c), (112, a.r, b.r)]
theorem ahead_three (a b : St) : aheadP (keys3 a b) = ltS a b := by
  have e : aheadP (keys3 a b) = if a.t = b.t then (if a.c = b.c then (if a.r = b.r then false else decide (a.r < b.r)) else decide (a.c < b.c)) else decide (a.t < b.t) := rfl
  have f : ltS a b = if a.t ≠ b.t then decide (a.t < b.t) else if a.c ≠ b.c then decide (a.c < b.c) else decide (a.r < b.r) := rfl
  rw [e, f]
  by_cases h : a.t = b.t
  · rw [if_pos h, if_neg (show ¬ a.t ≠ b.t from fun x => x h)]
    by_cases k : a.c = b.c
    · rw [if_pos k, if_neg (show ¬ a.c ≠ b.c from fun x => x k)]
      by_cases l : a.r = b.r
      · rw [if_pos l, l]; simp
      · rw [if_neg l]
    · rw [if_neg k, if_pos (show a.c ≠ b.c from k)]
  · rw [if_neg h, if_pos (show a.t ≠ b.t from h)]
theorem enterTime (args : Array Value) (w : World) : (callFunc 110 args).run Tryz.prog w = .ok (.enter 110 args) w := run_enter Tryz.func110 (by kernel_rfl) (by kernel_rfl) args w
theorem enterCount (args : Array Value) (w : World) : (callFunc 111 args).run Tryz.prog w = .ok (.enter 111 args) w := run_enter Tryz.func111 (by kernel_rfl) (by kernel_rfl) args w
theorem enterReplica (args : Array Value) (w : World) : (callFunc 112 args).run Tryz.prog w = .ok (.enter 112 args) w := run_enter Tryz.func112 (by kernel_rfl) (by kernel_rfl) args w

theorem ahead3G (a b : St) (B : Nat) (w : World) (hB : B < w.heap.size) (c0 : w.cell? ⟨B, 0, none⟩ = some (.func (.func 110) #[] #[])) (c1 : w.cell? ⟨B, 1, none⟩ = some (.func (.func 111) #[] #[])) (c2 : w.cell? ⟨B, 2, none⟩ = some (.func (.func 112) #[] #[])) :
    Calls Tryz.prog 109 #[.agg #[.int .i64 a.t, .int .i64 a.c, .int .i64 a.r], .agg #[.int .i64 b.t, .int .i64 b.c, .int .i64 b.r], .slice (some ⟨B, 0, none⟩) 3 3] w fun e w' => e = .returned (.bool (ltS a b)) ∧ Gr w w' := by
  have h := aheadC a b (keys3 a b) B 3 w hB rfl (by omega) (fun j hj q hq => by
    match j, hj with
    | 0, _ => obtain rfl : _ = q := Option.some.inj hq; exact ⟨c0, enterTime, byTimeC a b⟩
    | 1, _ => obtain rfl : _ = q := Option.some.inj hq; exact ⟨c1, enterCount, byCountC a b⟩
    | 2, _ => obtain rfl : _ = q := Option.some.inj hq; exact ⟨c2, enterReplica, byReplicaC a b⟩)
  rwa [ahead_three] at h
theorem cells_new (w : World) (c : Array Value) (t : TypeId) (j : Nat) (u : Value) (h : c[j]? = some u) : (w.alloc (.cells c t)).cell? ⟨w.heap.size, j, none⟩ = some u := by
  rw [Joins.cell_of_block (heap_alloc_new w _)]; exact h

set_option maxHeartbeats 1000000 in
theorem tlessG (a b : St) (w : World) : Calls Tryz.prog 80 #[.agg #[.int .i64 a.t, .int .i64 a.c, .int .i64 a.r], .agg #[.int .i64 b.t, .int .i64 b.c, .int .i64 b.r]] w fun e w' => e = .returned (.bool (ltS a b)) ∧ Gr w w' := by
  have h3 := fun B W => ahead3G a b B W
  have HB0 := Lib.hid (show Gr w (boxS (boxS w a) b) from ((Gr.refl _).alloc _).alloc _)
  have hsz : (boxS (boxS w a) b).heap.size = w.heap.size + 1 + 1 := by rw [boxS_size, boxS_size]
  generalize ltS a b = l at h3 ⊢
  obtain ⟨at', ac, ar⟩ := a
  obtain ⟨bt, bc, br⟩ := b
  simp only at *
  have H3 := Lib.hid h3
  have HS := Lib.hid hsz
  clear h3 hsz
  go_enter Tryz.func80, Tryz.ntmps80
  go_wp2_with fail
  refine (H3.out (w.heap.size + 1 + 1) _ (by simp) ?_ ?_ ?_).mono ?_
  · have e := HS.out; unfold boxS at e; rw [← e]; exact cells_new _ _ _ 0 _ rfl
  · have e := HS.out; unfold boxS at e; rw [← e]; exact cells_new _ _ _ 1 _ rfl
  · have e := HS.out; unfold boxS at e; rw [← e]; exact cells_new _ _ _ 2 _ rfl
  rintro e w1 ⟨rfl, hb1⟩
  have HB1 := Lib.hid ((HB0.out.alloc _).trans hb1)
  clear hb1
  go_wp2
  go_ret
  exact ⟨rfl, HB1.out⟩
end Go.Proofs.YtchnklekeinhiaaGreat

namespace Go.Proofs.YtchnklekeinhiaaGreat
set_option maxRecDepth 100000
open Go.RowKit Go.Sort

set_option maxHeartbeats 1000000 in
set_option maxRecDepth 100000 in
theorem lessC (a b : Dt) (w : World) : Calls Tryz.prog 104 #[.agg #[.int .i64 a.1, .int .i64 a.2], .agg #[.int .i64 b.1, .int .i64 b.2]] w fun e w' => e = .returned (.bool (ltD a b)) ∧ boxD (boxD w a) b = w' := by
  obtain ⟨r, n⟩ := a
  obtain ⟨s, m⟩ := b
  have hl : ltD (r, n) (s, m) = (decide (r < s) || (decide (r = s) && decide (n < m))) := rfl
  unfold boxD
  simp only at *
  by_cases h : r = s
  · subst h
    have h1 : (r != r) = false := by simp
    have h2 : ltD (r, n) (r, m) = decide (n < m) := by rw [hl]; simp
    rw [h2]; clear h2 hl
    go_enter Tryz.func104, Tryz.ntmps104
    go_wp2
    go_ret
    exact ⟨rfl, rfl⟩
  · have h1 : (r != s) = true := by simp [h]
    have h2 : ltD (r, n) (s, m) = decide (r < s) := by rw [hl]; simp [h]
    rw [h2]; clear h2 hl
    go_enter Tryz.func104, Tryz.ntmps104
    go_wp2
    go_ret
    exact ⟨rfl, rfl⟩

set_option maxHeartbeats 1000000 in
set_option maxRecDepth 100000 in
theorem lessR (a b : Dt) (w : World) : Calls Tryz.prog 67 #[.agg #[.int .i64 a.1, .int .i64 a.2], .agg #[.int .i64 b.1, .int .i64 b.2]] w fun e w' => e = .returned (.bool (ltD a b)) ∧ boxD (boxD w a) b = w' := by
  obtain ⟨r, n⟩ := a
  obtain ⟨s, m⟩ := b
  have hl : ltD (r, n) (s, m) = (decide (r < s) || (decide (r = s) && decide (n < m))) := rfl
  unfold boxD
  simp only at *
  by_cases h : r < s
  · have h1 : decide (r < s) = true := by simp [h]
    have h2 : ltD (r, n) (s, m) = true := by rw [hl, h1]; rfl
    rw [h2]; clear h2 hl
    go_enter Tryz.func67, Tryz.ntmps67
    go_wp2
    go_ret
    exact ⟨rfl, rfl⟩
  · have h1 : decide (r < s) = false := by simp [h]
    by_cases e : r = s
    · have e1 : (r == s) = true := by simp [e]
      have h2 : ltD (r, n) (s, m) = decide (n < m) := by rw [hl, h1]; simp [e]
      rw [h2]; clear h2 hl e
      go_enter Tryz.func67, Tryz.ntmps67
      go_wp2
      go_ret
      exact ⟨rfl, rfl⟩
    · have e1 : (r == s) = false := by simp [e]
      have h2 : ltD (r, n) (s, m) = false := by rw [hl, h1]; simp [e]
      rw [h2]; clear h2 hl e
      go_enter Tryz.func67, Tryz.ntmps67
      go_wp2
      go_ret
      exact ⟨rfl, rfl⟩

/-- what order answers -/
def cmpD (a b : Dt) : Int := if a = b then 0 else if ltD a b = true then -1 else 1

theorem lessRb (a b : Dt) (w : World) : Calls Tryz.prog 67 #[.agg #[.int .i64 a.1, .int .i64 a.2], .agg #[.int .i64 b.1, .int .i64 b.2]] w fun e w' => e = .returned (.bool (ltD a b)) ∧ Go.RowKit.Below w.heap.size w w' :=
  (lessR a b w).mono fun _ _ ⟨he, hw⟩ => ⟨he, by rw [← hw]; exact boxD2_below w a b⟩
end Go.Proofs.YtchnklekeinhiaaGreat

namespace Go.Proofs.YtchnklekeinhiaaGreat
set_option maxRecDepth 100000
open Go.RowKit Go.Sort

theorem cmpD_lt {a b : Dt} (h : ltD a b = true) : cmpD a b = -1 := by
  unfold cmpD
  rw [if_neg (fun e => by rw [e, ltD_irr] at h; cases h), if_pos h]
theorem cmpD_gt {a b : Dt} (h : ltD b a = true) : cmpD a b = 1 := by
  unfold cmpD
  rw [if_neg (fun e => by rw [e, ltD_irr] at h; cases h), if_neg (by rw [ltD_asym h]; simp)]
theorem cmpD_eq {a b : Dt} (h1 : ltD a b = false) (h2 : ltD b a = false) : cmpD a b = 0 := by
  rcases ltD_tri a b with h | h | h
  · rw [h1] at h; cases h
  · unfold cmpD; rw [if_pos h]
  · rw [h2] at h; cases h

/-- what Compare leaves: the parameters' boxes, and those of the calls -/
def cmpW (w : World) (a b : Dt) : World := if ltD a b = true then boxD (boxD (boxD (boxD w a) b) a) b else boxD (boxD (boxD (boxD (boxD (boxD w a) b) a) b) b) a
set_option maxHeartbeats 1000000 in
theorem compareD (a b : Dt) (w : World) : Calls Tryz.prog 103 #[.func (.func 104) #[] #[], .agg #[.int .i64 a.1, .int .i64 a.2], .agg #[.int .i64 b.1, .int .i64 b.2]] w fun e w' => e = .returned (.int .i64 (cmpD a b)) ∧ w' = cmpW w a b := by
  have hl := fun W => lessC a b W
  have hm := fun W => lessC b a W
  unfold boxD at hl hm
  unfold cmpW boxD
  by_cases e1 : ltD a b = true
  · rw [cmpD_lt e1, if_pos e1]
    rw [e1] at hl
    clear e1 hm
    obtain ⟨r, n⟩ := a
    obtain ⟨s, m⟩ := b
    simp only at *
    go_enter Tryz.func103, Tryz.ntmps103
    go_wp2_with fail
    refine (hl _).mono ?_
    rintro e w1 ⟨rfl, rfl⟩
    go_wp2
    go_ret
    exact ⟨rfl, rfl⟩
  · have e1' : ltD a b = false := by simpa using e1
    rw [if_neg e1]
    by_cases e2 : ltD b a = true
    · rw [cmpD_gt e2]
      rw [e1'] at hl
      rw [e2] at hm
      clear e1 e2 e1'
      obtain ⟨r, n⟩ := a
      obtain ⟨s, m⟩ := b
      simp only at *
      go_enter Tryz.func103, Tryz.ntmps103
      go_wp2_with fail
      refine (hl _).mono ?_
      rintro e w1 ⟨rfl, rfl⟩
      go_wp2_with fail
      refine (hm _).mono ?_
      rintro e w1 ⟨rfl, rfl⟩
      go_wp2
      go_ret
      exact ⟨rfl, rfl⟩
    · have e2' : ltD b a = false := by simpa using e2
      rw [cmpD_eq e1' e2']
      rw [e1'] at hl
      rw [e2'] at hm
      clear e1 e2 e1' e2'
      obtain ⟨r, n⟩ := a
      obtain ⟨s, m⟩ := b
      simp only at *
      go_enter Tryz.func103, Tryz.ntmps103
      go_wp2_with fail
      refine (hl _).mono ?_
      rintro e w1 ⟨rfl, rfl⟩
      go_wp2_with fail
      refine (hm _).mono ?_
      rintro e w1 ⟨rfl, rfl⟩
      go_wp2
      go_ret
      exact ⟨rfl, rfl⟩
theorem cmpW_grow (w : World) (a b : Dt) : ∃ os, cmpW w a b = grow w os := by
  unfold cmpW boxD
  split
  · exact ⟨_, by rw [alloc_eq_grow, alloc_eq_grow, alloc_eq_grow, alloc_eq_grow, grow_grow, grow_grow, grow_grow]⟩
  · exact ⟨_, by rw [alloc_eq_grow, alloc_eq_grow, alloc_eq_grow, alloc_eq_grow, alloc_eq_grow, alloc_eq_grow, grow_grow, grow_grow, grow_grow, grow_grow, grow_grow]⟩
end Go.Proofs.YtchnklekeinhiaaGreat
