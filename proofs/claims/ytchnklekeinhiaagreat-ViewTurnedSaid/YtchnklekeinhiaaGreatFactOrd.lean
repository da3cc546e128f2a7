/-
  fact: cmp.Compare of texts, cmp.Or, list.Compare of stamps; order, Less.
-/
import Derived.Test.YtchnklekeinhiaaGreatGV11
import Derived.Test.YtchnklekeinhiaaGreatGV12
import Derived.Deep.RegionHeld3
namespace Go.Proofs.YtchnklekeinhiaaGreat
set_option linter.unusedSimpArgs false
open Go.RowKit Go.Sort
set_option maxRecDepth 100000

/-! what comparing answers -/
def cmpO {α : Type} (lt : α → α → Bool) (a b : α) : Int := if lt a b = true then -1 else if lt b a = true then 1 else 0
theorem cmpO_zero {α : Type} {lt : α → α → Bool} (h : TotO lt) {a b : α} : cmpO lt a b = 0 ↔ a = b := by
  unfold cmpO
  constructor
  · intro e
    rcases h.tri a b with k | k | k
    · rw [if_pos k] at e; cases e
    · exact k
    · exfalso
      revert e
      cases lt a b <;> simp [k]
  · rintro rfl
    rw [h.irr]; simp
theorem cmpO_neg {α : Type} (lt : α → α → Bool) (a b : α) : decide (cmpO lt a b < 0) = lt a b := by
  unfold cmpO
  cases h : lt a b with
  | true => simp
  | false => cases k : lt b a <;> simp
theorem cmpO_lex {α β : Type} [DecidableEq α] {l1 : α → α → Bool} {l2 : β → β → Bool} (h : TotO l1) (p q : α × β) : cmpO (lexL l1 l2) p q = if cmpO l1 p.1 q.1 ≠ 0 then cmpO l1 p.1 q.1 else cmpO l2 p.2 q.2 := by
  by_cases e : p.1 = q.1
  · rw [if_neg (fun k => k ((cmpO_zero h).2 e))]
    unfold cmpO
    rw [lexL_eq e, lexL_eq e.symm]
  · rw [if_pos (fun k => e ((cmpO_zero h).1 k))]
    unfold cmpO
    rw [lexL_ne e, lexL_ne (fun k => e k.symm)]
/-- the first that is not 0 -/
def orP : List Int → Int
  | [] => 0
  | x :: r => if x ≠ 0 then x else orP r
abbrev cmpX : ByteArray → ByteArray → Int := cmpO ltX
abbrev cmpF : Ft → Ft → Int := cmpO ltF
theorem cmpT_O (x y : Int) : cmpT x y = cmpO (fun x y : Int => decide (x < y)) x y := by
  unfold cmpT cmpO
  simp
theorem cmpD_O (x y : Dt) : cmpD x y = cmpO ltD x y := by
  unfold cmpD cmpO
  by_cases h : x = y
  · subst h; simp [ltD_irr]
  · rw [if_neg h]
    rcases ltD_tri x y with k | k | k
    · simp [k]
    · exact absurd k h
    · simp [k, ltD_asym k]
theorem cmpF_or (a b : Ft) : cmpF a b = orP [cmpX a.n b.n, cmpT a.k b.k, cmpD a.d b.d, cmpO ltS a.s b.s, cmpX a.v b.v] := by
  have e : cmpF a b = cmpO (lexL ltX (lexL (fun x y : Int => decide (x < y)) (lexL ltD (lexL ltS ltX)))) (keyF a) (keyF b) := rfl
  rw [e, cmpO_lex totX, cmpO_lex totI, cmpO_lex totD, cmpO_lex totS, cmpT_O, cmpD_O]
  have h5 : ∀ z : Int, (if z ≠ 0 then z else 0) = z := fun z => by
    by_cases h : z = 0
    · simp [h]
    · simp [h]
  simp only [orP, keyF, h5]
  rfl

theorem cmpXC (x y : ByteArray) (w : World) : Calls Tryz.prog 101 #[.string x, .string y] w fun e w' => e = .returned (.int .i64 (cmpX x y)) ∧ w = w' := by
  have hn : ∀ (z : ByteArray) (W : World), Calls Tryz.prog 142 #[.string z] W fun e w' => e = .returned (.bool false) ∧ W = w' := by
    intro z W
    go_enter Tryz.func142, Tryz.ntmps142
    go_wp2
    go_ret
    exact ⟨by simp, rfl⟩
  have e : cmpX x y = if Op.bytesLess x.toList y.toList = true then -1 else if Op.bytesLess y.toList x.toList = true then 1 else 0 := rfl
  rw [e]
  clear e
  cases h1 : Op.bytesLess x.toList y.toList with
  | true =>
    rw [if_pos rfl]
    go_enter Tryz.func101, Tryz.ntmps101
    go_wp2_with (refine (hn _ _).mono ?_; rintro e w1 ⟨rfl, rfl⟩)
    go_ret
    exact ⟨rfl, rfl⟩
  | false =>
    rw [if_neg (by simp)]
    cases h2 : Op.bytesLess y.toList x.toList with
    | true =>
      have hq : (x.toList == y.toList) = false := by
        simp only [beq_eq_false_iff_ne, ne_eq]
        intro e
        rw [e, less_irr] at h2
        cases h2
      rw [if_pos rfl]
      go_enter Tryz.func101, Tryz.ntmps101
      go_wp2_with (refine (hn _ _).mono ?_; rintro e w1 ⟨rfl, rfl⟩)
      go_ret
      exact ⟨rfl, rfl⟩
    | false =>
      have hq : (x.toList == y.toList) = true := by
        rcases less_tri x.toList y.toList with k | k | k
        · rw [h1] at k; cases k
        · simp [k]
        · rw [h2] at k; cases k
      rw [if_neg (by simp)]
      go_enter Tryz.func101, Tryz.ntmps101
      go_wp2_with (refine (hn _ _).mono ?_; rintro e w1 ⟨rfl, rfl⟩)
      go_ret
      exact ⟨rfl, rfl⟩

set_option maxHeartbeats 1000000 in
theorem orC (xs : List Int) (B n : Nat) (w : World) (hn : n = xs.length) (hmax : n ≤ 1000) (hc : ∀ j, j < xs.length → w.cell? ⟨B, j, none⟩ = some (.int .i64 (xs.getD j 0))) :
    Calls Tryz.prog 78 #[.slice (some ⟨B, 0, none⟩) n n] w fun e w' => e = .returned (.int .i64 (orP xs)) ∧ w = w' := by
  have HC := Lib.hid hc
  have HN := Lib.hid hn
  clear hc hn
  go_enter Tryz.func78, Tryz.ntmps78
  go_wp2_with fail
  go_loopw [5, 8] (fun _ i wr => ∃ k : Nat, k ≤ n ∧ i = .int .i64 k ∧ orP (xs.drop k) = orP xs ∧ w = wr) (fun _ i _ => n - (intOf i).toNat)
  case atStart => exact ⟨0, Nat.zero_le _, rfl, rfl, rfl⟩
  case round =>
    obtain ⟨k, hk, rfl, hp, rfl⟩ := hrel
    by_cases hlt : k < n
    · have hkl : k < xs.length := by rw [← HN.out]; exact hlt
      have hdrop : xs.drop k = xs[k] :: xs.drop (k + 1) := List.drop_eq_getElem_cons hkl
      have hcell := HC.out k hkl
      have hi1 : (k : Int) < (n : Int) := by omega
      rw [List.getD_eq_getElem?_getD, List.getElem?_eq_getElem hkl, Option.getD_some] at hcell
      rw [hdrop] at hp
      clear hdrop
      generalize xs[k] = x at hp hcell
      by_cases hx : x = 0
      · subst hx
        have HP := Lib.hid (show orP (xs.drop (k + 1)) = orP xs from by rw [← hp]; rfl)
        clear hp
        go_wp2_with fail
        exact ⟨⟨k + 1, by omega, by go_num, HP.out, trivial⟩, by simp [intOf]; omega⟩
      · have HP := Lib.hid (show x = orP xs from by rw [← hp]; show _ = if x ≠ 0 then x else _; rw [if_pos hx])
        have hne : (x != 0) = true := by simp [hx]
        clear hp hx
        go_wp2_with fail
        go_ret
        exact ⟨by rw [← HP.out]; rfl, rfl⟩
    · obtain rfl : k = n := by omega
      have HP := Lib.hid (show (0 : Int) = orP xs from by rw [← hp, List.drop_eq_nil_of_le (by rw [← HN.out]; omega)]; rfl)
      clear hp
      go_wp2_with fail
      go_ret
      exact ⟨by rw [← HP.out]; rfl, rfl⟩

set_option maxHeartbeats 1000000 in
theorem compareS (a b : St) (w : World) : Calls Tryz.prog 79 #[.func (.func 80) #[] #[], .agg #[.int .i64 a.t, .int .i64 a.c, .int .i64 a.r], .agg #[.int .i64 b.t, .int .i64 b.c, .int .i64 b.r]] w fun e w' => e = .returned (.int .i64 (cmpO ltS a b)) ∧ Gr w w' := by
  have hl := fun W => tlessG a b W
  have hm := fun W => tlessG b a W
  have hr : SRow (boxS (boxS w a) b) w.heap.size a ∧ SRow (boxS (boxS w a) b) (w.heap.size + 1) b := ⟨(SRow.new w a).alloc _, by have := SRow.new (boxS w a) b; rwa [boxS_size] at this⟩
  have HG0 := Lib.hid (show Gr w (boxS (boxS w a) b) from ((Gr.refl _).alloc _).alloc _)
  have HR0 := Lib.hid hr
  clear hr
  have e : cmpO ltS a b = if ltS a b = true then -1 else if ltS b a = true then 1 else 0 := rfl
  rw [e]
  clear e
  generalize ltS a b = p at *
  generalize ltS b a = q at *
  obtain ⟨at', ac, ar⟩ := a
  obtain ⟨bt, bc, br⟩ := b
  unfold boxS at HG0 HR0
  simp only at hl hm HG0 HR0 ⊢
  have HL := Lib.hid hl
  have HM := Lib.hid hm
  clear hl hm
  cases p with
  | true =>
    rw [if_pos rfl]
    clear HM
    go_enter Tryz.func79, Tryz.ntmps79
    go_wp2_with fail
    refine (HL.out _).mono ?_
    rintro e w1 ⟨rfl, hg⟩
    have H := Lib.hid (HG0.out.trans hg)
    clear hg
    go_wp2_with fail
    go_ret
    exact ⟨rfl, H.out⟩
  | false =>
    rw [if_neg (by simp)]
    go_enter Tryz.func79, Tryz.ntmps79
    go_wp2_with fail
    refine (HL.out _).mono ?_
    rintro e w1 ⟨rfl, hg⟩
    have H := Lib.hid (HG0.out.trans hg)
    have a0 := (HR0.out.1.keep hg.below).cell 0 _ rfl
    have a1 := (HR0.out.1.keep hg.below).cell 1 _ rfl
    have a2 := (HR0.out.1.keep hg.below).cell 2 _ rfl
    have b0 := (HR0.out.2.keep hg.below).cell 0 _ rfl
    have b1 := (HR0.out.2.keep hg.below).cell 1 _ rfl
    have b2 := (HR0.out.2.keep hg.below).cell 2 _ rfl
    clear hg
    cases q with
    | true =>
      go_wp2_with fail
      refine (HM.out _).mono ?_
      rintro e w2 ⟨rfl, hg⟩
      have H2 := Lib.hid (H.out.trans hg)
      clear hg
      go_wp2_with fail
      go_ret
      exact ⟨rfl, H2.out⟩
    | false =>
      go_wp2_with fail
      refine (HM.out _).mono ?_
      rintro e w2 ⟨rfl, hg⟩
      have H2 := Lib.hid (H.out.trans hg)
      clear hg
      go_wp2_with fail
      go_ret
      exact ⟨rfl, H2.out⟩

/-! a fact's box -/
def boxF (w : World) (f : Ft) : World := w.alloc (.cells (fcs f).toArray 48)
theorem boxF_size (w : World) (f : Ft) : (boxF w f).heap.size = w.heap.size + 1 := by simp [boxF]
theorem boxF_gr (w : World) (f : Ft) : Gr w (boxF w f) := Gr.one w _
theorem boxF_in (w : World) (f : Ft) : (boxF w f).rangeAt w.heap.size 0 (fcs f) := fun j v hv => by
  unfold boxF
  rw [Nat.zero_add, Joins.cell_of_block (heap_alloc_new w _)]
  simpa using hv
theorem boxF2_in (w : World) (a b : Ft) : (boxF (boxF w a) b).rangeAt w.heap.size 0 (fcs a) ∧ (boxF (boxF w a) b).rangeAt (w.heap.size + 1) 0 (fcs b) :=
  ⟨range_below (boxF_in w a) (boxF_gr _ b).below (by rw [boxF_size]; omega), by have := boxF_in (boxF w a) b; rwa [boxF_size] at this⟩
theorem fyield_I {ops : Array Oper} {S : World → Prop} {o : Oper} {a : Act} (hw : Region.wanted o (yielded ops a.tmps) = true) (x : Operand) (ho : o.op = .load 3 x) (g off : Nat) (z : Int) (hx : a.eval x = .pointer (some ⟨g, off, none⟩))
    (hg : ∀ w, S w → w.cell? ⟨g, off, none⟩ = some (.int .i64 z)) : YieldsIf Tryz.prog ops S o (.int .i64 z) a := by
  refine .inl ⟨hw, fun w hS => ?_⟩
  have h0 := hg w hS
  unfold execOp
  simp only [ho, hx]
  go_simp
theorem fyield_X {ops : Array Oper} {S : World → Prop} {o : Oper} {a : Act} (hw : Region.wanted o (yielded ops a.tmps) = true) (x : Operand) (ho : o.op = .load 9 x) (g off : Nat) (z : ByteArray) (hx : a.eval x = .pointer (some ⟨g, off, none⟩))
    (hg : ∀ w, S w → w.cell? ⟨g, off, none⟩ = some (.string z)) : YieldsIf Tryz.prog ops S o (.string z) a := by
  refine .inl ⟨hw, fun w hS => ?_⟩
  have h0 := hg w hS
  unfold execOp
  simp only [ho, hx]
  go_simp
theorem dotSize : (Tryz.prog.info? 44).map (·.size) = some 2 := by kernel_rfl
theorem fyield_D {ops : Array Oper} {S : World → Prop} {o : Oper} {a : Act} (hw : Region.wanted o (yielded ops a.tmps) = true) (x : Operand) (ho : o.op = .load 44 x) (g : Nat) (d : Dt) (hx : a.eval x = .pointer (some ⟨g, 0, none⟩))
    (hg : ∀ w, S w → w.rangeAt g 0 [.int .i64 d.1, .int .i64 d.2]) : YieldsIf Tryz.prog ops S o (.agg #[.int .i64 d.1, .int .i64 d.2]) a :=
  yieldsIf_load_mid hw 44 x ho g 0 hx [.int .i64 d.1, .int .i64 d.2] _ hg Tryz.underlying44 rfl dotSize
theorem fyield_S {ops : Array Oper} {S : World → Prop} {o : Oper} {a : Act} (hw : Region.wanted o (yielded ops a.tmps) = true) (x : Operand) (ho : o.op = .load 46 x) (g : Nat) (d : St) (hx : a.eval x = .pointer (some ⟨g, 2, none⟩))
    (hg : ∀ w, S w → w.rangeAt g 2 [.int .i64 d.t, .int .i64 d.c, .int .i64 d.r]) : YieldsIf Tryz.prog ops S o (.agg #[.int .i64 d.t, .int .i64 d.c, .int .i64 d.r]) a :=
  yieldsIf_load_mid hw 46 x ho g 2 hx [.int .i64 d.t, .int .i64 d.c, .int .i64 d.r] _ hg Tryz.underlying46 rfl stampInfo
theorem range_dot {w : World} {b : Nat} {f : Ft} (h : w.rangeAt b 0 (fcs f)) : w.rangeAt b 0 [.int .i64 f.d.1, .int .i64 f.d.2] := fun j v hv => by
  match j, hv with
  | 0, hv => exact h 0 v hv
  | 1, hv => exact h 1 v hv
theorem range_stamp {w : World} {b : Nat} {f : Ft} (h : w.rangeAt b 0 (fcs f)) : w.rangeAt b 2 [.int .i64 f.s.t, .int .i64 f.s.c, .int .i64 f.s.r] := fun j v hv => by
  match j, hv with
  | 0, hv => exact h 2 v hv
  | 1, hv => exact h 3 v hv
  | 2, hv => exact h 4 v hv

set_option maxHeartbeats 4000000 in
theorem orderF (a b : Ft) (w : World) : Calls Tryz.prog 70 #[.agg (fcs a).toArray, .agg (fcs b).toArray] w fun e w' => e = .returned (.int .i64 (cmpF a b)) ∧ Gr w w' := by
  have hin := boxF2_in w a b
  have hgr : Gr w (boxF (boxF w a) b) := (boxF_gr w a).trans (boxF_gr _ b)
  have hlt : w.heap.size < (boxF (boxF w a) b).heap.size ∧ w.heap.size + 1 < (boxF (boxF w a) b).heap.size := by rw [boxF_size, boxF_size]; omega
  have hor := cmpF_or a b
  have hX1 := fun W => cmpXC a.n b.n W
  have hT := fun W => cmpTC a.k b.k W
  have hD := fun W => compareD a.d b.d W
  have hS := fun W => compareS a.s b.s W
  have hX2 := fun W => cmpXC a.v b.v W
  generalize cmpF a b = c at *
  generalize cmpX a.n b.n = c1 at *
  generalize cmpT a.k b.k = c2 at *
  generalize cmpD a.d b.d = c3 at *
  generalize cmpO ltS a.s b.s = c4 at *
  generalize cmpX a.v b.v = c5 at *
  have HIN := Lib.hid hin
  have HGR := Lib.hid hgr
  have HLT := Lib.hid hlt
  have HOR := Lib.hid hor
  have HX1 := Lib.hid hX1
  have HT := Lib.hid hT
  have HD := Lib.hid hD
  have HS := Lib.hid hS
  have HX2 := Lib.hid hX2
  clear hin hgr hlt hor hX1 hT hD hS hX2
  go_enter Tryz.func70, Tryz.ntmps70
  go_upto_region 1 with fail
  change Code.wp _ _ _ _ (boxF (boxF w a) b)
  generalize boxF (boxF w a) b = W at *
  refine wp_region_held (S := fun U => Gr W U) (by kernel_rfl) ?_
  change wpAnyH _ _ _ _ _ _ _ _ W.drew
  have K0 : (fun U => Gr W U) W.drew := (Gr.drew1 _)
  refine wpAnyH_take (i := 0) (oi := { dst := some 5, op := _, type := _, pos := _, after := _, guard := _ }) (v := ?v1) rfl (by kernel_rfl) (by kernel_rfl) (by kernel_rfl) (fun _ _ _ h => h) (Or.inl ⟨by rfl, ?hy1⟩) K0 ?rest1
  case hy1 => (intro w hSw; (try dsimp only at hSw); first | (go_simp; done) | (go_simp; with_reducible rfl))
  try simp only [Act.put, List.setIfInBounds_toArray, List.set_cons_zero, List.set_cons_succ]
  refine wpAnyH_take (i := 1) (oi := { dst := some 6, op := _, type := _, pos := _, after := _, guard := _ }) rfl (by kernel_rfl) (by kernel_rfl) (by kernel_rfl) (fun _ _ _ h => h) (fyield_X (by rfl) (.tmp 5) rfl w.heap.size 6 a.n rfl (fun U hU => by have h := (range_below HIN.out.1 (Gr.below hU) HLT.out.1) 6 _ rfl; rwa [Nat.zero_add] at h)) K0 ?_
  try simp only [Act.put, List.setIfInBounds_toArray, List.set_cons_zero, List.set_cons_succ]
  refine wpAnyH_take (i := 2) (oi := { dst := some 7, op := _, type := _, pos := _, after := _, guard := _ }) (v := ?v3) rfl (by kernel_rfl) (by kernel_rfl) (by kernel_rfl) (fun _ _ _ h => h) (Or.inl ⟨by rfl, ?hy3⟩) K0 ?rest3
  case hy3 => (intro w hSw; (try dsimp only at hSw); first | (go_simp; done) | (go_simp; with_reducible rfl))
  try simp only [Act.put, List.setIfInBounds_toArray, List.set_cons_zero, List.set_cons_succ]
  refine wpAnyH_take (i := 3) (oi := { dst := some 8, op := _, type := _, pos := _, after := _, guard := _ }) rfl (by kernel_rfl) (by kernel_rfl) (by kernel_rfl) (fun _ _ _ h => h) (fyield_X (by rfl) (.tmp 7) rfl (w.heap.size + 1) 6 b.n rfl (fun U hU => by have h := (range_below HIN.out.2 (Gr.below hU) HLT.out.2) 6 _ rfl; rwa [Nat.zero_add] at h)) K0 ?_
  try simp only [Act.put, List.setIfInBounds_toArray, List.set_cons_zero, List.set_cons_succ]
  refine wpAnyH_take (i := 5) (oi := { dst := some 10, op := _, type := _, pos := _, after := _, guard := _ }) (v := ?v5) rfl (by kernel_rfl) (by kernel_rfl) (by kernel_rfl) (fun _ _ _ h => h) (Or.inl ⟨by rfl, ?hy5⟩) K0 ?rest5
  case hy5 => (intro w hSw; (try dsimp only at hSw); first | (go_simp; done) | (go_simp; with_reducible rfl))
  try simp only [Act.put, List.setIfInBounds_toArray, List.set_cons_zero, List.set_cons_succ]
  refine wpAnyH_take (i := 6) (oi := { dst := some 11, op := _, type := _, pos := _, after := _, guard := _ }) rfl (by kernel_rfl) (by kernel_rfl) (by kernel_rfl) (fun _ _ _ h => h) (fyield_I (by rfl) (.tmp 10) rfl w.heap.size 5 a.k rfl (fun U hU => by have h := (range_below HIN.out.1 (Gr.below hU) HLT.out.1) 5 _ rfl; rwa [Nat.zero_add] at h)) K0 ?_
  try simp only [Act.put, List.setIfInBounds_toArray, List.set_cons_zero, List.set_cons_succ]
  refine wpAnyH_take (i := 7) (oi := { dst := some 12, op := _, type := _, pos := _, after := _, guard := _ }) (v := ?v7) rfl (by kernel_rfl) (by kernel_rfl) (by kernel_rfl) (fun _ _ _ h => h) (Or.inl ⟨by rfl, ?hy7⟩) K0 ?rest7
  case hy7 => (intro w hSw; (try dsimp only at hSw); first | (go_simp; done) | (go_simp; with_reducible rfl))
  try simp only [Act.put, List.setIfInBounds_toArray, List.set_cons_zero, List.set_cons_succ]
  refine wpAnyH_take (i := 8) (oi := { dst := some 13, op := _, type := _, pos := _, after := _, guard := _ }) rfl (by kernel_rfl) (by kernel_rfl) (by kernel_rfl) (fun _ _ _ h => h) (fyield_I (by rfl) (.tmp 12) rfl (w.heap.size + 1) 5 b.k rfl (fun U hU => by have h := (range_below HIN.out.2 (Gr.below hU) HLT.out.2) 5 _ rfl; rwa [Nat.zero_add] at h)) K0 ?_
  try simp only [Act.put, List.setIfInBounds_toArray, List.set_cons_zero, List.set_cons_succ]
  refine wpAnyH_take (i := 10) (oi := { dst := some 15, op := _, type := _, pos := _, after := _, guard := _ }) (v := ?v9) rfl (by kernel_rfl) (by kernel_rfl) (by kernel_rfl) (fun _ _ _ h => h) (Or.inl ⟨by rfl, ?hy9⟩) K0 ?rest9
  case hy9 => (intro w hSw; (try dsimp only at hSw); first | (go_simp; done) | (go_simp; with_reducible rfl))
  try simp only [Act.put, List.setIfInBounds_toArray, List.set_cons_zero, List.set_cons_succ]
  refine wpAnyH_take (i := 11) (oi := { dst := some 16, op := _, type := _, pos := _, after := _, guard := _ }) rfl (by kernel_rfl) (by kernel_rfl) (by kernel_rfl) (fun _ _ _ h => h) (fyield_D (by rfl) (.tmp 15) rfl w.heap.size a.d rfl (fun U hU => range_dot (range_below HIN.out.1 (Gr.below hU) HLT.out.1))) K0 ?_
  try simp only [Act.put, List.setIfInBounds_toArray, List.set_cons_zero, List.set_cons_succ]
  refine wpAnyH_take (i := 12) (oi := { dst := some 17, op := _, type := _, pos := _, after := _, guard := _ }) (v := ?v11) rfl (by kernel_rfl) (by kernel_rfl) (by kernel_rfl) (fun _ _ _ h => h) (Or.inl ⟨by rfl, ?hy11⟩) K0 ?rest11
  case hy11 => (intro w hSw; (try dsimp only at hSw); first | (go_simp; done) | (go_simp; with_reducible rfl))
  try simp only [Act.put, List.setIfInBounds_toArray, List.set_cons_zero, List.set_cons_succ]
  refine wpAnyH_take (i := 13) (oi := { dst := some 18, op := _, type := _, pos := _, after := _, guard := _ }) rfl (by kernel_rfl) (by kernel_rfl) (by kernel_rfl) (fun _ _ _ h => h) (fyield_D (by rfl) (.tmp 17) rfl (w.heap.size + 1) b.d rfl (fun U hU => range_dot (range_below HIN.out.2 (Gr.below hU) HLT.out.2))) K0 ?_
  try simp only [Act.put, List.setIfInBounds_toArray, List.set_cons_zero, List.set_cons_succ]
  refine wpAnyH_take (i := 15) (oi := { dst := some 20, op := _, type := _, pos := _, after := _, guard := _ }) (v := ?v13) rfl (by kernel_rfl) (by kernel_rfl) (by kernel_rfl) (fun _ _ _ h => h) (Or.inl ⟨by rfl, ?hy13⟩) K0 ?rest13
  case hy13 => (intro w hSw; (try dsimp only at hSw); first | (go_simp; done) | (go_simp; with_reducible rfl))
  try simp only [Act.put, List.setIfInBounds_toArray, List.set_cons_zero, List.set_cons_succ]
  refine wpAnyH_take (i := 16) (oi := { dst := some 21, op := _, type := _, pos := _, after := _, guard := _ }) rfl (by kernel_rfl) (by kernel_rfl) (by kernel_rfl) (fun _ _ _ h => h) (fyield_S (by rfl) (.tmp 20) rfl w.heap.size a.s rfl (fun U hU => range_stamp (range_below HIN.out.1 (Gr.below hU) HLT.out.1))) K0 ?_
  try simp only [Act.put, List.setIfInBounds_toArray, List.set_cons_zero, List.set_cons_succ]
  refine wpAnyH_take (i := 17) (oi := { dst := some 22, op := _, type := _, pos := _, after := _, guard := _ }) (v := ?v15) rfl (by kernel_rfl) (by kernel_rfl) (by kernel_rfl) (fun _ _ _ h => h) (Or.inl ⟨by rfl, ?hy15⟩) K0 ?rest15
  case hy15 => (intro w hSw; (try dsimp only at hSw); first | (go_simp; done) | (go_simp; with_reducible rfl))
  try simp only [Act.put, List.setIfInBounds_toArray, List.set_cons_zero, List.set_cons_succ]
  refine wpAnyH_take (i := 18) (oi := { dst := some 23, op := _, type := _, pos := _, after := _, guard := _ }) rfl (by kernel_rfl) (by kernel_rfl) (by kernel_rfl) (fun _ _ _ h => h) (fyield_S (by rfl) (.tmp 22) rfl (w.heap.size + 1) b.s rfl (fun U hU => range_stamp (range_below HIN.out.2 (Gr.below hU) HLT.out.2))) K0 ?_
  try simp only [Act.put, List.setIfInBounds_toArray, List.set_cons_zero, List.set_cons_succ]
  refine wpAnyH_take (i := 20) (oi := { dst := some 25, op := _, type := _, pos := _, after := _, guard := _ }) (v := ?v17) rfl (by kernel_rfl) (by kernel_rfl) (by kernel_rfl) (fun _ _ _ h => h) (Or.inl ⟨by rfl, ?hy17⟩) K0 ?rest17
  case hy17 => (intro w hSw; (try dsimp only at hSw); first | (go_simp; done) | (go_simp; with_reducible rfl))
  try simp only [Act.put, List.setIfInBounds_toArray, List.set_cons_zero, List.set_cons_succ]
  refine wpAnyH_take (i := 21) (oi := { dst := some 26, op := _, type := _, pos := _, after := _, guard := _ }) rfl (by kernel_rfl) (by kernel_rfl) (by kernel_rfl) (fun _ _ _ h => h) (fyield_X (by rfl) (.tmp 25) rfl w.heap.size 7 a.v rfl (fun U hU => by have h := (range_below HIN.out.1 (Gr.below hU) HLT.out.1) 7 _ rfl; rwa [Nat.zero_add] at h)) K0 ?_
  try simp only [Act.put, List.setIfInBounds_toArray, List.set_cons_zero, List.set_cons_succ]
  refine wpAnyH_take (i := 22) (oi := { dst := some 27, op := _, type := _, pos := _, after := _, guard := _ }) (v := ?v19) rfl (by kernel_rfl) (by kernel_rfl) (by kernel_rfl) (fun _ _ _ h => h) (Or.inl ⟨by rfl, ?hy19⟩) K0 ?rest19
  case hy19 => (intro w hSw; (try dsimp only at hSw); first | (go_simp; done) | (go_simp; with_reducible rfl))
  try simp only [Act.put, List.setIfInBounds_toArray, List.set_cons_zero, List.set_cons_succ]
  refine wpAnyH_take (i := 23) (oi := { dst := some 28, op := _, type := _, pos := _, after := _, guard := _ }) rfl (by kernel_rfl) (by kernel_rfl) (by kernel_rfl) (fun _ _ _ h => h) (fyield_X (by rfl) (.tmp 27) rfl (w.heap.size + 1) 7 b.v rfl (fun U hU => by have h := (range_below HIN.out.2 (Gr.below hU) HLT.out.2) 7 _ rfl; rwa [Nat.zero_add] at h)) K0 ?_
  try simp only [Act.put, List.setIfInBounds_toArray, List.set_cons_zero, List.set_cons_succ]
  refine wpAnyH_ready (rs := [4]) (by kernel_rfl) (by simp) ?_
  refine AllReadyH.cons (o := { dst := some 9, op := _, type := _, pos := _, after := _, guard := _ }) rfl (fun K hK => ?_) AllReadyH.nil
  go_simp
  refine (HX1.out _).mono ?_
  rintro e u4 ⟨rfl, hw⟩
  have K4 := K0
  rw [hw] at K4
  clear hw
  refine hK.out _ _ K4 (fun _ => ?_)
  clear hK K
  try simp only [Act.put, List.setIfInBounds_toArray, List.set_cons_zero, List.set_cons_succ]
  refine wpAnyH_ready (rs := [9]) (by kernel_rfl) (by simp) ?_
  refine AllReadyH.cons (o := { dst := some 14, op := _, type := _, pos := _, after := _, guard := _ }) rfl (fun K hK => ?_) AllReadyH.nil
  go_simp
  refine (HT.out _).mono ?_
  rintro e u9 ⟨rfl, hw⟩
  have K9 := K4
  rw [hw] at K9
  clear hw
  refine hK.out _ _ K9 (fun _ => ?_)
  clear hK K
  try simp only [Act.put, List.setIfInBounds_toArray, List.set_cons_zero, List.set_cons_succ]
  refine wpAnyH_ready (rs := [14]) (by kernel_rfl) (by simp) ?_
  refine AllReadyH.cons (o := { dst := some 19, op := _, type := _, pos := _, after := _, guard := _ }) rfl (fun K hK => ?_) AllReadyH.nil
  go_simp
  refine (HD.out _).mono ?_
  rintro e u14 ⟨rfl, hw⟩
  have K14 := K9
  have K14 := K14.trans (show Gr _ u14 from by obtain ⟨os, hos⟩ := cmpW_grow _ a.d b.d; exact ⟨0, os, hw.trans hos⟩)
  clear hw
  refine hK.out _ _ K14 (fun _ => ?_)
  clear hK K
  try simp only [Act.put, List.setIfInBounds_toArray, List.set_cons_zero, List.set_cons_succ]
  refine wpAnyH_ready (rs := [19]) (by kernel_rfl) (by simp) ?_
  refine AllReadyH.cons (o := { dst := some 24, op := _, type := _, pos := _, after := _, guard := _ }) rfl (fun K hK => ?_) AllReadyH.nil
  go_simp
  refine (HS.out _).mono ?_
  rintro e u19 ⟨rfl, hw⟩
  have K19 := K14
  have K19 := K19.trans hw
  clear hw
  refine hK.out _ _ K19 (fun _ => ?_)
  clear hK K
  try simp only [Act.put, List.setIfInBounds_toArray, List.set_cons_zero, List.set_cons_succ]
  refine wpAnyH_ready (rs := [24]) (by kernel_rfl) (by simp) ?_
  refine AllReadyH.cons (o := { dst := some 29, op := _, type := _, pos := _, after := _, guard := _ }) rfl (fun K hK => ?_) AllReadyH.nil
  go_simp
  refine (HX2.out _).mono ?_
  rintro e u24 ⟨rfl, hw⟩
  have K24 := K19
  rw [hw] at K24
  clear hw
  refine hK.out _ _ K24 (fun _ => ?_)
  clear hK K
  try simp only [Act.put, List.setIfInBounds_toArray, List.set_cons_zero, List.set_cons_succ]
  refine wpAnyH_ready (rs := [25]) (by kernel_rfl) (by simp) ?_
  refine AllReadyH.cons (o := { dst := some 30, op := _, type := _, pos := _, after := _, guard := _ }) rfl (fun K hK => ?_) AllReadyH.nil
  go_simp
  have K25 := K24
  have K25 := Gr.alloc K25 (.cells #[.int .i64 c1, .int .i64 c2, .int .i64 c3, .int .i64 c4, .int .i64 c5] 3)
  refine hK.out _ _ K25 (fun _ => ?_)
  clear hK K
  try simp only [Act.put, List.setIfInBounds_toArray, List.set_cons_zero, List.set_cons_succ]
  refine wpAnyH_ready (rs := [26]) (by kernel_rfl) (by simp) ?_
  refine AllReadyH.cons (o := { dst := some 31, op := _, type := _, pos := _, after := _, guard := _ }) rfl (fun K hK => ?_) AllReadyH.nil
  go_simp
  refine (orC [c1, c2, c3, c4, c5] u24.heap.size 5 (u24.alloc (.cells #[.int .i64 c1, .int .i64 c2, .int .i64 c3, .int .i64 c4, .int .i64 c5] 3)) rfl (by omega) (fun j hj => ?hc)).mono ?_
  case hc => (rw [Joins.cell_of_block (heap_alloc_new u24 _)]; match j, hj with | 0, _ => rfl | 1, _ => rfl | 2, _ => rfl | 3, _ => rfl | 4, _ => rfl)
  rintro e u26 ⟨rfl, hw⟩
  have K26 := K25
  rw [hw] at K26
  clear hw
  refine hK.out _ _ K26 (fun _ => ?_)
  clear hK K
  try simp only [Act.put, List.setIfInBounds_toArray, List.set_cons_zero, List.set_cons_succ]
  refine wpAnyH_take (i := 27) (oi := { dst := some 4, op := _, type := _, pos := _, after := _, guard := _ }) (v := ?v21) rfl (by kernel_rfl) (by kernel_rfl) (by kernel_rfl) (fun _ _ _ h => h) (Or.inl ⟨by rfl, ?hy21⟩) K26 ?rest21
  case hy21 => (intro w hSw; (try dsimp only at hSw); first | (go_simp; done) | (go_simp; with_reducible rfl))
  try simp only [Act.put, List.setIfInBounds_toArray, List.set_cons_zero, List.set_cons_succ]
  refine wpAnyH_done (by kernel_rfl) ?_ _
  try simp only [Act.put, List.setIfInBounds_toArray, List.set_cons_zero, List.set_cons_succ]
  have HK := Lib.hid (HGR.out.trans K26)
  clear K26
  go_wp2_with fail
  go_ret
  exact ⟨by rw [HOR.out]; rfl, HK.out⟩

set_option maxHeartbeats 1000000 in
theorem lessFG (a b : Ft) (w : World) : Calls Tryz.prog 82 #[.agg (fcs a).toArray, .agg (fcs b).toArray] w fun e w' => e = .returned (.bool (ltF a b)) ∧ Gr w w' := by
  have hin := boxF2_in w a b
  have l1 := Lib.hid hin.1
  have l2 := Lib.hid hin.2
  have HGR := Lib.hid (show Gr w (boxF (boxF w a) b) from (boxF_gr w a).trans (boxF_gr _ b))
  have HO := Lib.hid (fun W => orderF a b W)
  have HN := Lib.hid (show decide (cmpF a b < 0) = ltF a b from cmpO_neg ltF a b)
  generalize cmpF a b = c at *
  clear hin
  unfold boxF at l1 l2 HGR
  go_enter Tryz.func82, Tryz.ntmps82
  go_wp2_with (first | ((with_reducible refine fl_load ?_ (.tmp 2) ?_ w.heap.size 0 a ?_ ?_ ?_); rfl; rfl; rfl; exact l1.out) | ((with_reducible refine fl_load ?_ (.tmp 3) ?_ (w.heap.size + 1) 0 b ?_ ?_ ?_); rfl; rfl; rfl; exact l2.out))
  refine (HO.out _).mono ?_
  rintro e w1 ⟨rfl, hg⟩
  have H := Lib.hid (HGR.out.trans hg)
  clear hg
  go_wp2_with fail
  go_ret
  exact ⟨by rw [← HN.out]; rfl, H.out⟩
end Go.Proofs.YtchnklekeinhiaaGreat
