/-
  register: list.Compare of facts, unnamed, order.
  register: slices.MaxFunc of facts by their order.
  fact, the document's: Less.
-/
import Derived.Test.YtchnklekeinhiaaGreatFactOrd
import Derived.Test.YtchnklekeinhiaaGreatGV03
import Derived.Deep.RegionHeld3
import Derived.Test.YtchnklekeinhiaaGreatGV11
import Derived.Deep.Cut
import Derived.Deep.DeepCutAuto
import Derived.BigQuiet
import Derived.Great.BuildSlice
namespace Go.Proofs.YtchnklekeinhiaaGreat
set_option linter.unusedSimpArgs false
set_option linter.unusedVariables false
open Go.RowKit Go.Sort
set_option maxRecDepth 100000

/-- a fact of no kind and no name -/
def unF (f : Ft) : Ft := ⟨f.d, f.s, 0, ⟨#[]⟩, f.v⟩
abbrev cmpR : Ft → Ft → Int := cmpO ltR
theorem cmpR_or (a b : Ft) : cmpR a b = orP [cmpO ltS a.s b.s, cmpF (unF a) (unF b)] := by
  have e : cmpR a b = cmpO (lexL ltS (lexL ltD ltX)) (keyR a) (keyR b) := rfl
  have h5 : ∀ z : Int, (if z ≠ 0 then z else 0) = z := fun z => by
    by_cases h : z = 0
    · simp [h]
    · simp [h]
  rw [e, cmpO_lex totS, cmpO_lex totD, cmpF_or]
  simp only [orP, h5]
  show (if cmpO ltS a.s b.s ≠ 0 then cmpO ltS a.s b.s else if cmpO ltD a.d b.d ≠ 0 then cmpO ltD a.d b.d else cmpO ltX a.v b.v) = _
  by_cases h : cmpO ltS a.s b.s = 0
  · have hs : a.s = b.s := (cmpO_zero totS).1 h
    have hn : cmpX (unF a).n (unF b).n = 0 := (cmpO_zero totX).2 rfl
    have hk : cmpT (unF a).k (unF b).k = 0 := cmpT_eq rfl
    have hz : cmpO ltS (unF a).s (unF b).s = 0 := h
    rw [hn, hk, hz, cmpD_O]
    simp [h]
    rfl
  · rw [if_pos h, if_pos h]

/-! list.Compare at facts -/
theorem boxF2_rows (w : World) (a b : Ft) : FRow (boxF (boxF w a) b) w.heap.size a ∧ FRow (boxF (boxF w a) b) (w.heap.size + 1) b := by
  have h1 := FRow.new w a
  have h2 := FRow.new (boxF w a) b
  rw [boxF_size] at h2
  exact ⟨h1.keep (boxF_gr _ b).below, h2⟩
set_option maxHeartbeats 2000000 in
theorem compareFt (a b : Ft) (w : World) : Calls Tryz.prog 81 #[.func (.func 82) #[] #[], .agg (fcs a).toArray, .agg (fcs b).toArray] w fun e w' => e = .returned (.int .i64 (cmpF a b)) ∧ Gr w w' := by
  have HL := Lib.hid (fun W => lessFG a b W)
  have HM := Lib.hid (fun W => lessFG b a W)
  have HR := Lib.hid (boxF2_rows w a b)
  have HG := Lib.hid (show Gr w (boxF (boxF w a) b) from (boxF_gr w a).trans (boxF_gr _ b))
  have e : cmpF a b = if ltF a b = true then -1 else if ltF b a = true then 1 else 0 := rfl
  rw [e]
  clear e
  generalize ltF a b = p at *
  generalize ltF b a = q at *
  go_enter Tryz.func81, Tryz.ntmps81
  go_upto_region 1 with fail
  change Code.wp _ _ _ _ (boxF (boxF w a) b)
  generalize boxF (boxF w a) b = W at *
  go_wp2_with (first | ((with_reducible refine fl_load ?_ (.tmp 4) ?_ w.heap.size 0 a ?_ ?_ ?_); rfl; rfl; rfl; exact HR.out.1.range; simp only [Act.put, List.setIfInBounds_toArray, List.set_cons_zero, List.set_cons_succ]) | ((with_reducible refine fl_load ?_ (.tmp 5) ?_ (w.heap.size + 1) 0 b ?_ ?_ ?_); rfl; rfl; rfl; exact HR.out.2.range; simp only [Act.put, List.setIfInBounds_toArray, List.set_cons_zero, List.set_cons_succ]))
  refine (HL.out _).mono ?_
  rintro e w1 ⟨rfl, hg⟩
  have HG1 := Lib.hid (HG.out.trans hg)
  have HR1 := Lib.hid (And.intro (HR.out.1.keep hg.below) (HR.out.2.keep hg.below))
  clear hg HR HG HL
  cases p with
  | true =>
    go_wp2_with fail
    go_ret
    exact ⟨rfl, HG1.out⟩
  | false =>
    go_wp2_with (first | ((with_reducible refine fl_load ?_ (.tmp 4) ?_ w.heap.size 0 a ?_ ?_ ?_); rfl; rfl; rfl; exact HR1.out.1.range; simp only [Act.put, List.setIfInBounds_toArray, List.set_cons_zero, List.set_cons_succ]) | ((with_reducible refine fl_load ?_ (.tmp 5) ?_ (w.heap.size + 1) 0 b ?_ ?_ ?_); rfl; rfl; rfl; exact HR1.out.2.range; simp only [Act.put, List.setIfInBounds_toArray, List.set_cons_zero, List.set_cons_succ]))
    refine (HM.out _).mono ?_
    rintro e w2 ⟨rfl, hg⟩
    have HG2 := Lib.hid (HG1.out.trans hg)
    clear hg HR1 HG1 HM
    cases q with
    | true =>
      go_wp2_with fail
      go_ret
      exact ⟨rfl, HG2.out⟩
    | false =>
      go_wp2_with fail
      go_ret
      exact ⟨rfl, HG2.out⟩

set_option maxHeartbeats 2000000 in
theorem unnamedC (f : Ft) (w : World) : Calls Tryz.prog 83 #[.agg (fcs f).toArray] w fun e w' => e = .returned (.agg (fcs (unF f)).toArray) ∧ Gr w w' := by
  obtain ⟨⟨d1, d2⟩, ⟨st, sc, sr⟩, k, n, v⟩ := f
  unfold unF fcs
  simp only [List.toArray]
  go_enter Tryz.func83, Tryz.ntmps83
  go_wp2_with fail
  refine bodyPost_ret (results_cell_row rfl _ _ (w.heap.size + 1) 48 #[.int .i64 d1, .int .i64 d2, .int .i64 st, .int .i64 sc, .int .i64 sr, .int .i64 0, .string ⟨#[]⟩, .string v] (0, 0) _ rfl (heap_alloc2_new w _ _) Tryz.underlying48 rfl factSize) rfl ?_
  exact ⟨rfl, (Gr.one w _).alloc _⟩

theorem fyield_Ft {ops : Array Oper} {S : World → Prop} {o : Oper} {a : Act} (hw : Region.wanted o (yielded ops a.tmps) = true) (x : Operand) (ho : o.op = .load 48 x) (g : Nat) (f : Ft) (hx : a.eval x = .pointer (some ⟨g, 0, none⟩))
    (hg : ∀ w, S w → w.rangeAt g 0 (fcs f)) : YieldsIf Tryz.prog ops S o (.agg (fcs f).toArray) a :=
  yieldsIf_load_mid hw 48 x ho g 0 hx (fcs f) _ hg Tryz.underlying48 rfl factSize
set_option maxHeartbeats 4000000 in
theorem orderR (a b : Ft) (w : World) : Calls Tryz.prog 50 #[.agg (fcs a).toArray, .agg (fcs b).toArray] w fun e w' => e = .returned (.int .i64 (cmpR a b)) ∧ Gr w w' := by
  have hin := boxF2_in w a b
  have hgr : Gr w (boxF (boxF w a) b) := (boxF_gr w a).trans (boxF_gr _ b)
  have hlt : w.heap.size < (boxF (boxF w a) b).heap.size ∧ w.heap.size + 1 < (boxF (boxF w a) b).heap.size := by rw [boxF_size, boxF_size]; omega
  have hor := cmpR_or a b
  have hS := fun W => compareS a.s b.s W
  have hF := fun W => compareFt (unF a) (unF b) W
  generalize cmpR a b = c at *
  generalize cmpO ltS a.s b.s = c1 at *
  generalize cmpF (unF a) (unF b) = c2 at *
  have HIN := Lib.hid hin
  have HGR := Lib.hid hgr
  have HLT := Lib.hid hlt
  have HOR := Lib.hid hor
  have HS := Lib.hid hS
  have HF := Lib.hid hF
  clear hin hgr hlt hor hS hF
  go_enter Tryz.func50, Tryz.ntmps50
  go_upto_region 1 with fail
  change Code.wp _ _ _ _ (boxF (boxF w a) b)
  generalize boxF (boxF w a) b = W at *
  refine wp_region_held (S := fun U => Gr W U) (by kernel_rfl) ?_
  change wpAnyH _ _ _ _ _ _ _ _ W.drew
  have K0 : (fun U => Gr W U) W.drew := (Gr.drew1 _)
  refine wpAnyH_take (i := 0) (oi := { dst := some 5, op := _, type := _, pos := _, after := _, guard := _ }) (v := ?v1) rfl (by kernel_rfl) (by kernel_rfl) (by kernel_rfl) (fun _ _ _ h => h) (Or.inl ⟨by rfl, ?hy1⟩) K0 ?rest1
  case hy1 => (intro w hSw; (try dsimp only at hSw); first | (go_simp; done) | (go_simp; with_reducible rfl))
  try simp only [Act.put, List.setIfInBounds_toArray, List.set_cons_zero, List.set_cons_succ]
  refine wpAnyH_take (i := 1) (oi := { dst := some 6, op := _, type := _, pos := _, after := _, guard := _ }) rfl (by kernel_rfl) (by kernel_rfl) (by kernel_rfl) (fun _ _ _ h => h) (fyield_S (by rfl) (.tmp 5) rfl w.heap.size a.s rfl (fun U hU => range_stamp (range_below HIN.out.1 (Gr.below hU) HLT.out.1))) K0 ?_
  try simp only [Act.put, List.setIfInBounds_toArray, List.set_cons_zero, List.set_cons_succ]
  refine wpAnyH_take (i := 2) (oi := { dst := some 7, op := _, type := _, pos := _, after := _, guard := _ }) (v := ?v3) rfl (by kernel_rfl) (by kernel_rfl) (by kernel_rfl) (fun _ _ _ h => h) (Or.inl ⟨by rfl, ?hy3⟩) K0 ?rest3
  case hy3 => (intro w hSw; (try dsimp only at hSw); first | (go_simp; done) | (go_simp; with_reducible rfl))
  try simp only [Act.put, List.setIfInBounds_toArray, List.set_cons_zero, List.set_cons_succ]
  refine wpAnyH_take (i := 3) (oi := { dst := some 8, op := _, type := _, pos := _, after := _, guard := _ }) rfl (by kernel_rfl) (by kernel_rfl) (by kernel_rfl) (fun _ _ _ h => h) (fyield_S (by rfl) (.tmp 7) rfl (w.heap.size + 1) b.s rfl (fun U hU => range_stamp (range_below HIN.out.2 (Gr.below hU) HLT.out.2))) K0 ?_
  try simp only [Act.put, List.setIfInBounds_toArray, List.set_cons_zero, List.set_cons_succ]
  refine wpAnyH_take (i := 5) (oi := { dst := some 10, op := _, type := _, pos := _, after := _, guard := _ }) rfl (by kernel_rfl) (by kernel_rfl) (by kernel_rfl) (fun _ _ _ h => h) (fyield_Ft (by rfl) (.tmp 2) rfl w.heap.size a rfl (fun U hU => range_below HIN.out.1 (Gr.below hU) HLT.out.1)) K0 ?_
  try simp only [Act.put, List.setIfInBounds_toArray, List.set_cons_zero, List.set_cons_succ]
  refine wpAnyH_take (i := 7) (oi := { dst := some 12, op := _, type := _, pos := _, after := _, guard := _ }) rfl (by kernel_rfl) (by kernel_rfl) (by kernel_rfl) (fun _ _ _ h => h) (fyield_Ft (by rfl) (.tmp 3) rfl (w.heap.size + 1) b rfl (fun U hU => range_below HIN.out.2 (Gr.below hU) HLT.out.2)) K0 ?_
  try simp only [Act.put, List.setIfInBounds_toArray, List.set_cons_zero, List.set_cons_succ]
  refine wpAnyH_ready (rs := [4]) (by kernel_rfl) (by simp) ?_
  refine AllReadyH.cons (o := { dst := some 9, op := _, type := _, pos := _, after := _, guard := _ }) rfl (fun K hK => ?_) AllReadyH.nil
  go_simp
  refine (HS.out _).mono ?_
  rintro e u4 ⟨rfl, hw⟩
  have K4 := K0
  have K4 := Gr.trans K4 hw
  clear hw
  refine hK.out _ _ K4 (fun _ => ?_)
  clear hK K
  try simp only [Act.put, List.setIfInBounds_toArray, List.set_cons_zero, List.set_cons_succ]
  refine wpAnyH_ready (rs := [6]) (by kernel_rfl) (by simp) ?_
  refine AllReadyH.cons (o := { dst := some 11, op := _, type := _, pos := _, after := _, guard := _ }) rfl (fun K hK => ?_) AllReadyH.nil
  go_simp
  refine (unnamedC a _).mono ?_
  rintro e u6 ⟨rfl, hw⟩
  have K6 := K4
  have K6 := Gr.trans K6 hw
  clear hw
  refine hK.out _ _ K6 (fun _ => ?_)
  clear hK K
  try simp only [Act.put, List.setIfInBounds_toArray, List.set_cons_zero, List.set_cons_succ]
  refine wpAnyH_ready (rs := [8]) (by kernel_rfl) (by simp) ?_
  refine AllReadyH.cons (o := { dst := some 13, op := _, type := _, pos := _, after := _, guard := _ }) rfl (fun K hK => ?_) AllReadyH.nil
  go_simp
  refine (unnamedC b _).mono ?_
  rintro e u8 ⟨rfl, hw⟩
  have K8 := K6
  have K8 := Gr.trans K8 hw
  clear hw
  refine hK.out _ _ K8 (fun _ => ?_)
  clear hK K
  try simp only [Act.put, List.setIfInBounds_toArray, List.set_cons_zero, List.set_cons_succ]
  refine wpAnyH_ready (rs := [9]) (by kernel_rfl) (by simp) ?_
  refine AllReadyH.cons (o := { dst := some 14, op := _, type := _, pos := _, after := _, guard := _ }) rfl (fun K hK => ?_) AllReadyH.nil
  go_simp
  refine (HF.out _).mono ?_
  rintro e u9 ⟨rfl, hw⟩
  have K9 := K8
  have K9 := Gr.trans K9 hw
  clear hw
  refine hK.out _ _ K9 (fun _ => ?_)
  clear hK K
  try simp only [Act.put, List.setIfInBounds_toArray, List.set_cons_zero, List.set_cons_succ]
  refine wpAnyH_ready (rs := [10]) (by kernel_rfl) (by simp) ?_
  refine AllReadyH.cons (o := { dst := some 15, op := _, type := _, pos := _, after := _, guard := _ }) rfl (fun K hK => ?_) AllReadyH.nil
  go_simp
  have K10 := K9
  have K10 := Gr.alloc K10 (.cells #[.int .i64 c1, .int .i64 c2] 3)
  refine hK.out _ _ K10 (fun _ => ?_)
  clear hK K
  try simp only [Act.put, List.setIfInBounds_toArray, List.set_cons_zero, List.set_cons_succ]
  refine wpAnyH_ready (rs := [11]) (by kernel_rfl) (by simp) ?_
  refine AllReadyH.cons (o := { dst := some 16, op := _, type := _, pos := _, after := _, guard := _ }) rfl (fun K hK => ?_) AllReadyH.nil
  go_simp
  refine (orC [c1, c2] u9.heap.size 2 (u9.alloc (.cells #[.int .i64 c1, .int .i64 c2] 3)) rfl (by omega) (fun j hj => ?hc)).mono ?_
  case hc => (rw [Joins.cell_of_block (heap_alloc_new u9 _)]; match j, hj with | 0, _ => rfl | 1, _ => rfl)
  rintro e u11 ⟨rfl, hw⟩
  have K11 := K10
  rw [hw] at K11
  clear hw
  refine hK.out _ _ K11 (fun _ => ?_)
  clear hK K
  try simp only [Act.put, List.setIfInBounds_toArray, List.set_cons_zero, List.set_cons_succ]
  refine wpAnyH_take (i := 12) (oi := { dst := some 4, op := _, type := _, pos := _, after := _, guard := _ }) (v := ?v7) rfl (by kernel_rfl) (by kernel_rfl) (by kernel_rfl) (fun _ _ _ h => h) (Or.inl ⟨by rfl, ?hy7⟩) K11 ?rest7
  case hy7 => (intro w hSw; (try dsimp only at hSw); first | (go_simp; done) | (go_simp; with_reducible rfl))
  try simp only [Act.put, List.setIfInBounds_toArray, List.set_cons_zero, List.set_cons_succ]
  refine wpAnyH_done (by kernel_rfl) ?_ _
  try simp only [Act.put, List.setIfInBounds_toArray, List.set_cons_zero, List.set_cons_succ]
  have HK := Lib.hid (HGR.out.trans K11)
  clear K11
  go_wp2_with fail
  go_ret
  exact ⟨by rw [HOR.out]; rfl, HK.out⟩
end Go.Proofs.YtchnklekeinhiaaGreat

namespace Go.Proofs.YtchnklekeinhiaaGreat
set_option linter.unusedSimpArgs false
set_option linter.unusedVariables false
open Go.RowKit Go.Sort
set_option maxRecDepth 100000

theorem cmpO_pos {α : Type} {lt : α → α → Bool} (h : TotO lt) (a b : α) : decide (0 < cmpO lt a b) = lt b a := by
  unfold cmpO
  cases h1 : lt a b with
  | true =>
    have : lt b a = false := by
      cases h2 : lt b a with
      | false => rfl
      | true => have := h.trans h1 h2; rw [h.irr] at this; cases this
    simp [this]
  | false => cases lt b a <;> simp
theorem cmpR_pos (a b : Ft) : decide (0 < cmpR a b) = ltR b a := by
  have e : ∀ x y : Ft, cmpR x y = cmpO ltK (keyR x) (keyR y) := fun _ _ => rfl
  rw [e, cmpO_pos totR]; rfl

/-- a latest one of the first t -/
structure MaxR (l : List Ft) (t : Nat) (m : Ft) : Prop where
  mem : m ∈ l.take t
  top : ∀ x ∈ l.take t, ltR m x = false
theorem MaxR.one {l : List Ft} {z : Ft} (h : l[0]? = some z) : MaxR l 1 z := by
  have e : l.take 1 = [z] := by
    cases l with
    | nil => simp at h
    | cons x r => simp at h; simp [h]
  exact ⟨by rw [e]; simp, fun x hx => by rw [e] at hx; obtain rfl := List.mem_singleton.1 hx; exact ltR_irr _⟩
theorem MaxR.more {l : List Ft} {t : Nat} {m x : Ft} (h : MaxR l t m) (hx : l[t]? = some x) (hr : ltR m x = true) : MaxR l (t + 1) x := by
  obtain ⟨ht, rfl⟩ := List.getElem?_eq_some_iff.1 hx
  rw [show MaxR l (t + 1) l[t] ↔ (l[t] ∈ l.take (t + 1) ∧ ∀ y ∈ l.take (t + 1), ltR l[t] y = false) from ⟨fun k => ⟨k.mem, k.top⟩, fun k => ⟨k.1, k.2⟩⟩, List.take_succ_eq_append_getElem ht]
  refine ⟨List.mem_append_right _ (List.mem_singleton.2 rfl), fun y hy => ?_⟩
  rcases List.mem_append.1 hy with hy | hy
  · cases q : ltR l[t] y with
    | false => rfl
    | true => have := ltR_trans hr q; rw [h.top y hy] at this; cases this
  · obtain rfl := List.mem_singleton.1 hy; exact ltR_irr _
theorem MaxR.same {l : List Ft} {t : Nat} {m x : Ft} (h : MaxR l t m) (hx : l[t]? = some x) (hr : ltR m x = false) : MaxR l (t + 1) m := by
  obtain ⟨ht, rfl⟩ := List.getElem?_eq_some_iff.1 hx
  rw [show MaxR l (t + 1) m ↔ (m ∈ l.take (t + 1) ∧ ∀ y ∈ l.take (t + 1), ltR m y = false) from ⟨fun k => ⟨k.mem, k.top⟩, fun k => ⟨k.1, k.2⟩⟩, List.take_succ_eq_append_getElem ht]
  refine ⟨List.mem_append_left _ h.mem, fun y hy => ?_⟩
  rcases List.mem_append.1 hy with hy | hy
  · exact h.top y hy
  · obtain rfl := List.mem_singleton.1 hy; exact hr
/-- it says what the last one of all that rise says -/
theorem MaxR.last {l s : List Ft} {m : Ft} (h : MaxR l l.length m) (ho : OrderR l s) : lastR s = (m.v, true) := by
  have hm := h.mem
  have ht := h.top
  rw [List.take_length] at hm ht
  have hms : m ∈ s := ho.perm.mem_iff.2 hm
  have hne : s ≠ [] := fun e => by rw [e] at hms; cases hms
  have hw := ho.weak
  have hz : s.getLast? = some (s.getLast hne) := List.getLast?_eq_some_getLast hne
  unfold lastR
  rw [hz]
  have hzl : s.getLast hne ∈ l := ho.perm.mem_iff.1 (List.getLast_mem hne)
  have h1 := ht _ hzl
  have h2 : ltR (s.getLast hne) m = false := by
    unfold WeakR at hw
    rw [← List.dropLast_concat_getLast hne, List.pairwise_append] at hw
    rw [← List.dropLast_concat_getLast hne] at hms
    rcases List.mem_append.1 hms with k | k
    · exact hw.2.2 m k _ (by simp)
    · obtain e := List.mem_singleton.1 k
      rw [← e]; exact ltR_irr _
  rcases ltR_tri m (s.getLast hne) with k | k | k
  · rw [h1] at k; cases k
  · have := congrArg (fun p => p.2.2) k
    simp only [keyR] at this
    simp [this]
  · rw [h2] at k; cases k

theorem orderRb (a b : Ft) (w : World) : Calls Tryz.prog 50 #[.agg (fcs a).toArray, .agg (fcs b).toArray] w fun e w' => e = .returned (.int .i64 (cmpR a b)) ∧ Below w.heap.size w w' :=
  (orderR a b w).mono fun _ _ h => ⟨h.1, h.2.below⟩

abbrev zBlk : Obj := .cells zcs 48
set_option maxHeartbeats 4000000 in
theorem maxC (l : List Ft) (a : Option Addr) (cap : Nat) (w : World) (h : FIn w a l) (hl : l.length ≤ 65536) (h0 : 0 < l.length) :
    Calls Tryz.prog 49 #[.slice a l.length cap, .func (.func 50) #[] #[]] w fun e w' => ∃ m, e = .returned (.agg (fcs m).toArray) ∧ MaxR l l.length m ∧ Below w.heap.size w w' := by
  obtain ⟨z, hz⟩ : ∃ d, l[0]? = some d := ⟨_, List.getElem?_eq_getElem h0⟩
  have H := Lib.hid h
  have HM0 := Lib.hid (MaxR.one hz)
  have hi1 : decide ((l.length : Int) < 1) = false := by simp; omega
  have hi0 : (0 : Int) < (l.length : Int) := by omega
  have HW0 := Lib.hid (show (w.alloc zBlk).heap[w.heap.size]? = some (.cells zcs 48 (0, 0)) ∧ Below w.heap.size w (w.alloc zBlk) from ⟨heap_alloc_new w _, (Below.refl _ _).alloc (Nat.le_refl _) _⟩)
  have HS0 := Lib.hid (show (w.alloc zBlk).heap.size = w.heap.size + 1 from by simp)
  have HZ := Lib.hid hz
  clear h hz h0
  go_enter Tryz.func49, Tryz.ntmps49
  go_upto_region 1 with fail
  change Code.wp _ _ _ _ (w.alloc zBlk)
  generalize w.alloc zBlk = W0 at *
  obtain ⟨b, off, rfl, hbl, c0⟩ := (H.out.below HW0.out.2).at HZ.out
  rw [Nat.zero_mul, Nat.add_zero] at c0
  have HC0 := Lib.hid (range_below c0 ((Below.refl _ W0).alloc (Nat.le_refl _) zBlk) hbl)
  have HC1 := Lib.hid c0
  have HB1 := Lib.hid (HW0.out.2.trans ((boxZ_below W0 z).mono HW0.out.2.size))
  have HR1 := Lib.hid (boxZ_row W0 z)
  have HR0 := Lib.hid (show (boxZ W0 z).heap[w.heap.size]? = some (.cells zcs 48 (0, 0)) from by rw [(boxZ_below W0 z).block _ (by rw [HS0.out]; omega)]; exact HW0.out.1)
  clear c0 hbl
  go_wp2_with (first
    | ((with_reducible refine fl_load ?_ (.tmp 12) ?_ b off z ?_ ?_ ?_); rfl; rfl; rfl; (first | exact HC1.out | exact HC0.out); simp only [Act.put, List.setIfInBounds_toArray, List.set_cons_zero, List.set_cons_succ])
    | ((with_reducible refine fl_store ?_ (.tmp 5) (.tmp 13) ?_ W0.heap.size z ?_ ?_ ?_ ?_); rfl; rfl; rfl; rfl; exact boxZ_old W0))
  go_loopw [6] (fun i wr => ∃ (k : Nat) (m : Ft), i = .int .i64 ((k : Int) + 1) ∧ k + 1 ≤ l.length ∧ Hid (MaxR l (k + 1) m) ∧ Hid (FRow wr W0.heap.size m) ∧ Hid (wr.heap[w.heap.size]? = some (.cells zcs 48 (0, 0))) ∧ Hid (Below w.heap.size w wr)) (fun i _ => l.length + 1 - (intOf i).toNat)
  case atStart => exact ⟨0, z, by simp, by omega, HM0, HR1, HR0, HB1⟩
  case round =>
    clear HM0 HR1 HR0 HB1 HC0 HC1 HZ
    obtain ⟨k, m, rfl, hk, HM, HR, HZ, HB⟩ := hrel
    have hgl := HR.out.lt
    by_cases hlt : k + 1 < l.length
    · obtain ⟨x, hx⟩ : ∃ d, l[k + 1]? = some d := ⟨_, List.getElem?_eq_getElem hlt⟩
      obtain ⟨b', off', hbe, hbl, c0⟩ := (H.out.below HB.out).at hx
      have hbe2 := Option.some.inj hbe
      obtain ⟨rfl, rfl⟩ : b = b' ∧ off = off' := by injection hbe2 with h1 h2; exact ⟨h1, h2⟩
      have HX := Lib.hid hx
      have HRX := Lib.hid (range_regrown c0 hbl)
      have HRM := Lib.hid (range_regrown HR.out.range HR.out.lt)
      have hi2 : (k : Int) + 1 < (l.length : Int) := by omega
      have hi4 : (0 : Int) ≤ (k : Int) + 1 := by omega
      have HO := Lib.hid (fun d os => Calls.regrown_of (orderRb x m (grow (redrawn wr d) os)))
      have hp := cmpR_pos x m
      generalize cmpR x m = c at *
      clear hx hbe hbe2 hgl
      cases hr : ltR m x with
      | true =>
        rw [hr] at hp
        have HM2 := Lib.hid (HM.out.more HX.out hr)
        clear hr HM
        go_upto_region 7 with fail
        refine wp_region_quiet_below (by kernel_rfl) (by kernel_rfl) ?_
        repeat (first
          | ((with_reducible refine fq_load ?_ (.tmp 23) ?_ b (off + (k + 1) * 8) x ?_ ?_ ?_); rfl; rfl; rfl; exact HRX.out; simp only [Act.put, List.setIfInBounds_toArray, List.set_cons_zero, List.set_cons_succ])
          | ((with_reducible refine fq_load ?_ (.tmp 5) ?_ W0.heap.size 0 m ?_ ?_ ?_); rfl; rfl; rfl; exact HRM.out; simp only [Act.put, List.setIfInBounds_toArray, List.set_cons_zero, List.set_cons_succ])
          | go_big_quiet_step ((go_at_call 50; with_reducible exact HO.out _ _)) | quiet_step ((go_at_call 50; with_reducible exact HO.out _ _)))
        refine wpQuiet_nil ?_
        intro _ hw'
        obtain ⟨⟨dq, osq⟩, hw''⟩ := hw'
        subst hw''
        have hb9 := below_regrown wr dq osq
        have HB9 := Lib.hid (HB.out.trans (hb9.mono HB.out.size))
        have HR9 := Lib.hid (HR.out.keep hb9)
        have HZ9 := Lib.hid (show (grow (redrawn wr dq) osq).heap[w.heap.size]? = some (.cells zcs 48 (0, 0)) from by rw [hb9.block _ (lt_of_block HZ.out)]; exact HZ.out)
        have HC9 := Lib.hid (range_below c0 hb9 hbl)
        clear hb9 HRX HRM HO HB HR HZ c0 hbl
        generalize grow (redrawn wr dq) osq = W at *
        go_wp2_with (first
          | ((with_reducible refine fl_load ?_ (.tmp 30) ?_ b (off + (k + 1) * 8) x ?_ ?_ ?_); rfl; rfl; rfl; exact HC9.out; simp only [Act.put, List.setIfInBounds_toArray, List.set_cons_zero, List.set_cons_succ])
          | ((with_reducible refine fl_store ?_ (.tmp 5) (.tmp 31) ?_ W0.heap.size x ?_ ?_ ?_ ?_); rfl; rfl; rfl; rfl; exact ⟨_, HR9.out, rfl⟩))
        have hne : w.heap.size ≠ W0.heap.size := by have := HS0.out; omega
        go_roundw
        case rel => exact ⟨k + 1, x, by go_num, by omega, HM2, Lib.hid (setRow_heap _ _ _ _ _ _ HR9.out), Lib.hid (by rw [setRow_other _ _ _ _ hne]; exact HZ9.out), Lib.hid (belowRow HB9.out (by have := HS0.out; omega) _)⟩
        case measure => simp [intOf]; omega
      | false =>
        rw [hr] at hp
        have HM2 := Lib.hid (HM.out.same HX.out hr)
        clear hr HM
        go_upto_region 7 with fail
        refine wp_region_quiet_below (by kernel_rfl) (by kernel_rfl) ?_
        repeat (first
          | ((with_reducible refine fq_load ?_ (.tmp 23) ?_ b (off + (k + 1) * 8) x ?_ ?_ ?_); rfl; rfl; rfl; exact HRX.out; simp only [Act.put, List.setIfInBounds_toArray, List.set_cons_zero, List.set_cons_succ])
          | ((with_reducible refine fq_load ?_ (.tmp 5) ?_ W0.heap.size 0 m ?_ ?_ ?_); rfl; rfl; rfl; exact HRM.out; simp only [Act.put, List.setIfInBounds_toArray, List.set_cons_zero, List.set_cons_succ])
          | go_big_quiet_step ((go_at_call 50; with_reducible exact HO.out _ _)) | quiet_step ((go_at_call 50; with_reducible exact HO.out _ _)))
        refine wpQuiet_nil ?_
        intro _ hw'
        obtain ⟨⟨dq, osq⟩, hw''⟩ := hw'
        subst hw''
        have hb9 := below_regrown wr dq osq
        have HB9 := Lib.hid (HB.out.trans (hb9.mono HB.out.size))
        have HR9 := Lib.hid (HR.out.keep hb9)
        have HZ9 := Lib.hid (show (grow (redrawn wr dq) osq).heap[w.heap.size]? = some (.cells zcs 48 (0, 0)) from by rw [hb9.block _ (lt_of_block HZ.out)]; exact HZ.out)
        clear hb9 HRX HRM HO HB HR HZ c0 hbl
        generalize grow (redrawn wr dq) osq = W at *
        go_wp2_with fail
        go_roundw
        case rel => exact ⟨k + 1, m, by go_num, by omega, HM2, HR9, HZ9, HB9⟩
        case measure => simp [intOf]; omega
    · have hke : k + 1 = l.length := by omega
      have HMM := Lib.hid (show MaxR l l.length m from by rw [← hke]; exact HM.out)
      have hi2 : ¬ (k : Int) + 1 < (l.length : Int) := by omega
      clear HM hke
      go_wp2_with (first
        | ((with_reducible refine fl_load ?_ (.tmp 5) ?_ W0.heap.size 0 m ?_ ?_ ?_); rfl; rfl; rfl; exact HR.out.range; simp only [Act.put, List.setIfInBounds_toArray, List.set_cons_zero, List.set_cons_succ])
        | ((with_reducible refine fl_store ?_ (.tmp 4) (.tmp 32) ?_ w.heap.size m ?_ ?_ ?_ ?_); rfl; rfl; rfl; rfl; exact ⟨_, HZ.out, rfl⟩))
      refine bodyPost_ret (results_cell_row rfl _ _ w.heap.size 48 (fcs m).toArray (0, 0) _ rfl (setRow_heap _ _ _ _ _ _ HZ.out) Tryz.underlying48 rfl factSize) rfl ?_
      exact ⟨m, rfl, HMM.out, belowRow HB.out (Nat.le_refl _) _⟩
end Go.Proofs.YtchnklekeinhiaaGreat

namespace Go.Proofs.YtchnklekeinhiaaGreat
set_option maxRecDepth 100000
open Go.RowKit Go.Sort

theorem neqS (a b : St) (W : World) : (binOp .neq 46 (.agg #[.int .i64 a.t, .int .i64 a.c, .int .i64 a.r]) (.agg #[.int .i64 b.t, .int .i64 b.c, .int .i64 b.r])).run Tryz.prog W = .ok (.bool (!decide (a = b))) W := by
  rw [run_neq_struct, eqS]; rfl

end Go.Proofs.YtchnklekeinhiaaGreat
