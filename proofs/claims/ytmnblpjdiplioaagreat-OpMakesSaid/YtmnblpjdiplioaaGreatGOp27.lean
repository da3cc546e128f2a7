/-
  The document's Has, Same.
  How a context is made clean, and what lacks is listed, step by step. Nothing of the program.
  How a context is made clean name by name: what holds behind each. Nothing of the program.
  Clean: the document's.
-/
import Derived.Test.YtmnblpjdiplioaaGreatGOp26
import Derived.Test.YtmnblpjdiplioaaGreatGOp12
import Derived.Lib.AppendZeros
namespace Go.Proofs.YtmnblpjdiplioaaGreat
set_option maxRecDepth 100000
open Go.RowKit Go.Sort

theorem has_at (c : Cx) {r : Nat} {n : Int} (h : chkD ((r : Int), n) = 0) : hasC c ((r : Int), n) = (decide (n ≤ c.v.getD r 0) || decide (((r : Int), n) ∈ c.l)) := by
  rw [Bool.eq_iff_iff, hasC_iff]
  simp [h]

set_option maxHeartbeats 4000000 in
theorem hasRC (c : Cx) (d : Dt) (a : Option Addr) (cap : Nat) (w : World) (h : CIn w c a) :
    Calls Tryz.prog 68 #[.agg (ccs c.v (.slice a c.l.length cap)), .agg #[.int .i64 d.1, .int .i64 d.2]] w fun e w' => e = .returned (.bool (hasC c d)) ∧ Go.RowKit.Below w.heap.size w w' := by
  have hlm : c.l.length ≤ maxLen := by have := h.len; unfold maxLen; omega
  have hB0 : Go.RowKit.Below w.heap.size w (boxD (boxC w c.v (.slice a c.l.length cap)) d) := (boxC_below _ _ _).trans ((boxD_below _ d).mono (by rw [boxC_size]; omega))
  have hrow : CRow (boxD (boxC w c.v (.slice a c.l.length cap)) d) w.heap.size c.v (.slice a c.l.length cap) := (CRow.new w c.v (.slice a c.l.length cap)).alloc _
  have hn := heap_alloc_new (boxC w c.v (.slice a c.l.length cap)) (.cells #[.int .i64 d.1, .int .i64 d.2] 36)
  rw [boxC_size] at hn
  have q0 : (boxD (boxC w c.v (.slice a c.l.length cap)) d).cell? ⟨w.heap.size + 1, 0, none⟩ = some (.int .i64 d.1) := by unfold boxD; rw [Joins.cell_of_block hn]; rfl
  have q1 : (boxD (boxC w c.v (.slice a c.l.length cap)) d).cell? ⟨w.heap.size + 1, 1, none⟩ = some (.int .i64 d.2) := by unfold boxD; rw [Joins.cell_of_block hn]; rfl
  have hlt : w.heap.size + 1 < (boxD (boxC w c.v (.slice a c.l.length cap)) d).heap.size := by rw [boxD_size, boxC_size]; omega
  have hin := h.below hB0
  have HV := Lib.hid h.v16
  have hc16 := hrow.cloud HV.out
  have H0 := Lib.hid (And.intro hB0 (And.intro hrow (And.intro q0 (And.intro q1 (And.intro hlt (And.intro hin hc16))))))
  have hck := fun W => checkRb d W
  have hh : hasC c d = (decide (chkD d = 0) && (decide (d.2 ≤ c.v.getD d.1.toNat 0) || decide (d ∈ c.l))) := rfl
  have hir := fun W (hin : DIn W a c.l) => inR c.l d a cap W hin hlm
  have HIR := Lib.hid hir
  have HH := Lib.hid hh
  have HCK0 := Lib.hid hck
  have hok : chkD d = 0 → 0 ≤ d.1 ∧ d.1 ≤ 15 ∧ 1 ≤ d.2 ∧ d.2 ≤ 1099511627776 := chkD_ok
  clear h hB0 hrow hn hin q0 q1 hlt hck hh hir hc16
  unfold boxD boxC at H0
  obtain ⟨dr, dq⟩ := d
  simp only at H0 HIR HH HCK0 hok ⊢
  go_enter Tryz.func68, Tryz.ntmps68
  go_upto_region 1 with fail
  generalize (w.alloc (.cells (ccs c.v (.slice a c.l.length cap)) 56)).alloc (.cells #[.int .i64 dr, .int .i64 dq] 36) = W at *
  have d0 := fun q os => cell_regrown H0.out.2.2.1 q os
  have d1 := fun q os => cell_regrown H0.out.2.2.2.1 q os
  have d2 := fun q os => cell_regrown H0.out.2.2.2.2.2.2 q os
  have HCK := Lib.hid (fun q os => Calls.regrown_of (HCK0.out (grow (redrawn W q) os)))
  have HIN := Lib.hid (fun q os => Calls.regrown_of (HIR.out (grow (redrawn W q) os) (H0.out.2.2.2.2.2.1.din.below (below_regrown W q os))))
  have hho := HH.out
  by_cases hc : chkD (dr, dq) = 0
  · obtain ⟨e1, e2, e3, e4⟩ := hok hc
    obtain ⟨r, rfl⟩ := Int.eq_ofNat_of_zero_le e1
    have hr16 : r < 16 := by omega
    have hcell := H0.out.2.1.cell r (by rw [HV.out]; exact hr16)
    rw [hc] at HCK
    have hho := has_at c hc
    obtain ⟨x, hx0⟩ : ∃ x, c.v.getD r 0 = x := ⟨_, rfl⟩
    rw [hx0] at hcell hho
    have d3 := fun q os => cell_regrown hcell q os
    have hb : ((0 : Int) == 0) = true := rfl
    clear hc hok e1 e2 e3 e4 hcell hx0
    by_cases hx : dq ≤ x
    · have hxd : decide (dq ≤ x) = true := by simp [hx]
      have HO := Lib.hid (show hasC c ((r : Int), dq) = true by rw [hho, hxd]; rfl)
      clear hho hx HIN
      refine wp_region_quiet_below (by kernel_rfl) (by kernel_rfl) ?_
      repeat (first | go_big_quiet_step ((go_at_call 40; with_reducible exact HCK.out _ _)) | quiet_step ((go_at_call 40; with_reducible exact HCK.out _ _)))
      refine wpQuiet_nil ?_
      intro _ hw'
      obtain ⟨⟨dq', osq⟩, hw''⟩ := hw'
      subst hw''
      have HB9 := Lib.hid (H0.out.1.trans ((below_regrown W dq' osq).mono H0.out.1.size))
      clear d0 d1 d2 d3 HCK
      generalize grow (redrawn W dq') osq = U at *
      go_wp2_with fail
      go_ret
      exact ⟨by rw [HO.out]; rfl, HB9.out⟩
    · have hxd : decide (dq ≤ x) = false := by simp; omega
      have HO := Lib.hid (show hasC c ((r : Int), dq) = decide (((r : Int), dq) ∈ c.l) by rw [hho, hxd]; rfl)
      obtain ⟨u, hu⟩ : ∃ u, decide (((r : Int), dq) ∈ c.l) = u := ⟨_, rfl⟩
      rw [hu] at HIN HO
      clear hho hx hu
      refine wp_region_quiet_below (by kernel_rfl) (by kernel_rfl) ?_
      repeat (first | go_big_quiet_step (first | (go_at_call 40; with_reducible exact HCK.out _ _) | (go_at_call 19; with_reducible exact HIN.out _ _)) | quiet_step (first | (go_at_call 40; with_reducible exact HCK.out _ _) | (go_at_call 19; with_reducible exact HIN.out _ _)))
      refine wpQuiet_nil ?_
      intro _ hw'
      obtain ⟨⟨dq', osq⟩, hw''⟩ := hw'
      subst hw''
      have HB9 := Lib.hid (H0.out.1.trans ((below_regrown W dq' osq).mono H0.out.1.size))
      clear d0 d1 d2 d3 HCK HIN
      generalize grow (redrawn W dq') osq = U at *
      go_wp2_with fail
      go_ret
      exact ⟨by rw [HO.out]; rfl, HB9.out⟩
  · have h2 : chkD (dr, dq) = 2 := (chkD_cases _).resolve_left hc
    have hb : ((2 : Int) == 0) = false := rfl
    have HO := Lib.hid (show hasC c (dr, dq) = false by rw [hho, decide_eq_false hc]; rfl)
    rw [h2] at HCK
    clear hho hc hok h2 HIN
    refine wp_region_quiet_below (by kernel_rfl) (by kernel_rfl) ?_
    repeat (first | go_big_quiet_step ((go_at_call 40; with_reducible exact HCK.out _ _)) | quiet_step ((go_at_call 40; with_reducible exact HCK.out _ _)))
    refine wpQuiet_nil ?_
    intro _ hw'
    obtain ⟨⟨dq', osq⟩, hw''⟩ := hw'
    subst hw''
    have HB9 := Lib.hid (H0.out.1.trans ((below_regrown W dq' osq).mono H0.out.1.size))
    clear d0 d1 d2 HCK
    generalize grow (redrawn W dq') osq = U at *
    go_wp2_with fail
    go_ret
    exact ⟨by rw [HO.out]; rfl, HB9.out⟩

end Go.Proofs.YtmnblpjdiplioaaGreat

namespace Go.Proofs.YtmnblpjdiplioaaGreat

/-! the vector as great as can be -/
structure TopAt (c : Cx) (i : Nat) (x : Int) : Prop where
  ok : okN x
  all : ∀ n : Int, 1 ≤ n → n ≤ x → hasC c ((i : Int), n) = true
  no : hasC c ((i : Int), x + 1) = false
/-- on the way there -/
structure TopTo (c : Cx) (i : Nat) (x : Int) : Prop where
  ok : okN x
  all : ∀ n : Int, 1 ≤ n → n ≤ x → hasC c ((i : Int), n) = true
theorem TopTo.start (c : Cx) {i : Nat} (hi : i < 16) : TopTo c i (max 0 (min (c.v.getD i 0) 1099511627776)) := by
  generalize hx : c.v.getD i 0 = x
  refine ⟨by unfold okN; omega, fun n h1 h2 => ?_⟩
  rw [hasC_iff]
  refine ⟨chkD_dot hi h1 (by omega), .inl ?_⟩
  simp only [Int.toNat_natCast, hx]
  omega
theorem TopTo.more {c : Cx} {i : Nat} {x : Int} (h : TopTo c i x) (hn : hasC c ((i : Int), x + 1) = true) : TopTo c i (x + 1) := by
  have h1 := chkD_ok (hasC_iff.1 hn).1
  have h2 := h.ok
  unfold okN at h2
  refine ⟨by unfold okN; simp only at h1; omega, fun n h3 h4 => ?_⟩
  by_cases e : n = x + 1
  · rw [e]; exact hn
  · exact h.all n h3 (by omega)
theorem TopTo.less {c : Cx} {i : Nat} {x : Int} (hn : hasC c ((i : Int), x + 1) = true) : x + 1 ≤ 1099511627776 := (chkD_ok (hasC_iff.1 hn).1).2.2.2
theorem TopTo.done {c : Cx} {i : Nat} {x : Int} (h : TopTo c i x) (hn : hasC c ((i : Int), x + 1) = false) : TopAt c i x := ⟨h.ok, h.all, hn⟩
theorem TopAt.same {c : Cx} {i : Nat} {x y : Int} (hx : TopAt c i x) (hy : TopAt c i y) : x = y := by
  have h1 := hx.ok
  have h2 := hy.ok
  unfold okN at h1 h2
  refine Int.le_antisymm (Int.not_lt.1 fun h => ?_) (Int.not_lt.1 fun h => ?_)
  · have := hx.all (y + 1) (by omega) (by omega)
    rw [hy.no] at this
    cases this
  · have := hy.all (x + 1) (by omega) (by omega)
    rw [hx.no] at this
    cases this
/-- what is had stands at or below the top, or in the cloud above it -/
theorem TopAt.cover {c : Cx} {d : Dt} {x : Int} (hd : hasC c d = true) (h : TopAt c d.1.toNat x) (hx : x < d.2) : d ∈ c.l := by
  obtain ⟨h1, h2 | h2⟩ := hasC_iff.1 hd
  · exfalso
    have h3 := chkD_ok h1
    have h4 := h.ok
    unfold okN at h4
    have h5 := h.no
    rw [hasC_no] at h5
    refine h5 ⟨chkD_dot (by omega) (by omega) (by omega), .inl ?_⟩
    simp only [Int.toNat_natCast]
    omega
  · exact h2

/-- beyond the vector: what stays of a cloud -/
def beyond (v : Vc) (d : Dt) : Bool := decide (chkD d = 0) && !hasV v d
theorem beyond_iff {v : Vc} {d : Dt} : beyond v d = true ↔ chkD d = 0 ∧ v.getD d.1.toNat 0 < d.2 := by
  unfold beyond hasV
  by_cases h : chkD d = 0 <;> simp [h]
theorem cleanOf_top {c : Cx} {v : Vc} {m : List Dt} (hl : v.length = 16) (ht : ∀ i : Nat, i < 16 → TopAt c i (v.getD i 0)) (hr : Rise m) (hm : ∀ d, d ∈ m ↔ d ∈ c.l ∧ beyond v d = true) : CleanOf c ⟨v, m⟩ := by
  have hhas : ∀ d, hasC ⟨v, m⟩ d = hasC c d := by
    intro d
    rw [Bool.eq_iff_iff]
    constructor
    · intro h
      obtain ⟨h1, h2 | h2⟩ := hasC_iff.1 h
      · have h3 := chkD_ok h1
        have h4 := (ht d.1.toNat (by omega)).all d.2 (by omega) h2
        have e : ((d.1.toNat : Int), d.2) = d := by ext <;> simp <;> omega
        rwa [e] at h4
      · exact hasC_iff.2 ⟨h1, .inr ((hm d).1 h2).1⟩
    · intro h
      have h1 := (hasC_iff.1 h).1
      have h3 := chkD_ok h1
      refine hasC_iff.2 ⟨h1, ?_⟩
      by_cases hx : d.2 ≤ v.getD d.1.toNat 0
      · exact .inl hx
      · have hx' : v.getD d.1.toNat 0 < d.2 := by omega
        exact .inr ((hm d).2 ⟨TopAt.cover h (ht d.1.toNat (by omega)) hx', beyond_iff.2 ⟨h1, hx'⟩⟩)
  refine ⟨⟨hl, fun i hi => (ht i hi).ok, fun i hi => ?_, hr, fun d hd => beyond_iff.1 ((hm d).1 hd).2⟩, hhas⟩
  rw [hhas]
  exact (ht i hi).no
theorem rise_filter {m : List Dt} (h : Rise m) (p : Dt → Bool) : Rise (m.filter p) := List.Pairwise.sublist List.filter_sublist h
theorem cleanOf_filter {c : Cx} {v : Vc} (hl : v.length = 16) (ht : ∀ i : Nat, i < 16 → TopAt c i (v.getD i 0)) : CleanOf c ⟨v, (sortD c.l).filter (beyond v)⟩ :=
  cleanOf_top hl ht (rise_filter (rise_sortD _) _) fun d => by rw [List.mem_filter, mem_sortD]
theorem filter_take_succ {l : List Dt} (p : Dt → Bool) {k : Nat} {d : Dt} (hd : l[k]? = some d) : (l.take (k + 1)).filter p = (l.take k).filter p ++ (if p d = true then [d] else []) := by
  obtain ⟨hk, rfl⟩ := List.getElem?_eq_some_iff.1 hd
  rw [List.take_succ_eq_append_getElem hk, List.filter_append]
  congr 1
  by_cases h : p l[k] = true <;> simp [h]

/-! what lacks, listed -/
/-! a replica's part of a cloud, one name behind the other -/
end Go.Proofs.YtmnblpjdiplioaaGreat

namespace Go.Proofs.YtmnblpjdiplioaaGreat

theorem beyond_parts (v : Vc) (d : Dt) : beyond v d = (decide (chkD d = 0) && !hasV v d) := rfl
end Go.Proofs.YtmnblpjdiplioaaGreat

namespace Go.Proofs.YtmnblpjdiplioaaGreat
set_option maxRecDepth 100000
open Go.RowKit Go.Sort

/-- an append in a region that draws -/
theorem draw_append {ops : Array Oper} {o : Oper} {a : Act} {w : World} {K : Act → World → Prop} {Q : Exit → Act → World → Prop} (hgd : o.guard = none) (x y : Operand) (ho : o.op = .call { callee := .builtin .append, args := #[x, y], argTypes := #[41, 41] }) (ht : o.type = 41)
    (vs vx : Value) (hx : a.eval x = vs) (hy : a.eval y = vx) (v' : Value) (w' : World) (hr : (Builtin.append_ #[41, 41] 41 #[vs, vx]).run Tryz.prog w = .ok v' w') (h : K (a.put o.dst v') w') :
    if Region.wanted o (yielded ops a.tmps) = true then Oper.wp Tryz.prog o a w K Q else K (a.put o.dst undef) w := by
  simp only [Region.wanted, hgd, if_true]
  have hr' : (Builtin.append_ #[41, 41] o.type #[vs, vx]).run Tryz.prog w = .ok v' w' := by rw [ht]; exact hr
  exact Lib.wp_append_run w x y _ _ ho vs vx hx hy v' w' hr' h
/-- a name that lies at a place -/
structure DAt (U : World) (b o : Nat) (d : Dt) : Prop where
  c0 : U.cell? ⟨b, o, none⟩ = some (.int .i64 d.1)
  c1 : U.cell? ⟨b, o + 1, none⟩ = some (.int .i64 d.2)
  lt : b < U.heap.size
theorem DAt.below {U U' : World} {b o B : Nat} {d : Dt} (h : DAt U b o d) (hb : Go.RowKit.Below B U U') (hB : b < B) : DAt U' b o d :=
  ⟨by rw [hb.cell (p := ⟨b, o, none⟩) hB]; exact h.c0, by rw [hb.cell (p := ⟨b, o + 1, none⟩) hB]; exact h.c1, Nat.lt_of_lt_of_le h.lt hb.size⟩
theorem DAt.alloc {U : World} {b o : Nat} {d : Dt} (h : DAt U b o d) (ob : Obj) : DAt (U.alloc ob) b o d := h.below ((Below.refl _ _).alloc (Nat.le_refl _) ob) h.lt
theorem DAt.set {U : World} {b o g : Nat} {d : Dt} (h : DAt U b o d) (hg : b ≠ g) (j : Nat) (x : Value) : DAt (U.setCell ⟨g, j, none⟩ x) b o d :=
  ⟨by rw [World.cell?_setCell_other _ _ _ _ (fun e => hg (congrArg Addr.block e).symm)]; exact h.c0, by rw [World.cell?_setCell_other _ _ _ _ (fun e => hg (congrArg Addr.block e).symm)]; exact h.c1, by simpa using h.lt⟩
def cellI (w : World) (b i : Nat) : Int := intOf ((w.cell? ⟨b, i, none⟩).getD undef)
theorem cellI_eq {w : World} {b i : Nat} {x : Int} (h : w.cell? ⟨b, i, none⟩ = some (.int .i64 x)) : cellI w b i = x := by unfold cellI; rw [h]; rfl
theorem getD_set (v : Vc) (i j : Nat) (x : Int) (hi : i < v.length) : (v.set i x).getD j 0 = if j = i then x else v.getD j 0 := by
  rw [List.getD_eq_getElem?_getD, List.getElem?_set, List.getD_eq_getElem?_getD]
  by_cases e : j = i
  · rw [if_pos e.symm, if_pos e, if_pos hi]; rfl
  · rw [if_neg (fun x => e x.symm), if_neg e]

set_option maxHeartbeats 8000000 in
theorem cleanRC (c : Cx) (a : Option Addr) (cap : Nat) (w : World) (h : CIn w c a) :
    Calls Tryz.prog 96 #[.agg (ccs c.v (.slice a c.l.length cap))] w fun e w' => (∃ (o : Cx) (a' : Option Addr) (cap' : Nat), e = .returned (.agg (ccs o.v (.slice a' o.l.length cap'))) ∧ CleanOf c o ∧ Made w.heap.size w' o a' ∧ o.l.length ≤ c.l.length) ∧ Go.RowKit.Below w.heap.size w w' := by
  have HV := Lib.hid h.v16
  have hlen := h.len
  have HW := Lib.hid (three_ctx w c.v (.slice a c.l.length cap))
  have HD := Lib.hid h
  unfold boxC at HW
  clear h
  go_enter Tryz.func96, Tryz.ntmps96
  go_upto_region 2 with fail
  change Code.wp _ _ _ _ (((w.alloc (.cells (ccs c.v (.slice a c.l.length cap)) 56)).alloc (.cells (ccs zV nilS) 56)).alloc (.cells (ccs zV nilS) 56))
  generalize ((w.alloc (.cells (ccs c.v (.slice a c.l.length cap)) 56)).alloc (.cells (ccs zV nilS) 56)).alloc (.cells (ccs zV nilS) 56) = W0 at *
  go_wp2_with fail
  go_loopw [4] (fun i wr => ∃ (k : Nat) (v : Vc), i = .int .i64 k ∧ k ≤ 16 ∧ v.length = 16 ∧ Hid (∀ j, j < k → TopAt c j (v.getD j 0)) ∧ CRow wr w.heap.size c.v (.slice a c.l.length cap) ∧ CRow wr (w.heap.size + 1) zV nilS ∧ CRow wr (w.heap.size + 2) v nilS ∧ Go.RowKit.Below w.heap.size w wr) (fun i _ => 16 - (intOf i).toNat)
  case atStart => exact ⟨0, zV, rfl, by omega, rfl, Lib.hid (fun j hj => by omega), HW.out.1, HW.out.2.1, HW.out.2.2.1, HW.out.2.2.2.1⟩
  case round =>
    obtain ⟨k, v, rfl, hk, hvl, HT, r0, r1, r2, rB⟩ := hrel
    by_cases hlt : k < 16
    · have hcella := r0.cell k (by rw [HV.out]; exact hlt)
      have hcell := r2.cell k (by rw [hvl]; exact hlt)
      have hfree := r2.free k
      have hz := r2.lt
      have hz0 := r0.lt
      have HS := Lib.hid (TopTo.start c hlt)
      have HX := Lib.hid (And.intro r0 (And.intro r1 (And.intro r2 rB)))
      have HVL := Lib.hid hvl
      clear r0 r1 r2 rB hvl
      generalize hx : c.v.getD k 0 = x at *
      generalize v.getD k 0 = y at *
      clear hx
      obtain ⟨m, hm⟩ : ∃ m, m = max 0 (min x 1099511627776) := ⟨_, rfl⟩
      rw [← hm] at HS
      have HM := Lib.hid hm
      clear hm
      go_wp2_with fail
      rw [← HM.out]
      have hq2 := HX.out.2.2.1.set k m (by rw [HVL.out]; exact hlt)
      have HX2 := Lib.hid (And.intro (HX.out.1.other (show w.heap.size ≠ w.heap.size + 2 by omega) k (.int .i64 m)) (And.intro (HX.out.2.1.other (show w.heap.size + 1 ≠ w.heap.size + 2 by omega) k (.int .i64 m)) (And.intro hq2 (show Go.RowKit.Below w.heap.size w (wr.setCell ⟨w.heap.size + 2, k, none⟩ (.int .i64 m)) from HX.out.2.2.2.setCell (show w.heap.size ≤ w.heap.size + 2 by omega) _))))
      clear hq2 hcella hcell hfree hz hz0 HX
      generalize wr.setCell ⟨w.heap.size + 2, k, none⟩ (.int .i64 m) = W1 at *
      go_loopw [] (fun wq => ∃ v2 : Vc, v2.length = 16 ∧ Hid (TopTo c k (v2.getD k 0)) ∧ Hid (∀ j, j < k → TopAt c j (v2.getD j 0)) ∧ CRow wq w.heap.size c.v (.slice a c.l.length cap) ∧ CRow wq (w.heap.size + 1) zV nilS ∧ CRow wq (w.heap.size + 2) v2 nilS ∧ Go.RowKit.Below w.heap.size w wq) (fun wq => (1099511627776 - cellI wq (w.heap.size + 2) k).toNat)
      case atStart => exact ⟨v.set k m, by rw [List.length_set]; exact HVL.out, Lib.hid (by rw [getD_set _ _ _ _ (by rw [HVL.out]; exact hlt), if_pos rfl]; exact HS.out), Lib.hid (fun j hj => by rw [getD_set _ _ _ _ (by rw [HVL.out]; exact hlt), if_neg (by omega)]; exact HT.out j hj), HX2.out⟩
      case round =>
        rename World => wq
        obtain ⟨v2, hvl2, HS2, HT2, r0, r1, r2, rB⟩ := hrel
        have hcell := r2.cell k (by rw [hvl2]; exact hlt)
        have hci := cellI_eq hcell
        have hfree := r2.free k
        have hz := r2.lt
        have HX := Lib.hid (And.intro r0 (And.intro r1 (And.intro r2 rB)))
        have hok := HS2.out.ok
        have HVL2 := Lib.hid hvl2
        clear r0 r1 r2 rB hvl2
        obtain ⟨x2, hx2⟩ : ∃ x, v2.getD k 0 = x := ⟨_, rfl⟩
        rw [hx2] at hcell hok hci HS2
        unfold okN at hok
        have HX2' := Lib.hid hx2
        clear hx2
        have hw1 : IntKind.i64.wrap (x2 + 1) = x2 + 1 := by simp [IntKind.wrap, IntKind.bits, IntKind.signed]; omega
        have d0 := fun q os => cell_regrown hcell q os
        have hrg := HX.out.1.regrown
        have HRG := Lib.hid hrg
        have hch := fun q os => Calls.regrown_of (hasRC c ((k : Int), x2 + 1) a cap (grow (redrawn wq q) os) ((HD.out.below HX.out.2.2.2).below (below_regrown wq q os)))
        simp only at hch
        have hmore := fun h => HS2.out.more h
        have hdone := fun h => HS2.out.done h
        have HMD := Lib.hid (And.intro hmore hdone)
        have hless := fun h => TopTo.less (c := c) (i := k) (x := x2) h
        obtain ⟨u, hu⟩ : ∃ u, hasC c ((k : Int), x2 + 1) = u := ⟨_, rfl⟩
        rw [hu] at hch
        have HCH := Lib.hid hch
        have HU := Lib.hid hu
        clear hrg hch hmore hdone hcell hfree
        cases u with
        | true =>
          have hle := hless hu
          clear hless hu
          go_upto_region 6 with fail
          refine wp_region_quiet_below (by kernel_rfl) (by kernel_rfl) ?_
          repeat (first
            | ((with_reducible refine cq_load ?_ (.tmp 1) ?_ w.heap.size c.v (.slice a c.l.length cap) ?_ ?_ ?_ ?_); rfl; rfl; rfl; exact HRG.out; exact HV.out; simp only [Act.put, List.setIfInBounds_toArray, List.set_cons_zero, List.set_cons_succ])
            | go_big_quiet_step ((go_at_call 68; with_reducible exact HCH.out _ _)) | quiet_step ((go_at_call 68; with_reducible exact HCH.out _ _)))
          refine wpQuiet_nil ?_
          intro _ hw'
          obtain ⟨⟨dq', osq⟩, hw''⟩ := hw'
          subst hw''
          have hb5 := below_regrown wq dq' osq
          have X5 := Lib.hid (And.intro (HX.out.1.keep hb5) (And.intro (HX.out.2.1.keep hb5) (And.intro (HX.out.2.2.1.keep hb5) (HX.out.2.2.2.trans (hb5.mono HX.out.2.2.2.size)))))
          have hcell := d0 dq' osq
          have hzz := Nat.lt_of_lt_of_le hz hb5.size
          clear d0 HCH HRG hb5 HX
          generalize grow (redrawn wq dq') osq = U at *
          have hfree := X5.out.2.2.1.free k
          go_wp2_with fail
          go_roundw
          case rel =>
            refine ⟨v2.set k (x2 + 1), by rw [List.length_set]; exact HVL2.out, Lib.hid ?_, Lib.hid (fun j hj => by rw [getD_set _ _ _ _ (by rw [HVL2.out]; exact hlt), if_neg (by omega)]; exact HT2.out j hj), X5.out.1.other (by omega) _ _, X5.out.2.1.other (by omega) _ _, X5.out.2.2.1.set k (x2 + 1) (by rw [HVL2.out]; exact hlt), X5.out.2.2.2.setCell (show w.heap.size ≤ w.heap.size + 2 by omega) _⟩
            rw [getD_set _ _ _ _ (by rw [HVL2.out]; exact hlt), if_pos rfl]
            exact HMD.out.1 HU.out
          case measure =>
            have e1 : cellI (U.setCell ⟨w.heap.size + 2, k, none⟩ (.int .i64 (x2 + 1))) (w.heap.size + 2) k = x2 + 1 := cellI_eq (World.cell?_setCell_same _ _ _ hcell)
            rw [hci]
            first | (rw [e1]; omega) | (erw [e1]; omega)
        | false =>
          clear hless hu
          go_upto_region 6 with fail
          refine wp_region_quiet_below (by kernel_rfl) (by kernel_rfl) ?_
          repeat (first
            | ((with_reducible refine cq_load ?_ (.tmp 1) ?_ w.heap.size c.v (.slice a c.l.length cap) ?_ ?_ ?_ ?_); rfl; rfl; rfl; exact HRG.out; exact HV.out; simp only [Act.put, List.setIfInBounds_toArray, List.set_cons_zero, List.set_cons_succ])
            | go_big_quiet_step ((go_at_call 68; with_reducible exact HCH.out _ _)) | quiet_step ((go_at_call 68; with_reducible exact HCH.out _ _)))
          refine wpQuiet_nil ?_
          intro _ hw'
          obtain ⟨⟨dq', osq⟩, hw''⟩ := hw'
          subst hw''
          have hb5 := below_regrown wq dq' osq
          have X5 := Lib.hid (And.intro (HX.out.1.keep hb5) (And.intro (HX.out.2.1.keep hb5) (And.intro (HX.out.2.2.1.keep hb5) (HX.out.2.2.2.trans (hb5.mono HX.out.2.2.2.size)))))
          clear d0 HCH HRG hb5 HX
          generalize grow (redrawn wq dq') osq = U at *
          go_wp2_with fail
          go_roundw
          case rel =>
            refine ⟨k + 1, v2, by go_num, by omega, HVL2.out, Lib.hid (fun j hj => ?_), X5.out.1, X5.out.2.1, X5.out.2.2.1, X5.out.2.2.2⟩
            by_cases e : j = k
            · subst e; rw [HX2'.out]; exact HMD.out.2 HU.out
            · exact HT2.out j (by omega)
          case measure => simp [intOf]; omega
    · obtain rfl : k = 16 := by omega
      have c16 := r0.cloud HV.out
      have HX := Lib.hid (And.intro r0 (And.intro r1 (And.intro r2 rB)))
      have hz := r2.lt
      have hdin := HD.out.din.below rB
      have HVL := Lib.hid hvl
      have hclf := cleanOf_filter (c := c) (v := v) hvl (fun i hi => HT.out i hi)
      have hfl : (((sortD c.l).filter (beyond v)).length) ≤ c.l.length := Nat.le_trans (List.length_filter_le _ _) (sortD_len c.l)
      have HCF := Lib.hid (And.intro hclf hfl)
      clear r0 r1 r2 rB hvl hclf hfl
      go_wp2_with fail
      refine (sortR c.l a cap wr hdin (by omega)).mono ?_
      rintro e w2 ⟨v2, rfl, hown2, hb2⟩
      obtain ⟨sa, sc, rfl, hfrom, hsc, hscm⟩ := hown2.from
      have hsl := sortD_len c.l
      have H2 := Lib.hid (And.intro (HX.out.1.keep hb2) (And.intro (HX.out.2.1.keep hb2) (And.intro (HX.out.2.2.1.keep hb2) (And.intro (HX.out.2.2.2.trans (hb2.mono HX.out.2.2.2.size)) (hfrom.mono (show w.heap.size + 3 ≤ wr.heap.size by omega))))))
      have hz2 : w.heap.size + 2 < w2.heap.size := Nat.lt_of_lt_of_le hz hb2.size
      clear hown2 hb2 hfrom hdin c16 HX HW hz
      generalize sortD c.l = s at *
      go_wp2_with fail
      go_loopw [6] (fun i wr => ∃ (k : Nat) (oa : Option Addr) (oc : Nat), k ≤ s.length ∧ i = .int .i64 k ∧ CRow wr w.heap.size c.v (.slice a c.l.length cap) ∧ CRow wr (w.heap.size + 1) zV nilS ∧ CRow wr (w.heap.size + 2) v (.slice oa ((s.take k).filter (beyond v)).length oc) ∧
        OwnD w2.heap.size (.slice oa ((s.take k).filter (beyond v)).length oc) ((s.take k).filter (beyond v)) wr ∧ Mid (w.heap.size + 3) w2.heap.size w2 wr ∧ Go.RowKit.Below w.heap.size w wr) (fun i _ => s.length - (intOf i).toNat)
      case atStart => exact ⟨0, none, 0, Nat.zero_le _, rfl, H2.out.1, H2.out.2.1, by rw [List.take_zero]; exact H2.out.2.2.1, by rw [List.take_zero]; exact ownD_nil _ _, Mid.refl _ _ _, H2.out.2.2.2.1⟩
      case round =>
        obtain ⟨k, oa, oc, hk, rfl, r0, r1, r2, ho, hmid, rB⟩ := hrel
        have hzr := r2.lt
        have hsz := hmid.size
        by_cases hlt : k < s.length
        · obtain ⟨d, hd⟩ : ∃ d, s[k]? = some d := ⟨_, List.getElem?_eq_getElem hlt⟩
          have hnx := filter_take_succ (beyond v) hd
          have HNX := Lib.hid hnx
          have hol : ((s.take k).filter (beyond v)).length ≤ k := by have := List.length_filter_le (beyond v) (s.take k); rw [List.length_take] at this; omega
          obtain ⟨out, hout⟩ : ∃ out, (s.take k).filter (beyond v) = out := ⟨_, rfl⟩
          rw [hout] at HNX hol
          have r2' : CRow wr (w.heap.size + 2) v (.slice oa out.length oc) := by rw [← hout]; exact r2
          have ho' : OwnD w2.heap.size (.slice oa out.length oc) out wr := by rw [← hout]; exact ho
          have HX := Lib.hid (And.intro r0 (And.intro r1 (And.intro r2' (And.intro ho' (And.intro hmid rB)))))
          have HDF := Lib.hid (H2.out.2.2.2.2.mid hmid (Nat.le_refl _))
          obtain ⟨b, off, rfl, hbl, c0, c1⟩ := HDF.out.din.at hd
          have HOUT := Lib.hid hout
          clear r0 r1 r2 ho hmid rB r2' ho' hnx hout
          have hi1 : (k : Int) < (s.length : Int) := by omega
          have hi2 : decide ((k : Int) < (s.length : Int)) = true := by simp; omega
          have hda : DAt wr b (off + k * 2) d := ⟨c0, c1, hbl⟩
          have HDA := Lib.hid hda
          have q0 := fun q os => cell_regrown c0 q os
          have q1 := fun q os => cell_regrown c1 q os
          have hbp := beyond_parts v d
          have hck := fun q os => Calls.regrown_of (checkRb d (grow (redrawn wr q) os))
          have hvh := fun q os => Calls.regrown_of (vhasR v d HVL.out (grow (redrawn wr q) os))
          have HRG := Lib.hid HX.out.2.2.1.regrown
          obtain ⟨u, hu⟩ : ∃ u, hasV v d = u := ⟨_, rfl⟩
          rw [hu] at hvh hbp
          have hbne : b ≠ w.heap.size + 2 := by
            rcases HDF.out with h0 | ⟨b', off', he, hlo, -, -⟩
            · rw [h0] at hlt; simp at hlt
            · injection he with he; injection he with h1 h2; omega
          have hblt : b < w2.heap.size := by
            rcases H2.out.2.2.2.2 with h0 | ⟨b', off', he, hlo, hhi, -⟩
            · rw [h0] at hlt; simp at hlt
            · injection he with he; injection he with h1 h2; omega
          obtain ⟨dr, dq⟩ := d
          simp only at c0 c1 q0 q1 hck hvh
          clear hu hda
          by_cases hc : chkD (dr, dq) = 0
          · rw [hc] at hck
            rw [decide_eq_true hc] at hbp
            have hb0 : ((0 : Int) == 0) = true := rfl
            have HCK := Lib.hid hck
            have HVH := Lib.hid hvh
            clear hck hvh hc
            cases u with
            | true =>
              have HK := Lib.hid (show (s.take (k + 1)).filter (beyond v) = out by rw [HNX.out, hbp]; simp)
              clear hbp
              go_upto_region 12 with fail
              clear c0 c1
              refine wp_region_quiet_below (by kernel_rfl) (by kernel_rfl) ?_
              repeat (first
                | ((with_reducible refine cq_loadV ?_ (.tmp 52) ?_ (w.heap.size + 2) v (.slice oa out.length oc) ?_ ?_ ?_ ?_); rfl; rfl; rfl; exact HRG.out; exact HVL.out; simp only [Act.put, List.setIfInBounds_toArray, List.set_cons_zero, List.set_cons_succ])
                | go_big_quiet_step (first | (go_at_call 40; with_reducible exact HCK.out _ _) | (go_at_call 113; with_reducible exact HVH.out _ _))
                | quiet_step (first | (go_at_call 40; with_reducible exact HCK.out _ _) | (go_at_call 113; with_reducible exact HVH.out _ _)))
              refine wpQuiet_nil ?_
              intro _ hw'
              obtain ⟨⟨dq', osq⟩, hw''⟩ := hw'
              subst hw''
              have hb5 := below_regrown wr dq' osq
              have X5 := Lib.hid (And.intro (HX.out.1.keep hb5) (And.intro (HX.out.2.1.keep hb5) (And.intro (HX.out.2.2.1.keep hb5) (And.intro (HX.out.2.2.2.1.below hb5 (Nat.le_refl _)) (And.intro (HX.out.2.2.2.2.1.below hb5 hsz) (HX.out.2.2.2.2.2.trans (hb5.mono HX.out.2.2.2.2.2.size)))))))
              clear q0 q1 HCK HVH HRG hb5 HX
              generalize grow (redrawn wr dq') osq = U at *
              go_wp2_with fail
              go_roundw
              case rel => exact ⟨k + 1, oa, oc, by omega, by go_num, X5.out.1, X5.out.2.1, by rw [HK.out]; exact X5.out.2.2.1, by rw [HK.out]; exact X5.out.2.2.2.1, X5.out.2.2.2.2⟩
              case measure => simp [intOf]; omega
            | false =>
              have HK := Lib.hid (show (s.take (k + 1)).filter (beyond v) = out ++ [(dr, dq)] by rw [HNX.out, hbp]; simp)
              clear hbp
              go_upto_region 12 with fail
              clear c0 c1
              refine wp_region_quiet_below (by kernel_rfl) (by kernel_rfl) ?_
              repeat (first
                | ((with_reducible refine cq_loadV ?_ (.tmp 52) ?_ (w.heap.size + 2) v (.slice oa out.length oc) ?_ ?_ ?_ ?_); rfl; rfl; rfl; exact HRG.out; exact HVL.out; simp only [Act.put, List.setIfInBounds_toArray, List.set_cons_zero, List.set_cons_succ])
                | go_big_quiet_step (first | (go_at_call 40; with_reducible exact HCK.out _ _) | (go_at_call 113; with_reducible exact HVH.out _ _))
                | quiet_step (first | (go_at_call 40; with_reducible exact HCK.out _ _) | (go_at_call 113; with_reducible exact HVH.out _ _)))
              refine wpQuiet_nil ?_
              intro _ hw'
              obtain ⟨⟨dq', osq⟩, hw''⟩ := hw'
              subst hw''
              have hb5 := below_regrown wr dq' osq
              have X5 := Lib.hid (And.intro (HX.out.1.keep hb5) (And.intro (HX.out.2.1.keep hb5) (And.intro (HX.out.2.2.1.keep hb5) (And.intro (HX.out.2.2.2.1.below hb5 (Nat.le_refl _)) (And.intro (HX.out.2.2.2.2.1.below hb5 hsz) (HX.out.2.2.2.2.2.trans (hb5.mono HX.out.2.2.2.2.2.size)))))))
              have HA5 := Lib.hid (HDA.out.below hb5 HDA.out.lt)
              have hs5 := hb5.size
              clear q0 q1 HCK HVH HRG hb5 HX
              generalize grow (redrawn wr dq') osq = W at *
              have hcl16 := X5.out.2.2.1.cloud HVL.out
              have hzW : w.heap.size + 2 < W.heap.size := by omega
              have hone := din_new W.drew (dr, dq)
              obtain ⟨q2, d2, w5, hr5, ho5, hb5⟩ := appD (c := 1) ((X5.out.2.2.2.1.below (Below.refl W.heap.size W).drew (Nat.le_refl _)).alloc (.cells #[.int .i64 dr, .int .i64 dq] 36)) hone (by show w2.heap.size ≤ (W.alloc _).heap.size; simp; omega) (out.length + 1) (by simp) (by omega)
              have hb5' : Go.RowKit.Below w2.heap.size W w5 := ((Below.refl _ W).drew.alloc (by show w2.heap.size ≤ W.heap.size; omega) _).trans hb5
              have X6 := Lib.hid (And.intro (X5.out.1.below hb5' (by omega)) (And.intro (X5.out.2.1.below hb5' (by omega)) (And.intro (X5.out.2.2.1.below hb5' (by omega)) (And.intro ho5 (And.intro (X5.out.2.2.2.2.1.below hb5' (Nat.le_refl _)) (X5.out.2.2.2.2.2.trans (hb5'.mono (by omega))))))))
              have HR5 := Lib.hid hr5
              have HA6 := Lib.hid (HA5.out.below hb5' hblt)
              clear ho5 hb5 hb5' hone hr5
              go_upto_region 13 with fail
              refine wp_region_held (S := fun U => DAt U b (off + k * 2) (dr, dq)) (by kernel_rfl) ?_
              change wpAnyH _ _ _ _ _ _ _ _ W.drew
              have K0 : (fun U => DAt U b (off + k * 2) (dr, dq)) W.drew := HA5.out.below (Below.refl W.heap.size W).drew HA5.out.lt
              refine wpAnyH_take (i := 0) (oi := { dst := some 61, op := _, type := _, pos := _, after := _, guard := _ }) (v := ?v1) rfl (by kernel_rfl) (by kernel_rfl) (by kernel_rfl) (fun _ _ _ h => h) (Or.inl ⟨by rfl, ?hy1⟩) K0 ?rest1
              case hy1 => (intro w hSw; (try dsimp only at hSw); first | (go_simp; done) | (go_simp; with_reducible rfl))
              try simp only [Act.put, List.setIfInBounds_toArray, List.set_cons_zero, List.set_cons_succ]
              refine wpAnyH_take (i := 2) (oi := { dst := some 63, op := _, type := _, pos := _, after := _, guard := _ }) (v := ?v2) rfl (by kernel_rfl) (by kernel_rfl) (by kernel_rfl) (fun _ _ _ h => h) (Or.inl ⟨by rfl, ?hy2⟩) K0 ?rest2
              case hy2 => (intro w hSw; (try dsimp only at hSw); first | (go_simp; done) | (go_simp; with_reducible rfl))
              try simp only [Act.put, List.setIfInBounds_toArray, List.set_cons_zero, List.set_cons_succ]
              refine wpAnyH_take (i := 3) (oi := { dst := some 64, op := _, type := _, pos := _, after := _, guard := _ }) (v := ?v3) rfl (by kernel_rfl) (by kernel_rfl) (by kernel_rfl) (fun _ _ _ h => h) (Or.inl ⟨by rfl, ?hy3⟩) K0 ?rest3
              case hy3 => (intro w hSw; (try dsimp only at hSw); first | (go_simp; done) | (go_simp; with_reducible rfl))
              try simp only [Act.put, List.setIfInBounds_toArray, List.set_cons_zero, List.set_cons_succ]
              refine wpAnyH_take (i := 4) (oi := { dst := some 65, op := _, type := _, pos := _, after := _, guard := _ }) (v := ?v4) rfl (by kernel_rfl) (by kernel_rfl) (by kernel_rfl) (fun _ _ _ h => h) (Or.inl ⟨by rfl, ?hy4⟩) K0 ?rest4
              case hy4 => (intro w hSw; (try dsimp only at hSw); first | (go_simp; done) | (go_simp; with_reducible rfl))
              try simp only [Act.put, List.setIfInBounds_toArray, List.set_cons_zero, List.set_cons_succ]
              refine wpAnyH_take (i := 5) (oi := { dst := some 66, op := _, type := _, pos := _, after := _, guard := _ }) rfl (by kernel_rfl) (by kernel_rfl) (by kernel_rfl) (fun _ _ _ h => h) (yield_D (by rfl) (.tmp 65) rfl b (off + k * 2) (dr, dq) rfl (fun U hU => ⟨hU.c0, hU.c1⟩)) K0 ?_
              try simp only [Act.put, List.setIfInBounds_toArray, List.set_cons_zero, List.set_cons_succ]
              refine wpAnyH_ready (rs := [1, 6]) (by kernel_rfl) (by simp) ?_
              refine AllReadyH.cons (o := { dst := some 62, op := _, type := _, pos := _, after := _, guard := _ }) rfl (fun K hK => ?_) (AllReadyH.cons (o := { dst := some 67, op := _, type := _, pos := _, after := _, guard := _ }) rfl (fun K hK => ?_) AllReadyH.nil)
              · go_simp
                have K1 := K0
                refine hK.out _ _ K1 (fun _ => ?_)
                clear hK K
                try simp only [Act.put, List.setIfInBounds_toArray, List.set_cons_zero, List.set_cons_succ]
                refine wpAnyH_ready (rs := [6]) (by kernel_rfl) (by simp) ?_
                refine AllReadyH.cons (o := { dst := some 67, op := _, type := _, pos := _, after := _, guard := _ }) rfl (fun K hK => ?_) AllReadyH.nil
                go_simp
                have K6 := K1.alloc (.cells #[.int .i64 dr, .int .i64 dq] 36)
                refine hK.out _ _ K6 (fun _ => ?_)
                clear hK K
                try simp only [Act.put, List.setIfInBounds_toArray, List.set_cons_zero, List.set_cons_succ]
                refine wpAnyH_ready (rs := [7]) (by kernel_rfl) (by simp) ?_
                refine AllReadyH.cons (o := { dst := some 68, op := _, type := _, pos := _, after := _, guard := _ }) rfl (fun K hK => ?_) AllReadyH.nil
                refine draw_append rfl (.tmp 62) (.tmp 67) rfl rfl (.slice oa out.length oc) (.slice (some ⟨W.heap.size, 0, none⟩) 1 1) rfl rfl _ w5 HR5.out ?_
                have K7 := HA6.out
                have hcl5 := X6.out.2.2.1.cloud HVL.out
                have hfree5 := X6.out.2.2.1.free 16
                have hz5 := X6.out.2.2.1.lt
                refine hK.out _ _ K7 (fun _ => ?_)
                clear hK K
                try simp only [Act.put, List.setIfInBounds_toArray, List.set_cons_zero, List.set_cons_succ]
                refine wpAnyH_take (i := 8) (oi := { dst := some 69, op := _, type := _, pos := _, after := _, guard := _ }) (v := ?v6) rfl (by kernel_rfl) (by kernel_rfl) (by kernel_rfl) (fun _ _ _ h => h) (Or.inl ⟨by rfl, ?hy6⟩) K7 ?rest6
                case hy6 => (intro w hSw; (try dsimp only at hSw); first | (go_simp; done) | (go_simp; with_reducible rfl))
                try simp only [Act.put, List.setIfInBounds_toArray, List.set_cons_zero, List.set_cons_succ]
                refine wpAnyH_ready (rs := [9]) (by kernel_rfl) (by simp) ?_
                refine AllReadyH.cons (o := { dst := none, op := _, type := _, pos := _, after := _, guard := _ }) rfl (fun K hK => ?_) AllReadyH.nil
                go_simp
                have K9 : DAt (w5.setCell ⟨w.heap.size + 2, 16, none⟩ (.slice q2 (out.length + 1) d2)) b (off + k * 2) (dr, dq) := K7.set hbne _ _
                refine hK.out _ _ K9 (fun _ => ?_)
                clear hK K
                try simp only [Act.put, List.setIfInBounds_toArray, List.set_cons_zero, List.set_cons_succ]
                refine wpAnyH_done (by kernel_rfl) ?_ _
                try simp only [Act.put, List.setIfInBounds_toArray, List.set_cons_zero, List.set_cons_succ]
                have HF := Lib.hid (And.intro X6.out K9)
                clear K0
                go_wp2_with fail
                go_roundw
                case rel =>
                  have e9 : (out ++ [(dr, dq)]).length = out.length + 1 := by simp
                  refine ⟨k + 1, q2, d2, by omega, by go_num, X6.out.1.other (by omega) _ _, X6.out.2.1.other (by omega) _ _, ?_, ?_, X6.out.2.2.2.2.1.set (.inl (by omega)) _ _, X6.out.2.2.2.2.2.setCell (show w.heap.size ≤ w.heap.size + 2 by omega) _⟩
                  · rw [HK.out, e9]; exact X6.out.2.2.1.setS _ HVL.out
                  · rw [HK.out, e9]; exact X6.out.2.2.2.1.setc (by omega) _ _
                case measure => simp [intOf]; omega
              · go_simp
                have K6 := K0.alloc (.cells #[.int .i64 dr, .int .i64 dq] 36)
                refine hK.out _ _ K6 (fun _ => ?_)
                clear hK K
                try simp only [Act.put, List.setIfInBounds_toArray, List.set_cons_zero, List.set_cons_succ]
                refine wpAnyH_ready (rs := [1]) (by kernel_rfl) (by simp) ?_
                refine AllReadyH.cons (o := { dst := some 62, op := _, type := _, pos := _, after := _, guard := _ }) rfl (fun K hK => ?_) AllReadyH.nil
                go_simp
                have K1 := K6
                refine hK.out _ _ K1 (fun _ => ?_)
                clear hK K
                try simp only [Act.put, List.setIfInBounds_toArray, List.set_cons_zero, List.set_cons_succ]
                refine wpAnyH_ready (rs := [7]) (by kernel_rfl) (by simp) ?_
                refine AllReadyH.cons (o := { dst := some 68, op := _, type := _, pos := _, after := _, guard := _ }) rfl (fun K hK => ?_) AllReadyH.nil
                refine draw_append rfl (.tmp 62) (.tmp 67) rfl rfl (.slice oa out.length oc) (.slice (some ⟨W.heap.size, 0, none⟩) 1 1) rfl rfl _ w5 HR5.out ?_
                have K7 := HA6.out
                have hcl5 := X6.out.2.2.1.cloud HVL.out
                have hfree5 := X6.out.2.2.1.free 16
                have hz5 := X6.out.2.2.1.lt
                refine hK.out _ _ K7 (fun _ => ?_)
                clear hK K
                try simp only [Act.put, List.setIfInBounds_toArray, List.set_cons_zero, List.set_cons_succ]
                refine wpAnyH_take (i := 8) (oi := { dst := some 69, op := _, type := _, pos := _, after := _, guard := _ }) (v := ?v7) rfl (by kernel_rfl) (by kernel_rfl) (by kernel_rfl) (fun _ _ _ h => h) (Or.inl ⟨by rfl, ?hy7⟩) K7 ?rest7
                case hy7 => (intro w hSw; (try dsimp only at hSw); first | (go_simp; done) | (go_simp; with_reducible rfl))
                try simp only [Act.put, List.setIfInBounds_toArray, List.set_cons_zero, List.set_cons_succ]
                refine wpAnyH_ready (rs := [9]) (by kernel_rfl) (by simp) ?_
                refine AllReadyH.cons (o := { dst := none, op := _, type := _, pos := _, after := _, guard := _ }) rfl (fun K hK => ?_) AllReadyH.nil
                go_simp
                have K9 : DAt (w5.setCell ⟨w.heap.size + 2, 16, none⟩ (.slice q2 (out.length + 1) d2)) b (off + k * 2) (dr, dq) := K7.set hbne _ _
                refine hK.out _ _ K9 (fun _ => ?_)
                clear hK K
                try simp only [Act.put, List.setIfInBounds_toArray, List.set_cons_zero, List.set_cons_succ]
                refine wpAnyH_done (by kernel_rfl) ?_ _
                try simp only [Act.put, List.setIfInBounds_toArray, List.set_cons_zero, List.set_cons_succ]
                have HF := Lib.hid (And.intro X6.out K9)
                clear K0
                go_wp2_with fail
                go_roundw
                case rel =>
                  have e9 : (out ++ [(dr, dq)]).length = out.length + 1 := by simp
                  refine ⟨k + 1, q2, d2, by omega, by go_num, X6.out.1.other (by omega) _ _, X6.out.2.1.other (by omega) _ _, ?_, ?_, X6.out.2.2.2.2.1.set (.inl (by omega)) _ _, X6.out.2.2.2.2.2.setCell (show w.heap.size ≤ w.heap.size + 2 by omega) _⟩
                  · rw [HK.out, e9]; exact X6.out.2.2.1.setS _ HVL.out
                  · rw [HK.out, e9]; exact X6.out.2.2.2.1.setc (by omega) _ _
                case measure => simp [intOf]; omega
          · have h2 : chkD (dr, dq) = 2 := (chkD_cases _).resolve_left hc
            rw [h2] at hck
            rw [decide_eq_false hc] at hbp
            have hb0 : ((2 : Int) == 0) = false := rfl
            have HK := Lib.hid (show (s.take (k + 1)).filter (beyond v) = out by rw [HNX.out, hbp]; simp)
            have HCK := Lib.hid hck
            have HVH := Lib.hid hvh
            clear hck hvh hc h2 hbp
            go_upto_region 12 with fail
            clear c0 c1
            refine wp_region_quiet_below (by kernel_rfl) (by kernel_rfl) ?_
            repeat (first
              | ((with_reducible refine cq_loadV ?_ (.tmp 52) ?_ (w.heap.size + 2) v (.slice oa out.length oc) ?_ ?_ ?_ ?_); rfl; rfl; rfl; exact HRG.out; exact HVL.out; simp only [Act.put, List.setIfInBounds_toArray, List.set_cons_zero, List.set_cons_succ])
              | go_big_quiet_step (first | (go_at_call 40; with_reducible exact HCK.out _ _) | (go_at_call 113; with_reducible exact HVH.out _ _))
              | quiet_step (first | (go_at_call 40; with_reducible exact HCK.out _ _) | (go_at_call 113; with_reducible exact HVH.out _ _)))
            refine wpQuiet_nil ?_
            intro _ hw'
            obtain ⟨⟨dq', osq⟩, hw''⟩ := hw'
            subst hw''
            have hb5 := below_regrown wr dq' osq
            have X5 := Lib.hid (And.intro (HX.out.1.keep hb5) (And.intro (HX.out.2.1.keep hb5) (And.intro (HX.out.2.2.1.keep hb5) (And.intro (HX.out.2.2.2.1.below hb5 (Nat.le_refl _)) (And.intro (HX.out.2.2.2.2.1.below hb5 hsz) (HX.out.2.2.2.2.2.trans (hb5.mono HX.out.2.2.2.2.2.size)))))))
            clear q0 q1 HCK HVH HRG hb5 HX
            generalize grow (redrawn wr dq') osq = U at *
            go_wp2_with fail
            go_roundw
            case rel => exact ⟨k + 1, oa, oc, by omega, by go_num, X5.out.1, X5.out.2.1, by rw [HK.out]; exact X5.out.2.2.1, by rw [HK.out]; exact X5.out.2.2.2.1, X5.out.2.2.2.2⟩
            case measure => simp [intOf]; omega
        · have hkk : k = s.length := by omega
          have hi1 : ¬ (k : Int) < (s.length : Int) := by omega
          have HX := Lib.hid (And.intro r0 (And.intro r1 (And.intro r2 (And.intro ho (And.intro hmid rB)))))
          have htk : s.take k = s := by rw [hkk, List.take_length]
          have HF := Lib.hid (And.intro ho.from htk)
          clear r0 r1 r2 ho hmid rB htk hkk
          rw [HF.out.2] at HX HF
          have hoX := HX.out.2.2.2.1
          obtain ⟨out, hout⟩ : ∃ out, s.filter (beyond v) = out := ⟨_, rfl⟩
          rw [hout] at HX HF HCF
          clear hout hoX
          go_wp2_with (first
            | ((with_reducible refine cl_load ?_ (.tmp 3) ?_ (w.heap.size + 2) v (.slice oa out.length oc) ?_ ?_ ?_ ?_); rfl; rfl; rfl; exact HX.out.2.2.1; exact HVL.out)
            | ((with_reducible refine cl_store ?_ (.tmp 2) (.tmp 70) ?_ (w.heap.size + 1) v oa out.length oc ?_ ?_ ?_ ?_ ?_); rfl; rfl; rfl; rfl; exact ⟨_, _, HX.out.2.1, rfl⟩; exact HVL.out))
          refine bodyPost_ret (retC rfl _ _ (w.heap.size + 1) v (.slice oa out.length oc) rfl (CRow.of_put HX.out.2.1 v _) HVL.out) rfl ?_
          refine ⟨⟨⟨v, out⟩, oa, ⟨oc, rfl⟩, HCF.out.1, ⟨HVL.out, ?_, ?_⟩, ?_⟩, belowRow HX.out.2.2.2.2.2 (Nat.le_succ _) _⟩
          · obtain ⟨oa', oc', he, hfo, -⟩ := HF.out.1
            injection he with h1 h2 h3
            subst h1
            exact (hfo.setRow (show w.heap.size + 1 < w2.heap.size by omega) _).mono (by omega)
          · show out.length ≤ 32768
            have := HCF.out.2
            omega
          · exact HCF.out.2
end Go.Proofs.YtmnblpjdiplioaaGreat
