/-
  The document's Dots.
  The document's Has, Same.
  Clean: the document's.
  Check of vectors: the program's, and the document's.
-/
import Derived.Test.YtcedliaeipabnaaGreatKernJoin
import Derived.Test.YtcedliaeipabnaaGreatGKernI
import Derived.Test.YtcedliaeipabnaaGreatGKernK
import Derived.Test.YtcedliaeipabnaaGreatGKernJ
import Derived.Lib.AppendZeros
import Derived.Test.YtcedliaeipabnaaGreatGKernG
namespace Go.Proofs.YtcedliaeipabnaaGreat
set_option linter.unusedSimpArgs false
set_option linter.unusedVariables false
set_option maxRecDepth 100000
open Go.RowKit Go.Sort

set_option maxHeartbeats 4000000 in
theorem dotsKR (l : List Ft) (a : Option Addr) (cap : Nat) (w : World) (h : FIn w a l) (hl : l.length ≤ 60000) :
    Calls Tryz.prog 41 #[.slice a l.length cap] w fun e w' => ∃ v', e = .returned v' ∧ OwnD w.heap.size v' (sortD (l.map (·.d))) w' ∧ Go.RowKit.Below w.heap.size w w' := by
  have H := Lib.hid h
  clear h
  go_enter Tryz.func41, Tryz.ntmps41
  go_wp2_with fail
  go_loopw [3, 4] (fun v i wr => ∃ k : Nat, k ≤ l.length ∧ i = .int .i64 k ∧ OwnD w.heap.size v ((l.take k).map (·.d)) wr ∧ Go.RowKit.Below w.heap.size w wr) (fun _ i _ => l.length - (intOf i).toNat)
  case atStart => exact ⟨0, Nat.zero_le _, rfl, by rw [List.take_zero]; exact ownD_nil _ _, Below.refl _ _⟩
  case round =>
    obtain ⟨k, hk, rfl, hown, hb⟩ := hrel
    have HB := Lib.hid hb
    have HOW := Lib.hid hown
    have hbs := hb.size
    clear hb hown
    by_cases hlt : k < l.length
    · obtain ⟨f, hf⟩ : ∃ f, l[k]? = some f := ⟨_, List.getElem?_eq_getElem hlt⟩
      obtain ⟨fb, off, rfl, hbl, c0⟩ := (H.out.below HB.out).at hf
      have hi1 : (k : Int) < (l.length : Int) := by omega
      have q0 := range_one c0 0 (v := .int .i64 f.d.1) rfl
      have q1 := range_one c0 1 (v := .int .i64 f.d.2) rfl
      rw [Nat.add_zero] at q0
      have HNX := Lib.hid (show (l.take (k + 1)).map (·.d) = (l.take k).map (·.d) ++ [f.d] from by
        obtain ⟨e1, e2⟩ := List.getElem?_eq_some_iff.1 hf
        rw [List.take_succ_eq_append_getElem hlt, List.map_append, e2]; rfl)
      have hln : ((l.take k).map (·.d)).length ≤ 60000 := by rw [List.length_map, List.length_take]; omega
      have hone := din_new wr f.d
      generalize (l.take k).map (·.d) = G at *
      obtain ⟨q2, d2, w8, hr8, ho8, hb8⟩ := appD (c := 1) (HOW.out.alloc (.cells #[.int .i64 f.d.1, .int .i64 f.d.2] 50)) hone (by simp; omega) (G.length + 1) (by simp) (by omega)
      have HR8 := Lib.hid hr8
      have HX8 := Lib.hid (And.intro (show OwnD w.heap.size (.slice q2 (G.length + 1) d2) ((l.take (k + 1)).map (·.d)) w8 from by rw [HNX.out]; exact ho8) ((HB.out.alloc hbs _).trans hb8))
      clear c0 hf hr8 ho8 hb8 hone HNX
      generalize f.d.1 = dr at *
      generalize f.d.2 = dq at *
      go_wp2_with (at_builtin; refine wpList_append_run rfl _ _ 25 25 rfl _ (.slice (some ⟨wr.heap.size, 0, none⟩) 1 1) _ w8 rfl rfl HR8.out ?_)
      go_roundw
      case rel => exact ⟨k + 1, by omega, by go_num, HX8.out.1, HX8.out.2⟩
      case measure => simp [intOf]; omega
    · obtain rfl : k = l.length := by omega
      have hi2 : ¬ (l.length : Int) < (l.length : Int) := by omega
      have hown := HOW.out
      rw [List.take_length] at hown
      have hml : (l.map (·.d)).length ≤ 60000 := by rw [List.length_map]; exact hl
      obtain ⟨ds, hds⟩ : ∃ ds, ds = l.map (·.d) := ⟨_, rfl⟩
      rw [← hds] at hown hml
      have HDS := Lib.hid hds
      clear hds
      obtain ⟨va, vc, rfl, hdi, -, -⟩ := hown.din2
      have hsr := sortR ds va vc wr hdi (by omega)
      have HSR := Lib.hid hsr
      clear hown hdi hsr HOW
      go_wp2_with fail
      refine HSR.out.mono ?_
      rintro e w3 ⟨v3, rfl, hown3, hb3⟩
      have HF := Lib.hid (And.intro (hown3.mono hbs) (HB.out.trans (hb3.mono hbs)))
      clear hown3 hb3
      go_wp2_with fail
      go_ret
      exact ⟨_, rfl, by rw [← HDS.out]; exact HF.out.1, HF.out.2⟩
end Go.Proofs.YtcedliaeipabnaaGreat

namespace Go.Proofs.YtcedliaeipabnaaGreat
set_option maxRecDepth 100000
open Go.RowKit Go.Sort

theorem has_at (c : Cx) {r : Nat} {n : Int} (h : chkD ((r : Int), n) = 0) : hasC c ((r : Int), n) = (decide (n ≤ c.v.getD r 0) || decide (((r : Int), n) ∈ c.l)) := by
  rw [Bool.eq_iff_iff, hasC_iff]
  simp [h]

set_option maxHeartbeats 4000000 in
theorem hasRC (c : Cx) (d : Dt) (a : Option Addr) (cap : Nat) (w : World) (h : CIn w c a) :
    Calls Tryz.prog 30 #[.agg (ccs c.v (.slice a c.l.length cap)), .agg #[.int .i64 d.1, .int .i64 d.2]] w fun e w' => e = .returned (.bool (hasC c d)) ∧ Go.RowKit.Below w.heap.size w w' := by
  have hlm : c.l.length ≤ maxLen := by have := h.len; unfold maxLen; omega
  have hB0 : Go.RowKit.Below w.heap.size w (boxD (boxC w c.v (.slice a c.l.length cap)) d) := (boxC_below _ _ _).trans ((boxD_below _ d).mono (by rw [boxC_size]; omega))
  have hrow : CRow (boxD (boxC w c.v (.slice a c.l.length cap)) d) w.heap.size c.v (.slice a c.l.length cap) := (CRow.new w c.v (.slice a c.l.length cap)).alloc _
  have hn := heap_alloc_new (boxC w c.v (.slice a c.l.length cap)) (.cells #[.int .i64 d.1, .int .i64 d.2] 50)
  rw [boxC_size] at hn
  have q0 : (boxD (boxC w c.v (.slice a c.l.length cap)) d).cell? ⟨w.heap.size + 1, 0, none⟩ = some (.int .i64 d.1) := by unfold boxD; rw [Joins.cell_of_block hn]; rfl
  have q1 : (boxD (boxC w c.v (.slice a c.l.length cap)) d).cell? ⟨w.heap.size + 1, 1, none⟩ = some (.int .i64 d.2) := by unfold boxD; rw [Joins.cell_of_block hn]; rfl
  have hlt : w.heap.size + 1 < (boxD (boxC w c.v (.slice a c.l.length cap)) d).heap.size := by rw [boxD_size, boxC_size]; omega
  have hin := h.below hB0
  have HV := Lib.hid h.v16
  have hc16 := hrow.cloud HV.out
  have H0 := Lib.hid (And.intro hB0 (And.intro hrow (And.intro q0 (And.intro q1 (And.intro hlt (And.intro hin hc16))))))
  have hck := fun W => checkRb d W
  have hh : hasC c d = (decide (chkD d = 0) && (decide (d.2 ≤ c.v.getD d.1.toNat 0) || decide (d ∈ c.l))) := rfl
  have hir := fun W (hin : DIn W a c.l) => inR c.l d a cap W hin hlm
  have HIR := Lib.hid hir
  have HH := Lib.hid hh
  have HCK0 := Lib.hid hck
  have hok : chkD d = 0 → 0 ≤ d.1 ∧ d.1 ≤ 15 ∧ 1 ≤ d.2 ∧ d.2 ≤ 1099511627776 := chkD_ok
  clear h hB0 hrow hn hin q0 q1 hlt hck hh hir hc16
  unfold boxD boxC at H0
  obtain ⟨dr, dq⟩ := d
  simp only at H0 HIR HH HCK0 hok ⊢
  go_enter Tryz.func30, Tryz.ntmps30
  go_upto_region 1 with fail
  generalize (w.alloc (.cells (ccs c.v (.slice a c.l.length cap)) 27)).alloc (.cells #[.int .i64 dr, .int .i64 dq] 50) = W at *
  have d0 := fun q os => cell_regrown H0.out.2.2.1 q os
  have d1 := fun q os => cell_regrown H0.out.2.2.2.1 q os
  have d2 := fun q os => cell_regrown H0.out.2.2.2.2.2.2 q os
  have HCK := Lib.hid (fun q os => Calls.regrown_of (HCK0.out (grow (redrawn W q) os)))
  have HIN := Lib.hid (fun q os => Calls.regrown_of (HIR.out (grow (redrawn W q) os) (H0.out.2.2.2.2.2.1.din.below (below_regrown W q os))))
  have hho := HH.out
  by_cases hc : chkD (dr, dq) = 0
  · obtain ⟨e1, e2, e3, e4⟩ := hok hc
    obtain ⟨r, rfl⟩ := Int.eq_ofNat_of_zero_le e1
    have hr16 : r < 16 := by omega
    have hcell := H0.out.2.1.cell r (by rw [HV.out]; exact hr16)
    rw [hc] at HCK
    have hho := has_at c hc
    obtain ⟨x, hx0⟩ : ∃ x, c.v.getD r 0 = x := ⟨_, rfl⟩
    rw [hx0] at hcell hho
    have d3 := fun q os => cell_regrown hcell q os
    have hb : ((0 : Int) == 0) = true := rfl
    clear hc hok e1 e2 e3 e4 hcell hx0
    by_cases hx : dq ≤ x
    · have hxd : decide (dq ≤ x) = true := by simp [hx]
      have HO := Lib.hid (show hasC c ((r : Int), dq) = true by rw [hho, hxd]; rfl)
      clear hho hx HIN
      refine wp_region_quiet_below (by kernel_rfl) (by kernel_rfl) ?_
      repeat (first | go_big_quiet_step ((go_at_call 53; with_reducible exact HCK.out _ _)) | quiet_step ((go_at_call 53; with_reducible exact HCK.out _ _)))
      refine wpQuiet_nil ?_
      intro _ hw'
      obtain ⟨⟨dq', osq⟩, hw''⟩ := hw'
      subst hw''
      have HB9 := Lib.hid (H0.out.1.trans ((below_regrown W dq' osq).mono H0.out.1.size))
      clear d0 d1 d2 d3 HCK
      generalize grow (redrawn W dq') osq = U at *
      go_wp2_with fail
      go_ret
      exact ⟨by rw [HO.out]; rfl, HB9.out⟩
    · have hxd : decide (dq ≤ x) = false := by simp; omega
      have HO := Lib.hid (show hasC c ((r : Int), dq) = decide (((r : Int), dq) ∈ c.l) by rw [hho, hxd]; rfl)
      obtain ⟨u, hu⟩ : ∃ u, decide (((r : Int), dq) ∈ c.l) = u := ⟨_, rfl⟩
      rw [hu] at HIN HO
      clear hho hx hu
      refine wp_region_quiet_below (by kernel_rfl) (by kernel_rfl) ?_
      repeat (first | go_big_quiet_step (first | (go_at_call 53; with_reducible exact HCK.out _ _) | (go_at_call 54; with_reducible exact HIN.out _ _)) | quiet_step (first | (go_at_call 53; with_reducible exact HCK.out _ _) | (go_at_call 54; with_reducible exact HIN.out _ _)))
      refine wpQuiet_nil ?_
      intro _ hw'
      obtain ⟨⟨dq', osq⟩, hw''⟩ := hw'
      subst hw''
      have HB9 := Lib.hid (H0.out.1.trans ((below_regrown W dq' osq).mono H0.out.1.size))
      clear d0 d1 d2 d3 HCK HIN
      generalize grow (redrawn W dq') osq = U at *
      go_wp2_with fail
      go_ret
      exact ⟨by rw [HO.out]; rfl, HB9.out⟩
  · have h2 : chkD (dr, dq) = 2 := (chkD_cases _).resolve_left hc
    have hb : ((2 : Int) == 0) = false := rfl
    have HO := Lib.hid (show hasC c (dr, dq) = false by rw [hho, decide_eq_false hc]; rfl)
    rw [h2] at HCK
    clear hho hc hok h2 HIN
    refine wp_region_quiet_below (by kernel_rfl) (by kernel_rfl) ?_
    repeat (first | go_big_quiet_step ((go_at_call 53; with_reducible exact HCK.out _ _)) | quiet_step ((go_at_call 53; with_reducible exact HCK.out _ _)))
    refine wpQuiet_nil ?_
    intro _ hw'
    obtain ⟨⟨dq', osq⟩, hw''⟩ := hw'
    subst hw''
    have HB9 := Lib.hid (H0.out.1.trans ((below_regrown W dq' osq).mono H0.out.1.size))
    clear d0 d1 d2 HCK
    generalize grow (redrawn W dq') osq = U at *
    go_wp2_with fail
    go_ret
    exact ⟨by rw [HO.out]; rfl, HB9.out⟩

theorem two_ctx (w : World) (v v2 : Vc) (s s2 : Value) : CRow (boxC (boxC w v s) v2 s2) w.heap.size v s ∧ CRow (boxC (boxC w v s) v2 s2) (w.heap.size + 1) v2 s2 ∧ Go.RowKit.Below w.heap.size w (boxC (boxC w v s) v2 s2) := by
  have e1 := boxC_size w v s
  have h0 := CRow.new w v s
  have h1 := CRow.new (boxC w v s) v2 s2
  rw [e1] at h1
  exact ⟨h0.alloc _, h1, (boxC_below w v s).alloc (by rw [e1]; omega) _⟩

set_option maxHeartbeats 4000000 in
theorem sameRC (a b : Cx) (pa pb : Option Addr) (ca cb : Nat) (w : World) (h : CIn w a pa) (hm : CIn w b pb) :
    Calls Tryz.prog 11 #[.agg (ccs a.v (.slice pa a.l.length ca)), .agg (ccs b.v (.slice pb b.l.length cb))] w fun e w' => e = .returned (.bool (decide (a = b))) ∧ Go.RowKit.Below w.heap.size w w' := by
  have HV := Lib.hid h.v16
  have HV2 := Lib.hid hm.v16
  have hla : a.l.length ≤ maxLen := by have := h.len; unfold maxLen; omega
  have hlb : b.l.length ≤ maxLen := by have := hm.len; unfold maxLen; omega
  have H0 := Lib.hid (two_ctx w a.v b.v (.slice pa a.l.length ca) (.slice pb b.l.length cb))
  have hs := sameR a.l b.l pa pb ca cb (boxC (boxC w a.v (.slice pa a.l.length ca)) b.v (.slice pb b.l.length cb)) (h.din.below H0.out.2.2) (hm.din.below H0.out.2.2) hla hlb
  have HS := Lib.hid hs
  have heq := fun W => eqlV HV.out HV2.out W
  have hfin : decide (a = b) = (decide (a.v = b.v) && decide (a.l = b.l)) := by
    obtain ⟨av, al⟩ := a
    obtain ⟨bv, bl⟩ := b
    simp only [Cx.mk.injEq]
    exact Bool.decide_and _ _
  have HF := Lib.hid hfin
  unfold boxC at H0 HS
  clear h hm hla hlb hs hfin
  go_enter Tryz.func11, Tryz.ntmps11
  go_upto_region 1 with fail
  generalize (w.alloc (.cells (ccs a.v (.slice pa a.l.length ca)) 27)).alloc (.cells (ccs b.v (.slice pb b.l.length cb)) 27) = W at *
  have c0 := H0.out.1.cloud HV.out
  have c1 := H0.out.2.1.cloud HV2.out
  have hff := HF.out
  by_cases hve : a.v = b.v
  · rw [decide_eq_true hve] at heq hff
    have HO := Lib.hid hff
    clear hve hff HF
    go_wp2_with (first
      | ((with_reducible refine cl_loadV ?_ (.tmp 5) ?_ w.heap.size a.v (.slice pa a.l.length ca) ?_ ?_ ?_ ?_); rfl; rfl; rfl; exact H0.out.1; exact HV.out)
      | ((with_reducible refine cl_loadV ?_ (.tmp 7) ?_ (w.heap.size + 1) b.v (.slice pb b.l.length cb) ?_ ?_ ?_ ?_); rfl; rfl; rfl; exact H0.out.2.1; exact HV2.out))
    refine HS.out.mono ?_
    rintro e w2 ⟨rfl, n, rfl⟩
    have HB := Lib.hid (H0.out.2.2.trans (belowN (Below.refl W.heap.size W) n |>.mono H0.out.2.2.size))
    clear c0 c1 heq HS
    go_wp2_with fail
    go_ret
    exact ⟨by rw [HO.out]; rfl, HB.out⟩
  · rw [decide_eq_false hve] at heq hff
    have HO := Lib.hid hff
    clear hve hff HF HS
    go_wp2_with (first
      | ((with_reducible refine cl_loadV ?_ (.tmp 5) ?_ w.heap.size a.v (.slice pa a.l.length ca) ?_ ?_ ?_ ?_); rfl; rfl; rfl; exact H0.out.1; exact HV.out)
      | ((with_reducible refine cl_loadV ?_ (.tmp 7) ?_ (w.heap.size + 1) b.v (.slice pb b.l.length cb) ?_ ?_ ?_ ?_); rfl; rfl; rfl; exact H0.out.2.1; exact HV2.out))
    go_ret
    exact ⟨by rw [HO.out]; rfl, H0.out.2.2⟩
end Go.Proofs.YtcedliaeipabnaaGreat

namespace Go.Proofs.YtcedliaeipabnaaGreat
set_option maxRecDepth 100000
open Go.RowKit Go.Sort

/-- an append in a region that draws -/
theorem draw_append {ops : Array Oper} {o : Oper} {a : Act} {w : World} {K : Act → World → Prop} {Q : Exit → Act → World → Prop} (hgd : o.guard = none) (x y : Operand) (ho : o.op = .call { callee := .builtin .append, args := #[x, y], argTypes := #[25, 25] }) (ht : o.type = 25)
    (vs vx : Value) (hx : a.eval x = vs) (hy : a.eval y = vx) (v' : Value) (w' : World) (hr : (Builtin.append_ #[25, 25] 25 #[vs, vx]).run Tryz.prog w = .ok v' w') (h : K (a.put o.dst v') w') :
    if Region.wanted o (yielded ops a.tmps) = true then Oper.wp Tryz.prog o a w K Q else K (a.put o.dst undef) w := by
  simp only [Region.wanted, hgd, if_true]
  have hr' : (Builtin.append_ #[25, 25] o.type #[vs, vx]).run Tryz.prog w = .ok v' w' := by rw [ht]; exact hr
  exact Lib.wp_append_run w x y _ _ ho vs vx hx hy v' w' hr' h
/-- a name that lies at a place -/
structure DAt (U : World) (b o : Nat) (d : Dt) : Prop where
  c0 : U.cell? ⟨b, o, none⟩ = some (.int .i64 d.1)
  c1 : U.cell? ⟨b, o + 1, none⟩ = some (.int .i64 d.2)
  lt : b < U.heap.size
theorem DAt.below {U U' : World} {b o B : Nat} {d : Dt} (h : DAt U b o d) (hb : Go.RowKit.Below B U U') (hB : b < B) : DAt U' b o d :=
  ⟨by rw [hb.cell (p := ⟨b, o, none⟩) hB]; exact h.c0, by rw [hb.cell (p := ⟨b, o + 1, none⟩) hB]; exact h.c1, Nat.lt_of_lt_of_le h.lt hb.size⟩
theorem DAt.alloc {U : World} {b o : Nat} {d : Dt} (h : DAt U b o d) (ob : Obj) : DAt (U.alloc ob) b o d := h.below ((Below.refl _ _).alloc (Nat.le_refl _) ob) h.lt
theorem DAt.set {U : World} {b o g : Nat} {d : Dt} (h : DAt U b o d) (hg : b ≠ g) (j : Nat) (x : Value) : DAt (U.setCell ⟨g, j, none⟩ x) b o d :=
  ⟨by rw [World.cell?_setCell_other _ _ _ _ (fun e => hg (congrArg Addr.block e).symm)]; exact h.c0, by rw [World.cell?_setCell_other _ _ _ _ (fun e => hg (congrArg Addr.block e).symm)]; exact h.c1, by simpa using h.lt⟩
def cellI (w : World) (b i : Nat) : Int := intOf ((w.cell? ⟨b, i, none⟩).getD undef)
theorem cellI_eq {w : World} {b i : Nat} {x : Int} (h : w.cell? ⟨b, i, none⟩ = some (.int .i64 x)) : cellI w b i = x := by unfold cellI; rw [h]; rfl
theorem getD_set (v : Vc) (i j : Nat) (x : Int) (hi : i < v.length) : (v.set i x).getD j 0 = if j = i then x else v.getD j 0 := by
  rw [List.getD_eq_getElem?_getD, List.getElem?_set, List.getD_eq_getElem?_getD]
  by_cases e : j = i
  · rw [if_pos e.symm, if_pos e, if_pos hi]; rfl
  · rw [if_neg (fun x => e x.symm), if_neg e]

set_option maxHeartbeats 8000000 in
theorem cleanRC (c : Cx) (a : Option Addr) (cap : Nat) (w : World) (h : CIn w c a) :
    Calls Tryz.prog 44 #[.agg (ccs c.v (.slice a c.l.length cap))] w fun e w' => (∃ (o : Cx) (a' : Option Addr) (cap' : Nat), e = .returned (.agg (ccs o.v (.slice a' o.l.length cap'))) ∧ CleanOf c o ∧ Made w.heap.size w' o a' ∧ o.l.length ≤ c.l.length) ∧ Go.RowKit.Below w.heap.size w w' := by
  have HV := Lib.hid h.v16
  have hlen := h.len
  have HW := Lib.hid (three_ctx w c.v (.slice a c.l.length cap))
  have HD := Lib.hid h
  unfold boxC at HW
  clear h
  go_enter Tryz.func44, Tryz.ntmps44
  go_upto_region 2 with fail
  change Code.wp _ _ _ _ (((w.alloc (.cells (ccs c.v (.slice a c.l.length cap)) 27)).alloc (.cells (ccs zV nilS) 27)).alloc (.cells (ccs zV nilS) 27))
  generalize ((w.alloc (.cells (ccs c.v (.slice a c.l.length cap)) 27)).alloc (.cells (ccs zV nilS) 27)).alloc (.cells (ccs zV nilS) 27) = W0 at *
  go_wp2_with fail
  go_loopw [4] (fun i wr => ∃ (k : Nat) (v : Vc), i = .int .i64 k ∧ k ≤ 16 ∧ v.length = 16 ∧ Hid (∀ j, j < k → TopAt c j (v.getD j 0)) ∧ CRow wr w.heap.size c.v (.slice a c.l.length cap) ∧ CRow wr (w.heap.size + 1) zV nilS ∧ CRow wr (w.heap.size + 2) v nilS ∧ Go.RowKit.Below w.heap.size w wr) (fun i _ => 16 - (intOf i).toNat)
  case atStart => exact ⟨0, zV, rfl, by omega, rfl, Lib.hid (fun j hj => by omega), HW.out.1, HW.out.2.1, HW.out.2.2.1, HW.out.2.2.2.1⟩
  case round =>
    obtain ⟨k, v, rfl, hk, hvl, HT, r0, r1, r2, rB⟩ := hrel
    by_cases hlt : k < 16
    · have hcella := r0.cell k (by rw [HV.out]; exact hlt)
      have hcell := r2.cell k (by rw [hvl]; exact hlt)
      have hfree := r2.free k
      have hz := r2.lt
      have hz0 := r0.lt
      have HS := Lib.hid (TopTo.start c hlt)
      have HX := Lib.hid (And.intro r0 (And.intro r1 (And.intro r2 rB)))
      have HVL := Lib.hid hvl
      clear r0 r1 r2 rB hvl
      generalize hx : c.v.getD k 0 = x at *
      generalize v.getD k 0 = y at *
      clear hx
      obtain ⟨m, hm⟩ : ∃ m, m = max 0 (min x 1099511627776) := ⟨_, rfl⟩
      rw [← hm] at HS
      have HM := Lib.hid hm
      clear hm
      go_wp2_with fail
      rw [← HM.out]
      have hq2 := HX.out.2.2.1.set k m (by rw [HVL.out]; exact hlt)
      have HX2 := Lib.hid (And.intro (HX.out.1.other (show w.heap.size ≠ w.heap.size + 2 by omega) k (.int .i64 m)) (And.intro (HX.out.2.1.other (show w.heap.size + 1 ≠ w.heap.size + 2 by omega) k (.int .i64 m)) (And.intro hq2 (show Go.RowKit.Below w.heap.size w (wr.setCell ⟨w.heap.size + 2, k, none⟩ (.int .i64 m)) from HX.out.2.2.2.setCell (show w.heap.size ≤ w.heap.size + 2 by omega) _))))
      clear hq2 hcella hcell hfree hz hz0 HX
      generalize wr.setCell ⟨w.heap.size + 2, k, none⟩ (.int .i64 m) = W1 at *
      go_loopw [] (fun wq => ∃ v2 : Vc, v2.length = 16 ∧ Hid (TopTo c k (v2.getD k 0)) ∧ Hid (∀ j, j < k → TopAt c j (v2.getD j 0)) ∧ CRow wq w.heap.size c.v (.slice a c.l.length cap) ∧ CRow wq (w.heap.size + 1) zV nilS ∧ CRow wq (w.heap.size + 2) v2 nilS ∧ Go.RowKit.Below w.heap.size w wq) (fun wq => (1099511627776 - cellI wq (w.heap.size + 2) k).toNat)
      case atStart => exact ⟨v.set k m, by rw [List.length_set]; exact HVL.out, Lib.hid (by rw [getD_set _ _ _ _ (by rw [HVL.out]; exact hlt), if_pos rfl]; exact HS.out), Lib.hid (fun j hj => by rw [getD_set _ _ _ _ (by rw [HVL.out]; exact hlt), if_neg (by omega)]; exact HT.out j hj), HX2.out⟩
      case round =>
        rename World => wq
        obtain ⟨v2, hvl2, HS2, HT2, r0, r1, r2, rB⟩ := hrel
        have hcell := r2.cell k (by rw [hvl2]; exact hlt)
        have hci := cellI_eq hcell
        have hfree := r2.free k
        have hz := r2.lt
        have HX := Lib.hid (And.intro r0 (And.intro r1 (And.intro r2 rB)))
        have hok := HS2.out.ok
        have HVL2 := Lib.hid hvl2
        clear r0 r1 r2 rB hvl2
        obtain ⟨x2, hx2⟩ : ∃ x, v2.getD k 0 = x := ⟨_, rfl⟩
        rw [hx2] at hcell hok hci HS2
        unfold okN at hok
        have HX2' := Lib.hid hx2
        clear hx2
        have hw1 : IntKind.i64.wrap (x2 + 1) = x2 + 1 := by simp [IntKind.wrap, IntKind.bits, IntKind.signed]; omega
        have d0 := fun q os => cell_regrown hcell q os
        have hrg := HX.out.1.regrown
        have HRG := Lib.hid hrg
        have hch := fun q os => Calls.regrown_of (hasRC c ((k : Int), x2 + 1) a cap (grow (redrawn wq q) os) ((HD.out.below HX.out.2.2.2).below (below_regrown wq q os)))
        simp only at hch
        have hmore := fun h => HS2.out.more h
        have hdone := fun h => HS2.out.done h
        have HMD := Lib.hid (And.intro hmore hdone)
        have hless := fun h => TopTo.less (c := c) (i := k) (x := x2) h
        obtain ⟨u, hu⟩ : ∃ u, hasC c ((k : Int), x2 + 1) = u := ⟨_, rfl⟩
        rw [hu] at hch
        have HCH := Lib.hid hch
        have HU := Lib.hid hu
        clear hrg hch hmore hdone hcell hfree
        cases u with
        | true =>
          have hle := hless hu
          clear hless hu
          go_upto_region 6 with fail
          refine wp_region_quiet_below (by kernel_rfl) (by kernel_rfl) ?_
          repeat (first
            | ((with_reducible refine cq_load ?_ (.tmp 1) ?_ w.heap.size c.v (.slice a c.l.length cap) ?_ ?_ ?_ ?_); rfl; rfl; rfl; exact HRG.out; exact HV.out; simp only [Act.put, List.setIfInBounds_toArray, List.set_cons_zero, List.set_cons_succ])
            | go_big_quiet_step ((go_at_call 30; with_reducible exact HCH.out _ _)) | quiet_step ((go_at_call 30; with_reducible exact HCH.out _ _)))
          refine wpQuiet_nil ?_
          intro _ hw'
          obtain ⟨⟨dq', osq⟩, hw''⟩ := hw'
          subst hw''
          have hb5 := below_regrown wq dq' osq
          have X5 := Lib.hid (And.intro (HX.out.1.keep hb5) (And.intro (HX.out.2.1.keep hb5) (And.intro (HX.out.2.2.1.keep hb5) (HX.out.2.2.2.trans (hb5.mono HX.out.2.2.2.size)))))
          have hcell := d0 dq' osq
          have hzz := Nat.lt_of_lt_of_le hz hb5.size
          clear d0 HCH HRG hb5 HX
          generalize grow (redrawn wq dq') osq = U at *
          have hfree := X5.out.2.2.1.free k
          go_wp2_with fail
          go_roundw
          case rel =>
            refine ⟨v2.set k (x2 + 1), by rw [List.length_set]; exact HVL2.out, Lib.hid ?_, Lib.hid (fun j hj => by rw [getD_set _ _ _ _ (by rw [HVL2.out]; exact hlt), if_neg (by omega)]; exact HT2.out j hj), X5.out.1.other (by omega) _ _, X5.out.2.1.other (by omega) _ _, X5.out.2.2.1.set k (x2 + 1) (by rw [HVL2.out]; exact hlt), X5.out.2.2.2.setCell (show w.heap.size ≤ w.heap.size + 2 by omega) _⟩
            rw [getD_set _ _ _ _ (by rw [HVL2.out]; exact hlt), if_pos rfl]
            exact HMD.out.1 HU.out
          case measure =>
            have e1 : cellI (U.setCell ⟨w.heap.size + 2, k, none⟩ (.int .i64 (x2 + 1))) (w.heap.size + 2) k = x2 + 1 := cellI_eq (World.cell?_setCell_same _ _ _ hcell)
            rw [hci]
            first | (rw [e1]; omega) | (erw [e1]; omega)
        | false =>
          clear hless hu
          go_upto_region 6 with fail
          refine wp_region_quiet_below (by kernel_rfl) (by kernel_rfl) ?_
          repeat (first
            | ((with_reducible refine cq_load ?_ (.tmp 1) ?_ w.heap.size c.v (.slice a c.l.length cap) ?_ ?_ ?_ ?_); rfl; rfl; rfl; exact HRG.out; exact HV.out; simp only [Act.put, List.setIfInBounds_toArray, List.set_cons_zero, List.set_cons_succ])
            | go_big_quiet_step ((go_at_call 30; with_reducible exact HCH.out _ _)) | quiet_step ((go_at_call 30; with_reducible exact HCH.out _ _)))
          refine wpQuiet_nil ?_
          intro _ hw'
          obtain ⟨⟨dq', osq⟩, hw''⟩ := hw'
          subst hw''
          have hb5 := below_regrown wq dq' osq
          have X5 := Lib.hid (And.intro (HX.out.1.keep hb5) (And.intro (HX.out.2.1.keep hb5) (And.intro (HX.out.2.2.1.keep hb5) (HX.out.2.2.2.trans (hb5.mono HX.out.2.2.2.size)))))
          clear d0 HCH HRG hb5 HX
          generalize grow (redrawn wq dq') osq = U at *
          go_wp2_with fail
          go_roundw
          case rel =>
            refine ⟨k + 1, v2, by go_num, by omega, HVL2.out, Lib.hid (fun j hj => ?_), X5.out.1, X5.out.2.1, X5.out.2.2.1, X5.out.2.2.2⟩
            by_cases e : j = k
            · subst e; rw [HX2'.out]; exact HMD.out.2 HU.out
            · exact HT2.out j (by omega)
          case measure => simp [intOf]; omega
    · obtain rfl : k = 16 := by omega
      have c16 := r0.cloud HV.out
      have HX := Lib.hid (And.intro r0 (And.intro r1 (And.intro r2 rB)))
      have hz := r2.lt
      have hdin := HD.out.din.below rB
      have HVL := Lib.hid hvl
      have hclf := cleanOf_filter (c := c) (v := v) hvl (fun i hi => HT.out i hi)
      have hfl : (((sortD c.l).filter (beyond v)).length) ≤ c.l.length := Nat.le_trans (List.length_filter_le _ _) (sortD_len c.l)
      have HCF := Lib.hid (And.intro hclf hfl)
      clear r0 r1 r2 rB hvl hclf hfl
      go_wp2_with fail
      refine (sortR c.l a cap wr hdin (by omega)).mono ?_
      rintro e w2 ⟨v2, rfl, hown2, hb2⟩
      obtain ⟨sa, sc, rfl, hfrom, hsc, hscm⟩ := hown2.from
      have hsl := sortD_len c.l
      have H2 := Lib.hid (And.intro (HX.out.1.keep hb2) (And.intro (HX.out.2.1.keep hb2) (And.intro (HX.out.2.2.1.keep hb2) (And.intro (HX.out.2.2.2.trans (hb2.mono HX.out.2.2.2.size)) (hfrom.mono (show w.heap.size + 3 ≤ wr.heap.size by omega))))))
      have hz2 : w.heap.size + 2 < w2.heap.size := Nat.lt_of_lt_of_le hz hb2.size
      clear hown2 hb2 hfrom hdin c16 HX HW hz
      generalize sortD c.l = s at *
      go_wp2_with fail
      go_loopw [6] (fun i wr => ∃ (k : Nat) (oa : Option Addr) (oc : Nat), k ≤ s.length ∧ i = .int .i64 k ∧ CRow wr w.heap.size c.v (.slice a c.l.length cap) ∧ CRow wr (w.heap.size + 1) zV nilS ∧ CRow wr (w.heap.size + 2) v (.slice oa ((s.take k).filter (beyond v)).length oc) ∧
        OwnD w2.heap.size (.slice oa ((s.take k).filter (beyond v)).length oc) ((s.take k).filter (beyond v)) wr ∧ Mid (w.heap.size + 3) w2.heap.size w2 wr ∧ Go.RowKit.Below w.heap.size w wr) (fun i _ => s.length - (intOf i).toNat)
      case atStart => exact ⟨0, none, 0, Nat.zero_le _, rfl, H2.out.1, H2.out.2.1, by rw [List.take_zero]; exact H2.out.2.2.1, by rw [List.take_zero]; exact ownD_nil _ _, Mid.refl _ _ _, H2.out.2.2.2.1⟩
      case round =>
        obtain ⟨k, oa, oc, hk, rfl, r0, r1, r2, ho, hmid, rB⟩ := hrel
        have hzr := r2.lt
        have hsz := hmid.size
        by_cases hlt : k < s.length
        · obtain ⟨d, hd⟩ : ∃ d, s[k]? = some d := ⟨_, List.getElem?_eq_getElem hlt⟩
          have hnx := filter_take_succ (beyond v) hd
          have HNX := Lib.hid hnx
          have hol : ((s.take k).filter (beyond v)).length ≤ k := by have := List.length_filter_le (beyond v) (s.take k); rw [List.length_take] at this; omega
          obtain ⟨out, hout⟩ : ∃ out, (s.take k).filter (beyond v) = out := ⟨_, rfl⟩
          rw [hout] at HNX hol
          have r2' : CRow wr (w.heap.size + 2) v (.slice oa out.length oc) := by rw [← hout]; exact r2
          have ho' : OwnD w2.heap.size (.slice oa out.length oc) out wr := by rw [← hout]; exact ho
          have HX := Lib.hid (And.intro r0 (And.intro r1 (And.intro r2' (And.intro ho' (And.intro hmid rB)))))
          have HDF := Lib.hid (H2.out.2.2.2.2.mid hmid (Nat.le_refl _))
          obtain ⟨b, off, rfl, hbl, c0, c1⟩ := HDF.out.din.at hd
          have HOUT := Lib.hid hout
          clear r0 r1 r2 ho hmid rB r2' ho' hnx hout
          have hi1 : (k : Int) < (s.length : Int) := by omega
          have hi2 : decide ((k : Int) < (s.length : Int)) = true := by simp; omega
          have hda : DAt wr b (off + k * 2) d := ⟨c0, c1, hbl⟩
          have HDA := Lib.hid hda
          have q0 := fun q os => cell_regrown c0 q os
          have q1 := fun q os => cell_regrown c1 q os
          have hbp := beyond_parts v d
          have hck := fun q os => Calls.regrown_of (checkRb d (grow (redrawn wr q) os))
          have hvh := fun q os => Calls.regrown_of (vhasR v d HVL.out (grow (redrawn wr q) os))
          have HRG := Lib.hid HX.out.2.2.1.regrown
          obtain ⟨u, hu⟩ : ∃ u, hasV v d = u := ⟨_, rfl⟩
          rw [hu] at hvh hbp
          have hbne : b ≠ w.heap.size + 2 := by
            rcases HDF.out with h0 | ⟨b', off', he, hlo, -, -⟩
            · rw [h0] at hlt; simp at hlt
            · injection he with he; injection he with h1 h2; omega
          have hblt : b < w2.heap.size := by
            rcases H2.out.2.2.2.2 with h0 | ⟨b', off', he, hlo, hhi, -⟩
            · rw [h0] at hlt; simp at hlt
            · injection he with he; injection he with h1 h2; omega
          obtain ⟨dr, dq⟩ := d
          simp only at c0 c1 q0 q1 hck hvh
          clear hu hda
          by_cases hc : chkD (dr, dq) = 0
          · rw [hc] at hck
            rw [decide_eq_true hc] at hbp
            have hb0 : ((0 : Int) == 0) = true := rfl
            have HCK := Lib.hid hck
            have HVH := Lib.hid hvh
            clear hck hvh hc
            cases u with
            | true =>
              have HK := Lib.hid (show (s.take (k + 1)).filter (beyond v) = out by rw [HNX.out, hbp]; simp)
              clear hbp
              go_upto_region 12 with fail
              clear c0 c1
              refine wp_region_quiet_below (by kernel_rfl) (by kernel_rfl) ?_
              repeat (first
                | ((with_reducible refine cq_loadV ?_ (.tmp 52) ?_ (w.heap.size + 2) v (.slice oa out.length oc) ?_ ?_ ?_ ?_); rfl; rfl; rfl; exact HRG.out; exact HVL.out; simp only [Act.put, List.setIfInBounds_toArray, List.set_cons_zero, List.set_cons_succ])
                | go_big_quiet_step (first | (go_at_call 53; with_reducible exact HCK.out _ _) | (go_at_call 70; with_reducible exact HVH.out _ _))
                | quiet_step (first | (go_at_call 53; with_reducible exact HCK.out _ _) | (go_at_call 70; with_reducible exact HVH.out _ _)))
              refine wpQuiet_nil ?_
              intro _ hw'
              obtain ⟨⟨dq', osq⟩, hw''⟩ := hw'
              subst hw''
              have hb5 := below_regrown wr dq' osq
              have X5 := Lib.hid (And.intro (HX.out.1.keep hb5) (And.intro (HX.out.2.1.keep hb5) (And.intro (HX.out.2.2.1.keep hb5) (And.intro (HX.out.2.2.2.1.below hb5 (Nat.le_refl _)) (And.intro (HX.out.2.2.2.2.1.below hb5 hsz) (HX.out.2.2.2.2.2.trans (hb5.mono HX.out.2.2.2.2.2.size)))))))
              clear q0 q1 HCK HVH HRG hb5 HX
              generalize grow (redrawn wr dq') osq = U at *
              go_wp2_with fail
              go_roundw
              case rel => exact ⟨k + 1, oa, oc, by omega, by go_num, X5.out.1, X5.out.2.1, by rw [HK.out]; exact X5.out.2.2.1, by rw [HK.out]; exact X5.out.2.2.2.1, X5.out.2.2.2.2⟩
              case measure => simp [intOf]; omega
            | false =>
              have HK := Lib.hid (show (s.take (k + 1)).filter (beyond v) = out ++ [(dr, dq)] by rw [HNX.out, hbp]; simp)
              clear hbp
              go_upto_region 12 with fail
              clear c0 c1
              refine wp_region_quiet_below (by kernel_rfl) (by kernel_rfl) ?_
              repeat (first
                | ((with_reducible refine cq_loadV ?_ (.tmp 52) ?_ (w.heap.size + 2) v (.slice oa out.length oc) ?_ ?_ ?_ ?_); rfl; rfl; rfl; exact HRG.out; exact HVL.out; simp only [Act.put, List.setIfInBounds_toArray, List.set_cons_zero, List.set_cons_succ])
                | go_big_quiet_step (first | (go_at_call 53; with_reducible exact HCK.out _ _) | (go_at_call 70; with_reducible exact HVH.out _ _))
                | quiet_step (first | (go_at_call 53; with_reducible exact HCK.out _ _) | (go_at_call 70; with_reducible exact HVH.out _ _)))
              refine wpQuiet_nil ?_
              intro _ hw'
              obtain ⟨⟨dq', osq⟩, hw''⟩ := hw'
              subst hw''
              have hb5 := below_regrown wr dq' osq
              have X5 := Lib.hid (And.intro (HX.out.1.keep hb5) (And.intro (HX.out.2.1.keep hb5) (And.intro (HX.out.2.2.1.keep hb5) (And.intro (HX.out.2.2.2.1.below hb5 (Nat.le_refl _)) (And.intro (HX.out.2.2.2.2.1.below hb5 hsz) (HX.out.2.2.2.2.2.trans (hb5.mono HX.out.2.2.2.2.2.size)))))))
              have HA5 := Lib.hid (HDA.out.below hb5 HDA.out.lt)
              have hs5 := hb5.size
              clear q0 q1 HCK HVH HRG hb5 HX
              generalize grow (redrawn wr dq') osq = W at *
              have hcl16 := X5.out.2.2.1.cloud HVL.out
              have hzW : w.heap.size + 2 < W.heap.size := by omega
              have hone := din_new W.drew (dr, dq)
              obtain ⟨q2, d2, w5, hr5, ho5, hb5⟩ := appD (c := 1) ((X5.out.2.2.2.1.below (Below.refl W.heap.size W).drew (Nat.le_refl _)).alloc (.cells #[.int .i64 dr, .int .i64 dq] 50)) hone (by show w2.heap.size ≤ (W.alloc _).heap.size; simp; omega) (out.length + 1) (by simp) (by omega)
              have hb5' : Go.RowKit.Below w2.heap.size W w5 := ((Below.refl _ W).drew.alloc (by show w2.heap.size ≤ W.heap.size; omega) _).trans hb5
              have X6 := Lib.hid (And.intro (X5.out.1.below hb5' (by omega)) (And.intro (X5.out.2.1.below hb5' (by omega)) (And.intro (X5.out.2.2.1.below hb5' (by omega)) (And.intro ho5 (And.intro (X5.out.2.2.2.2.1.below hb5' (Nat.le_refl _)) (X5.out.2.2.2.2.2.trans (hb5'.mono (by omega))))))))
              have HR5 := Lib.hid hr5
              have HA6 := Lib.hid (HA5.out.below hb5' hblt)
              clear ho5 hb5 hb5' hone hr5
              go_upto_region 13 with fail
              refine wp_region_held (S := fun U => DAt U b (off + k * 2) (dr, dq)) (by kernel_rfl) ?_
              change wpAnyH _ _ _ _ _ _ _ _ W.drew
              have K0 : (fun U => DAt U b (off + k * 2) (dr, dq)) W.drew := HA5.out.below (Below.refl W.heap.size W).drew HA5.out.lt
              refine wpAnyH_take (i := 0) (oi := { dst := some 61, op := _, type := _, pos := _, after := _, guard := _ }) (v := ?v1) rfl (by kernel_rfl) (by kernel_rfl) (by kernel_rfl) (fun _ _ _ h => h) (Or.inl ⟨by rfl, ?hy1⟩) K0 ?rest1
              case hy1 => (intro w hSw; (try dsimp only at hSw); first | (go_simp; done) | (go_simp; with_reducible rfl))
              try simp only [Act.put, List.setIfInBounds_toArray, List.set_cons_zero, List.set_cons_succ]
              refine wpAnyH_take (i := 2) (oi := { dst := some 63, op := _, type := _, pos := _, after := _, guard := _ }) (v := ?v2) rfl (by kernel_rfl) (by kernel_rfl) (by kernel_rfl) (fun _ _ _ h => h) (Or.inl ⟨by rfl, ?hy2⟩) K0 ?rest2
              case hy2 => (intro w hSw; (try dsimp only at hSw); first | (go_simp; done) | (go_simp; with_reducible rfl))
              try simp only [Act.put, List.setIfInBounds_toArray, List.set_cons_zero, List.set_cons_succ]
              refine wpAnyH_take (i := 3) (oi := { dst := some 64, op := _, type := _, pos := _, after := _, guard := _ }) (v := ?v3) rfl (by kernel_rfl) (by kernel_rfl) (by kernel_rfl) (fun _ _ _ h => h) (Or.inl ⟨by rfl, ?hy3⟩) K0 ?rest3
              case hy3 => (intro w hSw; (try dsimp only at hSw); first | (go_simp; done) | (go_simp; with_reducible rfl))
              try simp only [Act.put, List.setIfInBounds_toArray, List.set_cons_zero, List.set_cons_succ]
              refine wpAnyH_take (i := 4) (oi := { dst := some 65, op := _, type := _, pos := _, after := _, guard := _ }) (v := ?v4) rfl (by kernel_rfl) (by kernel_rfl) (by kernel_rfl) (fun _ _ _ h => h) (Or.inl ⟨by rfl, ?hy4⟩) K0 ?rest4
              case hy4 => (intro w hSw; (try dsimp only at hSw); first | (go_simp; done) | (go_simp; with_reducible rfl))
              try simp only [Act.put, List.setIfInBounds_toArray, List.set_cons_zero, List.set_cons_succ]
              refine wpAnyH_take (i := 5) (oi := { dst := some 66, op := _, type := _, pos := _, after := _, guard := _ }) rfl (by kernel_rfl) (by kernel_rfl) (by kernel_rfl) (fun _ _ _ h => h) (yield_D (by rfl) (.tmp 65) rfl b (off + k * 2) (dr, dq) rfl (fun U hU => ⟨hU.c0, hU.c1⟩)) K0 ?_
              try simp only [Act.put, List.setIfInBounds_toArray, List.set_cons_zero, List.set_cons_succ]
              refine wpAnyH_ready (rs := [1, 6]) (by kernel_rfl) (by simp) ?_
              refine AllReadyH.cons (o := { dst := some 62, op := _, type := _, pos := _, after := _, guard := _ }) rfl (fun K hK => ?_) (AllReadyH.cons (o := { dst := some 67, op := _, type := _, pos := _, after := _, guard := _ }) rfl (fun K hK => ?_) AllReadyH.nil)
              · go_simp
                have K1 := K0
                refine hK.out _ _ K1 (fun _ => ?_)
                clear hK K
                try simp only [Act.put, List.setIfInBounds_toArray, List.set_cons_zero, List.set_cons_succ]
                refine wpAnyH_ready (rs := [6]) (by kernel_rfl) (by simp) ?_
                refine AllReadyH.cons (o := { dst := some 67, op := _, type := _, pos := _, after := _, guard := _ }) rfl (fun K hK => ?_) AllReadyH.nil
                go_simp
                have K6 := K1.alloc (.cells #[.int .i64 dr, .int .i64 dq] 50)
                refine hK.out _ _ K6 (fun _ => ?_)
                clear hK K
                try simp only [Act.put, List.setIfInBounds_toArray, List.set_cons_zero, List.set_cons_succ]
                refine wpAnyH_ready (rs := [7]) (by kernel_rfl) (by simp) ?_
                refine AllReadyH.cons (o := { dst := some 68, op := _, type := _, pos := _, after := _, guard := _ }) rfl (fun K hK => ?_) AllReadyH.nil
                refine draw_append rfl (.tmp 62) (.tmp 67) rfl rfl (.slice oa out.length oc) (.slice (some ⟨W.heap.size, 0, none⟩) 1 1) rfl rfl _ w5 HR5.out ?_
                have K7 := HA6.out
                have hcl5 := X6.out.2.2.1.cloud HVL.out
                have hfree5 := X6.out.2.2.1.free 16
                have hz5 := X6.out.2.2.1.lt
                refine hK.out _ _ K7 (fun _ => ?_)
                clear hK K
                try simp only [Act.put, List.setIfInBounds_toArray, List.set_cons_zero, List.set_cons_succ]
                refine wpAnyH_take (i := 8) (oi := { dst := some 69, op := _, type := _, pos := _, after := _, guard := _ }) (v := ?v6) rfl (by kernel_rfl) (by kernel_rfl) (by kernel_rfl) (fun _ _ _ h => h) (Or.inl ⟨by rfl, ?hy6⟩) K7 ?rest6
                case hy6 => (intro w hSw; (try dsimp only at hSw); first | (go_simp; done) | (go_simp; with_reducible rfl))
                try simp only [Act.put, List.setIfInBounds_toArray, List.set_cons_zero, List.set_cons_succ]
                refine wpAnyH_ready (rs := [9]) (by kernel_rfl) (by simp) ?_
                refine AllReadyH.cons (o := { dst := none, op := _, type := _, pos := _, after := _, guard := _ }) rfl (fun K hK => ?_) AllReadyH.nil
                go_simp
                have K9 : DAt (w5.setCell ⟨w.heap.size + 2, 16, none⟩ (.slice q2 (out.length + 1) d2)) b (off + k * 2) (dr, dq) := K7.set hbne _ _
                refine hK.out _ _ K9 (fun _ => ?_)
                clear hK K
                try simp only [Act.put, List.setIfInBounds_toArray, List.set_cons_zero, List.set_cons_succ]
                refine wpAnyH_done (by kernel_rfl) ?_ _
                try simp only [Act.put, List.setIfInBounds_toArray, List.set_cons_zero, List.set_cons_succ]
                have HF := Lib.hid (And.intro X6.out K9)
                clear K0
                go_wp2_with fail
                go_roundw
                case rel =>
                  have e9 : (out ++ [(dr, dq)]).length = out.length + 1 := by simp
                  refine ⟨k + 1, q2, d2, by omega, by go_num, X6.out.1.other (by omega) _ _, X6.out.2.1.other (by omega) _ _, ?_, ?_, X6.out.2.2.2.2.1.set (.inl (by omega)) _ _, X6.out.2.2.2.2.2.setCell (show w.heap.size ≤ w.heap.size + 2 by omega) _⟩
                  · rw [HK.out, e9]; exact X6.out.2.2.1.setS _ HVL.out
                  · rw [HK.out, e9]; exact X6.out.2.2.2.1.setc (by omega) _ _
                case measure => simp [intOf]; omega
              · go_simp
                have K6 := K0.alloc (.cells #[.int .i64 dr, .int .i64 dq] 50)
                refine hK.out _ _ K6 (fun _ => ?_)
                clear hK K
                try simp only [Act.put, List.setIfInBounds_toArray, List.set_cons_zero, List.set_cons_succ]
                refine wpAnyH_ready (rs := [1]) (by kernel_rfl) (by simp) ?_
                refine AllReadyH.cons (o := { dst := some 62, op := _, type := _, pos := _, after := _, guard := _ }) rfl (fun K hK => ?_) AllReadyH.nil
                go_simp
                have K1 := K6
                refine hK.out _ _ K1 (fun _ => ?_)
                clear hK K
                try simp only [Act.put, List.setIfInBounds_toArray, List.set_cons_zero, List.set_cons_succ]
                refine wpAnyH_ready (rs := [7]) (by kernel_rfl) (by simp) ?_
                refine AllReadyH.cons (o := { dst := some 68, op := _, type := _, pos := _, after := _, guard := _ }) rfl (fun K hK => ?_) AllReadyH.nil
                refine draw_append rfl (.tmp 62) (.tmp 67) rfl rfl (.slice oa out.length oc) (.slice (some ⟨W.heap.size, 0, none⟩) 1 1) rfl rfl _ w5 HR5.out ?_
                have K7 := HA6.out
                have hcl5 := X6.out.2.2.1.cloud HVL.out
                have hfree5 := X6.out.2.2.1.free 16
                have hz5 := X6.out.2.2.1.lt
                refine hK.out _ _ K7 (fun _ => ?_)
                clear hK K
                try simp only [Act.put, List.setIfInBounds_toArray, List.set_cons_zero, List.set_cons_succ]
                refine wpAnyH_take (i := 8) (oi := { dst := some 69, op := _, type := _, pos := _, after := _, guard := _ }) (v := ?v7) rfl (by kernel_rfl) (by kernel_rfl) (by kernel_rfl) (fun _ _ _ h => h) (Or.inl ⟨by rfl, ?hy7⟩) K7 ?rest7
                case hy7 => (intro w hSw; (try dsimp only at hSw); first | (go_simp; done) | (go_simp; with_reducible rfl))
                try simp only [Act.put, List.setIfInBounds_toArray, List.set_cons_zero, List.set_cons_succ]
                refine wpAnyH_ready (rs := [9]) (by kernel_rfl) (by simp) ?_
                refine AllReadyH.cons (o := { dst := none, op := _, type := _, pos := _, after := _, guard := _ }) rfl (fun K hK => ?_) AllReadyH.nil
                go_simp
                have K9 : DAt (w5.setCell ⟨w.heap.size + 2, 16, none⟩ (.slice q2 (out.length + 1) d2)) b (off + k * 2) (dr, dq) := K7.set hbne _ _
                refine hK.out _ _ K9 (fun _ => ?_)
                clear hK K
                try simp only [Act.put, List.setIfInBounds_toArray, List.set_cons_zero, List.set_cons_succ]
                refine wpAnyH_done (by kernel_rfl) ?_ _
                try simp only [Act.put, List.setIfInBounds_toArray, List.set_cons_zero, List.set_cons_succ]
                have HF := Lib.hid (And.intro X6.out K9)
                clear K0
                go_wp2_with fail
                go_roundw
                case rel =>
                  have e9 : (out ++ [(dr, dq)]).length = out.length + 1 := by simp
                  refine ⟨k + 1, q2, d2, by omega, by go_num, X6.out.1.other (by omega) _ _, X6.out.2.1.other (by omega) _ _, ?_, ?_, X6.out.2.2.2.2.1.set (.inl (by omega)) _ _, X6.out.2.2.2.2.2.setCell (show w.heap.size ≤ w.heap.size + 2 by omega) _⟩
                  · rw [HK.out, e9]; exact X6.out.2.2.1.setS _ HVL.out
                  · rw [HK.out, e9]; exact X6.out.2.2.2.1.setc (by omega) _ _
                case measure => simp [intOf]; omega
          · have h2 : chkD (dr, dq) = 2 := (chkD_cases _).resolve_left hc
            rw [h2] at hck
            rw [decide_eq_false hc] at hbp
            have hb0 : ((2 : Int) == 0) = false := rfl
            have HK := Lib.hid (show (s.take (k + 1)).filter (beyond v) = out by rw [HNX.out, hbp]; simp)
            have HCK := Lib.hid hck
            have HVH := Lib.hid hvh
            clear hck hvh hc h2 hbp
            go_upto_region 12 with fail
            clear c0 c1
            refine wp_region_quiet_below (by kernel_rfl) (by kernel_rfl) ?_
            repeat (first
              | ((with_reducible refine cq_loadV ?_ (.tmp 52) ?_ (w.heap.size + 2) v (.slice oa out.length oc) ?_ ?_ ?_ ?_); rfl; rfl; rfl; exact HRG.out; exact HVL.out; simp only [Act.put, List.setIfInBounds_toArray, List.set_cons_zero, List.set_cons_succ])
              | go_big_quiet_step (first | (go_at_call 53; with_reducible exact HCK.out _ _) | (go_at_call 70; with_reducible exact HVH.out _ _))
              | quiet_step (first | (go_at_call 53; with_reducible exact HCK.out _ _) | (go_at_call 70; with_reducible exact HVH.out _ _)))
            refine wpQuiet_nil ?_
            intro _ hw'
            obtain ⟨⟨dq', osq⟩, hw''⟩ := hw'
            subst hw''
            have hb5 := below_regrown wr dq' osq
            have X5 := Lib.hid (And.intro (HX.out.1.keep hb5) (And.intro (HX.out.2.1.keep hb5) (And.intro (HX.out.2.2.1.keep hb5) (And.intro (HX.out.2.2.2.1.below hb5 (Nat.le_refl _)) (And.intro (HX.out.2.2.2.2.1.below hb5 hsz) (HX.out.2.2.2.2.2.trans (hb5.mono HX.out.2.2.2.2.2.size)))))))
            clear q0 q1 HCK HVH HRG hb5 HX
            generalize grow (redrawn wr dq') osq = U at *
            go_wp2_with fail
            go_roundw
            case rel => exact ⟨k + 1, oa, oc, by omega, by go_num, X5.out.1, X5.out.2.1, by rw [HK.out]; exact X5.out.2.2.1, by rw [HK.out]; exact X5.out.2.2.2.1, X5.out.2.2.2.2⟩
            case measure => simp [intOf]; omega
        · have hkk : k = s.length := by omega
          have hi1 : ¬ (k : Int) < (s.length : Int) := by omega
          have HX := Lib.hid (And.intro r0 (And.intro r1 (And.intro r2 (And.intro ho (And.intro hmid rB)))))
          have htk : s.take k = s := by rw [hkk, List.take_length]
          have HF := Lib.hid (And.intro ho.from htk)
          clear r0 r1 r2 ho hmid rB htk hkk
          rw [HF.out.2] at HX HF
          have hoX := HX.out.2.2.2.1
          obtain ⟨out, hout⟩ : ∃ out, s.filter (beyond v) = out := ⟨_, rfl⟩
          rw [hout] at HX HF HCF
          clear hout hoX
          go_wp2_with (first
            | ((with_reducible refine cl_load ?_ (.tmp 3) ?_ (w.heap.size + 2) v (.slice oa out.length oc) ?_ ?_ ?_ ?_); rfl; rfl; rfl; exact HX.out.2.2.1; exact HVL.out)
            | ((with_reducible refine cl_store ?_ (.tmp 2) (.tmp 70) ?_ (w.heap.size + 1) v oa out.length oc ?_ ?_ ?_ ?_ ?_); rfl; rfl; rfl; rfl; exact ⟨_, _, HX.out.2.1, rfl⟩; exact HVL.out))
          refine bodyPost_ret (retC rfl _ _ (w.heap.size + 1) v (.slice oa out.length oc) rfl (CRow.of_put HX.out.2.1 v _) HVL.out) rfl ?_
          refine ⟨⟨⟨v, out⟩, oa, ⟨oc, rfl⟩, HCF.out.1, ⟨HVL.out, ?_, ?_⟩, ?_⟩, belowRow HX.out.2.2.2.2.2 (Nat.le_succ _) _⟩
          · obtain ⟨oa', oc', he, hfo, -⟩ := HF.out.1
            injection he with h1 h2 h3
            subst h1
            exact (hfo.setRow (show w.heap.size + 1 < w2.heap.size by omega) _).mono (by omega)
          · show out.length ≤ 32768
            have := HCF.out.2
            omega
          · exact HCF.out.2
end Go.Proofs.YtcedliaeipabnaaGreat

namespace Go.Proofs.YtcedliaeipabnaaGreat
set_option maxRecDepth 100000
open Go.RowKit

abbrev boxV (w : World) (l : Vc) : World := w.alloc (.cells (ics l) 24)
theorem boxV_below (w : World) (l : Vc) : Below w.heap.size w (boxV w l) := (Below.refl _ _).alloc (Nat.le_refl _) _
theorem boxV_size (w : World) (l : Vc) : (boxV w l).heap.size = w.heap.size + 1 := by simp [boxV]

set_option maxHeartbeats 4000000 in
set_option maxRecDepth 100000 in
theorem vchkC (l : Vc) (hl : l.length = 16) (w : World) : Calls Tryz.prog 56 #[.agg (ics l)] w fun e w' => e = .returned (.int .i64 (chkV l)) ∧ Below w.heap.size w w' := by
  have HL := Lib.hid hl
  have HN := Lib.hid (VRow.new w l)
  have HB := Lib.hid (boxV_below w l)
  have HG := Lib.hid (fun h => chkV_all (l := l) (by rw [hl]; exact h))
  have HD := Lib.hid (fun k (hk : k < 16) => chkV_bad (l := l) (k := k) (by rw [hl]; exact hk))
  clear hl
  generalize hc : chkV l = c at *
  clear hc
  go_enter Tryz.func56, Tryz.ntmps56
  go_wp2_with (first
    | ((with_reducible refine wl_box ?_ 24 (.tmp 0) ?_ (ics l) ?_ ?_); rfl; rfl; rfl)
    | ((with_reducible refine vl_load ?_ (.tmp 1) ?_ w.heap.size l ?_ ?_ ?_ ?_); rfl; rfl; rfl; exact HN.out; exact HL.out))
  go_loop [6] (fun i => ∃ k : Nat, i = .int .i64 k ∧ k ≤ 16 ∧ Hid (∀ j, j < k → okN (l.getD j 0))) (fun i => 16 - (intOf i).toNat)
  case atStart => exact ⟨0, rfl, by omega, Lib.hid (fun j hj => by omega)⟩
  case round =>
    obtain ⟨k, rfl, hk, hall⟩ := hrel
    by_cases hlt : k < 16
    · have hix := fun W => indexV HL.out k hlt W
      have HDk := Lib.hid (HD.out k hlt)
      have HK := Lib.hid (fun (h : okN (l.getD k 0)) j (hj : j < k + 1) => show okN (l.getD j 0) by
        by_cases e : j = k
        · subst e; exact h
        · exact hall.out j (by omega))
      clear hall
      generalize l.getD k 0 = x at hix HDk HK
      by_cases h0 : x < 0
      · have g0 : decide (x < 0) = true := by simp [h0]
        obtain rfl : c = 2 := HDk.out (fun h => by unfold okN at h; omega)
        go_wp2_with fail
        go_ret
        exact ⟨rfl, HB.out⟩
      · have g0 : decide (x < 0) = false := by simp [h0]
        by_cases h1 : 1099511627776 < x
        · have g1 : decide ((1099511627776 : Int) < x) = true := by simp [h1]
          obtain rfl : c = 2 := HDk.out (fun h => by unfold okN at h; omega)
          go_wp2_with fail
          go_ret
          exact ⟨rfl, HB.out⟩
        · have g1 : decide ((1099511627776 : Int) < x) = false := by simp [h1]
          have HK2 := Lib.hid (HK.out (by unfold okN; omega))
          clear HK
          go_wp2_with fail
          go_round
          case rel => exact ⟨k + 1, by go_num, by omega, HK2⟩
          case measure => simp [intOf]; omega
    · obtain rfl : k = 16 := by omega
      obtain rfl : c = 0 := HG.out hall.out
      go_wp2_with fail
      go_ret
      exact ⟨rfl, HB.out⟩

set_option maxHeartbeats 4000000 in
set_option maxRecDepth 100000 in
theorem vchkR (l : Vc) (hl : l.length = 16) (w : World) : Calls Tryz.prog 64 #[.agg (ics l)] w fun e w' => e = .returned (.int .i64 (chkV l)) ∧ Below w.heap.size w w' := by
  have HL := Lib.hid hl
  have HN := Lib.hid (VRow.new w l)
  have HB := Lib.hid (boxV_below w l)
  have HG := Lib.hid (fun h => chkV_all (l := l) (by rw [hl]; exact h))
  have HD := Lib.hid (fun k (hk : k < 16) => chkV_bad (l := l) (k := k) (by rw [hl]; exact hk))
  have hsz : w.heap.size < (boxV w l).heap.size := by rw [boxV_size]; omega
  clear hl
  generalize hc : chkV l = c at *
  clear hc
  go_enter Tryz.func64, Tryz.ntmps64
  go_wp2_with fail
  go_loop [3] (fun i => ∃ k : Nat, i = .int .i64 k ∧ k ≤ 16 ∧ Hid (∀ j, j < k → okN (l.getD j 0))) (fun i => 16 - (intOf i).toNat)
  case atStart => exact ⟨0, rfl, by omega, Lib.hid (fun j hj => by omega)⟩
  case round =>
    obtain ⟨k, rfl, hk, hall⟩ := hrel
    by_cases hlt : k < 16
    · have hix := HN.out.cell k (by rw [HL.out]; exact hlt)
      have HDk := Lib.hid (HD.out k hlt)
      have HK := Lib.hid (fun (h : okN (l.getD k 0)) j (hj : j < k + 1) => show okN (l.getD j 0) by
        by_cases e : j = k
        · subst e; exact h
        · exact hall.out j (by omega))
      clear hall
      generalize l.getD k 0 = x at hix HDk HK
      by_cases h0 : x < 0
      · have g0 : decide (x < 0) = true := by simp [h0]
        obtain rfl : c = 2 := HDk.out (fun h => by unfold okN at h; omega)
        go_wp2_with fail
        go_ret
        exact ⟨rfl, HB.out⟩
      · have g0 : decide (x < 0) = false := by simp [h0]
        by_cases h1 : 1099511627776 < x
        · have g1 : decide ((1099511627776 : Int) < x) = true := by simp [h1]
          obtain rfl : c = 2 := HDk.out (fun h => by unfold okN at h; omega)
          go_wp2_with fail
          go_ret
          exact ⟨rfl, HB.out⟩
        · have g1 : decide ((1099511627776 : Int) < x) = false := by simp [h1]
          have HK2 := Lib.hid (HK.out (by unfold okN; omega))
          clear HK
          go_wp2_with fail
          go_round
          case rel => exact ⟨k + 1, by go_num, by omega, HK2⟩
          case measure => simp [intOf]; omega
    · obtain rfl : k = 16 := by omega
      obtain rfl : c = 0 := HG.out hall.out
      go_wp2_with fail
      go_ret
      exact ⟨rfl, HB.out⟩
end Go.Proofs.YtcedliaeipabnaaGreat
