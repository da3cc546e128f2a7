/-
  Clean: the program's.
  slices.Grow of none, slices.Concat of two rows of names.
  order; whether names stand in their order.
  list.Has at names: its closure, a name looked for among names that stand in order.
-/
import Derived.Test.YtcedliaeipabnaaGreatGKernG
import Derived.Test.YtcedliaeipabnaaGreatGKernI
import Derived.Lib.AppendZerosOnto
import Derived.Test.YtcedliaeipabnaaGreatGKernH
import Derived.Test.YtcedliaeipabnaaGreatGKernE
import Derived.Shelf.Abstract
namespace Go.Proofs.YtcedliaeipabnaaGreat
set_option maxRecDepth 100000
open Go.RowKit Go.Sort

abbrev nilS : Value := .slice none 0 0
/-- three contexts' blocks: one that came in, the answer's, one that is built -/
theorem three_ctx (w : World) (v : Vc) (s : Value) : CRow (boxC (boxC (boxC w v s) zV nilS) zV nilS) w.heap.size v s ∧ CRow (boxC (boxC (boxC w v s) zV nilS) zV nilS) (w.heap.size + 1) zV nilS ∧
    CRow (boxC (boxC (boxC w v s) zV nilS) zV nilS) (w.heap.size + 2) zV nilS ∧ Go.RowKit.Below w.heap.size w (boxC (boxC (boxC w v s) zV nilS) zV nilS) ∧ (boxC (boxC (boxC w v s) zV nilS) zV nilS).heap.size = w.heap.size + 3 := by
  have e1 := boxC_size w v s
  have e2 := boxC_size (boxC w v s) zV nilS
  have h0 := CRow.new w v s
  have h1 := CRow.new (boxC w v s) zV nilS
  have h2 := CRow.new (boxC (boxC w v s) zV nilS) zV nilS
  rw [e1] at h1
  rw [e2, e1] at h2
  exact ⟨(h0.alloc _).alloc _, h1.alloc _, h2, ((boxC_below w v s).alloc (by rw [e1]; omega) _).alloc (by rw [World.size_alloc, e1]; omega) _, by rw [boxC_size, e2, e1]⟩

set_option maxHeartbeats 8000000 in
theorem cleanCC (c : Cx) (a : Option Addr) (cap : Nat) (w : World) (h : CIn w c a) :
    Calls Tryz.prog 45 #[.agg (ccs c.v (.slice a c.l.length cap))] w fun e w' => (∃ (o : Cx) (a' : Option Addr) (cap' : Nat), e = .returned (.agg (ccs o.v (.slice a' o.l.length cap'))) ∧ CleanOf c o ∧ Made w.heap.size w' o a' ∧ o.l.length ≤ c.l.length ∧ o.l.length ≤ cap') ∧ Go.RowKit.Below w.heap.size w w' := by
  have HV := Lib.hid h.v16
  have hlen := h.len
  have HW := Lib.hid (three_ctx w c.v (.slice a c.l.length cap))
  have HD := Lib.hid h.din
  unfold boxC at HW
  clear h
  go_enter Tryz.func45, Tryz.ntmps45
  go_upto_region 2 with fail
  change Code.wp _ _ _ _ (((w.alloc (.cells (ccs c.v (.slice a c.l.length cap)) 27)).alloc (.cells (ccs zV nilS) 27)).alloc (.cells (ccs zV nilS) 27))
  generalize ((w.alloc (.cells (ccs c.v (.slice a c.l.length cap)) 27)).alloc (.cells (ccs zV nilS) 27)).alloc (.cells (ccs zV nilS) 27) = W0 at *
  go_wp2_with ((with_reducible refine cl_loadV ?_ (.tmp 8) ?_ w.heap.size c.v (.slice a c.l.length cap) ?_ ?_ ?_ ?_); rfl; rfl; rfl; exact HW.out.1; exact HV.out)
  go_loopw [10] (fun i wr => ∃ k : Nat, i = .int .i64 k ∧ k ≤ 16 ∧ CRow wr w.heap.size c.v (.slice a c.l.length cap) ∧ CRow wr (w.heap.size + 1) zV nilS ∧ CRow wr (w.heap.size + 2) (mixK c.v k) nilS ∧ Go.RowKit.Below w.heap.size w wr) (fun i _ => 16 - (intOf i).toNat)
  case atStart => exact ⟨0, rfl, by omega, HW.out.1, HW.out.2.1, by rw [mixK_zero]; exact HW.out.2.2.1, HW.out.2.2.2.1⟩
  case round =>
    obtain ⟨k, rfl, hk, r0, r1, r2, rB⟩ := hrel
    by_cases hlt : k < 16
    · have hix := fun W => indexV HV.out k hlt W
      have hml := mixK_len HV.out hk
      have hcell := r2.cell k (by rw [hml]; exact hlt)
      have hfree := r2.free k
      have hz := r2.lt
      have HS := Lib.hid (mixK_succ HV.out hlt)
      have hcl : clm (c.v.getD k 0) = min (max (c.v.getD k 0) 0) 1099511627776 := rfl
      have HCL := Lib.hid hcl
      have HX := Lib.hid (And.intro r0 (And.intro r1 (And.intro r2 (And.intro rB hml))))
      clear r0 r1 r2 rB hml hcl
      generalize c.v.getD k 0 = x at *
      generalize (mixK c.v k).getD k 0 = y at *
      go_wp2_with fail
      go_roundw
      case rel =>
        refine ⟨k + 1, by go_num, by omega, HX.out.1.other (by omega) _ _, HX.out.2.1.other (by omega) _ _, ?_, HX.out.2.2.2.1.setCell (show w.heap.size ≤ w.heap.size + 2 by omega) _⟩
        rw [HS.out, HCL.out]; exact HX.out.2.2.1.set k _ (by rw [HX.out.2.2.2.2]; exact hlt)
      case measure => simp [intOf]; omega
    · obtain rfl : k = 16 := by omega
      rw [mixK_all HV.out] at r2
      have c16 := r0.cloud HV.out
      have HX := Lib.hid (And.intro r0 (And.intro r1 (And.intro r2 rB)))
      have hz := r2.lt
      have hdin := HD.out.below rB
      clear r0 r1 r2 rB
      go_wp2_with fail
      refine (sortC c.l a cap wr hdin (by omega)).mono ?_
      rintro e w2 ⟨v2, rfl, hown2, hb2⟩
      obtain ⟨sa, sc, rfl, hfrom, hsc, hscm⟩ := hown2.from
      have hsl := sortD_len c.l
      have HS := Lib.hid (Cleaning.start HV.out (sortD c.l))
      have HR := Lib.hid (And.intro (rise_sortD c.l) (fun x => (mem_sortD (l := c.l) (z := x)).1))
      have H2 := Lib.hid (And.intro (HX.out.1.keep hb2) (And.intro (HX.out.2.1.keep hb2) (And.intro (HX.out.2.2.1.keep hb2) (And.intro (HX.out.2.2.2.trans (hb2.mono HX.out.2.2.2.size)) (hfrom.mono (show w.heap.size + 3 ≤ wr.heap.size by omega))))))
      have hz2 : w.heap.size + 2 < w2.heap.size := Nat.lt_of_lt_of_le hz hb2.size
      have HDN := Lib.hid (fun (v : Vc) (out : List Dt) (k : Nat) (h : Cleaning c (sortD c.l) k v out) (hk : (sortD c.l).length ≤ k) => h.done hk)
      clear hown2 hb2 hfrom hdin c16 HX HW hz
      generalize sortD c.l = s at *
      go_wp2_with fail
      go_loopw [25] (fun i wr => ∃ (k : Nat) (v : Vc) (out : List Dt) (oa : Option Addr) (oc : Nat), k ≤ s.length ∧ i = .int .i64 k ∧ Hid (Cleaning c s k v out) ∧ CRow wr w.heap.size c.v (.slice a c.l.length cap) ∧ CRow wr (w.heap.size + 1) zV nilS ∧ CRow wr (w.heap.size + 2) v (.slice oa out.length oc) ∧
        OwnD w2.heap.size (.slice oa out.length oc) out wr ∧ Mid (w.heap.size + 3) w2.heap.size w2 wr ∧ Go.RowKit.Below w.heap.size w wr) (fun i _ => s.length - (intOf i).toNat)
      case atStart => exact ⟨0, c.v.map clm, [], none, 0, Nat.zero_le _, rfl, HS, H2.out.1, H2.out.2.1, H2.out.2.2.1, ownD_nil _ _, Mid.refl _ _ _, H2.out.2.2.2.1⟩
      case round =>
        obtain ⟨k, v, out, oa, oc, hk, rfl, HCL, r0, r1, r2, ho, hmid, rB⟩ := hrel
        have hvl := HCL.out.len
        have hzr := r2.lt
        have hsz := hmid.size
        have HX := Lib.hid (And.intro r0 (And.intro r1 (And.intro r2 (And.intro ho (And.intro hmid rB)))))
        by_cases hlt : k < s.length
        · obtain ⟨d, hd⟩ : ∃ d, s[k]? = some d := ⟨_, List.getElem?_eq_getElem hlt⟩
          obtain ⟨b, off, rfl, hbl, c0, c1⟩ := (H2.out.2.2.2.2.mid hmid (Nat.le_refl _)).din.at hd
          have hi1 : (k : Int) < (s.length : Int) := by omega
          clear r0 r1 r2 ho hmid rB
          have hck := fun W => checkCb d W
          have hvh := fun W => vhasC v d hvl W
          have HD2 := Lib.hid hd
          have hbp := beyond_parts v d
          have HVH := Lib.hid hvh
          have HCK := Lib.hid hck
          have HBP := Lib.hid hbp
          have hBx := boxD_below wr d
          have n0 : (boxD wr d).cell? ⟨wr.heap.size, 0, none⟩ = some (.int .i64 d.1) := by unfold boxD; rw [Joins.cell_of_block (heap_alloc_new wr _)]; rfl
          have n1 : (boxD wr d).cell? ⟨wr.heap.size, 1, none⟩ = some (.int .i64 d.2) := by unfold boxD; rw [Joins.cell_of_block (heap_alloc_new wr _)]; rfl
          have hzx : wr.heap.size < (boxD wr d).heap.size := by rw [boxD_size]; omega
          have HN := Lib.hid (And.intro hBx (And.intro n0 (And.intro n1 hzx)))
          unfold boxD at HN
          clear hvh hck hbp hBx n0 n1 hzx hd
          obtain ⟨dr, dq⟩ := d
          simp only at c0 c1 HVH HCK HBP HN
          go_upto_region 11 with fail
          generalize wr.alloc (.cells #[.int .i64 dr, .int .i64 dq] 50) = W1 at *
          obtain ⟨hBx, n0, n1, hzx⟩ := HN.out
          have X1 := Lib.hid (And.intro (HX.out.1.keep hBx) (And.intro (HX.out.2.1.keep hBx) (And.intro (HX.out.2.2.1.keep hBx) (And.intro (HX.out.2.2.2.1.below hBx (Nat.le_refl _)) (And.intro (HX.out.2.2.2.2.1.below hBx hsz) (HX.out.2.2.2.2.2.trans (hBx.mono HX.out.2.2.2.2.2.size)))))))
          have hszB := hBx.size
          clear hBx HX HN c0 c1
          go_wp2_with fail
          refine (HCK.out W1).mono ?_
          rintro e w3 ⟨rfl, hb3⟩
          have m0 : w3.cell? ⟨wr.heap.size, 0, none⟩ = some (.int .i64 dr) := by rw [hb3.cell (p := ⟨wr.heap.size, 0, none⟩) hzx]; exact n0
          have m1 : w3.cell? ⟨wr.heap.size, 1, none⟩ = some (.int .i64 dq) := by rw [hb3.cell (p := ⟨wr.heap.size, 1, none⟩) hzx]; exact n1
          have hzx3 : wr.heap.size < w3.heap.size := Nat.lt_of_lt_of_le hzx hb3.size
          have X3 := Lib.hid (And.intro (X1.out.1.keep hb3) (And.intro (X1.out.2.1.keep hb3) (And.intro (X1.out.2.2.1.keep hb3) (And.intro (X1.out.2.2.2.1.below hb3 (Nat.le_refl _)) (And.intro (X1.out.2.2.2.2.1.below hb3 (by omega)) (X1.out.2.2.2.2.2.trans (hb3.mono X1.out.2.2.2.2.2.size)))))))
          have hs3 := hb3.size
          clear n0 n1 hb3 X1 HCK
          have hbp := HBP.out
          by_cases hc0 : chkD (dr, dq) = 0
          · obtain ⟨e1, e2, e3, e4⟩ := chkD_ok hc0
            simp only at e1 e2 e3 e4
            obtain ⟨r, rfl⟩ := Int.eq_ofNat_of_zero_le e1
            have hr16 : r < 16 := by omega
            have HE := Lib.hid (And.intro hc0 (And.intro e3 e4))
            rw [hc0] at hbp ⊢
            clear hc0 e1 e2 e3 e4
            go_wp2_with ((with_reducible refine cl_loadV ?_ (.tmp 40) ?_ (w.heap.size + 2) v (.slice oa out.length oc) ?_ ?_ ?_ ?_); rfl; rfl; rfl; exact X3.out.2.2.1; exact hvl)
            refine (HVH.out w3).mono ?_
            rintro e w4 ⟨rfl, hb4⟩
            have n0 : w4.cell? ⟨wr.heap.size, 0, none⟩ = some (.int .i64 r) := by rw [hb4.cell (p := ⟨wr.heap.size, 0, none⟩) hzx3]; exact m0
            have n1 : w4.cell? ⟨wr.heap.size, 1, none⟩ = some (.int .i64 dq) := by rw [hb4.cell (p := ⟨wr.heap.size, 1, none⟩) hzx3]; exact m1
            have hzx4 : wr.heap.size < w4.heap.size := Nat.lt_of_lt_of_le hzx3 hb4.size
            have X4 := Lib.hid (And.intro (X3.out.1.keep hb4) (And.intro (X3.out.2.1.keep hb4) (And.intro (X3.out.2.2.1.keep hb4) (And.intro (X3.out.2.2.2.1.below hb4 (Nat.le_refl _)) (And.intro (X3.out.2.2.2.2.1.below hb4 (by omega)) (X3.out.2.2.2.2.2.trans (hb4.mono X3.out.2.2.2.2.2.size)))))))
            have hs4 := hb4.size
            clear m0 m1 hb4 X3 HVH
            generalize hasV v ((r : Int), dq) = u at *
            cases u with
            | true =>
              have HK2 := Lib.hid (HCL.out.skip HD2.out (by rw [hbp]; rfl))
              clear hbp n0 n1
              go_wp2_with fail
              go_roundw
              case rel => exact ⟨k + 1, v, out, oa, oc, by omega, by go_num, HK2, X4.out⟩
              case measure => simp [intOf]; omega
            | false =>
              have hbt : beyond v ((r : Int), dq) = true := by rw [hbp]; rfl
              have HBT := Lib.hid hbt
              clear hbp hbt
              have hcell := X4.out.2.2.1.cell r (by rw [hvl]; exact hr16)
              have hfree := X4.out.2.2.1.free r
              have hzq := X4.out.2.2.1.lt
              have d0 := fun q os => cell_regrown n0 q os
              have d1 := fun q os => cell_regrown n1 q os
              have e0 := fun q os => cell_regrown hcell q os
              have hok := HCL.out.top r hr16
              have hok2 := hok.ok
              unfold okN at hok2
              have hxv : v.getD r 0 = v.getD (((r : Int), dq) : Dt).1.toNat 0 := by simp
              have HXV := Lib.hid hxv
              clear hxv hok
              generalize hx : v.getD r 0 = x at *
              have HXX := Lib.hid hx
              have hw1 : IntKind.i64.wrap (x + 1) = x + 1 := by simp [IntKind.wrap, IntKind.bits, IntKind.signed]; omega
              clear hx
              by_cases hq : dq = x + 1
              · have hqd : (dq == x + 1) = true := by simp [hq]
                have HK2 := Lib.hid (HCL.out.bump HR.out.1 HR.out.2 HD2.out HBT.out (by rw [← HXV.out]; exact hq))
                clear hq hok2
                go_upto_region 12 with fail
                clear hcell n0 n1 hfree
                refine wp_region_quiet_below (by kernel_rfl) (by kernel_rfl) ?_
                repeat (first | go_big_quiet_step (fail) | quiet_step (fail))
                refine wpQuiet_nil ?_
                intro _ hw'
                obtain ⟨⟨dq', osq⟩, hw''⟩ := hw'
                subst hw''
                have hb5 := below_regrown w4 dq' osq
                have X5 := Lib.hid (And.intro (X4.out.1.keep hb5) (And.intro (X4.out.2.1.keep hb5) (And.intro (X4.out.2.2.1.keep hb5) (And.intro (X4.out.2.2.2.1.below hb5 (Nat.le_refl _)) (And.intro (X4.out.2.2.2.2.1.below hb5 (by omega)) (X4.out.2.2.2.2.2.trans (hb5.mono X4.out.2.2.2.2.2.size)))))))
                have n0 := d0 dq' osq
                have n1 := d1 dq' osq
                have hcell := e0 dq' osq
                have hzz := Nat.lt_of_lt_of_le hzq hb5.size
                have hzz2 := Nat.lt_of_lt_of_le hzx4 hb5.size
                clear d0 d1 e0 X4 hb5
                generalize grow (redrawn w4 dq') osq = W at *
                have hfree := X5.out.2.2.1.free r
                go_wp2_with fail
                go_roundw
                case rel =>
                  refine ⟨k + 1, v.set r dq, out, oa, oc, by omega, by go_num, HK2, X5.out.1.other (by omega) _ _, X5.out.2.1.other (by omega) _ _, X5.out.2.2.1.set r dq (by rw [hvl]; exact hr16), X5.out.2.2.2.1.setc (by omega) _ _, X5.out.2.2.2.2.1.set (.inl (by omega)) _ _, X5.out.2.2.2.2.2.setCell (show w.heap.size ≤ w.heap.size + 2 by omega) _⟩
                case measure => simp [intOf]; omega
              · have hqd : (dq == x + 1) = false := by simp [hq]
                have HK2 := Lib.hid (HCL.out.add HD2.out HBT.out (by rw [← HXV.out]; exact hq))
                clear hq hok2
                go_upto_region 12 with fail
                clear hcell n0 n1 hfree
                refine wp_region_quiet_below (by kernel_rfl) (by kernel_rfl) ?_
                repeat (first | go_big_quiet_step (fail) | quiet_step (fail))
                refine wpQuiet_nil ?_
                intro _ hw'
                obtain ⟨⟨dq', osq⟩, hw''⟩ := hw'
                subst hw''
                have hb5 := below_regrown w4 dq' osq
                have X5 := Lib.hid (And.intro (X4.out.1.keep hb5) (And.intro (X4.out.2.1.keep hb5) (And.intro (X4.out.2.2.1.keep hb5) (And.intro (X4.out.2.2.2.1.below hb5 (Nat.le_refl _)) (And.intro (X4.out.2.2.2.2.1.below hb5 (by omega)) (X4.out.2.2.2.2.2.trans (hb5.mono X4.out.2.2.2.2.2.size)))))))
                have n0 := d0 dq' osq
                have n1 := d1 dq' osq
                have hzz2 := Nat.lt_of_lt_of_le hzx4 hb5.size
                have hs5 := hb5.size
                clear d0 d1 e0 X4 hb5
                generalize grow (redrawn w4 dq') osq = W at *
                have hcl16 := X5.out.2.2.1.cloud hvl
                have hle := HCL.out.le
                have hone := din_new W ((r : Int), dq)
                obtain ⟨q2, d2, w5, hr5, ho5, hb5⟩ := appD (c := 1) (X5.out.2.2.2.1.alloc (.cells #[.int .i64 (r : Int), .int .i64 dq] 50)) hone (by simp; omega) (out.length + 1) (by simp) (by omega)
                have hr5' : (Builtin.append_ #[25, 25] 25 #[.slice oa out.length oc, .slice (some ⟨W.heap.size, 0, none⟩) 1 1]).run Tryz.prog (W.alloc (.cells #[.int .i64 (r : Int), .int .i64 dq] 50)) = .ok (.slice q2 (out.length + 1) d2) w5 := hr5
                have hb5' : Go.RowKit.Below w2.heap.size W w5 := ((Below.refl _ W).alloc (by omega) _).trans hb5
                have X6 := Lib.hid (And.intro (X5.out.1.below hb5' (by omega)) (And.intro (X5.out.2.1.below hb5' (by omega)) (And.intro (X5.out.2.2.1.below hb5' (by omega)) (And.intro ho5 (And.intro (X5.out.2.2.2.2.1.below hb5' (Nat.le_refl _)) (X5.out.2.2.2.2.2.trans (hb5'.mono (by omega))))))))
                have hcl5 := X6.out.2.2.1.cloud hvl
                have hfree5 := X6.out.2.2.1.free 16
                have hz5 := X6.out.2.2.1.lt
                clear hr5 ho5 hb5 hb5' hone X5
                go_wp2_with (at_builtin; refine wpList_append_run rfl _ _ 25 25 rfl (.slice oa out.length oc) (.slice (some ⟨W.heap.size, 0, none⟩) 1 1) _ w5 rfl rfl hr5' ?_)
                go_wp2_with fail
                go_roundw
                case rel =>
                  have e9 : (out ++ [((r : Int), dq)]).length = out.length + 1 := by simp
                  refine ⟨k + 1, v, out ++ [((r : Int), dq)], q2, d2, by omega, by go_num, HK2, X6.out.1.other (by omega) _ _, X6.out.2.1.other (by omega) _ _, ?_, ?_, X6.out.2.2.2.2.1.set (.inl (by omega)) _ _, X6.out.2.2.2.2.2.setCell (show w.heap.size ≤ w.heap.size + 2 by omega) _⟩
                  · rw [e9]; exact X6.out.2.2.1.setS _ hvl
                  · rw [e9]; exact X6.out.2.2.2.1.setc (by omega) _ _
                case measure => simp [intOf]; omega
          · have h2 : chkD (dr, dq) = 2 := (chkD_cases _).resolve_left hc0
            have HK2 := Lib.hid (HCL.out.skip HD2.out (by rw [hbp, decide_eq_false hc0]; rfl))
            rw [h2]
            clear hbp m0 m1 h2 hc0
            go_wp2_with fail
            go_roundw
            case rel => exact ⟨k + 1, v, out, oa, oc, by omega, by go_num, HK2, X3.out⟩
            case measure => simp [intOf]; omega
        · have hfin := HDN.out v out k HCL.out (by omega)
          have hle := HCL.out.le
          have HF := Lib.hid (And.intro hfin (And.intro ho.from r1))
          clear hfin
          go_wp2_with (first
            | ((with_reducible refine cl_load ?_ (.tmp 3) ?_ (w.heap.size + 2) v (.slice oa out.length oc) ?_ ?_ ?_ ?_); rfl; rfl; rfl; exact HX.out.2.2.1; exact hvl)
            | ((with_reducible refine cl_store ?_ (.tmp 2) (.tmp 62) ?_ (w.heap.size + 1) v oa out.length oc ?_ ?_ ?_ ?_ ?_); rfl; rfl; rfl; rfl; exact ⟨_, _, HX.out.2.1, rfl⟩; exact hvl))
          refine bodyPost_ret (retC rfl _ _ (w.heap.size + 1) v (.slice oa out.length oc) rfl (CRow.of_put HX.out.2.1 v _) hvl) rfl ⟨⟨⟨v, out⟩, oa, oc, rfl, HF.out.1, ⟨hvl, ?_, ?_⟩, ?_⟩, belowRow HX.out.2.2.2.2.2 (Nat.le_succ _) _⟩
          · obtain ⟨oa', oc', he, hfo, -⟩ := HF.out.2.1
            injection he with h1 h2 h3
            subst h1
            exact (hfo.setRow (show w.heap.size + 1 < w2.heap.size by omega) _).mono (by omega)
          · show out.length ≤ 32768
            omega
          · refine ⟨show out.length ≤ c.l.length by omega, ?_⟩
            obtain ⟨oa', oc', he, hfo, hcc, -⟩ := HF.out.2.1
            injection he with h1 h2 h3
            rw [h3]
            exact hcc
end Go.Proofs.YtcedliaeipabnaaGreat

namespace Go.Proofs.YtcedliaeipabnaaGreat
set_option maxRecDepth 100000
open Go.RowKit Go.Sort

theorem own_zeros (w : World) (n cap : Nat) (_hn : n ≤ cap) (hc : cap ≤ maxLen) (hsz : n + (cap - n) = cap) : OwnD w.heap.size (.slice (some ⟨w.heap.size, 0, none⟩) 0 cap) [] (w.drew.alloc (.cells (Builtin.zeroCells #[.int .i64 0, .int .i64 0] n ++ Builtin.zeroCells #[.int .i64 0, .int .i64 0] (cap - n)) 50)) := by
  refine ⟨by simp [rowD], .inr ⟨w.heap.size, cap, _, rfl, Nat.le_refl _, heap_alloc_new w.drew _, Nat.zero_le _, hc, ?_, by simp [rowD]⟩⟩
  rw [Array.size_append, size_zeroCells, size_zeroCells, ← Nat.add_mul, hsz]
  simp

set_option maxHeartbeats 4000000 in
theorem growD (n : Nat) (hn : n ≤ 65536) (w : World) :
    Calls Tryz.prog 92 #[.slice none 0 0, .int .i64 (n : Int)] w fun e w' => ∃ v', e = .returned v' ∧ OwnD w.heap.size v' [] w' ∧ Go.RowKit.Below w.heap.size w w' := by
  by_cases h0 : n = 0
  · subst h0
    go_enter Tryz.func92, Tryz.ntmps92
    go_wp2_with fail
    go_ret
    exact ⟨_, rfl, ownD_nil _ _, Below.refl _ _⟩
  · obtain ⟨i0, hi, hz0, hz1, hz2⟩ := info_parts dotInfo
    have hap := Lib.run_append_nil_zeros (P := Tryz.prog) w 25 3 25 50 i0 _ .i64 .i64 Tryz.underlying25 Tryz.underlying3 hi hz0 n (by omega) (by rw [hz1]; omega) (by omega) (by rw [hz2]; omega)
    have hge := grownCap_ge w n 0 50
    have hle := grownCap_le_maxLen w n 0 50 (by unfold maxLen; omega)
    generalize grownCap w n 0 50 = cap at *
    have hown := own_zeros w n cap hge hle (by omega)
    have hB : Go.RowKit.Below w.heap.size w (w.drew.alloc (.cells (Builtin.zeroCells #[.int .i64 0, .int .i64 0] n ++ Builtin.zeroCells #[.int .i64 0, .int .i64 0] (cap - n)) 50)) := (Below.refl _ _).drew.alloc (Nat.le_refl _) _
    have HF := Lib.hid (And.intro hown hB)
    have hpos : (0 : Int) < (n : Int) := by omega
    obtain ⟨p, hs, hd⟩ := takeS (some ⟨w.heap.size, 0, none⟩) n cap 0 (by omega) hge hle
    have ht' : Tryz.prog.underlying 25 = some (.slice (Tryz.prog.elem 25)) := by simp [Program.elem, Tryz.underlying25]
    have he : Tryz.prog.elem 25 = 50 := by simp [Program.elem, Tryz.underlying25]
    clear hown hB hs hd
    have hcap0 : cap ≠ 0 := by omega
    have hsl : ∀ W, (Instr.slice 25 (.slice (some ⟨w.heap.size, 0, none⟩) n cap) none (some (.int .i64 0)) none).run Tryz.prog W = .ok (.slice (some ⟨w.heap.size, 0, none⟩) 0 cap) W := fun W => by
      have h := run_slice_h (P := Tryz.prog) W 25 (some ⟨w.heap.size, 0, none⟩) n cap ht' .i64 0 (by omega) (by omega)
      rw [he, Tryz.sizeOf50] at h
      rw [h]
      simp [Result.andThen, sliced, hcap0, Addr.add]
    clear ht' he hi hz0 hz1 hz2
    go_enter Tryz.func92, Tryz.ntmps92
    go_wp2_with (at_builtin; refine Lib.wpList_append_run _ rfl _ _ 25 3 rfl (.slice none 0 0) (.int .i64 (n : Int)) rfl rfl _ _ hap ?_)
    go_ret
    exact ⟨_, rfl, HF.out.1, HF.out.2⟩

/-- two slices, one behind the other, in a block -/
structure TwoS (w : World) (g : Nat) (x y : Value) : Prop where
  c0 : w.cell? ⟨g, 0, none⟩ = some x
  c1 : w.cell? ⟨g, 1, none⟩ = some y
  lt : g < w.heap.size
theorem TwoS.below {w w' : World} {g : Nat} {x y : Value} (h : TwoS w g x y) (hb : Go.RowKit.Below w.heap.size w w') : TwoS w' g x y :=
  ⟨by rw [hb.cell (p := ⟨g, 0, none⟩) h.lt]; exact h.c0, by rw [hb.cell (p := ⟨g, 1, none⟩) h.lt]; exact h.c1, Nat.lt_of_lt_of_le h.lt hb.size⟩

set_option maxHeartbeats 8000000 in
theorem concatD (x y : List Dt) (a b : Option Addr) (ca cb g : Nat) (w : World) (hx : DIn w a x) (hy : DIn w b y) (hl : x.length + y.length ≤ 65536) (hg : TwoS w g (.slice a x.length ca) (.slice b y.length cb)) :
    Calls Tryz.prog 67 #[.slice (some ⟨g, 0, none⟩) 2 2] w fun e w' => ∃ v', e = .returned v' ∧ OwnD w.heap.size v' (x ++ y) w' ∧ Go.RowKit.Below w.heap.size w w' := by
  have H := Lib.hid (And.intro hx (And.intro hy hg))
  have c0 := hg.c0
  have c1 := hg.c1
  have hlt := hg.lt
  clear hx hy hg
  go_enter Tryz.func67, Tryz.ntmps67
  go_wp2_with fail
  go_loopw [3, 11] (fun z i wr => ((i = .int .i64 0 ∧ z = .int .i64 0) ∨ (i = .int .i64 1 ∧ z = .int .i64 (x.length : Int)) ∨ (i = .int .i64 2 ∧ z = .int .i64 ((x.length : Int) + (y.length : Int)))) ∧ wr = w) (fun _ i _ => 2 - (intOf i).toNat)
  case atStart => exact ⟨.inl ⟨rfl, rfl⟩, rfl⟩
  case round =>
    obtain ⟨hrel, rfl⟩ := hrel
    rcases hrel with ⟨rfl, rfl⟩ | ⟨rfl, rfl⟩ | ⟨rfl, rfl⟩
    · go_wp2_with fail
      go_roundw
      case rel => exact ⟨.inr (.inl ⟨rfl, rfl⟩), trivial⟩
      case measure => simp [intOf]
    · go_wp2_with fail
      go_roundw
      case rel => exact ⟨.inr (.inr ⟨rfl, rfl⟩), trivial⟩
      case measure => simp [intOf]
    · have hgr := growD (x.length + y.length) hl wr
      rw [Int.natCast_add] at hgr
      have HG := Lib.hid hgr
      clear hgr
      go_wp2_with fail
      refine HG.out.mono ?_
      rintro e w2 ⟨v2, rfl, hown2, hb2⟩
      have HO := Lib.hid hown2
      have H2 := Lib.hid (And.intro (H.out.1.below hb2) (And.intro (H.out.2.1.below hb2) (H.out.2.2.below hb2)))
      have hb2s := hb2.size
      have HB2 := Lib.hid hb2
      clear HG c0 c1 hown2 hb2
      have c0 := H2.out.2.2.c0
      have c1 := H2.out.2.2.c1
      have hlt2 := H2.out.2.2.lt
      go_wp2_with fail
      obtain ⟨W, hWW⟩ : ∃ W, W = wr.heap.size := ⟨_, rfl⟩
      go_loopw [6, 27] (fun v i wq => ((i = .int .i64 0 ∧ OwnD wr.heap.size v [] wq) ∨ (i = .int .i64 1 ∧ OwnD wr.heap.size v x wq) ∨ (i = .int .i64 2 ∧ OwnD wr.heap.size v (x ++ y) wq)) ∧ Go.RowKit.Below wr.heap.size wr wq) (fun _ i _ => 2 - (intOf i).toNat)
      case atStart => exact ⟨.inl ⟨rfl, HO.out⟩, HB2.out⟩
      case round =>
        rename World => wq
        obtain ⟨hrel, hb3⟩ := hrel
        have HB3 := Lib.hid hb3
        have h3 := H.out.2.2.below hb3
        have HD3 := Lib.hid (And.intro (H.out.1.below hb3) (H.out.2.1.below hb3))
        have c0 := h3.c0
        have c1 := h3.c1
        have hlt3 := h3.lt
        have hbs := hb3.size
        clear h3 hb3
        rcases hrel with ⟨rfl, ho⟩ | ⟨rfl, ho⟩ | ⟨rfl, ho⟩
        · obtain ⟨oa, oc, rfl, -, -, -⟩ := ho.din2
          obtain ⟨q, qc, w4, hr4, ho4, hb4⟩ := appD (c := ca) ho HD3.out.1 hbs x.length (by simp) (by omega)
          have H4 := Lib.hid (And.intro ho4 (HB3.out.trans hb4))
          clear ho ho4 hb4
          simp only [List.length_nil] at hr4 ⊢
          go_wp2_with (at_builtin; refine wpList_append_run rfl _ _ 25 25 rfl (.slice oa 0 oc) (.slice a x.length ca) _ w4 rfl rfl hr4 ?_)
          go_roundw
          case rel => exact ⟨.inr (.inl ⟨rfl, H4.out.1⟩), H4.out.2⟩
          case measure => simp [intOf]
        · obtain ⟨oa, oc, rfl, -, -, -⟩ := ho.din2
          obtain ⟨q, qc, w4, hr4, ho4, hb4⟩ := appD (c := cb) ho HD3.out.2 hbs (x.length + y.length) rfl (by omega)
          have e9 : (x ++ y).length = x.length + y.length := List.length_append
          have H4 := Lib.hid (And.intro ho4 (HB3.out.trans hb4))
          clear ho ho4 hb4
          go_wp2_with (at_builtin; refine wpList_append_run rfl _ _ 25 25 rfl (.slice oa x.length oc) (.slice b y.length cb) _ w4 rfl rfl hr4 ?_)
          go_roundw
          case rel => exact ⟨.inr (.inr ⟨rfl, H4.out.1⟩), H4.out.2⟩
          case measure => simp [intOf]
        · have HF := Lib.hid (And.intro ho HB3.out)
          clear ho
          go_wp2_with fail
          go_ret
          exact ⟨_, rfl, HF.out.1, HF.out.2⟩
end Go.Proofs.YtcedliaeipabnaaGreat

namespace Go.Proofs.YtcedliaeipabnaaGreat
set_option maxRecDepth 100000
open Go.RowKit Go.Sort Go.Shelf

theorem cmpD_neg (a b : Dt) : cmpD a b < 0 ↔ ltD a b = true := by
  unfold cmpD
  by_cases h : a = b
  · subst h; simp [ltD_irr]
  · rw [if_neg h]
    by_cases h2 : ltD a b = true
    · simp [h2]
    · simp [h2]
theorem cmpD_zero (a b : Dt) : cmpD a b = 0 ↔ a = b := by
  unfold cmpD
  by_cases h : a = b
  · simp [h]
  · rw [if_neg h]
    split <;> simp [h]

set_option maxHeartbeats 1000000 in
theorem orderK (a b : Dt) (w : World) : Calls Tryz.prog 122 #[.agg #[.int .i64 a.1, .int .i64 a.2], .agg #[.int .i64 b.1, .int .i64 b.2]] w fun e w' => e = .returned (.int .i64 (cmpD a b)) ∧ Go.RowKit.Below w.heap.size w w' := by
  have hl := fun W => compareD a b W
  have h1 := boxD2_below w a b
  have h2 := h1.trans ((cmpW_below (boxD (boxD w a) b) a b).mono (by simp [boxD_size]; omega))
  have HB := Lib.hid h2
  clear h1 h2
  unfold boxD at HB
  generalize cmpD a b = c at *
  obtain ⟨r, n⟩ := a
  obtain ⟨s, m⟩ := b
  simp only at *
  go_enter Tryz.func122, Tryz.ntmps122
  go_wp2_with fail
  refine (hl _).mono ?_
  rintro e w1 ⟨rfl, rfl⟩
  go_wp2
  go_ret
  exact ⟨rfl, HB.out⟩

theorem ent_order : ∀ args w, (callFunc 122 args).run Tryz.prog w = .ok (.enter 122 args) w := enters_of Tryz.func122 (by kernel_rfl) rfl

/-- none is less than one ahead of it -/
def Stands (l : List Dt) : Prop := l.Pairwise (fun a b => ltD b a = false)
theorem stands_of {l : List Dt} (h : ∀ (j : Nat) (x y : Dt), l[j]? = some x → l[j + 1]? = some y → ltD y x = false) : Stands l := by
  unfold Stands
  have key : ∀ (d i : Nat) (x y : Dt), l[i]? = some x → l[i + d + 1]? = some y → ltD y x = false := by
    intro d
    induction d with
    | zero => intro i x y hx hy; exact h i x y hx hy
    | succ d ih =>
      intro i x y hx hy
      have hlt : i + (d + 1) + 1 < l.length := (List.getElem?_eq_some_iff.1 hy).1
      obtain ⟨z, hz⟩ : ∃ z, l[i + d + 1]? = some z := ⟨_, List.getElem?_eq_getElem (by omega)⟩
      have h1 := ih i x z hx hz
      have h2 := h (i + d + 1) z y hz (by rw [show i + d + 1 + 1 = i + (d + 1) + 1 by omega]; exact hy)
      rw [ltD_no] at *
      omega
  rw [List.pairwise_iff_getElem]
  intro i j hi hj hij
  obtain ⟨d, rfl⟩ : ∃ d, j = i + d + 1 := ⟨j - i - 1, by omega⟩
  exact key d i _ _ (List.getElem?_eq_getElem hi) (List.getElem?_eq_getElem hj)

set_option maxHeartbeats 4000000 in
theorem isSortedD (l : List Dt) (a : Option Addr) (cap : Nat) (w : World) (h : DIn w a l) (hl : l.length ≤ 65536) :
    Calls Tryz.prog 121 #[.slice a l.length cap, .func (.func 122) #[] #[]] w fun e w' => (∃ b : Bool, e = .returned (.bool b) ∧ (b = true → Stands l)) ∧ Go.RowKit.Below w.heap.size w w' := by
  have hent := ent_order
  have H := Lib.hid h
  clear h
  go_enter Tryz.func121, Tryz.ntmps121
  go_wp2_with fail
  go_loopw [5] (fun x wr => ∃ i : Int, x = .int .i64 i ∧ -1 ≤ i ∧ i < l.length ∧ Hid (∀ (j : Nat) (x y : Dt), i ≤ (j : Int) → l[j]? = some x → l[j + 1]? = some y → ltD y x = false) ∧ Go.RowKit.Below w.heap.size w wr) (fun x _ => (intOf x).toNat)
  case atStart => exact ⟨(l.length : Int) - 1, by go_num, by omega, by omega, Lib.hid (fun j x y hj hx hy => by have := (List.getElem?_eq_some_iff.1 hy).1; omega), Below.refl _ _⟩
  case round =>
    obtain ⟨i, rfl, hi0, hi1, HK, hb⟩ := hrel
    have HB := Lib.hid hb
    have hbs := hb.size
    clear hb
    by_cases hpos : 0 < i
    · obtain ⟨m, rfl⟩ : ∃ m : Nat, i = (m : Int) + 1 := ⟨(i - 1).toNat, by omega⟩
      obtain ⟨x, hx⟩ : ∃ x, l[m]? = some x := ⟨_, List.getElem?_eq_getElem (by omega)⟩
      obtain ⟨y, hy⟩ : ∃ y, l[m + 1]? = some y := ⟨_, List.getElem?_eq_getElem (by omega)⟩
      obtain ⟨b, off, rfl, hbl, c0, c1⟩ := (H.out.below HB.out).at hx
      obtain ⟨b', off', hbe, hbl', p0, p1⟩ := (H.out.below HB.out).at hy
      have hbe2 := Option.some.inj hbe
      obtain ⟨rfl, rfl⟩ : b = b' ∧ off = off' := by injection hbe2 with h1 h2; exact ⟨h1, h2⟩
      have hj0 : (0 : Int) ≤ (m : Int) := by omega
      have hj1 : (m : Int) < (l.length : Int) := by omega
      have hj2 : (m : Int) + 1 < (l.length : Int) := by omega
      have hj3 : IntKind.i64.wrap (m : Int) = m := by simp [IntKind.wrap, IntKind.bits, IntKind.signed]; omega
      have hj4 : (0 : Int) ≤ (m : Int) + 1 := by omega
      have r0 := fun d os => cell_regrown c0 d os
      have r1 := fun d os => cell_regrown c1 d os
      have r2 := fun d os => cell_regrown p0 d os
      have r3 := fun d os => cell_regrown p1 d os
      have cX := fun d os => Calls.regrown_of (orderK y x (grow (redrawn wr d) os))
      have hneg := cmpD_neg y x
      have HXY := Lib.hid (And.intro hx hy)
      generalize cmpD y x = c at *
      have HCX := Lib.hid cX
      obtain ⟨xr, xq⟩ := x
      obtain ⟨yr, yq⟩ := y
      simp only at r0 r1 r2 r3 HCX
      clear hx hy cX hbe hbe2 hbl'
      by_cases hc : c < 0
      · have hd : decide (c < 0) = true := by simp [hc]
        clear hneg hpos hi0 hi1
        go_upto_region 4 with fail
        clear c0 c1 p0 p1
        refine wp_region_quiet_below (by kernel_rfl) (by kernel_rfl) ?_
        repeat (first | go_big_quiet_step ((go_at_call 122; with_reducible exact HCX.out _ _)) | quiet_step ((go_at_call 122; with_reducible exact HCX.out _ _)))
        refine wpQuiet_nil ?_
        intro _ hw'
        obtain ⟨⟨dq, osq⟩, hw''⟩ := hw'
        subst hw''
        have HB9 := Lib.hid (HB.out.trans ((below_regrown wr dq osq).mono hbs))
        clear HCX r0 r1 r2 r3
        generalize grow (redrawn wr dq) osq = W at *
        go_wp2_with fail
        go_ret
        exact ⟨⟨false, rfl, fun h => by cases h⟩, HB9.out⟩
      · have hd : decide (c < 0) = false := by simp; omega
        have HK2 := Lib.hid (show ∀ (j : Nat) (x y : Dt), (m : Int) ≤ (j : Int) → l[j]? = some x → l[j + 1]? = some y → ltD y x = false from fun j x y hj hx hy => by
          by_cases e : j = m
          · subst e
            rw [HXY.out.1] at hx
            rw [HXY.out.2] at hy
            obtain rfl := Option.some.inj hx
            obtain rfl := Option.some.inj hy
            exact Bool.eq_false_iff.2 (fun h => hc (hneg.2 h))
          · exact HK.out j x y (by omega) hx hy)
        clear hneg hpos hi0 hi1
        go_upto_region 4 with fail
        clear c0 c1 p0 p1
        refine wp_region_quiet_below (by kernel_rfl) (by kernel_rfl) ?_
        repeat (first | go_big_quiet_step ((go_at_call 122; with_reducible exact HCX.out _ _)) | quiet_step ((go_at_call 122; with_reducible exact HCX.out _ _)))
        refine wpQuiet_nil ?_
        intro _ hw'
        obtain ⟨⟨dq, osq⟩, hw''⟩ := hw'
        subst hw''
        have HB9 := Lib.hid (HB.out.trans ((below_regrown wr dq osq).mono hbs))
        clear HCX r0 r1 r2 r3
        generalize grow (redrawn wr dq) osq = W at *
        go_wp2_with fail
        go_roundw
        case rel => exact ⟨(m : Int), by go_num, by omega, by omega, HK2, HB9.out⟩
        case measure => simp [intOf] <;> omega
    · have hfin : Stands l := stands_of fun j x y hx hy => HK.out j x y (by omega) hx hy
      have HF := Lib.hid hfin
      clear hfin
      go_wp2_with fail
      go_ret
      first | exact ⟨⟨true, rfl, fun _ => HF.out⟩, HB.out⟩ | exact ⟨.inr ⟨rfl, HF.out⟩, HB.out⟩

/-- the place of the first one that is not less -/
theorem found_iff {l : List Dt} (hs : Stands l) (d : Dt) {i : Nat} (h1 : ∀ (k : Nat) (x : Dt), k < i → l[k]? = some x → ltD x d = true) (h2 : ∀ (k : Nat) (x : Dt), i ≤ k → l[k]? = some x → ltD x d = false) :
    decide (d ∈ l) = true ↔ l[i]? = some d := by
  rw [decide_eq_true_eq]
  constructor
  · intro hd
    obtain ⟨j, hj, hjd⟩ := List.mem_iff_getElem.1 hd
    have hjd' : l[j]? = some d := by rw [List.getElem?_eq_getElem hj, hjd]
    rcases Nat.lt_or_ge j i with h | h
    · have := h1 j d h hjd'
      rw [ltD_irr] at this; cases this
    · rcases Nat.eq_or_lt_of_le h with e | h3
      · rw [e]; exact hjd'
      · obtain ⟨x, hx⟩ : ∃ x, l[i]? = some x := ⟨_, List.getElem?_eq_getElem (by omega)⟩
        have h4 := h2 i x (Nat.le_refl _) hx
        have h5 := List.pairwise_iff_getElem.1 hs i j (by omega) hj h3
        obtain ⟨hil, hxe⟩ := List.getElem?_eq_some_iff.1 hx
        rw [hxe, hjd] at h5
        rcases ltD_tri x d with h6 | h6 | h6
        · rw [h4] at h6; cases h6
        · rw [hx, h6]
        · rw [h5] at h6; cases h6
  · exact fun h => List.mem_of_getElem? h

end Go.Proofs.YtcedliaeipabnaaGreat

namespace Go.Proofs.YtcedliaeipabnaaGreat
set_option linter.unusedSimpArgs false
set_option linter.unusedVariables false
set_option maxRecDepth 100000
open Go.RowKit Go.Sort Go.Shelf

/-- a block that holds dot.Less -/
structure LessD (w : World) (b : Nat) : Prop where
  cell : w.cell? ⟨b, 0, none⟩ = some (.func (.func 75) #[] #[])
  lt : b < w.heap.size
theorem LessD.below {w w' : World} {b : Nat} (h : LessD w b) (hb : Go.RowKit.Below w.heap.size w w') : LessD w' b :=
  ⟨by rw [hb.cell (p := ⟨b, 0, none⟩) h.lt]; exact h.cell, Nat.lt_of_lt_of_le h.lt hb.size⟩
abbrev hasFD (b : Nat) : Value := .func (.func 98) #[] #[.pointer (some ⟨b, 0, none⟩)]
theorem ent_hasD : ∀ args w, (callFunc 98 args).run Tryz.prog w = .ok (.enter 98 args) w := enters_of Tryz.func98 (by kernel_rfl) rfl

set_option maxHeartbeats 1000000 in
theorem hasD1 (a b : Dt) (bl : Nat) (w : World) (h : LessD w bl) : Calls Tryz.prog 98 #[.agg #[.int .i64 a.1, .int .i64 a.2], .agg #[.int .i64 b.1, .int .i64 b.2], .pointer (some ⟨bl, 0, none⟩)] w fun e w' => e = .returned (.int .i64 (cmpD a b)) ∧ Go.RowKit.Below w.heap.size w w' := by
  have hl := fun W => compareD a b W
  have h1 := boxD2_below w a b
  have hc := (h.below h1).cell
  have h2 := h1.trans ((cmpW_below (boxD (boxD w a) b) a b).mono (by simp [boxD_size]; omega))
  have HB := Lib.hid h2
  clear h1 h2 h
  unfold boxD at HB hc
  generalize cmpD a b = c at *
  obtain ⟨r, n⟩ := a
  obtain ⟨s, m⟩ := b
  simp only at *
  go_enter Tryz.func98, Tryz.ntmps98
  go_wp2_with fail
  refine (hl _).mono ?_
  rintro e w1 ⟨rfl, rfl⟩
  go_wp2
  go_ret
  exact ⟨rfl, HB.out⟩

set_option maxHeartbeats 4000000 in
theorem searchD (l : List Dt) (d : Dt) (a : Option Addr) (cap : Nat) (w : World) (h : DIn w a l) (hl : l.length ≤ 65536) (hs : Stands l) (bl : Nat) (hle : LessD w bl) :
    Calls Tryz.prog 97 #[.slice a l.length cap, .agg #[.int .i64 d.1, .int .i64 d.2], .func (.func 98) #[] #[.pointer (some ⟨bl, 0, none⟩)]] w fun e w' => (∃ i : Nat, e = .returned (.tuple #[.int .i64 (i : Int), .bool (decide (d ∈ l))])) ∧ Go.RowKit.Below w.heap.size w w' := by
  have hent := ent_hasD
  have H := Lib.hid h
  have HS := Lib.hid hs
  have hm : ∀ i : Nat, (∀ (k : Nat) (x : Dt), k < i → l[k]? = some x → ltD x d = true) → (∀ (k : Nat) (x : Dt), i ≤ k → l[k]? = some x → ltD x d = false) → (decide (d ∈ l) = true ↔ l[i]? = some d) := fun i h1 h2 => found_iff HS.out d h1 h2
  have HM := Lib.hid hm
  have hdp : ∃ u, u = decide (d ∈ l) := ⟨_, rfl⟩
  obtain ⟨u, hu⟩ := hdp
  rw [← hu] at HM
  rw [← hu]
  clear hu hm
  have hB0 := boxD_below w d
  have q0 : (boxD w d).cell? ⟨w.heap.size, 0, none⟩ = some (.int .i64 d.1) := by unfold boxD; rw [Joins.cell_of_block (heap_alloc_new w _)]; rfl
  have q1 : (boxD w d).cell? ⟨w.heap.size, 1, none⟩ = some (.int .i64 d.2) := by unfold boxD; rw [Joins.cell_of_block (heap_alloc_new w _)]; rfl
  have HQ := Lib.hid (And.intro q0 (And.intro q1 (And.intro hB0 (show w.heap.size < (boxD w d).heap.size by rw [boxD_size]; omega))))
  have HLE := Lib.hid (hle.below hB0)
  clear h hs hB0 q0 q1 hle
  have hX := fun x W (hW : LessD W bl) => hasD1 x d bl W hW
  have hN := fun x => cmpD_neg x d
  have hZ := fun x => cmpD_zero x d
  have HX := Lib.hid (And.intro hX (And.intro hN hZ))
  clear hX hN hZ
  unfold boxD at HQ HLE
  obtain ⟨dr, dq⟩ := d
  simp only at HQ HX HM HLE ⊢
  go_enter Tryz.func97, Tryz.ntmps97
  go_wp2_with fail
  generalize hW0 : w.alloc (.cells #[.int .i64 dr, .int .i64 dq] 50) = W0 at *
  clear hW0
  go_loopw [9, 10] (fun x y wr => ∃ i j : Nat, i ≤ j ∧ j ≤ l.length ∧ x = .int .i64 i ∧ y = .int .i64 j ∧ Hid (∀ (k : Nat) (x : Dt), k < i → l[k]? = some x → ltD x (dr, dq) = true) ∧ Hid (∀ (k : Nat) (x : Dt), j ≤ k → l[k]? = some x → ltD x (dr, dq) = false) ∧ Go.RowKit.Below W0.heap.size W0 wr) (fun x y _ => (intOf y).toNat - (intOf x).toNat)
  case atStart => exact ⟨0, l.length, by omega, Nat.le_refl _, rfl, rfl, Lib.hid (fun k x hk => absurd hk (by omega)), Lib.hid (fun k x hk hf => absurd (List.getElem?_eq_some_iff.1 hf).1 (by omega)), Below.refl _ _⟩
  case round =>
    obtain ⟨i, j, hij, hj, rfl, rfl, h1, h2, hb⟩ := hrel
    have HB := Lib.hid hb
    have hbs := hb.size
    have k0 : wr.cell? ⟨w.heap.size, 0, none⟩ = some (.int .i64 dr) := by rw [hb.cell (p := ⟨w.heap.size, 0, none⟩) HQ.out.2.2.2]; exact HQ.out.1
    have k1 : wr.cell? ⟨w.heap.size, 1, none⟩ = some (.int .i64 dq) := by rw [hb.cell (p := ⟨w.heap.size, 1, none⟩) HQ.out.2.2.2]; exact HQ.out.2.1
    have s0 := fun d os => cell_regrown k0 d os
    have s1 := fun d os => cell_regrown k1 d os
    have hin : DIn wr a l := (H.out.below HQ.out.2.2.1).below hb
    have hle2 := HLE.out.below hb
    clear hb
    by_cases hlt : i < j
    · obtain ⟨x, hx⟩ : ∃ x, l[(i + j) / 2]? = some x := ⟨_, List.getElem?_eq_getElem (by omega)⟩
      obtain ⟨b, off, rfl, hbl, c0, c1⟩ := hin.at hx
      have r0 := fun d os => cell_regrown c0 d os
      have r1 := fun d os => cell_regrown c1 d os
      have cX := fun d os => Calls.regrown_of (HX.out.1 x (grow (redrawn wr d) os) (hle2.below (below_regrown wr d os)))
      have hneg := HX.out.2.1 x
      have HXX := Lib.hid hx
      generalize cmpD x (dr, dq) = c at *
      have HCX := Lib.hid cX
      obtain ⟨xr, xq⟩ := x
      simp only at r0 r1 HCX
      clear hx cX hin hle2
      have hm0 : (((i + j) / 2 : Nat) : Int) < (l.length : Int) := by omega
      have hm1 : (0 : Int) ≤ (((i + j) / 2 : Nat) : Int) := by omega
      by_cases hc : c < 0
      · have hd : decide (c < 0) = true := by simp [hc]
        have hlt1 : ltD (xr, xq) (dr, dq) = true := hneg.1 hc
        have HK2 := Lib.hid (show ∀ (k : Nat) (x : Dt), k < (i + j) / 2 + 1 → l[k]? = some x → ltD x (dr, dq) = true from fun k y hk hy => by
          by_cases e : k = (i + j) / 2
          · subst e
            rw [HXX.out] at hy
            obtain rfl := Option.some.inj hy
            exact hlt1
          · obtain ⟨hk1, hk2⟩ := List.getElem?_eq_some_iff.1 hy
            obtain ⟨hk3, hk4⟩ := List.getElem?_eq_some_iff.1 HXX.out
            have h5 := List.pairwise_iff_getElem.1 HS.out k ((i + j) / 2) hk1 hk3 (by omega)
            rw [hk2, hk4] at h5
            rcases ltD_tri y (dr, dq) with h6 | h6 | h6
            · exact h6
            · subst h6; rw [hlt1] at h5; cases h5
            · have := ltD_trans hlt1 h6; rw [this] at h5; cases h5)
        clear hneg hlt1
        go_upto_region 5 with fail
        clear c0 c1 k0 k1
        refine wp_region_quiet_below (by kernel_rfl) (by kernel_rfl) ?_
        repeat (first | go_big_quiet_step ((go_at_call 98; with_reducible exact HCX.out _ _)) | quiet_step ((go_at_call 98; with_reducible exact HCX.out _ _)))
        refine wpQuiet_nil ?_
        intro _ hw'
        obtain ⟨⟨dq', osq⟩, hw''⟩ := hw'
        subst hw''
        have HB9 := Lib.hid (HB.out.trans ((below_regrown wr dq' osq).mono hbs))
        clear HCX r0 r1 s0 s1
        generalize grow (redrawn wr dq') osq = W at *
        go_wp2_with fail
        go_roundw
        case rel => exact ⟨(i + j) / 2 + 1, j, by omega, hj, by go_num, rfl, HK2, h2, HB9.out⟩
        case measure => simp [intOf]; omega
      · have hd : decide (c < 0) = false := by simp; omega
        have hlt1 : ltD (xr, xq) (dr, dq) = false := Bool.eq_false_iff.2 (fun h => hc (hneg.2 h))
        have HK2 := Lib.hid (show ∀ (k : Nat) (x : Dt), (i + j) / 2 ≤ k → l[k]? = some x → ltD x (dr, dq) = false from fun k y hk hy => by
          by_cases e : k = (i + j) / 2
          · subst e
            rw [HXX.out] at hy
            obtain rfl := Option.some.inj hy
            exact hlt1
          · obtain ⟨hk1, hk2⟩ := List.getElem?_eq_some_iff.1 hy
            obtain ⟨hk3, hk4⟩ := List.getElem?_eq_some_iff.1 HXX.out
            have h5 := List.pairwise_iff_getElem.1 HS.out ((i + j) / 2) k hk3 hk1 (by omega)
            rw [hk2, hk4] at h5
            refine Bool.eq_false_iff.2 fun h6 => ?_
            rcases ltD_tri (xr, xq) y with h7 | h7 | h7
            · have := ltD_trans h7 h6; rw [this] at hlt1; cases hlt1
            · rw [h7] at hlt1; rw [h6] at hlt1; cases hlt1
            · rw [h5] at h7; cases h7)
        clear hneg hlt1
        go_upto_region 5 with fail
        clear c0 c1 k0 k1
        refine wp_region_quiet_below (by kernel_rfl) (by kernel_rfl) ?_
        repeat (first | go_big_quiet_step ((go_at_call 98; with_reducible exact HCX.out _ _)) | quiet_step ((go_at_call 98; with_reducible exact HCX.out _ _)))
        refine wpQuiet_nil ?_
        intro _ hw'
        obtain ⟨⟨dq', osq⟩, hw''⟩ := hw'
        subst hw''
        have HB9 := Lib.hid (HB.out.trans ((below_regrown wr dq' osq).mono hbs))
        clear HCX r0 r1 s0 s1
        generalize grow (redrawn wr dq') osq = W at *
        go_wp2_with fail
        go_roundw
        case rel => exact ⟨i, (i + j) / 2, by omega, by omega, rfl, by go_num, h1, HK2, HB9.out⟩
        case measure => simp [intOf]; omega
    · obtain rfl : i = j := by omega
      have hfound := HM.out i h1.out h2.out
      by_cases hil : i < l.length
      · obtain ⟨x, hx⟩ : ∃ x, l[i]? = some x := ⟨_, List.getElem?_eq_getElem hil⟩
        obtain ⟨b, off, rfl, hbl, c0, c1⟩ := hin.at hx
        have r0 := fun d os => cell_regrown c0 d os
        have r1 := fun d os => cell_regrown c1 d os
        have cX := fun d os => Calls.regrown_of (HX.out.1 x (grow (redrawn wr d) os) (hle2.below (below_regrown wr d os)))
        have hzero := HX.out.2.2 x
        have hue : (cmpD x (dr, dq) == 0) = u := by
          rw [Bool.eq_iff_iff]
          rw [hfound, hx]
          simp only [beq_iff_eq, Option.some.injEq]
          exact hzero
        generalize cmpD x (dr, dq) = c at *
        have HCX := Lib.hid cX
        obtain ⟨xr, xq⟩ := x
        simp only at r0 r1 HCX
        have hm0 : (i : Int) < (l.length : Int) := by omega
        have hm2 : decide ((i : Int) < (l.length : Int)) = true := by simp; omega
        clear hx cX hin hzero hfound hlt hle2
        go_upto_region 8 with fail
        clear c0 c1 k0 k1
        refine wp_region_quiet_below (by kernel_rfl) (by kernel_rfl) ?_
        repeat (first | go_big_quiet_step ((go_at_call 98; with_reducible exact HCX.out _ _)) | quiet_step ((go_at_call 98; with_reducible exact HCX.out _ _)))
        refine wpQuiet_nil ?_
        intro _ hw'
        obtain ⟨⟨dq', osq⟩, hw''⟩ := hw'
        subst hw''
        have HB9 := Lib.hid (HQ.out.2.2.1.trans ((HB.out.trans ((below_regrown wr dq' osq).mono hbs)).mono HQ.out.2.2.1.size))
        clear HCX r0 r1 s0 s1
        generalize grow (redrawn wr dq') osq = W at *
        go_wp2_with fail
        go_ret2
        exact ⟨⟨i, by first | rfl | (rw [← hue]; rfl) | (rw [hue]; rfl)⟩, HB9.out⟩
      · have hue : u = false := by
          refine Bool.eq_false_iff.2 fun h => ?_
          have := (List.getElem?_eq_some_iff.1 (hfound.1 h)).1
          omega
        have hm2 : decide ((i : Int) < (l.length : Int)) = false := by simp; omega
        subst hue
        clear hin hfound hlt hle2
        go_upto_region 8 with fail
        clear k0 k1
        refine wp_region_quiet_below (by kernel_rfl) (by kernel_rfl) ?_
        repeat (first | go_big_quiet_step (fail) | quiet_step (fail))
        refine wpQuiet_nil ?_
        intro _ hw'
        obtain ⟨⟨dq', osq⟩, hw''⟩ := hw'
        subst hw''
        have HB9 := Lib.hid (HQ.out.2.2.1.trans ((HB.out.trans ((below_regrown wr dq' osq).mono hbs)).mono HQ.out.2.2.1.size))
        clear s0 s1
        generalize grow (redrawn wr dq') osq = W at *
        go_wp2_with fail
        go_ret2
        exact ⟨⟨i, rfl⟩, HB9.out⟩

set_option maxHeartbeats 1000000 in
theorem lhasD (l : List Dt) (d : Dt) (a : Option Addr) (cap : Nat) (w : World) (h : DIn w a l) (hl : l.length ≤ 65536) (hs : Stands l) :
    Calls Tryz.prog 74 #[.slice a l.length cap, .func (.func 75) #[] #[], .agg #[.int .i64 d.1, .int .i64 d.2]] w fun e w' => e = .returned (.bool (decide (d ∈ l))) ∧ Go.RowKit.Below w.heap.size w w' := by
  have hB0 : Go.RowKit.Below w.heap.size w (boxD (w.alloc (.cells #[.func (.func 75) #[] #[]] 98)) d) := ((Below.refl _ w).alloc (Nat.le_refl _) _).trans ((boxD_below _ d).mono (by simp))
  have hle : LessD (boxD (w.alloc (.cells #[.func (.func 75) #[] #[]] 98)) d) w.heap.size :=
    LessD.below ⟨by rw [Joins.cell_of_block (heap_alloc_new w _)]; rfl, by simp⟩ (boxD_below _ d)
  have HS := Lib.hid (searchD l d a cap _ (h.below hB0) hl hs w.heap.size hle)
  have HB := Lib.hid hB0
  clear h hs hB0 hle
  unfold boxD at HS HB
  generalize decide (d ∈ l) = u at *
  obtain ⟨dr, dq⟩ := d
  simp only at HS HB ⊢
  go_enter Tryz.func74, Tryz.ntmps74
  go_wp2_with fail
  refine HS.out.mono ?_
  rintro e w1 ⟨⟨i, rfl⟩, hb⟩
  have H1 := Lib.hid (HB.out.trans (hb.mono HB.out.size))
  clear hb HS
  go_wp2_with fail
  go_ret
  exact ⟨rfl, H1.out⟩
end Go.Proofs.YtcedliaeipabnaaGreat
