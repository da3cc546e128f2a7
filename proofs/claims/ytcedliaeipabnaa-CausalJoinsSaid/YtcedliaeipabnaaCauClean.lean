/-
  Clean: the program's.
-/
import Derived.Test.YtcedliaeipabnaaGCauI
namespace Go.Proofs.Ytcedliaeipabnaa
set_option maxRecDepth 100000
open Go.RowKit Go.Sort

abbrev nilS : Value := .slice none 0 0
/-- three contexts' blocks: one that came in, the answer's, one that is built -/
theorem three_ctx (w : World) (v : Vc) (s : Value) : CRow (boxC (boxC (boxC w v s) zV nilS) zV nilS) w.heap.size v s ∧ CRow (boxC (boxC (boxC w v s) zV nilS) zV nilS) (w.heap.size + 1) zV nilS ∧
    CRow (boxC (boxC (boxC w v s) zV nilS) zV nilS) (w.heap.size + 2) zV nilS ∧ Go.RowKit.Below w.heap.size w (boxC (boxC (boxC w v s) zV nilS) zV nilS) ∧ (boxC (boxC (boxC w v s) zV nilS) zV nilS).heap.size = w.heap.size + 3 := by
  have e1 := boxC_size w v s
  have e2 := boxC_size (boxC w v s) zV nilS
  have h0 := CRow.new w v s
  have h1 := CRow.new (boxC w v s) zV nilS
  have h2 := CRow.new (boxC (boxC w v s) zV nilS) zV nilS
  rw [e1] at h1
  rw [e2, e1] at h2
  exact ⟨(h0.alloc _).alloc _, h1.alloc _, h2, ((boxC_below w v s).alloc (by rw [e1]; omega) _).alloc (by rw [World.size_alloc, e1]; omega) _, by rw [boxC_size, e2, e1]⟩

set_option maxHeartbeats 8000000 in
theorem cleanCC (c : Cx) (a : Option Addr) (cap : Nat) (w : World) (h : CIn w c a) :
    Calls Try.prog 12 #[.agg (ccs c.v (.slice a c.l.length cap))] w fun e w' => (∃ (o : Cx) (a' : Option Addr) (cap' : Nat), e = .returned (.agg (ccs o.v (.slice a' o.l.length cap'))) ∧ CleanOf c o ∧ Made w.heap.size w' o a' ∧ o.l.length ≤ c.l.length ∧ o.l.length ≤ cap') ∧ Go.RowKit.Below w.heap.size w w' := by
  have HV := Lib.hid h.v16
  have hlen := h.len
  have HW := Lib.hid (three_ctx w c.v (.slice a c.l.length cap))
  have HD := Lib.hid h.din
  unfold boxC at HW
  clear h
  go_enter Try.func12, Try.ntmps12
  go_upto_region 2 with fail
  change Code.wp _ _ _ _ (((w.alloc (.cells (ccs c.v (.slice a c.l.length cap)) 26)).alloc (.cells (ccs zV nilS) 26)).alloc (.cells (ccs zV nilS) 26))
  generalize ((w.alloc (.cells (ccs c.v (.slice a c.l.length cap)) 26)).alloc (.cells (ccs zV nilS) 26)).alloc (.cells (ccs zV nilS) 26) = W0 at *
  go_wp2_with ((with_reducible refine cl_loadV ?_ (.tmp 8) ?_ w.heap.size c.v (.slice a c.l.length cap) ?_ ?_ ?_ ?_); rfl; rfl; rfl; exact HW.out.1; exact HV.out)
  go_loopw [10] (fun i wr => ∃ k : Nat, i = .int .i64 k ∧ k ≤ 16 ∧ CRow wr w.heap.size c.v (.slice a c.l.length cap) ∧ CRow wr (w.heap.size + 1) zV nilS ∧ CRow wr (w.heap.size + 2) (mixK c.v k) nilS ∧ Go.RowKit.Below w.heap.size w wr) (fun i _ => 16 - (intOf i).toNat)
  case atStart => exact ⟨0, rfl, by omega, HW.out.1, HW.out.2.1, by rw [mixK_zero]; exact HW.out.2.2.1, HW.out.2.2.2.1⟩
  case round =>
    obtain ⟨k, rfl, hk, r0, r1, r2, rB⟩ := hrel
    by_cases hlt : k < 16
    · have hix := fun W => indexV HV.out k hlt W
      have hml := mixK_len HV.out hk
      have hcell := r2.cell k (by rw [hml]; exact hlt)
      have hfree := r2.free k
      have hz := r2.lt
      have HS := Lib.hid (mixK_succ HV.out hlt)
      have hcl : clm (c.v.getD k 0) = min (max (c.v.getD k 0) 0) 1099511627776 := rfl
      have HCL := Lib.hid hcl
      have HX := Lib.hid (And.intro r0 (And.intro r1 (And.intro r2 (And.intro rB hml))))
      clear r0 r1 r2 rB hml hcl
      generalize c.v.getD k 0 = x at *
      generalize (mixK c.v k).getD k 0 = y at *
      go_wp2_with fail
      go_roundw
      case rel =>
        refine ⟨k + 1, by go_num, by omega, HX.out.1.other (by omega) _ _, HX.out.2.1.other (by omega) _ _, ?_, HX.out.2.2.2.1.setCell (show w.heap.size ≤ w.heap.size + 2 by omega) _⟩
        rw [HS.out, HCL.out]; exact HX.out.2.2.1.set k _ (by rw [HX.out.2.2.2.2]; exact hlt)
      case measure => simp [intOf]; omega
    · obtain rfl : k = 16 := by omega
      rw [mixK_all HV.out] at r2
      have c16 := r0.cloud HV.out
      have HX := Lib.hid (And.intro r0 (And.intro r1 (And.intro r2 rB)))
      have hz := r2.lt
      have hdin := HD.out.below rB
      clear r0 r1 r2 rB
      go_wp2_with fail
      refine (sortC c.l a cap wr hdin (by omega)).mono ?_
      rintro e w2 ⟨v2, rfl, hown2, hb2⟩
      obtain ⟨sa, sc, rfl, hfrom, hsc, hscm⟩ := hown2.from
      have hsl := sortD_len c.l
      have HS := Lib.hid (Cleaning.start HV.out (sortD c.l))
      have HR := Lib.hid (And.intro (rise_sortD c.l) (fun x => (mem_sortD (l := c.l) (z := x)).1))
      have H2 := Lib.hid (And.intro (HX.out.1.keep hb2) (And.intro (HX.out.2.1.keep hb2) (And.intro (HX.out.2.2.1.keep hb2) (And.intro (HX.out.2.2.2.trans (hb2.mono HX.out.2.2.2.size)) (hfrom.mono (show w.heap.size + 3 ≤ wr.heap.size by omega))))))
      have hz2 : w.heap.size + 2 < w2.heap.size := Nat.lt_of_lt_of_le hz hb2.size
      have HDN := Lib.hid (fun (v : Vc) (out : List Dt) (k : Nat) (h : Cleaning c (sortD c.l) k v out) (hk : (sortD c.l).length ≤ k) => h.done hk)
      clear hown2 hb2 hfrom hdin c16 HX HW hz
      generalize sortD c.l = s at *
      go_wp2_with fail
      go_loopw [25] (fun i wr => ∃ (k : Nat) (v : Vc) (out : List Dt) (oa : Option Addr) (oc : Nat), k ≤ s.length ∧ i = .int .i64 k ∧ Hid (Cleaning c s k v out) ∧ CRow wr w.heap.size c.v (.slice a c.l.length cap) ∧ CRow wr (w.heap.size + 1) zV nilS ∧ CRow wr (w.heap.size + 2) v (.slice oa out.length oc) ∧
        OwnD w2.heap.size (.slice oa out.length oc) out wr ∧ Mid (w.heap.size + 3) w2.heap.size w2 wr ∧ Go.RowKit.Below w.heap.size w wr) (fun i _ => s.length - (intOf i).toNat)
      case atStart => exact ⟨0, c.v.map clm, [], none, 0, Nat.zero_le _, rfl, HS, H2.out.1, H2.out.2.1, H2.out.2.2.1, ownD_nil _ _, Mid.refl _ _ _, H2.out.2.2.2.1⟩
      case round =>
        obtain ⟨k, v, out, oa, oc, hk, rfl, HCL, r0, r1, r2, ho, hmid, rB⟩ := hrel
        have hvl := HCL.out.len
        have hzr := r2.lt
        have hsz := hmid.size
        have HX := Lib.hid (And.intro r0 (And.intro r1 (And.intro r2 (And.intro ho (And.intro hmid rB)))))
        by_cases hlt : k < s.length
        · obtain ⟨d, hd⟩ : ∃ d, s[k]? = some d := ⟨_, List.getElem?_eq_getElem hlt⟩
          obtain ⟨b, off, rfl, hbl, c0, c1⟩ := (H2.out.2.2.2.2.mid hmid (Nat.le_refl _)).din.at hd
          have hi1 : (k : Int) < (s.length : Int) := by omega
          clear r0 r1 r2 ho hmid rB
          have hck := fun W => checkCb d W
          have hvh := fun W => vhasC v d hvl W
          have HD2 := Lib.hid hd
          have hbp := beyond_parts v d
          have HVH := Lib.hid hvh
          have HCK := Lib.hid hck
          have HBP := Lib.hid hbp
          have hBx := boxD_below wr d
          have n0 : (boxD wr d).cell? ⟨wr.heap.size, 0, none⟩ = some (.int .i64 d.1) := by unfold boxD; rw [Joins.cell_of_block (heap_alloc_new wr _)]; rfl
          have n1 : (boxD wr d).cell? ⟨wr.heap.size, 1, none⟩ = some (.int .i64 d.2) := by unfold boxD; rw [Joins.cell_of_block (heap_alloc_new wr _)]; rfl
          have hzx : wr.heap.size < (boxD wr d).heap.size := by rw [boxD_size]; omega
          have HN := Lib.hid (And.intro hBx (And.intro n0 (And.intro n1 hzx)))
          unfold boxD at HN
          clear hvh hck hbp hBx n0 n1 hzx hd
          obtain ⟨dr, dq⟩ := d
          simp only at c0 c1 HVH HCK HBP HN
          go_upto_region 11 with fail
          generalize wr.alloc (.cells #[.int .i64 dr, .int .i64 dq] 31) = W1 at *
          obtain ⟨hBx, n0, n1, hzx⟩ := HN.out
          have X1 := Lib.hid (And.intro (HX.out.1.keep hBx) (And.intro (HX.out.2.1.keep hBx) (And.intro (HX.out.2.2.1.keep hBx) (And.intro (HX.out.2.2.2.1.below hBx (Nat.le_refl _)) (And.intro (HX.out.2.2.2.2.1.below hBx hsz) (HX.out.2.2.2.2.2.trans (hBx.mono HX.out.2.2.2.2.2.size)))))))
          have hszB := hBx.size
          clear hBx HX HN c0 c1
          go_wp2_with fail
          refine (HCK.out W1).mono ?_
          rintro e w3 ⟨rfl, hb3⟩
          have m0 : w3.cell? ⟨wr.heap.size, 0, none⟩ = some (.int .i64 dr) := by rw [hb3.cell (p := ⟨wr.heap.size, 0, none⟩) hzx]; exact n0
          have m1 : w3.cell? ⟨wr.heap.size, 1, none⟩ = some (.int .i64 dq) := by rw [hb3.cell (p := ⟨wr.heap.size, 1, none⟩) hzx]; exact n1
          have hzx3 : wr.heap.size < w3.heap.size := Nat.lt_of_lt_of_le hzx hb3.size
          have X3 := Lib.hid (And.intro (X1.out.1.keep hb3) (And.intro (X1.out.2.1.keep hb3) (And.intro (X1.out.2.2.1.keep hb3) (And.intro (X1.out.2.2.2.1.below hb3 (Nat.le_refl _)) (And.intro (X1.out.2.2.2.2.1.below hb3 (by omega)) (X1.out.2.2.2.2.2.trans (hb3.mono X1.out.2.2.2.2.2.size)))))))
          have hs3 := hb3.size
          clear n0 n1 hb3 X1 HCK
          have hbp := HBP.out
          by_cases hc0 : chkD (dr, dq) = 0
          · obtain ⟨e1, e2, e3, e4⟩ := chkD_ok hc0
            simp only at e1 e2 e3 e4
            obtain ⟨r, rfl⟩ := Int.eq_ofNat_of_zero_le e1
            have hr16 : r < 16 := by omega
            have HE := Lib.hid (And.intro hc0 (And.intro e3 e4))
            rw [hc0] at hbp ⊢
            clear hc0 e1 e2 e3 e4
            go_wp2_with ((with_reducible refine cl_loadV ?_ (.tmp 40) ?_ (w.heap.size + 2) v (.slice oa out.length oc) ?_ ?_ ?_ ?_); rfl; rfl; rfl; exact X3.out.2.2.1; exact hvl)
            refine (HVH.out w3).mono ?_
            rintro e w4 ⟨rfl, hb4⟩
            have n0 : w4.cell? ⟨wr.heap.size, 0, none⟩ = some (.int .i64 r) := by rw [hb4.cell (p := ⟨wr.heap.size, 0, none⟩) hzx3]; exact m0
            have n1 : w4.cell? ⟨wr.heap.size, 1, none⟩ = some (.int .i64 dq) := by rw [hb4.cell (p := ⟨wr.heap.size, 1, none⟩) hzx3]; exact m1
            have hzx4 : wr.heap.size < w4.heap.size := Nat.lt_of_lt_of_le hzx3 hb4.size
            have X4 := Lib.hid (And.intro (X3.out.1.keep hb4) (And.intro (X3.out.2.1.keep hb4) (And.intro (X3.out.2.2.1.keep hb4) (And.intro (X3.out.2.2.2.1.below hb4 (Nat.le_refl _)) (And.intro (X3.out.2.2.2.2.1.below hb4 (by omega)) (X3.out.2.2.2.2.2.trans (hb4.mono X3.out.2.2.2.2.2.size)))))))
            have hs4 := hb4.size
            clear m0 m1 hb4 X3 HVH
            generalize hasV v ((r : Int), dq) = u at *
            cases u with
            | true =>
              have HK2 := Lib.hid (HCL.out.skip HD2.out (by rw [hbp]; rfl))
              clear hbp n0 n1
              go_wp2_with fail
              go_roundw
              case rel => exact ⟨k + 1, v, out, oa, oc, by omega, by go_num, HK2, X4.out⟩
              case measure => simp [intOf]; omega
            | false =>
              have hbt : beyond v ((r : Int), dq) = true := by rw [hbp]; rfl
              have HBT := Lib.hid hbt
              clear hbp hbt
              have hcell := X4.out.2.2.1.cell r (by rw [hvl]; exact hr16)
              have hfree := X4.out.2.2.1.free r
              have hzq := X4.out.2.2.1.lt
              have d0 := fun q os => cell_regrown n0 q os
              have d1 := fun q os => cell_regrown n1 q os
              have e0 := fun q os => cell_regrown hcell q os
              have hok := HCL.out.top r hr16
              have hok2 := hok.ok
              unfold okN at hok2
              have hxv : v.getD r 0 = v.getD (((r : Int), dq) : Dt).1.toNat 0 := by simp
              have HXV := Lib.hid hxv
              clear hxv hok
              generalize hx : v.getD r 0 = x at *
              have HXX := Lib.hid hx
              have hw1 : IntKind.i64.wrap (x + 1) = x + 1 := by simp [IntKind.wrap, IntKind.bits, IntKind.signed]; omega
              clear hx
              by_cases hq : dq = x + 1
              · have hqd : (dq == x + 1) = true := by simp [hq]
                have HK2 := Lib.hid (HCL.out.bump HR.out.1 HR.out.2 HD2.out HBT.out (by rw [← HXV.out]; exact hq))
                clear hq hok2
                go_upto_region 12 with fail
                clear hcell n0 n1 hfree
                refine wp_region_quiet_below (by kernel_rfl) (by kernel_rfl) ?_
                repeat (first | go_big_quiet_step (fail) | quiet_step (fail))
                refine wpQuiet_nil ?_
                intro _ hw'
                obtain ⟨⟨dq', osq⟩, hw''⟩ := hw'
                subst hw''
                have hb5 := below_regrown w4 dq' osq
                have X5 := Lib.hid (And.intro (X4.out.1.keep hb5) (And.intro (X4.out.2.1.keep hb5) (And.intro (X4.out.2.2.1.keep hb5) (And.intro (X4.out.2.2.2.1.below hb5 (Nat.le_refl _)) (And.intro (X4.out.2.2.2.2.1.below hb5 (by omega)) (X4.out.2.2.2.2.2.trans (hb5.mono X4.out.2.2.2.2.2.size)))))))
                have n0 := d0 dq' osq
                have n1 := d1 dq' osq
                have hcell := e0 dq' osq
                have hzz := Nat.lt_of_lt_of_le hzq hb5.size
                have hzz2 := Nat.lt_of_lt_of_le hzx4 hb5.size
                clear d0 d1 e0 X4 hb5
                generalize grow (redrawn w4 dq') osq = W at *
                have hfree := X5.out.2.2.1.free r
                go_wp2_with fail
                go_roundw
                case rel =>
                  refine ⟨k + 1, v.set r dq, out, oa, oc, by omega, by go_num, HK2, X5.out.1.other (by omega) _ _, X5.out.2.1.other (by omega) _ _, X5.out.2.2.1.set r dq (by rw [hvl]; exact hr16), X5.out.2.2.2.1.setc (by omega) _ _, X5.out.2.2.2.2.1.set (.inl (by omega)) _ _, X5.out.2.2.2.2.2.setCell (show w.heap.size ≤ w.heap.size + 2 by omega) _⟩
                case measure => simp [intOf]; omega
              · have hqd : (dq == x + 1) = false := by simp [hq]
                have HK2 := Lib.hid (HCL.out.add HD2.out HBT.out (by rw [← HXV.out]; exact hq))
                clear hq hok2
                go_upto_region 12 with fail
                clear hcell n0 n1 hfree
                refine wp_region_quiet_below (by kernel_rfl) (by kernel_rfl) ?_
                repeat (first | go_big_quiet_step (fail) | quiet_step (fail))
                refine wpQuiet_nil ?_
                intro _ hw'
                obtain ⟨⟨dq', osq⟩, hw''⟩ := hw'
                subst hw''
                have hb5 := below_regrown w4 dq' osq
                have X5 := Lib.hid (And.intro (X4.out.1.keep hb5) (And.intro (X4.out.2.1.keep hb5) (And.intro (X4.out.2.2.1.keep hb5) (And.intro (X4.out.2.2.2.1.below hb5 (Nat.le_refl _)) (And.intro (X4.out.2.2.2.2.1.below hb5 (by omega)) (X4.out.2.2.2.2.2.trans (hb5.mono X4.out.2.2.2.2.2.size)))))))
                have n0 := d0 dq' osq
                have n1 := d1 dq' osq
                have hzz2 := Nat.lt_of_lt_of_le hzx4 hb5.size
                have hs5 := hb5.size
                clear d0 d1 e0 X4 hb5
                generalize grow (redrawn w4 dq') osq = W at *
                have hcl16 := X5.out.2.2.1.cloud hvl
                have hle := HCL.out.le
                have hone := din_new W ((r : Int), dq)
                obtain ⟨q2, d2, w5, hr5, ho5, hb5⟩ := appD (c := 1) (X5.out.2.2.2.1.alloc (.cells #[.int .i64 (r : Int), .int .i64 dq] 31)) hone (by simp; omega) (out.length + 1) (by simp) (by omega)
                have hr5' : (Builtin.append_ #[24, 24] 24 #[.slice oa out.length oc, .slice (some ⟨W.heap.size, 0, none⟩) 1 1]).run Try.prog (W.alloc (.cells #[.int .i64 (r : Int), .int .i64 dq] 31)) = .ok (.slice q2 (out.length + 1) d2) w5 := hr5
                have hb5' : Go.RowKit.Below w2.heap.size W w5 := ((Below.refl _ W).alloc (by omega) _).trans hb5
                have X6 := Lib.hid (And.intro (X5.out.1.below hb5' (by omega)) (And.intro (X5.out.2.1.below hb5' (by omega)) (And.intro (X5.out.2.2.1.below hb5' (by omega)) (And.intro ho5 (And.intro (X5.out.2.2.2.2.1.below hb5' (Nat.le_refl _)) (X5.out.2.2.2.2.2.trans (hb5'.mono (by omega))))))))
                have hcl5 := X6.out.2.2.1.cloud hvl
                have hfree5 := X6.out.2.2.1.free 16
                have hz5 := X6.out.2.2.1.lt
                clear hr5 ho5 hb5 hb5' hone X5
                go_wp2_with (at_builtin; refine wpList_append_run rfl _ _ 24 24 rfl (.slice oa out.length oc) (.slice (some ⟨W.heap.size, 0, none⟩) 1 1) _ w5 rfl rfl hr5' ?_)
                go_wp2_with fail
                go_roundw
                case rel =>
                  have e9 : (out ++ [((r : Int), dq)]).length = out.length + 1 := by simp
                  refine ⟨k + 1, v, out ++ [((r : Int), dq)], q2, d2, by omega, by go_num, HK2, X6.out.1.other (by omega) _ _, X6.out.2.1.other (by omega) _ _, ?_, ?_, X6.out.2.2.2.2.1.set (.inl (by omega)) _ _, X6.out.2.2.2.2.2.setCell (show w.heap.size ≤ w.heap.size + 2 by omega) _⟩
                  · rw [e9]; exact X6.out.2.2.1.setS _ hvl
                  · rw [e9]; exact X6.out.2.2.2.1.setc (by omega) _ _
                case measure => simp [intOf]; omega
          · have h2 : chkD (dr, dq) = 2 := (chkD_cases _).resolve_left hc0
            have HK2 := Lib.hid (HCL.out.skip HD2.out (by rw [hbp, decide_eq_false hc0]; rfl))
            rw [h2]
            clear hbp m0 m1 h2 hc0
            go_wp2_with fail
            go_roundw
            case rel => exact ⟨k + 1, v, out, oa, oc, by omega, by go_num, HK2, X3.out⟩
            case measure => simp [intOf]; omega
        · have hfin := HDN.out v out k HCL.out (by omega)
          have hle := HCL.out.le
          have HF := Lib.hid (And.intro hfin (And.intro ho.from r1))
          clear hfin
          go_wp2_with (first
            | ((with_reducible refine cl_load ?_ (.tmp 3) ?_ (w.heap.size + 2) v (.slice oa out.length oc) ?_ ?_ ?_ ?_); rfl; rfl; rfl; exact HX.out.2.2.1; exact hvl)
            | ((with_reducible refine cl_store ?_ (.tmp 2) (.tmp 62) ?_ (w.heap.size + 1) v oa out.length oc ?_ ?_ ?_ ?_ ?_); rfl; rfl; rfl; rfl; exact ⟨_, _, HX.out.2.1, rfl⟩; exact hvl))
          refine bodyPost_ret (retC rfl _ _ (w.heap.size + 1) v (.slice oa out.length oc) rfl (CRow.of_put HX.out.2.1 v _) hvl) rfl ⟨⟨⟨v, out⟩, oa, oc, rfl, HF.out.1, ⟨hvl, ?_, ?_⟩, ?_⟩, belowRow HX.out.2.2.2.2.2 (Nat.le_succ _) _⟩
          · obtain ⟨oa', oc', he, hfo, -⟩ := HF.out.2.1
            injection he with h1 h2 h3
            subst h1
            exact (hfo.setRow (show w.heap.size + 1 < w2.heap.size by omega) _).mono (by omega)
          · show out.length ≤ 32768
            omega
          · refine ⟨show out.length ≤ c.l.length by omega, ?_⟩
            obtain ⟨oa', oc', he, hfo, hcc, -⟩ := HF.out.2.1
            injection he with h1 h2 h3
            rw [h3]
            exact hcc
end Go.Proofs.Ytcedliaeipabnaa
