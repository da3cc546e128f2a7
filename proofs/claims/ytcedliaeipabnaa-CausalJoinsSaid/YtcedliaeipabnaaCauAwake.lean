/-
  almonrylaw13: awake; Few.
-/
import Derived.Test.YtcedliaeipabnaaGCauF
import Derived.Test.YtcedliaeipabnaaCauCmp
import Derived.Test.YtcedliaeipabnaaCauRRd
namespace Go.Proofs.Ytcedliaeipabnaa
set_option maxRecDepth 100000
open Go.RowKit Go.Sort

theorem din_row (w : World) (l : List Dt) : DIn (w.alloc (.cells (rowD l).toArray 31)) (some ⟨w.heap.size, 0, none⟩) l := by
  refine .inr ⟨w.heap.size, 0, rfl, by simp, fun j d hj => ?_⟩
  obtain ⟨h1, h2⟩ := rowD_at l j d hj
  refine ⟨?_, ?_⟩
  · rw [Joins.cell_of_block (heap_alloc_new w _)]; simpa using h1
  · rw [Joins.cell_of_block (heap_alloc_new w _)]; simpa using h2
theorem alloc_low (w : World) (o : Obj) : Go.RowKit.Below w.heap.size w (w.alloc o) := (Below.refl _ _).alloc (Nat.le_refl _) _
theorem buildT (W : World) : (Instr.build 23 #[(0, .int .i64 2)]).run Try.prog W = .ok (.agg (ics (2 :: List.replicate 15 0))) W := run_build W 23 _ _ (by kernel_rfl)
theorem buildS (p : Option Addr) (n c : Nat) (W : World) : (Instr.build 26 #[(1, .slice p n c)]).run Try.prog W = .ok (.agg (ccs zV (.slice p n c))) W := run_build W 26 _ _ (by kernel_rfl)

set_option maxHeartbeats 8000000 in
theorem causalAwake (w : World) : Calls Try.prog 8 #[] w fun e w' => e = .returned (.bool true) ∧ Go.RowKit.Below w.heap.size w w' := by
  have hbz := buildZ
  have hbt := buildT
  have hbs := buildS
  go_enter Try.func8, Try.ntmps8
  go_wp2_with fail
  have hb0 := alloc_low w (.cells (rowD exL).toArray 31)
  refine (addCC zC exL none (some ⟨w.heap.size, 0, none⟩) 0 3 _ ⟨rfl, .inl rfl, by decide⟩ (din_row w exL) (by decide)).mono ?_
  rintro e w1 ⟨⟨c, ca, cc, rfl, hadd, hmade, hlen⟩, hb1⟩
  have hc : c = exC := hadd.same exC_add
  have h2 := new_ctx w1 c.v (.slice ca c.l.length cc)
  have hl := hmade.len
  have HC := Lib.hid hc
  have HV := Lib.hid hmade.v16
  have H2 := Lib.hid (And.intro (hmade.cin.below h2.2) (And.intro h2.1 ((hb0.trans (hb1.mono hb0.size)).trans (h2.2.mono (by have := hb0.size; have := hb1.size; simp at *; omega)))))
  clear hadd hmade hlen hb1 hb0 h2 hc
  have hpc : putC c = (exS, 0) := by rw [HC.out]; exact ex_put
  have hrc : readC exS = (c, 0) := by rw [HC.out]; exact ex_read
  have hh1 : hasC c (0, 1) = true := by rw [HC.out]; exact ex_has
  have hh2 : hasC c (1, 1) = false := by rw [HC.out]; exact ex_not
  have hmi : IsMiss zC c exM := by rw [HC.out]; exact ex_miss
  have hcm : cmpC c zC = 1 := by rw [HC.out]; exact ex_cmp
  have hsm : decide (c = exC) = true := by rw [HC.out]; simp
  have hss : decide (c = c) = true := by simp
  have HH := Lib.hid (And.intro hh1 (And.intro hh2 (And.intro hmi (And.intro hcm (And.intro hsm hss)))))
  have HPR := Lib.hid (And.intro hpc hrc)
  have hsz : exS.size ≤ 9223372036854775807 := by decide
  clear hpc hrc hh1 hh2 hmi hcm hsm hss hl
  generalize exS = S at *
  go_upto_region 2 with ((with_reducible refine cl_store ?_ (.tmp 1) (.tmp 13) ?_ w1.heap.size c.v ca c.l.length cc ?_ ?_ ?_ ?_ ?_); rfl; rfl; rfl; rfl; exact ⟨_, _, CRow.new w1 zV nilS, rfl⟩; exact HV.out)
  change Code.wp _ _ _ _ ((w1.alloc (.cells (ccs zV nilS) 26)).setRow w1.heap.size (ccs c.v (.slice ca c.l.length cc)))
  generalize (w1.alloc (.cells (ccs zV nilS) 26)).setRow w1.heap.size (ccs c.v (.slice ca c.l.length cc)) = W2 at *
  go_wp2_with ((with_reducible refine cl_load ?_ (.tmp 1) ?_ w1.heap.size c.v (.slice ca c.l.length cc) ?_ ?_ ?_ ?_); rfl; rfl; rfl; exact H2.out.2.1; exact HV.out)
  have hput := putCC c ca cc W2 H2.out.1
  rw [HPR.out.1] at hput
  refine hput.mono ?_
  rintro e w3 ⟨rfl, hb3⟩
  have H3 := Lib.hid (And.intro (H2.out.1.below hb3) (And.intro (H2.out.2.1.keep hb3) (H2.out.2.2.trans (hb3.mono H2.out.2.2.size))))
  clear hput hb3 H2
  go_wp2_with fail
  have hrd := readCC S hsz w3
  rw [HPR.out.2] at hrd
  refine hrd.mono ?_
  rintro e w4 ⟨⟨ra, rk, rfl, hmr⟩, hb4⟩
  have h5 := new_ctx w4 c.v (.slice ra c.l.length rk)
  have hb45 := hb4.trans (h5.2.mono hb4.size)
  have H5 := Lib.hid (And.intro (H3.out.1.below hb45) (And.intro (H3.out.2.1.keep hb45) (And.intro (hmr.cin.below h5.2) (And.intro h5.1 (H3.out.2.2.trans (hb45.mono H3.out.2.2.size))))))
  clear hrd hmr hb4 h5 hb45 H3
  simp only
  go_upto_region 4 with ((with_reducible refine cl_store ?_ (.tmp 4) (.tmp 22) ?_ w4.heap.size c.v ra c.l.length rk ?_ ?_ ?_ ?_ ?_); rfl; rfl; rfl; rfl; exact ⟨_, _, CRow.new w4 zV nilS, rfl⟩; exact HV.out)
  change Code.wp _ _ _ _ ((w4.alloc (.cells (ccs zV nilS) 26)).setRow w4.heap.size (ccs c.v (.slice ra c.l.length rk)))
  generalize (w4.alloc (.cells (ccs zV nilS) 26)).setRow w4.heap.size (ccs c.v (.slice ra c.l.length rk)) = W5 at *
  go_wp2_with fail
  have hb6 := alloc_low W5 (.cells (rowD [(0, 1)]).toArray 31)
  have hbad := putCC exB (some ⟨W5.heap.size, 0, none⟩) 1 _ ⟨rfl, din_row W5 [(0, 1)], by decide⟩
  rw [ex_bad] at hbad
  refine Calls.mono hbad ?_
  rintro e w6 ⟨rfl, hb6'⟩
  have hb6t := hb6.trans (hb6'.mono hb6.size)
  have H6 := Lib.hid (And.intro (H5.out.1.below hb6t) (And.intro (H5.out.2.1.keep hb6t) (And.intro (H5.out.2.2.1.below hb6t) (And.intro (H5.out.2.2.2.1.keep hb6t) (H5.out.2.2.2.2.trans (hb6t.mono H5.out.2.2.2.2.size))))))
  clear hb6 hbad hb6' hb6t H5
  go_wp2_with (first
    | ((with_reducible refine cl_load ?_ (.tmp 1) ?_ w1.heap.size c.v (.slice ca c.l.length cc) ?_ ?_ ?_ ?_); rfl; rfl; rfl; exact H6.out.2.1; exact HV.out))
  have hb7 := alloc_low w6 (.cells (rowD [(1, 3)]).toArray 31)
  have hsame := sameRC c exC ca (some ⟨w6.heap.size, 0, none⟩) cc 1 _ (H6.out.1.below hb7) ⟨rfl, din_row w6 [(1, 3)], by decide⟩
  rw [HH.out.2.2.2.2.1] at hsame
  refine Calls.mono hsame ?_
  rintro e w7 ⟨rfl, hb7'⟩
  have hb7t := hb7.trans (hb7'.mono hb7.size)
  have H7 := Lib.hid (And.intro (H6.out.1.below hb7t) (And.intro (H6.out.2.1.keep hb7t) (And.intro (H6.out.2.2.1.below hb7t) (And.intro (H6.out.2.2.2.1.keep hb7t) (H6.out.2.2.2.2.trans (hb7t.mono H6.out.2.2.2.2.size))))))
  clear hb7 hsame hb7' hb7t H6
  go_wp2_with (first
    | ((with_reducible refine cl_load ?_ (.tmp 4) ?_ w4.heap.size c.v (.slice ra c.l.length rk) ?_ ?_ ?_ ?_); rfl; rfl; rfl; exact H7.out.2.2.2.1; exact HV.out)
    | ((with_reducible refine cl_load ?_ (.tmp 1) ?_ w1.heap.size c.v (.slice ca c.l.length cc) ?_ ?_ ?_ ?_); rfl; rfl; rfl; exact H7.out.2.1; exact HV.out))
  have hsame := sameRC c c ra ca rk cc w7 H7.out.2.2.1 H7.out.1
  rw [show decide (c = c) = true from decide_eq_true rfl] at hsame
  refine Calls.mono hsame ?_
  rintro e w8 ⟨rfl, hb8⟩
  have H8 := Lib.hid (And.intro (H7.out.1.below hb8) (And.intro (H7.out.2.1.keep hb8) (And.intro (H7.out.2.2.1.below hb8) (And.intro (H7.out.2.2.2.1.keep hb8) (H7.out.2.2.2.2.trans (hb8.mono H7.out.2.2.2.2.size))))))
  clear hb8 hsame H7
  go_wp2_with (first
    | ((with_reducible refine cl_load ?_ (.tmp 1) ?_ w1.heap.size c.v (.slice ca c.l.length cc) ?_ ?_ ?_ ?_); rfl; rfl; rfl; exact H8.out.2.1; exact HV.out))
  have hhas := hasCC c (0, 1) ca cc w8 H8.out.1
  rw [HH.out.1] at hhas
  refine Calls.mono hhas ?_
  rintro e w9 ⟨rfl, hb9⟩
  have H9 := Lib.hid (And.intro (H8.out.1.below hb9) (And.intro (H8.out.2.1.keep hb9) (And.intro (H8.out.2.2.1.below hb9) (And.intro (H8.out.2.2.2.1.keep hb9) (H8.out.2.2.2.2.trans (hb9.mono H8.out.2.2.2.2.size))))))
  clear hb9 hhas H8
  go_wp2_with (first
    | ((with_reducible refine cl_load ?_ (.tmp 1) ?_ w1.heap.size c.v (.slice ca c.l.length cc) ?_ ?_ ?_ ?_); rfl; rfl; rfl; exact H9.out.2.1; exact HV.out))
  have hhas := hasCC c (1, 1) ca cc w9 H9.out.1
  rw [HH.out.2.1] at hhas
  refine Calls.mono hhas ?_
  rintro e w10 ⟨rfl, hb10⟩
  have H10 := Lib.hid (And.intro (H9.out.1.below hb10) (And.intro (H9.out.2.1.keep hb10) (And.intro (H9.out.2.2.1.below hb10) (And.intro (H9.out.2.2.2.1.keep hb10) (H9.out.2.2.2.2.trans (hb10.mono H9.out.2.2.2.2.size))))))
  clear hb10 hhas H9
  go_wp2_with (first
    | ((with_reducible refine cl_load ?_ (.tmp 1) ?_ w1.heap.size c.v (.slice ca c.l.length cc) ?_ ?_ ?_ ?_); rfl; rfl; rfl; exact H10.out.2.1; exact HV.out))
  have hmiss := missCC zC c none ca 0 cc w10 ⟨rfl, .inl rfl, by decide⟩ H10.out.1
  refine Calls.mono hmiss ?_
  rintro e w11 ⟨⟨m, mp, mk, rfl, hmm, hmd⟩, hb11⟩
  have hme : m = exM := hmm.same HH.out.2.2.1
  have hdm : decide (m = exM) = true := by rw [hme]; simp
  have hml : m.length ≤ maxLen := by rw [hme]; decide
  have HM := Lib.hid (And.intro hdm (And.intro hml hmd))
  have H11 := Lib.hid (And.intro (H10.out.1.below hb11) (And.intro (H10.out.2.1.keep hb11) (And.intro (H10.out.2.2.1.below hb11) (And.intro (H10.out.2.2.2.1.keep hb11) (H10.out.2.2.2.2.trans (hb11.mono H10.out.2.2.2.2.size))))))
  clear hb11 hmiss hmm hmd hme hdm hml H10
  go_wp2_with fail
  have hb12 := alloc_low w11 (.cells (rowD exM).toArray 31)
  have hsame := sameR m exM mp (some ⟨w11.heap.size, 0, none⟩) mk 3 _ (HM.out.2.2.din.below hb12) (din_row w11 exM) HM.out.2.1 (by decide)
  rw [HM.out.1] at hsame
  refine Calls.mono hsame ?_
  rintro e w12 ⟨rfl, n, hw12⟩
  have hb12t : Go.RowKit.Below w11.heap.size w11 w12 := by rw [hw12]; exact belowN hb12 n
  have H12 := Lib.hid (And.intro (H11.out.1.below hb12t) (And.intro (H11.out.2.1.keep hb12t) (And.intro (H11.out.2.2.1.below hb12t) (And.intro (H11.out.2.2.2.1.keep hb12t) (H11.out.2.2.2.2.trans (hb12t.mono H11.out.2.2.2.2.size))))))
  clear hb12 hsame hw12 hb12t H11 HM
  go_wp2_with (first
    | ((with_reducible refine cl_load ?_ (.tmp 1) ?_ w1.heap.size c.v (.slice ca c.l.length cc) ?_ ?_ ?_ ?_); rfl; rfl; rfl; exact H12.out.2.1; exact HV.out))
  have hcmp := cmpCC c zC ca none cc 0 w12 H12.out.1 ⟨rfl, .inl rfl, by decide⟩
  rw [HH.out.2.2.2.1] at hcmp
  refine Calls.mono hcmp ?_
  rintro e w13 ⟨rfl, hb13⟩
  have HF := Lib.hid (H12.out.2.2.2.2.trans (hb13.mono H12.out.2.2.2.2.size))
  clear hb13 hcmp H12
  go_wp2_with fail
  go_ret
  exact ⟨rfl, HF.out⟩

set_option maxHeartbeats 2000000 in
theorem fewC (c : Cx) (a : Option Addr) (cap : Nat) (w : World) (hv : c.v.length = 16) (hl : c.l.length ≤ maxLen) : Calls Try.prog 7 #[.agg (ccs c.v (.slice a c.l.length cap))] w fun e w' => e = .returned (.bool (decide (c.l.length ≤ 40))) ∧ Go.RowKit.Below w.heap.size w w' := by
  unfold maxLen at hl
  have c16 := (CRow.new w c.v (.slice a c.l.length cap)).cloud hv
  have HB := Lib.hid (boxC_below w c.v (.slice a c.l.length cap))
  have he : decide ((c.l.length : Int) ≤ 40) = decide (c.l.length ≤ 40) := by
    by_cases h : c.l.length ≤ 40
    · rw [decide_eq_true h, decide_eq_true (by omega)]
    · rw [decide_eq_false h, decide_eq_false (by omega)]
  unfold boxC at HB
  go_enter Try.func7, Try.ntmps7
  go_wp2_with fail
  go_ret
  exact ⟨by first | rfl | (rw [he]) | (simp [he]) | skip, HB.out⟩
end Go.Proofs.Ytcedliaeipabnaa
