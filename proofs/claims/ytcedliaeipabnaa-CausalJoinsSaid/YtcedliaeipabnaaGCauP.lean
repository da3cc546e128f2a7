/-
  Check of vectors: the program's, and the document's.
  Check: the program's.
-/
import Derived.Test.YtcedliaeipabnaaGCauC
import Derived.Test.YtcedliaeipabnaaCauClean
namespace Go.Proofs.Ytcedliaeipabnaa
set_option maxRecDepth 100000
open Go.RowKit

abbrev boxV (w : World) (l : Vc) : World := w.alloc (.cells (ics l) 23)
theorem boxV_below (w : World) (l : Vc) : Below w.heap.size w (boxV w l) := (Below.refl _ _).alloc (Nat.le_refl _) _
theorem boxV_size (w : World) (l : Vc) : (boxV w l).heap.size = w.heap.size + 1 := by simp [boxV]

set_option maxHeartbeats 4000000 in
set_option maxRecDepth 100000 in
theorem vchkC (l : Vc) (hl : l.length = 16) (w : World) : Calls Try.prog 37 #[.agg (ics l)] w fun e w' => e = .returned (.int .i64 (chkV l)) ∧ Below w.heap.size w w' := by
  have HL := Lib.hid hl
  have HN := Lib.hid (VRow.new w l)
  have HB := Lib.hid (boxV_below w l)
  have HG := Lib.hid (fun h => chkV_all (l := l) (by rw [hl]; exact h))
  have HD := Lib.hid (fun k (hk : k < 16) => chkV_bad (l := l) (k := k) (by rw [hl]; exact hk))
  clear hl
  generalize hc : chkV l = c at *
  clear hc
  go_enter Try.func37, Try.ntmps37
  go_wp2_with (first
    | ((with_reducible refine wl_box ?_ 23 (.tmp 0) ?_ (ics l) ?_ ?_); rfl; rfl; rfl)
    | ((with_reducible refine vl_load ?_ (.tmp 1) ?_ w.heap.size l ?_ ?_ ?_ ?_); rfl; rfl; rfl; exact HN.out; exact HL.out))
  go_loop [6] (fun i => ∃ k : Nat, i = .int .i64 k ∧ k ≤ 16 ∧ Hid (∀ j, j < k → okN (l.getD j 0))) (fun i => 16 - (intOf i).toNat)
  case atStart => exact ⟨0, rfl, by omega, Lib.hid (fun j hj => by omega)⟩
  case round =>
    obtain ⟨k, rfl, hk, hall⟩ := hrel
    by_cases hlt : k < 16
    · have hix := fun W => indexV HL.out k hlt W
      have HDk := Lib.hid (HD.out k hlt)
      have HK := Lib.hid (fun (h : okN (l.getD k 0)) j (hj : j < k + 1) => show okN (l.getD j 0) by
        by_cases e : j = k
        · subst e; exact h
        · exact hall.out j (by omega))
      clear hall
      generalize l.getD k 0 = x at hix HDk HK
      by_cases h0 : x < 0
      · have g0 : decide (x < 0) = true := by simp [h0]
        obtain rfl : c = 2 := HDk.out (fun h => by unfold okN at h; omega)
        go_wp2_with fail
        go_ret
        exact ⟨rfl, HB.out⟩
      · have g0 : decide (x < 0) = false := by simp [h0]
        by_cases h1 : 1099511627776 < x
        · have g1 : decide ((1099511627776 : Int) < x) = true := by simp [h1]
          obtain rfl : c = 2 := HDk.out (fun h => by unfold okN at h; omega)
          go_wp2_with fail
          go_ret
          exact ⟨rfl, HB.out⟩
        · have g1 : decide ((1099511627776 : Int) < x) = false := by simp [h1]
          have HK2 := Lib.hid (HK.out (by unfold okN; omega))
          clear HK
          go_wp2_with fail
          go_round
          case rel => exact ⟨k + 1, by go_num, by omega, HK2⟩
          case measure => simp [intOf]; omega
    · obtain rfl : k = 16 := by omega
      obtain rfl : c = 0 := HG.out hall.out
      go_wp2_with fail
      go_ret
      exact ⟨rfl, HB.out⟩

set_option maxHeartbeats 4000000 in
set_option maxRecDepth 100000 in
theorem vchkR (l : Vc) (hl : l.length = 16) (w : World) : Calls Try.prog 39 #[.agg (ics l)] w fun e w' => e = .returned (.int .i64 (chkV l)) ∧ Below w.heap.size w w' := by
  have HL := Lib.hid hl
  have HN := Lib.hid (VRow.new w l)
  have HB := Lib.hid (boxV_below w l)
  have HG := Lib.hid (fun h => chkV_all (l := l) (by rw [hl]; exact h))
  have HD := Lib.hid (fun k (hk : k < 16) => chkV_bad (l := l) (k := k) (by rw [hl]; exact hk))
  have hsz : w.heap.size < (boxV w l).heap.size := by rw [boxV_size]; omega
  clear hl
  generalize hc : chkV l = c at *
  clear hc
  go_enter Try.func39, Try.ntmps39
  go_wp2_with fail
  go_loop [3] (fun i => ∃ k : Nat, i = .int .i64 k ∧ k ≤ 16 ∧ Hid (∀ j, j < k → okN (l.getD j 0))) (fun i => 16 - (intOf i).toNat)
  case atStart => exact ⟨0, rfl, by omega, Lib.hid (fun j hj => by omega)⟩
  case round =>
    obtain ⟨k, rfl, hk, hall⟩ := hrel
    by_cases hlt : k < 16
    · have hix := HN.out.cell k (by rw [HL.out]; exact hlt)
      have HDk := Lib.hid (HD.out k hlt)
      have HK := Lib.hid (fun (h : okN (l.getD k 0)) j (hj : j < k + 1) => show okN (l.getD j 0) by
        by_cases e : j = k
        · subst e; exact h
        · exact hall.out j (by omega))
      clear hall
      generalize l.getD k 0 = x at hix HDk HK
      by_cases h0 : x < 0
      · have g0 : decide (x < 0) = true := by simp [h0]
        obtain rfl : c = 2 := HDk.out (fun h => by unfold okN at h; omega)
        go_wp2_with fail
        go_ret
        exact ⟨rfl, HB.out⟩
      · have g0 : decide (x < 0) = false := by simp [h0]
        by_cases h1 : 1099511627776 < x
        · have g1 : decide ((1099511627776 : Int) < x) = true := by simp [h1]
          obtain rfl : c = 2 := HDk.out (fun h => by unfold okN at h; omega)
          go_wp2_with fail
          go_ret
          exact ⟨rfl, HB.out⟩
        · have g1 : decide ((1099511627776 : Int) < x) = false := by simp [h1]
          have HK2 := Lib.hid (HK.out (by unfold okN; omega))
          clear HK
          go_wp2_with fail
          go_round
          case rel => exact ⟨k + 1, by go_num, by omega, HK2⟩
          case measure => simp [intOf]; omega
    · obtain rfl : k = 16 := by omega
      obtain rfl : c = 0 := HG.out hall.out
      go_wp2_with fail
      go_ret
      exact ⟨rfl, HB.out⟩
end Go.Proofs.Ytcedliaeipabnaa

namespace Go.Proofs.Ytcedliaeipabnaa
set_option maxRecDepth 100000
open Go.RowKit Go.Sort

/-- a new context that a value is stored into -/
theorem new_ctx (w : World) (v : Vc) (s : Value) : CRow ((w.alloc (.cells (ccs zV nilS) 26)).setRow w.heap.size (ccs v s)) w.heap.size v s ∧ Go.RowKit.Below w.heap.size w ((w.alloc (.cells (ccs zV nilS) 26)).setRow w.heap.size (ccs v s)) :=
  ⟨CRow.of_put (CRow.new w zV nilS) v s, belowRow (boxC_below w zV nilS) (Nat.le_refl _) _⟩
/-- two vectors compared -/
theorem neqV {a b : Vc} (ha : a.length = 16) (hb : b.length = 16) (W : World) : (binOp .neq 23 (.agg (ics a)) (.agg (ics b))).run Try.prog W = .ok (.bool (!decide (a = b))) W := by
  rw [run_neq_struct]
  have hu := run_underlying (P := Try.prog) Try.underlying23 W
  have hs : (sizeOf 3).run Try.prog W = .ok 1 W := by kernel_rfl
  have e : Op.equalIn 10000 = Op.equalIn (9998 + 1 + 1) := rfl
  rw [e]
  unfold Op.equalIn
  have h := eqs_step ha hb W 16 0 (by omega)
  simp [Sem.run_bind, hu, hs]
  rw [h]
  by_cases hab : a = b
  · subst hab
    rw [if_pos (fun i _ => rfl)]
    simp
  · rw [if_neg (fun hc => hab (vec_ext ha hb fun i hi => by have := hc i hi; rwa [Nat.zero_add] at this))]
    simp [hab]

set_option maxHeartbeats 4000000 in
theorem chkCC (c : Cx) (a : Option Addr) (cap : Nat) (w : World) (h : CIn w c a) :
    Calls Try.prog 14 #[.agg (ccs c.v (.slice a c.l.length cap))] w fun e w' => e = .returned (.int .i64 (chkC c)) ∧ Go.RowKit.Below w.heap.size w w' := by
  have HV := Lib.hid h.v16
  have hlm : c.l.length ≤ maxLen := by have := h.len; unfold maxLen; omega
  have HLM := Lib.hid hlm
  have HB0 := Lib.hid (boxC_below w c.v (.slice a c.l.length cap))
  have HR0 := Lib.hid (CRow.new w c.v (.slice a c.l.length cap))
  have HI := Lib.hid h
  have hcv := fun W => vchkC c.v HV.out W
  have HC := Lib.hid (show chkC c = _ from rfl)
  have hc2 := fun h => chkC_vec (c := c) h
  have hc5 := fun h => chkC_form (c := c) h
  have hc0 := fun h => chkC_clean (c := c) h
  unfold boxC at HB0
  clear h hlm
  go_enter Try.func14, Try.ntmps14
  go_upto_region 1 with fail
  generalize w.alloc (.cells (ccs c.v (.slice a c.l.length cap)) 26) = W at *
  go_wp2_with ((with_reducible refine cl_loadV ?_ (.tmp 5) ?_ w.heap.size c.v (.slice a c.l.length cap) ?_ ?_ ?_ ?_); rfl; rfl; rfl; exact HR0.out; exact HV.out)
  refine (hcv W).mono ?_
  rintro e w1 ⟨rfl, hb1⟩
  have H1 := Lib.hid (And.intro (HR0.out.keep hb1) (HB0.out.trans (hb1.mono HB0.out.size)))
  clear hb1 HB0 HR0 hcv
  by_cases hv : chkV c.v = 0
  · rw [hv]
    clear hc2
    go_wp2_with ((with_reducible refine cl_load ?_ (.tmp 1) ?_ w.heap.size c.v (.slice a c.l.length cap) ?_ ?_ ?_ ?_); rfl; rfl; rfl; exact H1.out.1; exact HV.out)
    refine (cleanCC c a cap w1 (HI.out.below H1.out.2)).mono ?_
    rintro e w2 ⟨⟨o, oa, oc, rfl, hof, hom, hol, -⟩, hb2⟩
    have hoi := hom.cin
    clear hom
    have hiff := clean_iff hof
    have HOV := Lib.hid hoi.v16
    have hB2 := H1.out.2.trans (hb2.mono H1.out.2.size)
    have H2 := Lib.hid (And.intro (HI.out.below hB2) (And.intro hoi (And.intro (H1.out.1.keep hb2) (And.intro (show o.l.length ≤ maxLen by have := HLM.out; omega) hB2))))
    have h3 := new_ctx w2 o.v (.slice oa o.l.length oc)
    have H3 := Lib.hid (And.intro ((HI.out.below hB2).below h3.2) (And.intro (hoi.below h3.2) (And.intro ((H1.out.1.keep hb2).keep h3.2) (And.intro h3.1 (hB2.trans (h3.2.mono hB2.size))))))
    clear h3
    have HEQ := Lib.hid (fun (W : World) (h1 : DIn W a c.l) (h2 : DIn W oa o.l) => equalD c.l o.l a oa cap oc W h1 h2 HLM.out H2.out.2.2.2.1)
    have hne := fun W => neqV HV.out HOV.out W
    have hfrm : ¬ (c.v = o.v ∧ c.l = o.l) → chkC c = 5 := fun hn => hc5 hv (fun hcl => hn (hiff.2 hcl))
    have hgood : (c.v = o.v ∧ c.l = o.l) → chkC c = 0 := fun hn => hc0 (hiff.1 hn)
    clear hb2 hof hoi hol hB2 hiff hc5 hc0 hv
    go_upto_region 5 with (first
      | ((with_reducible refine cl_load ?_ (.tmp 1) ?_ w.heap.size c.v (.slice a c.l.length cap) ?_ ?_ ?_ ?_); rfl; rfl; rfl; exact H2.out.2.2.1; exact HV.out)
      | ((with_reducible refine cl_store ?_ (.tmp 4) (.tmp 12) ?_ w2.heap.size o.v oa o.l.length oc ?_ ?_ ?_ ?_ ?_); rfl; rfl; rfl; rfl; exact ⟨_, _, CRow.new w2 zV nilS, rfl⟩; exact HOV.out))
    change Code.wp _ _ _ _ ((w2.alloc (.cells (ccs zV nilS) 26)).setRow w2.heap.size (ccs o.v (.slice oa o.l.length oc)))
    generalize (w2.alloc (.cells (ccs zV nilS) 26)).setRow w2.heap.size (ccs o.v (.slice oa o.l.length oc)) = W3 at *
    have ca := H3.out.2.2.1.cloud HV.out
    have cb := H3.out.2.2.2.1.cloud HOV.out
    have HG := Lib.hid (And.intro hfrm hgood)
    clear hfrm hgood
    by_cases hve : c.v = o.v
    · rw [decide_eq_true hve] at hne
      have HVE := Lib.hid hve
      clear hve
      go_wp2_with (first
        | ((with_reducible refine cl_loadV ?_ (.tmp 13) ?_ w.heap.size c.v (.slice a c.l.length cap) ?_ ?_ ?_ ?_); rfl; rfl; rfl; exact H3.out.2.2.1; exact HV.out)
        | ((with_reducible refine cl_loadV ?_ (.tmp 15) ?_ w2.heap.size o.v (.slice oa o.l.length oc) ?_ ?_ ?_ ?_); rfl; rfl; rfl; exact H3.out.2.2.2.1; exact HOV.out))
      refine (HEQ.out W3 H3.out.1.din H3.out.2.1.din).mono ?_
      rintro e w4 ⟨rfl, hb4⟩
      have HF := Lib.hid (H3.out.2.2.2.2.trans (hb4.mono H3.out.2.2.2.2.size))
      clear hb4 ca cb hne
      by_cases hle : c.l = o.l
      · rw [decide_eq_true hle]
        have hg := HG.out.2 ⟨HVE.out, hle⟩
        have HGG := Lib.hid hg
        clear hle hg
        go_wp2_with fail
        go_ret
        exact ⟨by rw [HGG.out]; rfl, HF.out⟩
      · rw [decide_eq_false hle]
        have hg := HG.out.1 (fun h => hle h.2)
        have HGG := Lib.hid hg
        clear hle hg
        go_wp2_with fail
        go_ret
        exact ⟨by rw [HGG.out]; rfl, HF.out⟩
    · rw [decide_eq_false hve] at hne
      have hg := HG.out.1 (fun h => hve h.1)
      have HGG := Lib.hid hg
      clear hve hg
      go_wp2_with (first
        | ((with_reducible refine cl_loadV ?_ (.tmp 13) ?_ w.heap.size c.v (.slice a c.l.length cap) ?_ ?_ ?_ ?_); rfl; rfl; rfl; exact H3.out.2.2.1; exact HV.out)
        | ((with_reducible refine cl_loadV ?_ (.tmp 15) ?_ w2.heap.size o.v (.slice oa o.l.length oc) ?_ ?_ ?_ ?_); rfl; rfl; rfl; exact H3.out.2.2.2.1; exact HOV.out))
      go_ret
      exact ⟨by rw [HGG.out]; rfl, H3.out.2.2.2.2⟩
  · have HE2 := Lib.hid (hc2 hv)
    have h2 := (chkV_cases c.v).resolve_left hv
    rw [h2]
    clear hc2 hc5 hc0 hv h2
    go_wp2_with fail
    go_ret
    exact ⟨by rw [HE2.out]; rfl, H1.out.2⟩
end Go.Proofs.Ytcedliaeipabnaa
