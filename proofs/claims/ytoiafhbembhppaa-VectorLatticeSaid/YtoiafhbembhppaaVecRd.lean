/-
  Read: the program's.
-/
import Derived.Test.YtoiafhbembhppaaVecChk
import Derived.Test.YtoiafhbembhppaaRefDone
namespace Go.Proofs.Ytoiafhbembhppaa
set_option maxRecDepth 100000
open Go.RowKit

theorem VRow.grown {w w' : World} {b : Nat} {row : Option Nat} {l : Vc} (h : VRow w b l) (hg : w.grownBy w' row) (hne : row ≠ some b) : VRow w' b l := by
  unfold VRow; rw [hg.block b h.lt (fun j => hne j.symm)]; exact h
theorem retV {fn : Func} {p u : Tmp} (h : fn.results = #[.cell p 39, .tmp u]) (tmps : Array Value) (w : World) (g : Nat) (l : Vc) (x : Value)
    (hp : tmps.getD p undef = .pointer (some ⟨g, 0, none⟩)) (hx : tmps.getD u undef = x) (hg : VRow w g l) (hl : l.length = 16) :
    (results fn tmps).run Try.prog w = .ok (.tuple #[.agg (ics l), x]) w := by
  rw [results_cell_tmp h, hp, hx]
  simp [asAddr, run_loadVar_row w g 39 39 (ics l) (0, 0) (.array 16 3) hg Try.underlying39 rfl (infoV hl)]
theorem buildV (W : World) : (Instr.build 39 #[]).run Try.prog W = .ok (.agg (ics zV)) W := run_build W 39 #[] (ics zV) (by kernel_rfl)

set_option maxHeartbeats 4000000 in
set_option maxRecDepth 100000 in
theorem vreadC (s : ByteArray) (hs : s.size ≤ 9223372036854775807) (w : World) : Calls Try.prog 38 #[.string s] w fun e w' => e = .returned (.tuple #[.agg (ics (readV s).1), .int .i64 (readV s).2]) ∧ Below w.heap.size w w' := by
  have hp : readV s = if doneS (stN 16 (s, 0)) ≠ 0 then (zV, doneS (stN 16 (s, 0))) else if chkV (vecN 16 (s, 0)) ≠ 0 then (zV, 2) else (vecN 16 (s, 0), 0) := rfl
  have HP := Lib.hid hp
  have H0 := Lib.hid (VRow.new w zV)
  have HB0 := Lib.hid (boxV_below w zV)
  clear hp
  go_enter Try.func38, Try.ntmps38
  go_wp2_with fail
  refine (new_any s _).mono ?_
  rintro e w1 ⟨rfl, hw1⟩
  have hrd1 : Rd (w.heap.size + 1) (s, 0) w1 := by rw [← hw1]; have := Rd.made s (boxV w zV); rw [boxV_size] at this; exact this
  have hv1 : VRow w1 w.heap.size zV := by rw [← hw1]; exact H0.out.alloc _
  have hB1 : Below w.heap.size w w1 := by rw [← hw1]; exact HB0.out.alloc HB0.out.size _
  have hs1 : w.heap.size + 1 < w1.heap.size := by rw [← hw1]; simp
  have H2 := Lib.hid (And.intro (hrd1.below (boxV_below w1 zV) hrd1.lt) (And.intro (hv1.alloc (.cells (ics zV) 39)) (And.intro (VRow.new w1 zV) (hB1.alloc hB1.size (.cells (ics zV) 39)))))
  clear hw1 hrd1 hv1 hB1 H0 HB0
  go_wp2_with fail
  go_loopw [11] (fun i wr => ∃ k : Nat, i = .int .i64 k ∧ k ≤ 16 ∧ Rd (w.heap.size + 1) (stN k (s, 0)) wr ∧ VRow wr w.heap.size zV ∧ VRow wr w1.heap.size (vecN k (s, 0)) ∧ Below w.heap.size w wr) (fun i _ => 16 - (intOf i).toNat)
  case atStart => exact ⟨0, rfl, by omega, H2.out.1, H2.out.2.1, by rw [vecN_zero]; exact H2.out.2.2.1, H2.out.2.2.2⟩
  case round =>
    rename_i wr
    obtain ⟨k, rfl, hk, hrd, hv, hn, hB⟩ := hrel
    have hsz : (stN k (s, 0)).1.size ≤ 9223372036854775807 := Nat.le_trans (stN_size (s, 0) k) hs
    have H3 := Lib.hid (And.intro hrd (And.intro hv (And.intro hn hB)))
    clear hrd hv hn hB H2
    by_cases hlt : k < 16
    · have HRN := Lib.hid (rnum_any (w.heap.size + 1) (stN k (s, 0)) wr H3.out.1 hsz)
      go_wp2_with fail
      refine HRN.out.mono ?_
      rintro e w3 ⟨rfl, hrd3, hg3⟩
      have hn3 := H3.out.2.2.1.grown hg3 (fun h => by have := Option.some.inj h; omega)
      have hcell := hn3.cell k (by rw [vecN_len]; exact hlt)
      have hfree := hn3.free k
      have hz3 := hn3.lt
      have HS := Lib.hid (vecN_succ k (s, 0))
      have HNN := Lib.hid (show (sNum (stN k (s, 0))).1 = numN k (s, 0) from rfl)
      have HST := Lib.hid (show (sNum (stN k (s, 0))).2 = stN (k + 1) (s, 0) from rfl)
      have H4 := Lib.hid (And.intro hrd3 (And.intro (H3.out.2.1.grown hg3 (fun h => by have := Option.some.inj h; omega)) (And.intro hn3 (H3.out.2.2.2.grown hg3 H3.out.2.2.2.size (fun j hj => by have := Option.some.inj hj; omega)))))
      clear hrd3 hg3 hn3 H3 HRN
      go_wp2_with fail
      go_roundw
      case rel =>
        refine ⟨k + 1, by go_num, by omega, ?_, H4.out.2.1.other (by omega) _ _, ?_, H4.out.2.2.2.setCell (by simp; omega) _⟩
        · rw [← HST.out]
          exact H4.out.1.other (grownBy_setCell w3 w1.heap.size k _) (by omega)
        · rw [HS.out, ← HNN.out]; exact H4.out.2.2.1.set k _
      case measure => simp [intOf]; omega
    · obtain rfl : k = 16 := by omega
      have hdn := done_any (w.heap.size + 1) (stN 16 (s, 0)) wr H3.out.1 hsz
      have hd2 : (if (stN 16 (s, 0)).2 ≠ 0 then (stN 16 (s, 0)).2 else if 0 < (stN 16 (s, 0)).1.size then (5 : Int) else 0) = doneS (stN 16 (s, 0)) := rfl
      rw [hd2] at hdn
      have HDN := Lib.hid hdn
      have hcv := fun W => vchkC (vecN 16 (s, 0)) (vecN_len _ _) W
      have HCV := Lib.hid hcv
      have HLV := Lib.hid (vecN_len 16 (s, 0))
      have hpp := HP.out
      clear hd2 hdn hcv hsz
      generalize doneS (stN 16 (s, 0)) = dn at *
      generalize vecN 16 (s, 0) = vec at *
      by_cases hD : dn = 0
      · rw [if_neg (fun h => h hD)] at hpp
        subst hD
        by_cases hE : chkV vec = 0
        · rw [if_neg (fun h => h hE)] at hpp
          rw [hE] at HCV
          have HPP := Lib.hid hpp
          clear hpp hE
          go_wp2_with fail
          refine HDN.out.mono ?_
          rintro e w4 ⟨rfl, rfl⟩
          go_wp2_with ((with_reducible refine vl_load ?_ (.tmp 5) ?_ w1.heap.size vec ?_ ?_ ?_ ?_); rfl; rfl; rfl; exact H3.out.2.2.1; exact HLV.out)
          refine (HCV.out _).mono ?_
          rintro e w5 ⟨rfl, hb5⟩
          have H5 := Lib.hid (And.intro (H3.out.2.1.keep hb5) (And.intro (H3.out.2.2.1.keep hb5) (H3.out.2.2.2.trans (hb5.mono H3.out.2.2.2.size))))
          clear hb5
          go_wp2_with (first
            | ((with_reducible refine vl_load ?_ (.tmp 5) ?_ w1.heap.size vec ?_ ?_ ?_ ?_); rfl; rfl; rfl; exact H5.out.2.1; exact HLV.out)
            | ((with_reducible refine vl_store ?_ (.tmp 2) (.tmp 31) ?_ w.heap.size vec ?_ ?_ ?_ ?_ ?_); rfl; rfl; rfl; rfl; exact ⟨_, H5.out.1, by rw [HLV.out]; rfl⟩; exact HLV.out))
          exact bodyPost_ret (retV rfl _ _ w.heap.size vec _ rfl rfl (VRow.of_put H5.out.1 vec) HLV.out) rfl ⟨by rw [HPP.out]; rfl, belowRow H5.out.2.2 (Nat.le_refl _) _⟩
        · rw [if_pos hE] at hpp
          have h2 := (chkV_cases vec).resolve_left hE
          rw [h2] at HCV
          have HPP := Lib.hid hpp
          clear hpp hE h2
          go_wp2_with fail
          refine HDN.out.mono ?_
          rintro e w4 ⟨rfl, rfl⟩
          go_wp2_with ((with_reducible refine vl_load ?_ (.tmp 5) ?_ w1.heap.size vec ?_ ?_ ?_ ?_); rfl; rfl; rfl; exact H3.out.2.2.1; exact HLV.out)
          refine (HCV.out _).mono ?_
          rintro e w5 ⟨rfl, hb5⟩
          have H5 := Lib.hid (And.intro (H3.out.2.1.keep hb5) (H3.out.2.2.2.trans (hb5.mono H3.out.2.2.2.size)))
          have hbd := buildV
          clear hb5
          go_wp2_with ((with_reducible refine vl_store ?_ (.tmp 2) (.tmp 29) ?_ w.heap.size zV ?_ ?_ ?_ ?_ ?_); rfl; rfl; rfl; rfl; exact ⟨_, H5.out.1, rfl⟩; rfl)
          exact bodyPost_ret (retV rfl _ _ w.heap.size zV _ rfl rfl (VRow.of_put H5.out.1 zV) rfl) rfl ⟨by rw [HPP.out]; rfl, belowRow H5.out.2 (Nat.le_refl _) _⟩
      · rw [if_pos hD] at hpp
        have hne : (dn != 0) = true := by simp [hD]
        have HPP := Lib.hid hpp
        have hbd := buildV
        clear hpp hD
        go_wp2_with fail
        refine HDN.out.mono ?_
        rintro e w4 ⟨rfl, rfl⟩
        go_wp2_with ((with_reducible refine vl_store ?_ (.tmp 2) (.tmp 23) ?_ w.heap.size zV ?_ ?_ ?_ ?_ ?_); rfl; rfl; rfl; rfl; exact ⟨_, H3.out.2.1, rfl⟩; rfl)
        exact bodyPost_ret (retV rfl _ _ w.heap.size zV _ rfl rfl (VRow.of_put H3.out.2.1 zV) rfl) rfl ⟨by rw [HPP.out]; rfl, belowRow H3.out.2.2.2 (Nat.le_refl _) _⟩
end Go.Proofs.Ytoiafhbembhppaa
