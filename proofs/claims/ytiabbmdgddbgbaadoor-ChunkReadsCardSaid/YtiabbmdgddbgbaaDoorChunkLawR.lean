/-
  ChunkReads: the walk.
-/
import Derived.Test.YtiabbmdgddbgbaaDoorChunkAwake
import Derived.Test.YtiabbmdgddbgbaaDoorShaLaid
import Derived.Test.YtiabbmdgddbgbaaDoorChunkKit
import Derived.Lib.QuietBelow
namespace Go.Proofs.YtiabbmdgddbgbaaDoor
open Go.RowKit Go.Sort

theorem readM_len (t : ByteArray) : (readM t).1.ids.length ≤ 4096 := by
  unfold readM
  split
  · simp
  · split
    · simp
    · rename_i h
      exact (manE_ok (Classical.byContradiction h)).2.2.1

set_option maxHeartbeats 8000000 in
set_option maxRecDepth 100000 in
theorem creads_law (m : Man) (a : Option Addr) (cap : Nat) (s : ByteArray) (b : Option Addr) (bcap : Nat) (l : List ByteArray) (w : World) (ha : ManArg w m a) (ws : s.size ≤ maxLen) (hl : StrRow w b l) (hll : l.length ≤ maxLen) (hcap : l.length ≤ bcap) (hT : Tab w) :
    Calls Tryd.prog 4 #[mv m (.slice a m.ids.length cap), .string s, .slice b l.length bcap] w fun e w' => e = .returned (.bool true) ∧ Below w.heap.size w w' := by
  obtain ⟨hbx, hbw⟩ := box_man w m (.slice a m.ids.length cap)
  have hrow := ha.row.below hbw
  have hl1 := hl.below hbw
  have hT1 := hT.below hbw
  have hmlen := ha.len
  have h0 := hbx.c0
  have h1 := hbx.c1
  have h2 := hbx.c2
  have cF := fewC m a cap _ hrow hmlen
  unfold maxLen at ws hll
  have HB := Lib.hid hbw
  have HX := Lib.hid hbx
  have HR := Lib.hid hrow
  have HL := Lib.hid hl1
  have HT := Lib.hid hT1
  clear ha hl hT hbw hbx hrow hl1 hT1
  have HF := Lib.hid cF
  clear cF
  by_cases hg : fewM m ∧ s.size ≤ 3000 ∧ l.length ≤ 40
  case neg =>
    have hcond : decide (fewM m) = false ∨ (decide (fewM m) = true ∧ decide ((3000 : Int) < (s.size : Int)) = true) ∨ (decide (fewM m) = true ∧ decide ((3000 : Int) < (s.size : Int)) = false ∧ decide ((40 : Int) < (l.length : Int)) = true) := by
      by_cases hf : fewM m
      · right
        rw [decide_eq_true hf]
        by_cases hs : 3000 < s.size
        · left; exact ⟨rfl, by simp; omega⟩
        · right
          have : 40 < l.length := Classical.byContradiction fun h => hg ⟨hf, by omega, by omega⟩
          exact ⟨rfl, by simp; omega, by simp; omega⟩
      · left; exact decide_eq_false hf
    clear hg
    generalize decide (fewM m) = f at HF hcond
    rcases hcond with rfl | ⟨rfl, hd1⟩ | ⟨rfl, hd1, hd2⟩
    all_goals
      go_enter Tryd.func4, Tryd.ntmps4
      go_wp2_with fail
      refine HF.out.mono ?_
      rintro e w1 ⟨rfl, hb1⟩
      have HB1 := Lib.hid (HB.out.trans (hb1.mono HB.out.size))
      have HT1 := Lib.hid (HT.out.below hb1)
      clear hb1
      go_wp2_with fail
      refine (chunkAwake w1 HT1.out).mono ?_
      rintro e w2 ⟨rfl, hb2⟩
      have HB2 := Lib.hid (HB1.out.trans (hb2.mono HB1.out.size))
      clear hb2
      go_wp2_with fail
      go_ret
      exact ⟨rfl, HB2.out⟩
  case pos =>
    obtain ⟨hf, hs, hl40⟩ := hg
    have hd1 : decide ((3000 : Int) < (s.size : Int)) = false := by simp; omega
    have hd2 : decide ((40 : Int) < (l.length : Int)) = false := by simp; omega
    rw [decide_eq_true hf] at HF
    have hsh : ∀ x ∈ m.ids, x.size ≤ 5000 := fun x hx => by have := hf.2 x hx; omega
    have hm40 := hf.1
    have HSH := Lib.hid hsh
    clear hf hsh
    go_enter Tryd.func4, Tryd.ntmps4
    go_wp2_with fail
    refine HF.out.mono ?_
    rintro e w1 ⟨rfl, hb1⟩
    have HB1 := Lib.hid (HB.out.trans (hb1.mono HB.out.size))
    have HX1 := Lib.hid (HX.out.below hb1 HX.out.lt)
    have HT1 := Lib.hid (HT.out.below hb1)
    have HL1 := Lib.hid (HL.out.below hb1)
    have HM1 := Lib.hid (show MArg w1 m a from ⟨HR.out.below hb1, by omega, HSH.out⟩)
    clear hb1 h0 h1 h2 HB HX HT HL HR HF
    go_wp2_with fail
    go_loopw [7] (fun i wr => ∃ k : Nat, i = .int .i64 k ∧ k ≤ l.length ∧ (∀ j, j < k → (l.getD j ByteArray.empty).size ≤ 300) ∧ w1 = wr) (fun i _ => l.length - (intOf i).toNat)
    case atStart => exact ⟨0, rfl, Nat.zero_le _, fun j hj => absurd hj (by omega), rfl⟩
    case round =>
      obtain ⟨k, rfl, hk, hz, rfl⟩ := hrel
      by_cases hlt : k < l.length
      · obtain ⟨bb, ob, rfl, hbl, hcc⟩ := str_at HL1.out hlt
        have HZ := Lib.hid hz
        clear hz
        generalize hsk : l.getD k ByteArray.empty = x at hcc
        by_cases hx : 300 < x.size
        · have hd3 : decide ((300 : Int) < (x.size : Int)) = true := by simp; omega
          clear hx
          go_wp2_with fail
          refine (chunkAwake w1 HT1.out).mono ?_
          rintro e w2 ⟨rfl, hb2⟩
          have HB2 := Lib.hid (HB1.out.trans (hb2.mono HB1.out.size))
          clear hb2
          go_wp2_with fail
          go_ret
          exact ⟨rfl, HB2.out⟩
        · have hd3 : decide ((300 : Int) < (x.size : Int)) = false := by simp; omega
          go_wp2_with fail
          go_roundw
          case rel =>
            refine ⟨k + 1, by go_num, by omega, fun j hj => ?_, trivial⟩
            by_cases hjk : j < k
            · exact HZ.out j hjk
            · obtain rfl : j = k := by omega
              rw [hsk]; omega
          case measure => simp [intOf]; omega
      · obtain rfl : k = l.length := by omega
        have hls : ∀ x ∈ l, x.size ≤ 5000 := fun x hx => by
          obtain ⟨j, hj, rfl⟩ := List.getElem_of_mem hx
          have := hz j hj
          rw [List.getD_eq_getElem?_getD, List.getElem?_eq_getElem hj] at this
          have h3 : l[j].size ≤ 300 := this
          omega
        have HLS := Lib.hid hls
        clear hz hls
        have a1 := fun W (h : MArg W m a) => putMC m a cap W h
        have a2 := fun W (h : MArg W m a) => putMR m a cap W h
        have hms := rMan_short (s := s) (by omega)
        have a3 := fun W => readMC s (by omega) hms W
        have a4 := fun W => readMR s (by omega) hms W
        have hzl := readM_len s
        have a5 := fun W h1 h2 h3 => joinMC m a cap b bcap l W h1 h2 (by omega) hcap HLS.out h3
        have a6 := fun W h1 h2 => joinMR m a cap b bcap l W h1 h2 (by omega) HLS.out
        have a7 := fun W (h : MArg W m a) => checkMC m a cap W h
        have a8 := fun W (h : MArg W m a) => checkMR m a cap W h
        generalize putM m = U at *
        generalize joinM m l = J at *
        generalize manE m = E at *
        generalize readM s = R at *
        obtain ⟨U1, U2⟩ := U
        obtain ⟨J1, J2⟩ := J
        obtain ⟨Z, R2⟩ := R
        simp only at hzl
        have A1 := Lib.hid a1; have A2 := Lib.hid a2; have A3 := Lib.hid a3; have A4 := Lib.hid a4; have A5 := Lib.hid a5; have A6 := Lib.hid a6; have A7 := Lib.hid a7; have A8 := Lib.hid a8
        clear a1 a2 a3 a4 a5 a6 a7 a8 hms
        have h0 := HX1.out.c0
        have h1 := HX1.out.c1
        have h2 := HX1.out.c2
        go_wp2_with fail
        refine (A1.out w1 HM1.out).mono ?_
        rintro e w2 ⟨rfl, hb⟩
        have HB2 := Lib.hid (HB1.out.trans (hb.mono HB1.out.size))
        have HX2 := Lib.hid (HX1.out.below hb HX1.out.lt)
        have HT2 := Lib.hid (HT1.out.below hb)
        have HL2 := Lib.hid (HL1.out.below hb)
        have HM2 := Lib.hid (HM1.out.below hb)
        clear hb h0 h1 h2 HB1 HX1 HT1 HL1 HM1
        have h0 := HX2.out.c0
        have h1 := HX2.out.c1
        have h2 := HX2.out.c2
        go_wp2_with fail
        refine (A2.out w2 HM2.out).mono ?_
        rintro e w3 ⟨rfl, hb⟩
        have HB3 := Lib.hid (HB2.out.trans (hb.mono HB2.out.size))
        have HX3 := Lib.hid (HX2.out.below hb HX2.out.lt)
        have HT3 := Lib.hid (HT2.out.below hb)
        have HL3 := Lib.hid (HL2.out.below hb)
        have HM3 := Lib.hid (HM2.out.below hb)
        clear hb h0 h1 h2 HB2 HX2 HT2 HL2 HM2
        go_wp2_with fail
        refine (A3.out w3).mono ?_
        rintro e w4 ⟨v4, rfl, hown4, hb⟩
        obtain ⟨na, nc, rfl, hrow4, -, -⟩ := ownS_rowC hown4
        have hbA := (Below.refl _ w4).alloc (Nat.le_refl _) (.cells #[.int .i64 Z.size, .int .i64 Z.chunk, .slice na Z.ids.length nc] 31)
        have hbb := hb.trans (hbA.mono hb.size)
        have HN4 := Lib.hid (And.intro (MBox.new w4 Z (.slice na Z.ids.length nc)) (hrow4.below hbA))
        have HB4 := Lib.hid (HB3.out.trans (hbb.mono HB3.out.size))
        have HX4 := Lib.hid (HX3.out.below hbb HX3.out.lt)
        have HT4 := Lib.hid (HT3.out.below hbb)
        have HL4 := Lib.hid (HL3.out.below hbb)
        have HM4 := Lib.hid (HM3.out.below hbb)
        clear hb hbA hbb hown4 hrow4 HB3 HX3 HT3 HL3 HM3
        go_wp2_with fail
        generalize w4.alloc (.cells #[.int .i64 Z.size, .int .i64 Z.chunk, .slice na Z.ids.length nc] 31) = wa at *
        refine (A4.out wa).mono ?_
        rintro e w5 ⟨v5, rfl, hown5, hb⟩
        obtain ⟨za, zc, rfl, hrow5, -, -⟩ := ownS_rowC hown5
        have hbA := (Below.refl _ w5).alloc (Nat.le_refl _) (.cells #[.int .i64 Z.size, .int .i64 Z.chunk, .slice za Z.ids.length zc] 31)
        have hbb := hb.trans (hbA.mono hb.size)
        have HZ5 := Lib.hid (And.intro (MBox.new w5 Z (.slice za Z.ids.length zc)) (hrow5.below hbA))
        have HN5 := Lib.hid (And.intro (HN4.out.1.below hbb HN4.out.1.lt) (HN4.out.2.below hbb))
        have HB5 := Lib.hid (HB4.out.trans (hbb.mono HB4.out.size))
        have HX5 := Lib.hid (HX4.out.below hbb HX4.out.lt)
        have HT5 := Lib.hid (HT4.out.below hbb)
        have HL5 := Lib.hid (HL4.out.below hbb)
        have HM5 := Lib.hid (HM4.out.below hbb)
        clear hb hbA hbb hown5 hrow5 HB4 HX4 HT4 HL4 HM4 HN4
        have h0 := HX5.out.c0
        have h1 := HX5.out.c1
        have h2 := HX5.out.c2
        go_wp2_with fail
        generalize w5.alloc (.cells #[.int .i64 Z.size, .int .i64 Z.chunk, .slice za Z.ids.length zc] 31) = wb at *
        refine (A5.out wb HM5.out HL5.out HT5.out).mono ?_
        rintro e w6 ⟨rfl, hb⟩
        have HZ6 := Lib.hid (And.intro (HZ5.out.1.below hb HZ5.out.1.lt) (HZ5.out.2.below hb))
        have HN6 := Lib.hid (And.intro (HN5.out.1.below hb HN5.out.1.lt) (HN5.out.2.below hb))
        have HB6 := Lib.hid (HB5.out.trans (hb.mono HB5.out.size))
        have HX6 := Lib.hid (HX5.out.below hb HX5.out.lt)
        have HT6 := Lib.hid (HT5.out.below hb)
        have HL6 := Lib.hid (HL5.out.below hb)
        have HM6 := Lib.hid (HM5.out.below hb)
        clear hb h0 h1 h2 HB5 HX5 HT5 HL5 HM5 HN5 HZ5
        have h0 := HX6.out.c0
        have h1 := HX6.out.c1
        have h2 := HX6.out.c2
        go_wp2_with fail
        refine (A6.out w6 HM6.out HL6.out).mono ?_
        rintro e w7 ⟨rfl, hb⟩
        have HZ7 := Lib.hid (And.intro (HZ6.out.1.below hb HZ6.out.1.lt) (HZ6.out.2.below hb))
        have HN7 := Lib.hid (And.intro (HN6.out.1.below hb HN6.out.1.lt) (HN6.out.2.below hb))
        have HB7 := Lib.hid (HB6.out.trans (hb.mono HB6.out.size))
        have HX7 := Lib.hid (HX6.out.below hb HX6.out.lt)
        have HT7 := Lib.hid (HT6.out.below hb)
        have HM7 := Lib.hid (HM6.out.below hb)
        clear hb h0 h1 h2 HB6 HX6 HT6 HL6 HM6 HN6 HZ6
        go_upto_region 14 with fail
        have h0 := HX7.out.c0
        have h1 := HX7.out.c1
        have h2 := HX7.out.c2
        have n0 := HN7.out.1.c0
        have n1 := HN7.out.1.c1
        have n2 := HN7.out.1.c2
        have z0 := HZ7.out.1.c0
        have z1 := HZ7.out.1.c1
        have z2 := HZ7.out.1.c2
        have rh0 := fun d os => cell_regrown h0 d os
        have rh1 := fun d os => cell_regrown h1 d os
        have rh2 := fun d os => cell_regrown h2 d os
        have rn0 := fun d os => cell_regrown n0 d os
        have rn1 := fun d os => cell_regrown n1 d os
        have rn2 := fun d os => cell_regrown n2 d os
        have rz0 := fun d os => cell_regrown z0 d os
        have rz1 := fun d os => cell_regrown z1 d os
        have rz2 := fun d os => cell_regrown z2 d os
        have q7 := fun d os => Calls.regrown_of (A7.out (grow (redrawn w7 d) os) (HM7.out.below (below_regrown w7 d os)))
        have q8 := fun d os => Calls.regrown_of (A8.out (grow (redrawn w7 d) os) (HM7.out.below (below_regrown w7 d os)))
        have q9 := fun d os => Calls.regrown_of (sameR Z na za nc zc (grow (redrawn w7 d) os) (HN7.out.2.below (below_regrown w7 d os)) (HZ7.out.2.below (below_regrown w7 d os)) (by unfold maxLen; omega))
        have q10 := fun d os => Calls.regrown_of (chunkAwake (grow (redrawn w7 d) os) (HT7.out.below (below_regrown w7 d os)))
        have Q7 := Lib.hid q7
        have Q8 := Lib.hid q8
        have Q9 := Lib.hid q9
        have Q10 := Lib.hid q10
        have hU1 : (U1.toList == U1.toList) = true := by simp
        have hJ1 : (J1.toList == J1.toList) = true := by simp
        have hU2 : (U2 == U2) = true := by simp
        have hJ2 : (J2 == J2) = true := by simp
        have hR2 : (R2 == R2) = true := by simp
        have hE2 : (E == E) = true := by simp
        clear q7 q8 q9 q10 h0 h1 h2 n0 n1 n2 z0 z1 z2
        refine wp_region_quiet_below (by kernel_rfl) (by kernel_rfl) ?_
        repeat (first | go_big_quiet_step ((first | (go_at_call 21; with_reducible exact Q7.out _ _) | (go_at_call 22; with_reducible exact Q8.out _ _) | (go_at_call 13; with_reducible exact Q9.out _ _) | (go_at_call 7; with_reducible exact Q10.out _ _))) | quiet_step ((first | (go_at_call 21; with_reducible exact Q7.out _ _) | (go_at_call 22; with_reducible exact Q8.out _ _) | (go_at_call 13; with_reducible exact Q9.out _ _) | (go_at_call 7; with_reducible exact Q10.out _ _))))
        trace_state
        refine wpQuiet_nil ?_
        intro _ hw'
        obtain ⟨⟨dq, osq⟩, hw''⟩ := hw'
        subst hw''
        have HBq := Lib.hid (HB7.out.trans ((below_regrown w7 dq osq).mono HB7.out.size))
        clear Q7 Q8 Q9 Q10 rh0 rh1 rh2 rn0 rn1 rn2 rz0 rz1 rz2
        go_wp2_with fail
        go_ret
        exact ⟨rfl, HBq.out⟩

theorem creads_row (a0 : Man) (la0 : Option Addr) (ca0 : Nat) (a1 : ByteArray) (a2 : Option Addr) (len2 cap2 : Nat) (z2 : List ByteArray) (w : World) (w0 : ManArg w a0 la0) (w1 : a1.size ≤ maxLen) (w2 : StrArgC w a2 len2 cap2 z2) (hL : laidMetH Tryd.prog Rows.chunkReadsRow.laid w) :
    Calls Tryd.prog 4 #[mv a0 (.slice la0 a0.ids.length ca0), .string a1, .slice a2 len2 cap2] w fun e w' => e = .returned (.bool true) ∧ Below w.heap.size w w' := by
  obtain ⟨⟨hlen, hm, hrow, _⟩, hc, _⟩ := w2
  subst hlen
  exact creads_law a0 la0 ca0 a1 a2 cap2 z2 w w0 w1 hrow hm hc (tab_of hL (by kernel_rfl) (by kernel_rfl) (.head _))
end Go.Proofs.YtiabbmdgddbgbaaDoor
