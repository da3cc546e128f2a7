/-
  areIDs; Check: the program's and the document's.
  almonryref01's reader R: what each call answers.
-/
import Derived.Test.YtmnblpjdiplioaaGreatGOp07
import Derived.Test.YtmnblpjdiplioaaGreatGOp08
import Derived.StillTailTactics
import Derived.Deep.Cut
import Derived.Deep.DeepCutAuto
import Derived.BigQuiet
import Derived.Lib.QuietBelow
import Derived.Test.YtmnblpjdiplioaaGreatGOp01
import Derived.Laws.ResultCell
namespace Go.Proofs.YtmnblpjdiplioaaGreat
open Go.RowKit Go.Sort

/-- the error of a manifest -/
def manE (m : Man) : Int :=
  if ¬(1 ≤ m.chunk ∧ m.chunk ≤ 4096) ∨ m.size < 0 ∨ 32768 < m.size then 2
  else if m.ids.length ≠ nP m.size.toNat m.chunk.toNat ∨ ¬(∀ s ∈ m.ids, ckE s = 0) then 5
  else if 4096 < m.ids.length then 3 else 0

theorem str_at {w : World} {a : Option Addr} {ss : List ByteArray} (h : StrRow w a ss) {k : Nat} (hk : k < ss.length) : ∃ b off, a = some ⟨b, off, none⟩ ∧ b < w.heap.size ∧ w.cell? ⟨b, off + k, none⟩ = some (.string (ss.getD k ByteArray.empty)) := by
  rcases h with rfl | ⟨b, off, rfl, hb, hc⟩
  · simp at hk
  · exact ⟨b, off, rfl, hb, hc k hk⟩

set_option maxHeartbeats 2000000 in
set_option maxRecDepth 100000 in
theorem areC (a : Option Addr) (cap : Nat) (ss : List ByteArray) (hs : ∀ s ∈ ss, s.size ≤ 5000) (hl : ss.length ≤ maxLen) (w : World) (hrow : StrRow w a ss) :
    Calls Tryz.prog 170 #[.slice a ss.length cap] w fun e w' => e = .returned (.bool (decide (∀ s ∈ ss, ckE s = 0))) ∧ Below w.heap.size w w' := by
  unfold maxLen at hl
  go_enter Tryz.func170, Tryz.ntmps170
  go_wp2
  go_loopw [7] (fun i wr => ∃ k : Nat, i = .int .i64 k ∧ k ≤ ss.length ∧ (∀ j, j < k → ckE (ss.getD j ByteArray.empty) = 0) ∧ Below w.heap.size w wr) (fun i _ => ss.length - (intOf i).toNat)
  case atStart => exact ⟨0, rfl, Nat.zero_le _, fun j hj => absurd hj (by omega), Below.refl _ _⟩
  case round =>
    obtain ⟨k, rfl, hk, hz, hb⟩ := hrel
    by_cases hlt : k < ss.length
    · obtain ⟨b, off, rfl, hbl, hc⟩ := str_at (hrow.below hb) hlt
      have hmem : ss.getD k ByteArray.empty ∈ ss := by rw [List.getD_eq_getElem?_getD, List.getElem?_eq_getElem hlt]; exact List.getElem_mem hlt
      have hck := hchkC (ss.getD k ByteArray.empty) wr (hs _ hmem)
      have HZ := Lib.hid hz
      have HB := Lib.hid hb
      have HM := Lib.hid hmem
      clear hz hb hmem
      generalize hsk : ss.getD k ByteArray.empty = s at hc hck HM
      by_cases h0 : ckE s = 0
      · rw [h0] at hck
        go_wp2_with fail
        refine hck.mono ?_
        rintro e w2 ⟨rfl, hb2⟩
        have HB2 := Lib.hid (HB.out.trans (hb2.mono HB.out.size))
        clear hb2
        go_wp2
        go_roundw
        case rel =>
          refine ⟨k + 1, by go_num, by omega, fun j hj => ?_, HB2.out⟩
          by_cases hjk : j < k
          · exact HZ.out j hjk
          · obtain rfl : j = k := by omega
            rw [hsk]; exact h0
        case measure => simp [intOf]; omega
      · have hne : (ckE s != 0) = true := by simp [h0]
        have hall : ¬ ∀ s ∈ ss, ckE s = 0 := fun h => h0 (h s HM.out)
        generalize ckE s = E at hck hne
        go_wp2_with fail
        refine hck.mono ?_
        rintro e w2 ⟨rfl, hb2⟩
        have HB2 := Lib.hid (HB.out.trans (hb2.mono HB.out.size))
        clear hb2
        go_wp2
        go_ret
        rw [decide_eq_false hall]
        exact ⟨rfl, HB2.out⟩
    · obtain rfl : k = ss.length := by omega
      go_wp2
      go_ret
      have hall : ∀ s ∈ ss, ckE s = 0 := fun s hs' => by
        obtain ⟨j, hj, rfl⟩ := List.getElem_of_mem hs'
        have := hz j hj
        rw [List.getD_eq_getElem?_getD, List.getElem?_eq_getElem hj] at this
        exact this
      rw [decide_eq_true hall]
      exact ⟨rfl, hb⟩

/-- a manifest's argument: its IDs lie in memory -/
structure MArg (w : World) (m : Man) (a : Option Addr) : Prop where
  row : StrRow w a m.ids
  len : m.ids.length ≤ 9223372036854775807
  short : ∀ s ∈ m.ids, s.size ≤ 5000
theorem MArg.below {w w' : World} {m : Man} {a : Option Addr} (h : MArg w m a) (hb : Below w.heap.size w w') : MArg w' m a := ⟨h.row.below hb, h.len, h.short⟩

/-- the parameter's box -/
theorem box_man (w : World) (m : Man) (v : Value) : MBox (w.alloc (.cells #[.int .i64 m.size, .int .i64 m.chunk, v] 86)) w.heap.size m v ∧ Below w.heap.size w (w.alloc (.cells #[.int .i64 m.size, .int .i64 m.chunk, v] 86)) := ⟨MBox.new w m v, (Below.refl _ w).alloc (Nat.le_refl _) _⟩

set_option maxHeartbeats 2000000 in
set_option maxRecDepth 100000 in
theorem checkMC (m : Man) (a : Option Addr) (cap : Nat) (w : World) (h : MArg w m a) :
    Calls Tryz.prog 163 #[mv m (.slice a m.ids.length cap)] w fun e w' => e = .returned (.int .i64 (manE m)) ∧ Below w.heap.size w w' := by
  obtain ⟨hbx, hbw⟩ := box_man w m (.slice a m.ids.length cap)
  have ha := h.below hbw
  have hlen := h.len
  obtain ⟨z, c, ids⟩ := m
  have hi := fun W => isSizeC c W
  by_cases hc : 1 ≤ c ∧ c ≤ 4096
  case neg =>
    have e : manE ⟨z, c, ids⟩ = 2 := by unfold manE; rw [if_pos (.inl hc)]
    rw [e]
    rw [decide_eq_false hc] at hi
    have h1 := hbx.c1
    have HB := Lib.hid hbw
    clear hbx hbw ha h e hc
    go_enter Tryz.func163, Tryz.ntmps163
    go_wp2_with (go_at_call 168; refine (hi _).mono ?_; rintro e w1 ⟨rfl, rfl⟩)
    go_ret
    exact ⟨rfl, HB.out⟩
  case pos =>
    rw [decide_eq_true hc] at hi
    have h0 := hbx.c0
    have h1 := hbx.c1
    have h2 := hbx.c2
    simp only at h0 h1 h2 hlen
    by_cases hz : z < 0
    · have e : manE ⟨z, c, ids⟩ = 2 := by unfold manE; rw [if_pos (.inr (.inl hz))]
      rw [e]
      have hd : decide (z < 0) = true := decide_eq_true hz
      have HB := Lib.hid hbw
      clear hbx hbw ha h e hc hz
      go_enter Tryz.func163, Tryz.ntmps163
      go_wp2_with (go_at_call 168; refine (hi _).mono ?_; rintro e w1 ⟨rfl, rfl⟩)
      go_ret
      exact ⟨rfl, HB.out⟩
    have hdz : decide (z < 0) = false := decide_eq_false hz
    by_cases hz2 : 32768 < z
    · have e : manE ⟨z, c, ids⟩ = 2 := by unfold manE; rw [if_pos (.inr (.inr hz2))]
      rw [e]
      have hd : decide (32768 < z) = true := decide_eq_true hz2
      have HB := Lib.hid hbw
      clear hbx hbw ha h e hc hz hz2
      go_enter Tryz.func163, Tryz.ntmps163
      go_wp2_with (go_at_call 168; refine (hi _).mono ?_; rintro e w1 ⟨rfl, rfl⟩)
      go_ret
      exact ⟨rfl, HB.out⟩
    have hdz2 : decide (32768 < z) = false := decide_eq_false hz2
    obtain ⟨zn, rfl⟩ : ∃ n : Nat, z = n := ⟨z.toNat, by omega⟩
    obtain ⟨cn, rfl⟩ : ∃ n : Nat, c = n := ⟨c.toNat, by omega⟩
    have hk := hbx.lt
    have e0 : manE ⟨(zn : Int), (cn : Int), ids⟩ = if ids.length ≠ nP zn cn ∨ ¬(∀ s ∈ ids, ckE s = 0) then 5 else if 4096 < ids.length then 3 else 0 := by
      unfold manE
      simp only [Int.toNat_natCast]
      rw [if_neg (by omega)]
    have hcn1 : 1 ≤ cn := by omega
    have hcn2 : cn ≤ 4096 := by omega
    have hzn : zn ≤ 32768 := by omega
    have E0 := Lib.hid e0
    have HB := Lib.hid hbw
    have HA := Lib.hid ha
    clear e0 hc hz hz2 h hbw ha
    go_enter Tryz.func163, Tryz.ntmps163
    go_upto_region 3 with (go_at_call 168; refine (hi _).mono ?_; rintro e w1 ⟨rfl, rfl⟩)
    generalize w.alloc (.cells #[.int .i64 (zn : Int), .int .i64 (cn : Int), .slice a ids.length cap] 86) = w1 at *
    have r0 := fun d os => cell_regrown h0 d os
    have r1 := fun d os => cell_regrown h1 d os
    have r2 := fun d os => cell_regrown h2 d os
    have cN := fun d os => Calls.regrown_of ((countC zn cn (by omega) hcn1 hcn2 (grow (redrawn w1 d) os)).mono fun e w' ⟨he, hw⟩ => ⟨he, hw ▸ Below.refl _ _⟩)
    have cA := fun d os => Calls.regrown_of (areC a cap ids HA.out.short HA.out.len (grow (redrawn w1 d) os) (HA.out.row.below (below_regrown w1 d os)))
    have HN := Lib.hid cN
    have HAR := Lib.hid cA
    clear cN cA h0 h1 h2 hbx
    generalize nP zn cn = N at *
    by_cases hN : ids.length = N
    · have hdn : ((ids.length : Int) != (N : Int)) = false := by simp [hN]
      have e1 := E0.out
      rw [hN] at e1
      by_cases hall : ∀ s ∈ ids, ckE s = 0
      · rw [decide_eq_true hall] at HAR
        by_cases h4 : 4096 < ids.length
        · have EE : manE ⟨(zn : Int), (cn : Int), ids⟩ = 3 := by rw [E0.out, if_neg (by rintro (h | h); exact h hN; exact h hall), if_pos h4]
          have hd4 : decide ((4096 : Int) < (ids.length : Int)) = true := by simp; omega
          clear hall hN e1 E0
          refine wp_region_quiet_below (by kernel_rfl) (by kernel_rfl) ?_
          repeat (first | go_big_quiet_step (first | (go_at_call 169; with_reducible exact HN.out _ _) | (go_at_call 170; with_reducible exact HAR.out _ _)) | quiet_step (first | (go_at_call 169; with_reducible exact HN.out _ _) | (go_at_call 170; with_reducible exact HAR.out _ _)))
          refine wpQuiet_nil ?_
          intro _ hw'
          obtain ⟨⟨dq, osq⟩, hw''⟩ := hw'
          subst hw''
          have HBq := Lib.hid (HB.out.trans ((below_regrown w1 dq osq).mono HB.out.size))
          have k2 := r2 dq osq
          clear HN HAR r0 r1 r2
          go_wp2_with fail
          go_ret
          rw [EE]; exact ⟨rfl, HBq.out⟩
        · have EE : manE ⟨(zn : Int), (cn : Int), ids⟩ = 0 := by rw [E0.out, if_neg (by rintro (h | h); exact h hN; exact h hall), if_neg h4]
          have hd4 : decide ((4096 : Int) < (ids.length : Int)) = false := by simp; omega
          clear hall hN e1 E0
          refine wp_region_quiet_below (by kernel_rfl) (by kernel_rfl) ?_
          repeat (first | go_big_quiet_step (first | (go_at_call 169; with_reducible exact HN.out _ _) | (go_at_call 170; with_reducible exact HAR.out _ _)) | quiet_step (first | (go_at_call 169; with_reducible exact HN.out _ _) | (go_at_call 170; with_reducible exact HAR.out _ _)))
          refine wpQuiet_nil ?_
          intro _ hw'
          obtain ⟨⟨dq, osq⟩, hw''⟩ := hw'
          subst hw''
          have HBq := Lib.hid (HB.out.trans ((below_regrown w1 dq osq).mono HB.out.size))
          have k2 := r2 dq osq
          clear HN HAR r0 r1 r2
          go_wp2_with fail
          go_ret
          rw [EE]; exact ⟨rfl, HBq.out⟩
      · rw [decide_eq_false hall] at HAR
        have EE : manE ⟨(zn : Int), (cn : Int), ids⟩ = 5 := by rw [E0.out, if_pos (.inr hall)]
        clear hall hN e1 E0
        refine wp_region_quiet_below (by kernel_rfl) (by kernel_rfl) ?_
        repeat (first | go_big_quiet_step (first | (go_at_call 169; with_reducible exact HN.out _ _) | (go_at_call 170; with_reducible exact HAR.out _ _)) | quiet_step (first | (go_at_call 169; with_reducible exact HN.out _ _) | (go_at_call 170; with_reducible exact HAR.out _ _)))
        refine wpQuiet_nil ?_
        intro _ hw'
        obtain ⟨⟨dq, osq⟩, hw''⟩ := hw'
        subst hw''
        have HBq := Lib.hid (HB.out.trans ((below_regrown w1 dq osq).mono HB.out.size))
        have k2 := r2 dq osq
        clear HN HAR r0 r1 r2
        go_wp2_with fail
        go_ret
        rw [EE]; exact ⟨rfl, HBq.out⟩
    · have hdn : ((ids.length : Int) != (N : Int)) = true := by simp; omega
      have EE : manE ⟨(zn : Int), (cn : Int), ids⟩ = 5 := by rw [E0.out, if_pos (.inl hN)]
      clear hN E0
      refine wp_region_quiet_below (by kernel_rfl) (by kernel_rfl) ?_
      repeat (first | go_big_quiet_step (first | (go_at_call 169; with_reducible exact HN.out _ _) | (go_at_call 170; with_reducible exact HAR.out _ _)) | quiet_step (first | (go_at_call 169; with_reducible exact HN.out _ _) | (go_at_call 170; with_reducible exact HAR.out _ _)))
      refine wpQuiet_nil ?_
      intro _ hw'
      obtain ⟨⟨dq, osq⟩, hw''⟩ := hw'
      subst hw''
      have HBq := Lib.hid (HB.out.trans ((below_regrown w1 dq osq).mono HB.out.size))
      have k2 := r2 dq osq
      clear HN HAR r0 r1 r2
      go_wp2_with fail
      go_ret
      rw [EE]; exact ⟨rfl, HBq.out⟩
end Go.Proofs.YtmnblpjdiplioaaGreat

namespace Go.Proofs.YtmnblpjdiplioaaGreat
open Go.RowKit

/-- a state as a value -/
abbrev rv (st : ByteArray × Int) : Value := .agg #[.string st.1, .int .i64 st.2]

theorem lev_drop (l : List UInt8) (i : Nat) (h : i < l.length) : lev (l.drop i) = l[i].toNat % 128 + 128 * lev (l.drop (i + 1)) := by
  rw [List.drop_eq_getElem_cons h]; rfl

/-- numR, in the order in which the document's answer asks -/
theorem numR_form {l : List UInt8} (h1 : run l < l.length) (h2 : run l ≤ 7) (h3 : l.getD (run l) 0 = 0) (h4 : 0 < run l) : numR l = (0, 0, 5) := by
  have e : l.take (run l + 1) = l.take (run l) ++ [l[run l]] := by rw [List.take_succ_eq_append_getElem h1]
  have hz : l[run l] = 0 := by rw [List.getD_eq_getElem?_getD, List.getElem?_eq_getElem h1] at h3; exact h3
  have hv : lev (l.take (run l + 1)) = lev (l.take (run l)) := by rw [e, lev_snoc, hz]; simp
  have hlt := lev_lt (l.take (run l))
  have hle : (l.take (run l)).length = run l := by rw [List.length_take]; omega
  have hp : 128 ^ run l ≤ 128 ^ 7 := Nat.pow_le_pow_right (by omega) h2
  rw [hle] at hlt
  unfold numR
  rw [if_neg (by omega), if_neg (by rw [hv]; omega), if_pos ⟨h3, h4⟩]

theorem below2 (w : World) (o1 o2 : Obj) : Below w.heap.size w ((w.alloc o1).alloc o2) := ((Below.refl _ _).alloc (Nat.le_refl _) _).alloc (by simp) _

set_option maxHeartbeats 4000000 in
set_option maxRecDepth 100000 in
theorem refR_num (s : ByteArray) (er : Int) (hs : s.size ≤ 9223372036854775807) (w : World) :
    Calls Tryz.prog 93 #[.agg #[.string s, .int .i64 er]] w fun e w' => e = .returned (.tuple #[rv (sNum (s, er)).2, .int .i64 (sNum (s, er)).1]) ∧ Below w.heap.size w w' := by
  by_cases he : er = 0
  · subst he
    have hsz : s.data.toList.length = s.size := by simp
    go_enter Tryz.func93, Tryz.ntmps93
    go_wp2
    go_loop [4] (fun i => ∃ k : Nat, i = .int .i64 k ∧ k ≤ s.size ∧ ∀ j (h : j < s.data.toList.length), j < k → 128 ≤ s.data.toList[j].toNat) (fun i => s.size - (intOf i).toNat)
    case atStart => exact ⟨0, rfl, Nat.zero_le _, by omega⟩
    case round =>
      obtain ⟨k, rfl, hk, hall⟩ := hrel
      have HA := Lib.hid hall
      clear hall
      by_cases hlt : k < s.size
      · have hlt' : k < s.data.toList.length := by omega
        have hdat : s.data.toList[k] = s[k] := rfl
        have hbd : s[k].toNat < 256 := UInt8.toNat_lt _
        by_cases hd : 128 ≤ (s[k].toNat : Int)
        · have hlti : (k : Int) < (s.size : Int) := by omega
          go_wp2
          go_round
          case rel =>
            refine ⟨k + 1, by go_num, by omega, fun j h hj => ?_⟩
            by_cases e : j = k
            · subst e; have : s.data.toList[j] = s[j] := rfl; rw [this]; omega
            · exact HA.out j h (by omega)
          case measure => simp [intOf]; omega
        · have hrun : run s.data.toList = k := run_of _ k hlt' HA.out (by rw [hdat]; omega)
          have hget : s.data.toList.getD k 0 = s[k] := by rw [List.getD_eq_getElem?_getD, List.getElem?_eq_getElem hlt']; rfl
          have hlti : (k : Int) < (s.size : Int) := by omega
          have hne : ((k : Int) == (s.size : Int)) = false := by simp; omega
          by_cases h7 : 7 < k
          · have hfin : sNum (s, 0) = (0, (s, 2)) := by
              have h1 : numR s.data.toList = (0, 0, 2) := by unfold numR; rw [hrun, if_neg (by omega), if_pos (.inl (by omega))]
              simp only [sNum, h1]; rfl
            have HF := Lib.hid hfin
            clear hfin hrun hget
            go_wp2
            refine bodyPost_ret (v := .tuple #[rv (s, 2), .int .i64 0]) (by simp [results, Tryz.results93, go_sem]) rfl ?_
            rw [HF.out]
            exact ⟨rfl, below2 w _ _⟩
          · by_cases hz : s[k].toNat = 0
            · have hzb : ((s[k].toNat : Int) == 0) = true := by simp; omega
              have hz' : s[k] = 0 := UInt8.toNat_inj.1 (by simpa using hz)
              by_cases hk0 : 0 < k
              · have hfin : sNum (s, 0) = (0, (s, 5)) := by
                  have h1 : numR s.data.toList = (0, 0, 5) := numR_form (by omega) (by omega) (by rw [hrun, hget, hz']) (by omega)
                  simp only [sNum, h1]; rfl
                have HF := Lib.hid hfin
                clear hfin hrun hget hz hz'
                have hki : (0 : Int) < (k : Int) := by omega
                go_wp2
                refine bodyPost_ret (v := .tuple #[rv (s, 5), .int .i64 0]) (by simp [results, Tryz.results93, go_sem]) rfl ?_
                rw [HF.out]
                exact ⟨rfl, below2 w _ _⟩
              · have hki : ¬ (0 : Int) < (k : Int) := by omega
                clear hz hz'
                have hlv : lev (s.data.toList.take (k + 1)) < 72057594037927936 := by
                  have h1 := lev_lt (s.data.toList.take (k + 1))
                  have h2 : (s.data.toList.take (k + 1)).length ≤ 8 := by rw [List.length_take]; omega
                  exact Nat.lt_of_lt_of_le h1 (Nat.le_trans (Nat.pow_le_pow_right (by omega) h2) (by decide))
                have HRN := Lib.hid hrun
                have HGT := Lib.hid hget
                clear hrun hget
                go_wp2
                go_loop [5, 6] (fun n i => (∃ j : Nat, j ≤ k ∧ i = .int .i64 j ∧ n = .int .i64 (lev ((s.data.toList.take (k + 1)).drop (j + 1)) : Nat)) ∨ (i = .int .i64 (-1) ∧ n = .int .i64 (lev (s.data.toList.take (k + 1)) : Nat))) (fun _ i => (intOf i + 1).toNat)
                case atStart =>
                  refine .inl ⟨k, Nat.le_refl _, rfl, ?_⟩
                  rw [List.drop_of_length_le (by rw [List.length_take]; omega)]; rfl
                case round =>
                  rcases hrel with ⟨j, hj, rfl, rfl⟩ | ⟨rfl, rfl⟩
                  · have hjl : j < (s.data.toList.take (k + 1)).length := by rw [List.length_take]; omega
                    have hst := lev_drop (s.data.toList.take (k + 1)) j hjl
                    have hjj : (s.data.toList.take (k + 1))[j] = s[j] := by rw [List.getElem_take]; rfl
                    rw [hjj] at hst
                    have hbj : s[j].toNat < 256 := UInt8.toNat_lt _
                    have hN' : lev ((s.data.toList.take (k + 1)).drop j) < 72057594037927936 := by
                      have h1 := lev_lt ((s.data.toList.take (k + 1)).drop j)
                      have h2 : ((s.data.toList.take (k + 1)).drop j).length ≤ 8 := by rw [List.length_drop, List.length_take]; omega
                      exact Nat.lt_of_lt_of_le h1 (Nat.le_trans (Nat.pow_le_pow_right (by omega) h2) (by decide))
                    have hN : lev ((s.data.toList.take (k + 1)).drop (j + 1)) < 72057594037927936 := by omega
                    have hjs : (j : Int) < (s.size : Int) := by omega
                    have hj0 : (0 : Int) ≤ (j : Int) := by omega
                    have HST := Lib.hid hst
                    have hd0 : (s.data.toList.take (k + 1)).drop 0 = s.data.toList.take (k + 1) := List.drop_zero
                    have HD0 := Lib.hid hd0
                    clear hst hd0 hN' hjj
                    generalize hNN : lev ((s.data.toList.take (k + 1)).drop (j + 1)) = N at hN ⊢
                    have HNN := Lib.hid hNN
                    clear hNN
                    go_wp2
                    go_round
                    case rel =>
                      have h5 := HST.out
                      rw [HNN.out] at h5
                      by_cases hj00 : j = 0
                      · subst hj00
                        refine .inr ⟨by go_num, ?_⟩
                        rw [HD0.out] at h5
                        rw [h5]; first | done | go_num
                      · obtain ⟨i, rfl⟩ : ∃ i, j = i + 1 := ⟨j - 1, by omega⟩
                        refine .inl ⟨i, by omega, by go_num, ?_⟩
                        rw [h5]; first | done | go_num
                    case measure => simp [intOf] <;> omega
                  · generalize hNN : lev (s.data.toList.take (k + 1)) = N at hlv ⊢
                    have HNN := Lib.hid hNN
                    clear hNN
                    by_cases hbig : 9007199254740992 < N
                    · have hfin : sNum (s, 0) = (0, (s, 2)) := by
                        have h1 : numR s.data.toList = (0, 0, 2) := by unfold numR; rw [HRN.out, if_neg (by omega), if_pos (.inr (by rw [HNN.out]; exact hbig))]
                        simp only [sNum, h1]; rfl
                      have HF := Lib.hid hfin
                      clear hfin
                      go_wp2
                      refine bodyPost_ret (v := .tuple #[rv (s, 2), .int .i64 0]) (by simp [results, Tryz.results93, go_sem]) rfl ?_
                      rw [HF.out]
                      exact ⟨rfl, below2 w _ _⟩
                    · have hfin : sNum (s, 0) = (N, (s.extract (k + 1) s.size, 0)) := by
                        have h1 : numR s.data.toList = (N, k + 1, 0) := by unfold numR; rw [HRN.out, if_neg (by omega), if_neg (by rw [HNN.out]; omega), if_neg (by omega), HNN.out]
                        simp only [sNum, h1]; rfl
                      have HF := Lib.hid hfin
                      have hk1 : k + 1 ≤ s.size := hlt
                      clear hfin
                      go_wp2
                      refine bodyPost_ret (v := .tuple #[rv (s.extract (k + 1) s.size, 0), .int .i64 N]) (by simp [results, Tryz.results93, go_sem]) rfl ?_
                      rw [HF.out]
                      exact ⟨rfl, below2 w _ _⟩
            · have hzb : ((s[k].toNat : Int) == 0) = false := by simp; omega
              have hz' : s[k] ≠ 0 := fun h => hz (by rw [h]; rfl)
              have HZ := Lib.hid hz'
              clear hz'
              have hlv : lev (s.data.toList.take (k + 1)) < 72057594037927936 := by
                have h1 := lev_lt (s.data.toList.take (k + 1))
                have h2 : (s.data.toList.take (k + 1)).length ≤ 8 := by rw [List.length_take]; omega
                exact Nat.lt_of_lt_of_le h1 (Nat.le_trans (Nat.pow_le_pow_right (by omega) h2) (by decide))
              have HRN := Lib.hid hrun
              have HGT := Lib.hid hget
              clear hrun hget
              go_wp2
              go_loop [5, 6] (fun n i => (∃ j : Nat, j ≤ k ∧ i = .int .i64 j ∧ n = .int .i64 (lev ((s.data.toList.take (k + 1)).drop (j + 1)) : Nat)) ∨ (i = .int .i64 (-1) ∧ n = .int .i64 (lev (s.data.toList.take (k + 1)) : Nat))) (fun _ i => (intOf i + 1).toNat)
              case atStart =>
                refine .inl ⟨k, Nat.le_refl _, rfl, ?_⟩
                rw [List.drop_of_length_le (by rw [List.length_take]; omega)]; rfl
              case round =>
                rcases hrel with ⟨j, hj, rfl, rfl⟩ | ⟨rfl, rfl⟩
                · have hjl : j < (s.data.toList.take (k + 1)).length := by rw [List.length_take]; omega
                  have hst := lev_drop (s.data.toList.take (k + 1)) j hjl
                  have hjj : (s.data.toList.take (k + 1))[j] = s[j] := by rw [List.getElem_take]; rfl
                  rw [hjj] at hst
                  have hbj : s[j].toNat < 256 := UInt8.toNat_lt _
                  have hN' : lev ((s.data.toList.take (k + 1)).drop j) < 72057594037927936 := by
                    have h1 := lev_lt ((s.data.toList.take (k + 1)).drop j)
                    have h2 : ((s.data.toList.take (k + 1)).drop j).length ≤ 8 := by rw [List.length_drop, List.length_take]; omega
                    exact Nat.lt_of_lt_of_le h1 (Nat.le_trans (Nat.pow_le_pow_right (by omega) h2) (by decide))
                  have hN : lev ((s.data.toList.take (k + 1)).drop (j + 1)) < 72057594037927936 := by omega
                  have hjs : (j : Int) < (s.size : Int) := by omega
                  have hj0 : (0 : Int) ≤ (j : Int) := by omega
                  have HST := Lib.hid hst
                  have hd0 : (s.data.toList.take (k + 1)).drop 0 = s.data.toList.take (k + 1) := List.drop_zero
                  have HD0 := Lib.hid hd0
                  clear hst hd0 hN' hjj
                  generalize hNN : lev ((s.data.toList.take (k + 1)).drop (j + 1)) = N at hN ⊢
                  have HNN := Lib.hid hNN
                  clear hNN
                  go_wp2
                  go_round
                  case rel =>
                    have h5 := HST.out
                    rw [HNN.out] at h5
                    by_cases hj00 : j = 0
                    · subst hj00
                      refine .inr ⟨by go_num, ?_⟩
                      rw [HD0.out] at h5
                      rw [h5]; first | done | go_num
                    · obtain ⟨i, rfl⟩ : ∃ i, j = i + 1 := ⟨j - 1, by omega⟩
                      refine .inl ⟨i, by omega, by go_num, ?_⟩
                      rw [h5]; first | done | go_num
                  case measure => simp [intOf] <;> omega
                · generalize hNN : lev (s.data.toList.take (k + 1)) = N at hlv ⊢
                  have HNN := Lib.hid hNN
                  clear hNN
                  by_cases hbig : 9007199254740992 < N
                  · have hfin : sNum (s, 0) = (0, (s, 2)) := by
                      have h1 : numR s.data.toList = (0, 0, 2) := by unfold numR; rw [HRN.out, if_neg (by omega), if_pos (.inr (by rw [HNN.out]; exact hbig))]
                      simp only [sNum, h1]; rfl
                    have HF := Lib.hid hfin
                    clear hfin
                    go_wp2
                    refine bodyPost_ret (v := .tuple #[rv (s, 2), .int .i64 0]) (by simp [results, Tryz.results93, go_sem]) rfl ?_
                    rw [HF.out]
                    exact ⟨rfl, below2 w _ _⟩
                  · have hfin : sNum (s, 0) = (N, (s.extract (k + 1) s.size, 0)) := by
                      have h1 : numR s.data.toList = (N, k + 1, 0) := by unfold numR; rw [HRN.out, if_neg (by omega), if_neg (by rw [HNN.out]; omega), if_neg (by rw [HGT.out]; exact fun h => HZ.out h.1), HNN.out]
                      simp only [sNum, h1]; rfl
                    have HF := Lib.hid hfin
                    have hk1 : k + 1 ≤ s.size := hlt
                    clear hfin
                    go_wp2
                    refine bodyPost_ret (v := .tuple #[rv (s.extract (k + 1) s.size, 0), .int .i64 N]) (by simp [results, Tryz.results93, go_sem]) rfl ?_
                    rw [HF.out]
                    exact ⟨rfl, below2 w _ _⟩
      · have hne : ((k : Int) == (s.size : Int)) = true := by simp; omega
        have hrun : run s.data.toList = s.data.toList.length := run_all _ (fun j h => HA.out j h (by omega))
        have hfin : sNum (s, 0) = (0, (s, 4)) := by
          have h1 : numR s.data.toList = (0, 0, 4) := by unfold numR; rw [if_pos hrun]
          simp only [sNum, h1]; rfl
        have HF := Lib.hid hfin
        clear hfin hrun
        go_wp2
        refine bodyPost_ret (v := .tuple #[rv (s, 4), .int .i64 0]) (by simp [results, Tryz.results93, go_sem]) rfl ?_
        rw [HF.out]
        exact ⟨rfl, below2 w _ _⟩
  · have hb : (er != 0) = true := by simp [he]
    have hfin : sNum (s, er) = (0, (s, er)) := by simp [sNum, he]
    have HF := Lib.hid hfin
    clear hfin
    go_enter Tryz.func93, Tryz.ntmps93
    go_wp2
    refine bodyPost_ret (v := .tuple #[rv (s, er), .int .i64 0]) (by simp [results, Tryz.results93, go_sem]) rfl ?_
    rw [HF.out]
    exact ⟨rfl, below2 w _ _⟩
end Go.Proofs.YtmnblpjdiplioaaGreat
