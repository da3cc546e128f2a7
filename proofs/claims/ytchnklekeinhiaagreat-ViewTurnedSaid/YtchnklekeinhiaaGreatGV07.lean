/-
  Check, hexa's and almonryref03's: what each call answers.
  areIDs; Check: the program's and the document's.
-/
import Derived.Test.YtchnklekeinhiaaGreatGV06
import Derived.Test.YtchnklekeinhiaaGreatGV05
import Derived.StillTailTactics
import Derived.Deep.Cut
import Derived.Deep.DeepCutAuto
import Derived.BigQuiet
import Derived.Lib.QuietBelow
namespace Go.Proofs.YtchnklekeinhiaaGreat
open Go.RowKit

def ckE (s : ByteArray) : Int := if s.size = 64 then rdE s.data.toList else 5
theorem rdE_two (l : List UInt8) : rdE l = 0 ∨ rdE l = 5 := by unfold rdE; split <;> simp

set_option maxHeartbeats 1000000 in
set_option maxRecDepth 100000 in
theorem hchkC (s : ByteArray) (w : World) (hs : s.size ≤ 5000) :
    Calls Tryz.prog 148 #[.string s] w fun e w' => e = .returned (.int .i64 (ckE s)) ∧ Below w.heap.size w w' := by
  by_cases h : s.size = 64
  · have c1 := hreadC s w hs
    have e : ckE s = rdE s.data.toList := by unfold ckE; rw [if_pos h]
    rw [e]
    generalize rdS s.data.toList = a at c1
    generalize rdE s.data.toList = b at c1 ⊢
    have hne : ((s.size : Int) != 64) = false := by simp; omega
    have C1 := Lib.hid c1
    clear c1 e h
    go_enter Tryz.func148, Tryz.ntmps148
    go_wp2_with fail
    refine C1.out.mono ?_
    rintro e w1 ⟨rfl, hb1⟩
    have HB := Lib.hid hb1
    clear hb1
    go_wp2
    go_ret
    exact ⟨rfl, HB.out⟩
  · have e : ckE s = 5 := by unfold ckE; rw [if_neg h]
    rw [e]
    have hne : ((s.size : Int) != 64) = true := by simp; omega
    clear e h
    go_enter Tryz.func148, Tryz.ntmps148
    go_wp2
    go_ret
    exact ⟨rfl, Below.refl _ _⟩

set_option maxHeartbeats 1000000 in
set_option maxRecDepth 100000 in
theorem hchkR (s : ByteArray) (w : World) (hs : s.size ≤ 5000) :
    Calls Tryz.prog 74 #[.string s] w fun e w' => e = .returned (.int .i64 (ckE s)) ∧ Below w.heap.size w w' := by
  have c1 := readR s w hs
  have htwo := rdE_two s.data.toList
  have hck : ckE s = if s.size = 64 then rdE s.data.toList else 5 := rfl
  rw [hck]
  generalize rdS s.data.toList = a at c1
  generalize rdE s.data.toList = b at c1 htwo
  have C1 := Lib.hid c1
  clear c1 hck
  rcases htwo with rfl | rfl
  · have h0 : ((0 : Int) != 0) = false := rfl
    by_cases h : s.size = 64
    · rw [if_pos h]
      have hne : ((s.size : Int) != 64) = false := by simp; omega
      clear h
      go_enter Tryz.func74, Tryz.ntmps74
      go_wp2_with fail
      refine C1.out.mono ?_
      rintro e w1 ⟨rfl, hb1⟩
      have HB := Lib.hid hb1
      clear hb1
      go_wp2
      go_ret
      exact ⟨rfl, HB.out⟩
    · rw [if_neg h]
      have hne : ((s.size : Int) != 64) = true := by simp; omega
      clear h
      go_enter Tryz.func74, Tryz.ntmps74
      go_wp2_with fail
      refine C1.out.mono ?_
      rintro e w1 ⟨rfl, hb1⟩
      have HB := Lib.hid hb1
      clear hb1
      go_wp2
      go_ret
      exact ⟨rfl, HB.out⟩
  · have h0 : ((5 : Int) != 0) = true := rfl
    rw [ite_self]
    go_enter Tryz.func74, Tryz.ntmps74
    go_wp2_with fail
    refine C1.out.mono ?_
    rintro e w1 ⟨rfl, hb1⟩
    have HB := Lib.hid hb1
    clear hb1
    go_wp2
    go_ret
    exact ⟨rfl, HB.out⟩
end Go.Proofs.YtchnklekeinhiaaGreat

namespace Go.Proofs.YtchnklekeinhiaaGreat
open Go.RowKit Go.Sort

/-- the error of a manifest -/
def manE (m : Man) : Int :=
  if ¬(1 ≤ m.chunk ∧ m.chunk ≤ 4096) ∨ m.size < 0 ∨ 32768 < m.size then 2
  else if m.ids.length ≠ nP m.size.toNat m.chunk.toNat ∨ ¬(∀ s ∈ m.ids, ckE s = 0) then 5
  else if 4096 < m.ids.length then 3 else 0

theorem str_at {w : World} {a : Option Addr} {ss : List ByteArray} (h : StrRow w a ss) {k : Nat} (hk : k < ss.length) : ∃ b off, a = some ⟨b, off, none⟩ ∧ b < w.heap.size ∧ w.cell? ⟨b, off + k, none⟩ = some (.string (ss.getD k ByteArray.empty)) := by
  rcases h with rfl | ⟨b, off, rfl, hb, hc⟩
  · simp at hk
  · exact ⟨b, off, rfl, hb, hc k hk⟩

set_option maxHeartbeats 2000000 in
set_option maxRecDepth 100000 in
theorem areC (a : Option Addr) (cap : Nat) (ss : List ByteArray) (hs : ∀ s ∈ ss, s.size ≤ 5000) (hl : ss.length ≤ maxLen) (w : World) (hrow : StrRow w a ss) :
    Calls Tryz.prog 119 #[.slice a ss.length cap] w fun e w' => e = .returned (.bool (decide (∀ s ∈ ss, ckE s = 0))) ∧ Below w.heap.size w w' := by
  unfold maxLen at hl
  go_enter Tryz.func119, Tryz.ntmps119
  go_wp2
  go_loopw [7] (fun i wr => ∃ k : Nat, i = .int .i64 k ∧ k ≤ ss.length ∧ (∀ j, j < k → ckE (ss.getD j ByteArray.empty) = 0) ∧ Below w.heap.size w wr) (fun i _ => ss.length - (intOf i).toNat)
  case atStart => exact ⟨0, rfl, Nat.zero_le _, fun j hj => absurd hj (by omega), Below.refl _ _⟩
  case round =>
    obtain ⟨k, rfl, hk, hz, hb⟩ := hrel
    by_cases hlt : k < ss.length
    · obtain ⟨b, off, rfl, hbl, hc⟩ := str_at (hrow.below hb) hlt
      have hmem : ss.getD k ByteArray.empty ∈ ss := by rw [List.getD_eq_getElem?_getD, List.getElem?_eq_getElem hlt]; exact List.getElem_mem hlt
      have hck := hchkC (ss.getD k ByteArray.empty) wr (hs _ hmem)
      have HZ := Lib.hid hz
      have HB := Lib.hid hb
      have HM := Lib.hid hmem
      clear hz hb hmem
      generalize hsk : ss.getD k ByteArray.empty = s at hc hck HM
      by_cases h0 : ckE s = 0
      · rw [h0] at hck
        go_wp2_with fail
        refine hck.mono ?_
        rintro e w2 ⟨rfl, hb2⟩
        have HB2 := Lib.hid (HB.out.trans (hb2.mono HB.out.size))
        clear hb2
        go_wp2
        go_roundw
        case rel =>
          refine ⟨k + 1, by go_num, by omega, fun j hj => ?_, HB2.out⟩
          by_cases hjk : j < k
          · exact HZ.out j hjk
          · obtain rfl : j = k := by omega
            rw [hsk]; exact h0
        case measure => simp [intOf]; omega
      · have hne : (ckE s != 0) = true := by simp [h0]
        have hall : ¬ ∀ s ∈ ss, ckE s = 0 := fun h => h0 (h s HM.out)
        generalize ckE s = E at hck hne
        go_wp2_with fail
        refine hck.mono ?_
        rintro e w2 ⟨rfl, hb2⟩
        have HB2 := Lib.hid (HB.out.trans (hb2.mono HB.out.size))
        clear hb2
        go_wp2
        go_ret
        rw [decide_eq_false hall]
        exact ⟨rfl, HB2.out⟩
    · obtain rfl : k = ss.length := by omega
      go_wp2
      go_ret
      have hall : ∀ s ∈ ss, ckE s = 0 := fun s hs' => by
        obtain ⟨j, hj, rfl⟩ := List.getElem_of_mem hs'
        have := hz j hj
        rw [List.getD_eq_getElem?_getD, List.getElem?_eq_getElem hj] at this
        exact this
      rw [decide_eq_true hall]
      exact ⟨rfl, hb⟩

/-- a manifest's argument: its IDs lie in memory -/
structure MArg (w : World) (m : Man) (a : Option Addr) : Prop where
  row : StrRow w a m.ids
  len : m.ids.length ≤ 9223372036854775807
  short : ∀ s ∈ m.ids, s.size ≤ 5000
theorem MArg.below {w w' : World} {m : Man} {a : Option Addr} (h : MArg w m a) (hb : Below w.heap.size w w') : MArg w' m a := ⟨h.row.below hb, h.len, h.short⟩

/-- the parameter's box -/
theorem box_man (w : World) (m : Man) (v : Value) : MBox (w.alloc (.cells #[.int .i64 m.size, .int .i64 m.chunk, v] 27)) w.heap.size m v ∧ Below w.heap.size w (w.alloc (.cells #[.int .i64 m.size, .int .i64 m.chunk, v] 27)) := ⟨MBox.new w m v, (Below.refl _ w).alloc (Nat.le_refl _) _⟩

set_option maxHeartbeats 2000000 in
set_option maxRecDepth 100000 in
theorem checkMC (m : Man) (a : Option Addr) (cap : Nat) (w : World) (h : MArg w m a) :
    Calls Tryz.prog 88 #[mv m (.slice a m.ids.length cap)] w fun e w' => e = .returned (.int .i64 (manE m)) ∧ Below w.heap.size w w' := by
  obtain ⟨hbx, hbw⟩ := box_man w m (.slice a m.ids.length cap)
  have ha := h.below hbw
  have hlen := h.len
  obtain ⟨z, c, ids⟩ := m
  have hi := fun W => isSizeC c W
  by_cases hc : 1 ≤ c ∧ c ≤ 4096
  case neg =>
    have e : manE ⟨z, c, ids⟩ = 2 := by unfold manE; rw [if_pos (.inl hc)]
    rw [e]
    rw [decide_eq_false hc] at hi
    have h1 := hbx.c1
    have HB := Lib.hid hbw
    clear hbx hbw ha h e hc
    go_enter Tryz.func88, Tryz.ntmps88
    go_wp2_with (go_at_call 117; refine (hi _).mono ?_; rintro e w1 ⟨rfl, rfl⟩)
    go_ret
    exact ⟨rfl, HB.out⟩
  case pos =>
    rw [decide_eq_true hc] at hi
    have h0 := hbx.c0
    have h1 := hbx.c1
    have h2 := hbx.c2
    simp only at h0 h1 h2 hlen
    by_cases hz : z < 0
    · have e : manE ⟨z, c, ids⟩ = 2 := by unfold manE; rw [if_pos (.inr (.inl hz))]
      rw [e]
      have hd : decide (z < 0) = true := decide_eq_true hz
      have HB := Lib.hid hbw
      clear hbx hbw ha h e hc hz
      go_enter Tryz.func88, Tryz.ntmps88
      go_wp2_with (go_at_call 117; refine (hi _).mono ?_; rintro e w1 ⟨rfl, rfl⟩)
      go_ret
      exact ⟨rfl, HB.out⟩
    have hdz : decide (z < 0) = false := decide_eq_false hz
    by_cases hz2 : 32768 < z
    · have e : manE ⟨z, c, ids⟩ = 2 := by unfold manE; rw [if_pos (.inr (.inr hz2))]
      rw [e]
      have hd : decide (32768 < z) = true := decide_eq_true hz2
      have HB := Lib.hid hbw
      clear hbx hbw ha h e hc hz hz2
      go_enter Tryz.func88, Tryz.ntmps88
      go_wp2_with (go_at_call 117; refine (hi _).mono ?_; rintro e w1 ⟨rfl, rfl⟩)
      go_ret
      exact ⟨rfl, HB.out⟩
    have hdz2 : decide (32768 < z) = false := decide_eq_false hz2
    obtain ⟨zn, rfl⟩ : ∃ n : Nat, z = n := ⟨z.toNat, by omega⟩
    obtain ⟨cn, rfl⟩ : ∃ n : Nat, c = n := ⟨c.toNat, by omega⟩
    have hk := hbx.lt
    have e0 : manE ⟨(zn : Int), (cn : Int), ids⟩ = if ids.length ≠ nP zn cn ∨ ¬(∀ s ∈ ids, ckE s = 0) then 5 else if 4096 < ids.length then 3 else 0 := by
      unfold manE
      simp only [Int.toNat_natCast]
      rw [if_neg (by omega)]
    have hcn1 : 1 ≤ cn := by omega
    have hcn2 : cn ≤ 4096 := by omega
    have hzn : zn ≤ 32768 := by omega
    have E0 := Lib.hid e0
    have HB := Lib.hid hbw
    have HA := Lib.hid ha
    clear e0 hc hz hz2 h hbw ha
    go_enter Tryz.func88, Tryz.ntmps88
    go_upto_region 3 with (go_at_call 117; refine (hi _).mono ?_; rintro e w1 ⟨rfl, rfl⟩)
    generalize w.alloc (.cells #[.int .i64 (zn : Int), .int .i64 (cn : Int), .slice a ids.length cap] 27) = w1 at *
    have r0 := fun d os => cell_regrown h0 d os
    have r1 := fun d os => cell_regrown h1 d os
    have r2 := fun d os => cell_regrown h2 d os
    have cN := fun d os => Calls.regrown_of ((countC zn cn (by omega) hcn1 hcn2 (grow (redrawn w1 d) os)).mono fun e w' ⟨he, hw⟩ => ⟨he, hw ▸ Below.refl _ _⟩)
    have cA := fun d os => Calls.regrown_of (areC a cap ids HA.out.short HA.out.len (grow (redrawn w1 d) os) (HA.out.row.below (below_regrown w1 d os)))
    have HN := Lib.hid cN
    have HAR := Lib.hid cA
    clear cN cA h0 h1 h2 hbx
    generalize nP zn cn = N at *
    by_cases hN : ids.length = N
    · have hdn : ((ids.length : Int) != (N : Int)) = false := by simp [hN]
      have e1 := E0.out
      rw [hN] at e1
      by_cases hall : ∀ s ∈ ids, ckE s = 0
      · rw [decide_eq_true hall] at HAR
        by_cases h4 : 4096 < ids.length
        · have EE : manE ⟨(zn : Int), (cn : Int), ids⟩ = 3 := by rw [E0.out, if_neg (by rintro (h | h); exact h hN; exact h hall), if_pos h4]
          have hd4 : decide ((4096 : Int) < (ids.length : Int)) = true := by simp; omega
          clear hall hN e1 E0
          refine wp_region_quiet_below (by kernel_rfl) (by kernel_rfl) ?_
          repeat (first | go_big_quiet_step (first | (go_at_call 118; with_reducible exact HN.out _ _) | (go_at_call 119; with_reducible exact HAR.out _ _)) | quiet_step (first | (go_at_call 118; with_reducible exact HN.out _ _) | (go_at_call 119; with_reducible exact HAR.out _ _)))
          refine wpQuiet_nil ?_
          intro _ hw'
          obtain ⟨⟨dq, osq⟩, hw''⟩ := hw'
          subst hw''
          have HBq := Lib.hid (HB.out.trans ((below_regrown w1 dq osq).mono HB.out.size))
          have k2 := r2 dq osq
          clear HN HAR r0 r1 r2
          go_wp2_with fail
          go_ret
          rw [EE]; exact ⟨rfl, HBq.out⟩
        · have EE : manE ⟨(zn : Int), (cn : Int), ids⟩ = 0 := by rw [E0.out, if_neg (by rintro (h | h); exact h hN; exact h hall), if_neg h4]
          have hd4 : decide ((4096 : Int) < (ids.length : Int)) = false := by simp; omega
          clear hall hN e1 E0
          refine wp_region_quiet_below (by kernel_rfl) (by kernel_rfl) ?_
          repeat (first | go_big_quiet_step (first | (go_at_call 118; with_reducible exact HN.out _ _) | (go_at_call 119; with_reducible exact HAR.out _ _)) | quiet_step (first | (go_at_call 118; with_reducible exact HN.out _ _) | (go_at_call 119; with_reducible exact HAR.out _ _)))
          refine wpQuiet_nil ?_
          intro _ hw'
          obtain ⟨⟨dq, osq⟩, hw''⟩ := hw'
          subst hw''
          have HBq := Lib.hid (HB.out.trans ((below_regrown w1 dq osq).mono HB.out.size))
          have k2 := r2 dq osq
          clear HN HAR r0 r1 r2
          go_wp2_with fail
          go_ret
          rw [EE]; exact ⟨rfl, HBq.out⟩
      · rw [decide_eq_false hall] at HAR
        have EE : manE ⟨(zn : Int), (cn : Int), ids⟩ = 5 := by rw [E0.out, if_pos (.inr hall)]
        clear hall hN e1 E0
        refine wp_region_quiet_below (by kernel_rfl) (by kernel_rfl) ?_
        repeat (first | go_big_quiet_step (first | (go_at_call 118; with_reducible exact HN.out _ _) | (go_at_call 119; with_reducible exact HAR.out _ _)) | quiet_step (first | (go_at_call 118; with_reducible exact HN.out _ _) | (go_at_call 119; with_reducible exact HAR.out _ _)))
        refine wpQuiet_nil ?_
        intro _ hw'
        obtain ⟨⟨dq, osq⟩, hw''⟩ := hw'
        subst hw''
        have HBq := Lib.hid (HB.out.trans ((below_regrown w1 dq osq).mono HB.out.size))
        have k2 := r2 dq osq
        clear HN HAR r0 r1 r2
        go_wp2_with fail
        go_ret
        rw [EE]; exact ⟨rfl, HBq.out⟩
    · have hdn : ((ids.length : Int) != (N : Int)) = true := by simp; omega
      have EE : manE ⟨(zn : Int), (cn : Int), ids⟩ = 5 := by rw [E0.out, if_pos (.inl hN)]
      clear hN E0
      refine wp_region_quiet_below (by kernel_rfl) (by kernel_rfl) ?_
      repeat (first | go_big_quiet_step (first | (go_at_call 118; with_reducible exact HN.out _ _) | (go_at_call 119; with_reducible exact HAR.out _ _)) | quiet_step (first | (go_at_call 118; with_reducible exact HN.out _ _) | (go_at_call 119; with_reducible exact HAR.out _ _)))
      refine wpQuiet_nil ?_
      intro _ hw'
      obtain ⟨⟨dq, osq⟩, hw''⟩ := hw'
      subst hw''
      have HBq := Lib.hid (HB.out.trans ((below_regrown w1 dq osq).mono HB.out.size))
      have k2 := r2 dq osq
      clear HN HAR r0 r1 r2
      go_wp2_with fail
      go_ret
      rw [EE]; exact ⟨rfl, HBq.out⟩
end Go.Proofs.YtchnklekeinhiaaGreat
