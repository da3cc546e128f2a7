/-
  areIDs; Check: the program's and the document's.
  Check, the document's.
  strings.Join: its body is that which the library's contract was proved of; the contract, at the seat, with no separator.
  Join: the program's and the document's.
  Join, the document's.
-/
import Derived.Test.YtiabbmdgddbgbaaDoorChunkMan
import Derived.StillTailTactics
import Derived.Lib.QuietBelow
import Derived.Test.YtiabbmdgddbgbaaDoorGChunkA
import Derived.Shelf.Strings.OnBuilder
import Derived.Test.YtiabbmdgddbgbaaDoorGWireB
namespace Go.Proofs.YtiabbmdgddbgbaaDoor
open Go.RowKit Go.Sort

/-- the error of a manifest -/
def manE (m : Man) : Int :=
  if ¬(1 ≤ m.chunk ∧ m.chunk ≤ 4096) ∨ m.size < 0 ∨ 32768 < m.size then 2
  else if m.ids.length ≠ nP m.size.toNat m.chunk.toNat ∨ ¬(∀ s ∈ m.ids, ckE s = 0) then 5
  else if 4096 < m.ids.length then 3 else 0

theorem str_at {w : World} {a : Option Addr} {ss : List ByteArray} (h : StrRow w a ss) {k : Nat} (hk : k < ss.length) : ∃ b off, a = some ⟨b, off, none⟩ ∧ b < w.heap.size ∧ w.cell? ⟨b, off + k, none⟩ = some (.string (ss.getD k ByteArray.empty)) := by
  rcases h with rfl | ⟨b, off, rfl, hb, hc⟩
  · simp at hk
  · exact ⟨b, off, rfl, hb, hc k hk⟩

set_option maxHeartbeats 2000000 in
set_option maxRecDepth 100000 in
theorem areC (a : Option Addr) (cap : Nat) (ss : List ByteArray) (hs : ∀ s ∈ ss, s.size ≤ 5000) (hl : ss.length ≤ maxLen) (w : World) (hrow : StrRow w a ss) :
    Calls Tryd.prog 42 #[.slice a ss.length cap] w fun e w' => e = .returned (.bool (decide (∀ s ∈ ss, ckE s = 0))) ∧ Below w.heap.size w w' := by
  unfold maxLen at hl
  go_enter Tryd.func42, Tryd.ntmps42
  go_wp2
  go_loopw [7] (fun i wr => ∃ k : Nat, i = .int .i64 k ∧ k ≤ ss.length ∧ (∀ j, j < k → ckE (ss.getD j ByteArray.empty) = 0) ∧ Below w.heap.size w wr) (fun i _ => ss.length - (intOf i).toNat)
  case atStart => exact ⟨0, rfl, Nat.zero_le _, fun j hj => absurd hj (by omega), Below.refl _ _⟩
  case round =>
    obtain ⟨k, rfl, hk, hz, hb⟩ := hrel
    by_cases hlt : k < ss.length
    · obtain ⟨b, off, rfl, hbl, hc⟩ := str_at (hrow.below hb) hlt
      have hmem : ss.getD k ByteArray.empty ∈ ss := by rw [List.getD_eq_getElem?_getD, List.getElem?_eq_getElem hlt]; exact List.getElem_mem hlt
      have hck := checkC (ss.getD k ByteArray.empty) wr (hs _ hmem)
      have HZ := Lib.hid hz
      have HB := Lib.hid hb
      have HM := Lib.hid hmem
      clear hz hb hmem
      generalize hsk : ss.getD k ByteArray.empty = s at hc hck HM
      by_cases h0 : ckE s = 0
      · rw [h0] at hck
        go_wp2_with fail
        refine hck.mono ?_
        rintro e w2 ⟨rfl, hb2⟩
        have HB2 := Lib.hid (HB.out.trans (hb2.mono HB.out.size))
        clear hb2
        go_wp2
        go_roundw
        case rel =>
          refine ⟨k + 1, by go_num, by omega, fun j hj => ?_, HB2.out⟩
          by_cases hjk : j < k
          · exact HZ.out j hjk
          · obtain rfl : j = k := by omega
            rw [hsk]; exact h0
        case measure => simp [intOf]; omega
      · have hne : (ckE s != 0) = true := by simp [h0]
        have hall : ¬ ∀ s ∈ ss, ckE s = 0 := fun h => h0 (h s HM.out)
        generalize ckE s = E at hck hne
        go_wp2_with fail
        refine hck.mono ?_
        rintro e w2 ⟨rfl, hb2⟩
        have HB2 := Lib.hid (HB.out.trans (hb2.mono HB.out.size))
        clear hb2
        go_wp2
        go_ret
        rw [decide_eq_false hall]
        exact ⟨rfl, HB2.out⟩
    · obtain rfl : k = ss.length := by omega
      go_wp2
      go_ret
      have hall : ∀ s ∈ ss, ckE s = 0 := fun s hs' => by
        obtain ⟨j, hj, rfl⟩ := List.getElem_of_mem hs'
        have := hz j hj
        rw [List.getD_eq_getElem?_getD, List.getElem?_eq_getElem hj] at this
        exact this
      rw [decide_eq_true hall]
      exact ⟨rfl, hb⟩

/-- a manifest's argument: its IDs lie in memory -/
structure MArg (w : World) (m : Man) (a : Option Addr) : Prop where
  row : StrRow w a m.ids
  len : m.ids.length ≤ 9223372036854775807
  short : ∀ s ∈ m.ids, s.size ≤ 5000
theorem MArg.below {w w' : World} {m : Man} {a : Option Addr} (h : MArg w m a) (hb : Below w.heap.size w w') : MArg w' m a := ⟨h.row.below hb, h.len, h.short⟩

/-- the parameter's box -/
theorem box_man (w : World) (m : Man) (v : Value) : MBox (w.alloc (.cells #[.int .i64 m.size, .int .i64 m.chunk, v] 31)) w.heap.size m v ∧ Below w.heap.size w (w.alloc (.cells #[.int .i64 m.size, .int .i64 m.chunk, v] 31)) := ⟨MBox.new w m v, (Below.refl _ w).alloc (Nat.le_refl _) _⟩

set_option maxHeartbeats 2000000 in
set_option maxRecDepth 100000 in
theorem checkMC (m : Man) (a : Option Addr) (cap : Nat) (w : World) (h : MArg w m a) :
    Calls Tryd.prog 21 #[mv m (.slice a m.ids.length cap)] w fun e w' => e = .returned (.int .i64 (manE m)) ∧ Below w.heap.size w w' := by
  obtain ⟨hbx, hbw⟩ := box_man w m (.slice a m.ids.length cap)
  have ha := h.below hbw
  have hlen := h.len
  obtain ⟨z, c, ids⟩ := m
  have hi := fun W => isSizeC c W
  by_cases hc : 1 ≤ c ∧ c ≤ 4096
  case neg =>
    have e : manE ⟨z, c, ids⟩ = 2 := by unfold manE; rw [if_pos (.inl hc)]
    rw [e]
    rw [decide_eq_false hc] at hi
    have h1 := hbx.c1
    have HB := Lib.hid hbw
    clear hbx hbw ha h e hc
    go_enter Tryd.func21, Tryd.ntmps21
    go_wp2_with (go_at_call 41; refine (hi _).mono ?_; rintro e w1 ⟨rfl, rfl⟩)
    go_ret
    exact ⟨rfl, HB.out⟩
  case pos =>
    rw [decide_eq_true hc] at hi
    have h0 := hbx.c0
    have h1 := hbx.c1
    have h2 := hbx.c2
    simp only at h0 h1 h2 hlen
    by_cases hz : z < 0
    · have e : manE ⟨z, c, ids⟩ = 2 := by unfold manE; rw [if_pos (.inr (.inl hz))]
      rw [e]
      have hd : decide (z < 0) = true := decide_eq_true hz
      have HB := Lib.hid hbw
      clear hbx hbw ha h e hc hz
      go_enter Tryd.func21, Tryd.ntmps21
      go_wp2_with (go_at_call 41; refine (hi _).mono ?_; rintro e w1 ⟨rfl, rfl⟩)
      go_ret
      exact ⟨rfl, HB.out⟩
    have hdz : decide (z < 0) = false := decide_eq_false hz
    by_cases hz2 : 32768 < z
    · have e : manE ⟨z, c, ids⟩ = 2 := by unfold manE; rw [if_pos (.inr (.inr hz2))]
      rw [e]
      have hd : decide (32768 < z) = true := decide_eq_true hz2
      have HB := Lib.hid hbw
      clear hbx hbw ha h e hc hz hz2
      go_enter Tryd.func21, Tryd.ntmps21
      go_wp2_with (go_at_call 41; refine (hi _).mono ?_; rintro e w1 ⟨rfl, rfl⟩)
      go_ret
      exact ⟨rfl, HB.out⟩
    have hdz2 : decide (32768 < z) = false := decide_eq_false hz2
    obtain ⟨zn, rfl⟩ : ∃ n : Nat, z = n := ⟨z.toNat, by omega⟩
    obtain ⟨cn, rfl⟩ : ∃ n : Nat, c = n := ⟨c.toNat, by omega⟩
    have hk := hbx.lt
    have e0 : manE ⟨(zn : Int), (cn : Int), ids⟩ = if ids.length ≠ nP zn cn ∨ ¬(∀ s ∈ ids, ckE s = 0) then 5 else if 4096 < ids.length then 3 else 0 := by
      unfold manE
      simp only [Int.toNat_natCast]
      rw [if_neg (by omega)]
    have hcn1 : 1 ≤ cn := by omega
    have hcn2 : cn ≤ 4096 := by omega
    have hzn : zn ≤ 32768 := by omega
    have E0 := Lib.hid e0
    have HB := Lib.hid hbw
    have HA := Lib.hid ha
    clear e0 hc hz hz2 h hbw ha
    go_enter Tryd.func21, Tryd.ntmps21
    go_upto_region 3 with (go_at_call 41; refine (hi _).mono ?_; rintro e w1 ⟨rfl, rfl⟩)
    generalize w.alloc (.cells #[.int .i64 (zn : Int), .int .i64 (cn : Int), .slice a ids.length cap] 31) = w1 at *
    have r0 := fun d os => cell_regrown h0 d os
    have r1 := fun d os => cell_regrown h1 d os
    have r2 := fun d os => cell_regrown h2 d os
    have cN := fun d os => Calls.regrown_of ((countC zn cn (by omega) hcn1 hcn2 (grow (redrawn w1 d) os)).mono fun e w' ⟨he, hw⟩ => ⟨he, hw ▸ Below.refl _ _⟩)
    have cA := fun d os => Calls.regrown_of (areC a cap ids HA.out.short HA.out.len (grow (redrawn w1 d) os) (HA.out.row.below (below_regrown w1 d os)))
    have HN := Lib.hid cN
    have HAR := Lib.hid cA
    clear cN cA h0 h1 h2 hbx
    generalize nP zn cn = N at *
    by_cases hN : ids.length = N
    · have hdn : ((ids.length : Int) != (N : Int)) = false := by simp [hN]
      have e1 := E0.out
      rw [hN] at e1
      by_cases hall : ∀ s ∈ ids, ckE s = 0
      · rw [decide_eq_true hall] at HAR
        by_cases h4 : 4096 < ids.length
        · have EE : manE ⟨(zn : Int), (cn : Int), ids⟩ = 3 := by rw [E0.out, if_neg (by rintro (h | h); exact h hN; exact h hall), if_pos h4]
          have hd4 : decide ((4096 : Int) < (ids.length : Int)) = true := by simp; omega
          clear hall hN e1 E0
          refine wp_region_quiet_below (by kernel_rfl) (by kernel_rfl) ?_
          repeat (first | go_big_quiet_step (first | (go_at_call 24; with_reducible exact HN.out _ _) | (go_at_call 42; with_reducible exact HAR.out _ _)) | quiet_step (first | (go_at_call 24; with_reducible exact HN.out _ _) | (go_at_call 42; with_reducible exact HAR.out _ _)))
          refine wpQuiet_nil ?_
          intro _ hw'
          obtain ⟨⟨dq, osq⟩, hw''⟩ := hw'
          subst hw''
          have HBq := Lib.hid (HB.out.trans ((below_regrown w1 dq osq).mono HB.out.size))
          have k2 := r2 dq osq
          clear HN HAR r0 r1 r2
          go_wp2_with fail
          go_ret
          rw [EE]; exact ⟨rfl, HBq.out⟩
        · have EE : manE ⟨(zn : Int), (cn : Int), ids⟩ = 0 := by rw [E0.out, if_neg (by rintro (h | h); exact h hN; exact h hall), if_neg h4]
          have hd4 : decide ((4096 : Int) < (ids.length : Int)) = false := by simp; omega
          clear hall hN e1 E0
          refine wp_region_quiet_below (by kernel_rfl) (by kernel_rfl) ?_
          repeat (first | go_big_quiet_step (first | (go_at_call 24; with_reducible exact HN.out _ _) | (go_at_call 42; with_reducible exact HAR.out _ _)) | quiet_step (first | (go_at_call 24; with_reducible exact HN.out _ _) | (go_at_call 42; with_reducible exact HAR.out _ _)))
          refine wpQuiet_nil ?_
          intro _ hw'
          obtain ⟨⟨dq, osq⟩, hw''⟩ := hw'
          subst hw''
          have HBq := Lib.hid (HB.out.trans ((below_regrown w1 dq osq).mono HB.out.size))
          have k2 := r2 dq osq
          clear HN HAR r0 r1 r2
          go_wp2_with fail
          go_ret
          rw [EE]; exact ⟨rfl, HBq.out⟩
      · rw [decide_eq_false hall] at HAR
        have EE : manE ⟨(zn : Int), (cn : Int), ids⟩ = 5 := by rw [E0.out, if_pos (.inr hall)]
        clear hall hN e1 E0
        refine wp_region_quiet_below (by kernel_rfl) (by kernel_rfl) ?_
        repeat (first | go_big_quiet_step (first | (go_at_call 24; with_reducible exact HN.out _ _) | (go_at_call 42; with_reducible exact HAR.out _ _)) | quiet_step (first | (go_at_call 24; with_reducible exact HN.out _ _) | (go_at_call 42; with_reducible exact HAR.out _ _)))
        refine wpQuiet_nil ?_
        intro _ hw'
        obtain ⟨⟨dq, osq⟩, hw''⟩ := hw'
        subst hw''
        have HBq := Lib.hid (HB.out.trans ((below_regrown w1 dq osq).mono HB.out.size))
        have k2 := r2 dq osq
        clear HN HAR r0 r1 r2
        go_wp2_with fail
        go_ret
        rw [EE]; exact ⟨rfl, HBq.out⟩
    · have hdn : ((ids.length : Int) != (N : Int)) = true := by simp; omega
      have EE : manE ⟨(zn : Int), (cn : Int), ids⟩ = 5 := by rw [E0.out, if_pos (.inl hN)]
      clear hN E0
      refine wp_region_quiet_below (by kernel_rfl) (by kernel_rfl) ?_
      repeat (first | go_big_quiet_step (first | (go_at_call 24; with_reducible exact HN.out _ _) | (go_at_call 42; with_reducible exact HAR.out _ _)) | quiet_step (first | (go_at_call 24; with_reducible exact HN.out _ _) | (go_at_call 42; with_reducible exact HAR.out _ _)))
      refine wpQuiet_nil ?_
      intro _ hw'
      obtain ⟨⟨dq, osq⟩, hw''⟩ := hw'
      subst hw''
      have HBq := Lib.hid (HB.out.trans ((below_regrown w1 dq osq).mono HB.out.size))
      have k2 := r2 dq osq
      clear HN HAR r0 r1 r2
      go_wp2_with fail
      go_ret
      rw [EE]; exact ⟨rfl, HBq.out⟩
end Go.Proofs.YtiabbmdgddbgbaaDoor

namespace Go.Proofs.YtiabbmdgddbgbaaDoor
open Go.RowKit Go.Sort

set_option maxHeartbeats 4000000 in
set_option maxRecDepth 100000 in
theorem checkMR (m : Man) (a : Option Addr) (cap : Nat) (w : World) (h : MArg w m a) :
    Calls Tryd.prog 22 #[mv m (.slice a m.ids.length cap)] w fun e w' => e = .returned (.int .i64 (manE m)) ∧ Below w.heap.size w w' := by
  obtain ⟨hbx, hbw⟩ := box_man w m (.slice a m.ids.length cap)
  have ha := h.below hbw
  have hlen := h.len
  obtain ⟨z, c, ids⟩ := m
  have h0 := hbx.c0
  have h1 := hbx.c1
  have h2 := hbx.c2
  simp only at h0 h1 h2 hlen
  by_cases hc : c < 1
  · have e : manE ⟨z, c, ids⟩ = 2 := by unfold manE; rw [if_pos (.inl (by simp only; omega))]
    rw [e]
    have hd : decide (c < 1) = true := decide_eq_true hc
    have HB := Lib.hid hbw
    clear hbx hbw ha h e hc
    go_enter Tryd.func22, Tryd.ntmps22
    go_wp2_with fail
    go_ret
    exact ⟨rfl, HB.out⟩
  have hdc : decide (c < 1) = false := decide_eq_false hc
  by_cases hc2 : 4096 < c
  · have e : manE ⟨z, c, ids⟩ = 2 := by unfold manE; rw [if_pos (.inl (by simp only; omega))]
    rw [e]
    have hd : decide (4096 < c) = true := decide_eq_true hc2
    have HB := Lib.hid hbw
    clear hbx hbw ha h e hc hc2
    go_enter Tryd.func22, Tryd.ntmps22
    go_wp2_with fail
    go_ret
    exact ⟨rfl, HB.out⟩
  have hdc2 : decide (4096 < c) = false := decide_eq_false hc2
  by_cases hz : z < 0
  · have e : manE ⟨z, c, ids⟩ = 2 := by unfold manE; rw [if_pos (.inr (.inl hz))]
    rw [e]
    have hd : decide (z < 0) = true := decide_eq_true hz
    have HB := Lib.hid hbw
    clear hbx hbw ha h e hc hc2 hz
    go_enter Tryd.func22, Tryd.ntmps22
    go_wp2_with fail
    go_ret
    exact ⟨rfl, HB.out⟩
  have hdz : decide (z < 0) = false := decide_eq_false hz
  by_cases hz2 : 32768 < z
  · have e : manE ⟨z, c, ids⟩ = 2 := by unfold manE; rw [if_pos (.inr (.inr hz2))]
    rw [e]
    have hd : decide (32768 < z) = true := decide_eq_true hz2
    have HB := Lib.hid hbw
    clear hbx hbw ha h e hc hc2 hz hz2
    go_enter Tryd.func22, Tryd.ntmps22
    go_wp2_with fail
    go_ret
    exact ⟨rfl, HB.out⟩
  have hdz2 : decide (32768 < z) = false := decide_eq_false hz2
  obtain ⟨zn, rfl⟩ : ∃ n : Nat, z = n := ⟨z.toNat, by omega⟩
  obtain ⟨cn, rfl⟩ : ∃ n : Nat, c = n := ⟨c.toNat, by omega⟩
  have hk := hbx.lt
  have e0 : manE ⟨(zn : Int), (cn : Int), ids⟩ = if ids.length ≠ nP zn cn ∨ ¬(∀ s ∈ ids, ckE s = 0) then 5 else if 4096 < ids.length then 3 else 0 := by
    unfold manE
    simp only [Int.toNat_natCast]
    rw [if_neg (by omega)]
  have hcn1 : 1 ≤ cn := by omega
  have hcn2 : cn ≤ 4096 := by omega
  have hzn : zn ≤ 32768 := by omega
  have E0 := Lib.hid e0
  have HB := Lib.hid hbw
  have HA := Lib.hid ha
  clear e0 hc hc2 hz hz2 h hbw ha
  go_enter Tryd.func22, Tryd.ntmps22
  go_upto_region 3 with fail
  generalize w.alloc (.cells #[.int .i64 (zn : Int), .int .i64 (cn : Int), .slice a ids.length cap] 31) = w1 at *
  have r0 := fun d os => cell_regrown h0 d os
  have r1 := fun d os => cell_regrown h1 d os
  have r2 := fun d os => cell_regrown h2 d os
  have cN := fun d os => Calls.regrown_of ((manyR zn cn (by omega) hcn1 hcn2 (grow (redrawn w1 d) os)).mono fun e w' ⟨he, hw⟩ => ⟨he, hw ▸ Below.refl _ _⟩)
  have HN := Lib.hid cN
  clear cN h0 h1
  generalize nP zn cn = N at *
  by_cases hN : ids.length = N
  case neg =>
    have hdn : ((ids.length : Int) != (N : Int)) = true := by simp; omega
    have EE : manE ⟨(zn : Int), (cn : Int), ids⟩ = 5 := by rw [E0.out, if_pos (.inl hN)]
    clear hN E0
    refine wp_region_quiet_below (by kernel_rfl) (by kernel_rfl) ?_
    repeat (first | go_big_quiet_step ((go_at_call 26; with_reducible exact HN.out _ _)) | quiet_step ((go_at_call 26; with_reducible exact HN.out _ _)))
    refine wpQuiet_nil ?_
    intro _ hw'
    obtain ⟨⟨dq, osq⟩, hw''⟩ := hw'
    subst hw''
    have HBq := Lib.hid (HB.out.trans ((below_regrown w1 dq osq).mono HB.out.size))
    clear HN r0 r1 r2
    go_wp2_with fail
    go_ret
    first | (rw [EE]; exact ⟨rfl, HBq.out⟩) | exact ⟨rfl, HBq.out⟩
  case pos =>
    have hdn : ((ids.length : Int) != (N : Int)) = false := by simp [hN]
    have HEQ := Lib.hid hN
    clear hN
    refine wp_region_quiet_below (by kernel_rfl) (by kernel_rfl) ?_
    repeat (first | go_big_quiet_step ((go_at_call 26; with_reducible exact HN.out _ _)) | quiet_step ((go_at_call 26; with_reducible exact HN.out _ _)))
    refine wpQuiet_nil ?_
    intro _ hw'
    obtain ⟨⟨dq, osq⟩, hw''⟩ := hw'
    subst hw''
    have hbq := below_regrown w1 dq osq
    have k2 := r2 dq osq
    have hbx2 : MBox (grow (redrawn w1 dq) osq) w.heap.size ⟨(zn : Int), (cn : Int), ids⟩ (.slice a ids.length cap) := hbx.below hbq hk
    clear HN r0 r1 r2 h2 hbx
    have HB2 := Lib.hid (HB.out.trans (hbq.mono HB.out.size))
    have HA2 := Lib.hid (HA.out.below hbq)
    have hk2 := hbx2.lt
    clear hbq HB HA hk
    generalize grow (redrawn w1 dq) osq = w2 at *
    go_wp2_with fail
    go_loopw [3] (fun i wr => ∃ k : Nat, i = .int .i64 k ∧ k ≤ ids.length ∧ (∀ j, j < k → ckE (ids.getD j ByteArray.empty) = 0) ∧ Below w2.heap.size w2 wr) (fun i _ => ids.length - (intOf i).toNat)
    case atStart => exact ⟨0, rfl, Nat.zero_le _, fun j hj => absurd hj (by omega), Below.refl _ _⟩
    case round =>
      obtain ⟨k, rfl, hkl, hzz, hb⟩ := hrel
      have kc := (hbx2.below hb hk2).c2
      by_cases hlt : k < ids.length
      · obtain ⟨b, off, rfl, hbl, hcc⟩ := str_at (HA2.out.row.below hb) hlt
        have hmem : ids.getD k ByteArray.empty ∈ ids := by rw [List.getD_eq_getElem?_getD, List.getElem?_eq_getElem hlt]; exact List.getElem_mem hlt
        have hck := checkR (ids.getD k ByteArray.empty) wr (HA2.out.short _ hmem)
        have HZ := Lib.hid hzz
        have HBr := Lib.hid hb
        have HM := Lib.hid hmem
        clear hzz hb hmem
        simp only at hcc
        generalize hsk : ids.getD k ByteArray.empty = s at hcc hck HM
        by_cases hs0 : ckE s = 0
        · rw [hs0] at hck
          go_wp2_with fail
          refine hck.mono ?_
          rintro e w3 ⟨rfl, hb3⟩
          have HB3 := Lib.hid (HBr.out.trans (hb3.mono HBr.out.size))
          clear hb3
          go_wp2_with fail
          go_roundw
          case rel =>
            refine ⟨k + 1, by go_num, by omega, fun j hj => ?_, HB3.out⟩
            by_cases hjk : j < k
            · exact HZ.out j hjk
            · obtain rfl : j = k := by omega
              rw [hsk]; exact hs0
          case measure => simp [intOf]; omega
        · have hne : (ckE s != 0) = true := by simp [hs0]
          have hall : ¬ ∀ s ∈ ids, ckE s = 0 := fun h => hs0 (h s HM.out)
          have EE : manE ⟨(zn : Int), (cn : Int), ids⟩ = 5 := by rw [E0.out, if_pos (.inr hall)]
          clear hall
          generalize ckE s = E at hck hne
          go_wp2_with fail
          refine hck.mono ?_
          rintro e w3 ⟨rfl, hb3⟩
          have HB3 := Lib.hid (HB2.out.trans ((HBr.out.trans (hb3.mono HBr.out.size)).mono HB2.out.size))
          clear hb3
          go_wp2_with fail
          go_ret
          first | (rw [EE]; exact ⟨rfl, HB3.out⟩) | exact ⟨rfl, HB3.out⟩
      · obtain rfl : k = ids.length := by omega
        have hall : ∀ s ∈ ids, ckE s = 0 := fun s hs' => by
          obtain ⟨j, hj, rfl⟩ := List.getElem_of_mem hs'
          have := hzz j hj
          rw [List.getD_eq_getElem?_getD, List.getElem?_eq_getElem hj] at this
          exact this
        have HB3 := Lib.hid (HB2.out.trans (hb.mono HB2.out.size))
        by_cases h4 : 4096 < ids.length
        · have EE : manE ⟨(zn : Int), (cn : Int), ids⟩ = 3 := by rw [E0.out, if_neg (by rintro (h | h); exact h HEQ.out; exact h hall), if_pos h4]
          have hd4 : decide ((4096 : Int) < (ids.length : Int)) = true := by simp; omega
          clear hall hzz hb E0
          go_wp2_with fail
          go_ret
          first | (rw [EE]; exact ⟨rfl, HB3.out⟩) | exact ⟨rfl, HB3.out⟩
        · have EE : manE ⟨(zn : Int), (cn : Int), ids⟩ = 0 := by rw [E0.out, if_neg (by rintro (h | h); exact h HEQ.out; exact h hall), if_neg h4]
          have hd4 : decide ((4096 : Int) < (ids.length : Int)) = false := by simp; omega
          clear hall hzz hb E0
          go_wp2_with fail
          go_ret
          first | (rw [EE]; exact ⟨rfl, HB3.out⟩) | exact ⟨rfl, HB3.out⟩
end Go.Proofs.YtiabbmdgddbgbaaDoor

namespace Go.Proofs.YtiabbmdgddbgbaaDoor
open Go.Shelf Go.RowKit

def joinL_ren : Go.Shelf.Ren := ⟨fun | 156 => 40 | 165 => 57 | 166 => 58 | 169 => 59 | 240 => 68 | 241 => 69 | 276 => 76 | 277 => 77 | n => n, fun | 31 => 23 | 9 => 9 | 3 => 3 | 4 => 4 | 0 => 0 | 20 => 20 | 72 => 93 | 76 => 97 | 70 => 91 | 37 => 78 | 75 => 96 | 127 => 107 | 164 => 114 | 5 => 5 | 80 => 88 | n => n, fun | n => n⟩
theorem joinL : Lays.n156 Tryd.prog joinL_ren := {
  mixed := by kernel_rfl
  f156 := Tryd.func40.trans (congrArg some (by kernel_rfl))
  f165 := Tryd.func57.trans (congrArg some (by kernel_rfl))
  f166 := Tryd.func58.trans (congrArg some (by kernel_rfl))
  f169 := Tryd.func59.trans (congrArg some (by kernel_rfl))
  f240 := Tryd.func68.trans (congrArg some (by kernel_rfl))
  f241 := Tryd.func69.trans (congrArg some (by kernel_rfl))
  f276 := Tryd.func76.trans (congrArg some (by kernel_rfl))
  f277 := Tryd.func77.trans (congrArg some (by kernel_rfl))
  t0 := Tryd.underlying0
  a0 := Tryd.isAgg0
  z0 := Tryd.sizeOf0
  v0 := Tryd.zeroValue0
  t3 := Tryd.underlying3
  a3 := Tryd.isAgg3
  z3 := Tryd.sizeOf3
  v3 := Tryd.zeroValue3
  t4 := Tryd.underlying4
  a4 := Tryd.isAgg4
  z4 := Tryd.sizeOf4
  v4 := Tryd.zeroValue4
  t9 := Tryd.underlying9
  a9 := Tryd.isAgg9
  z9 := Tryd.sizeOf9
  v9 := Tryd.zeroValue9
  t20 := Tryd.underlying20
  a20 := Tryd.isAgg20
  z20 := Tryd.sizeOf20
  v20 := Tryd.zeroValue20
  t31 := Tryd.underlying23
  a31 := Tryd.isAgg23
  z31 := Tryd.sizeOf23
  v31 := Tryd.zeroValue23
  t37 := Tryd.underlying78
  a37 := Tryd.isAgg78
  z37 := Tryd.sizeOf78
  v37 := Tryd.zeroValue78
  t70 := Tryd.underlying91
  a70 := Tryd.isAgg91
  z70 := Tryd.sizeOf91
  v70 := Tryd.zeroValue91
  t72 := Tryd.underlying93
  a72 := Tryd.isAgg93
  z72 := Tryd.sizeOf93
  v72 := Tryd.zeroValue93
  t75 := Tryd.underlying96
  a75 := Tryd.isAgg96
  z75 := Tryd.sizeOf96
  v75 := Tryd.zeroValue96
  t76 := Tryd.underlying97
  a76 := Tryd.isAgg97
  z76 := Tryd.sizeOf97
  v76 := Tryd.zeroValue97
  t127 := Tryd.underlying107
  a127 := Tryd.isAgg107
  z127 := Tryd.sizeOf107
  v127 := Tryd.zeroValue107
  t164 := Tryd.underlying114
  a164 := Tryd.isAgg114
  z164 := Tryd.sizeOf114
  v164 := Tryd.zeroValue114 }

theorem joinX : Builder.Extra Tryd.prog joinL_ren := {
  sizeBuilder := by kernel_rfl
  liesBuilder := by kernel_rfl
  t5 := Tryd.underlying5
  a5 := Tryd.isAgg5
  z5 := Tryd.sizeOf5
  v5 := Tryd.zeroValue5
  infoByte := by kernel_rfl
  cellsByte := by kernel_rfl
  sizeByte := by kernel_rfl
  neB5 := by decide
}

theorem join_flat (xs : List (List UInt8)) : Lib.join xs [] = xs.flatten := by
  cases xs with
  | nil => rfl
  | cons x r => rw [Lib.join_cons]; simp [Lib.joinTail]

/-- strings.Join of some texts with nothing between them -/
theorem joinC (a : Option Addr) (cap : Nat) (l : List ByteArray) (w : World) (hrow : StrRow w a l) (hc : l.length ≤ cap) (hl : l.length ≤ 140737488355328) (ht : total l ≤ 140737488355328) :
    Calls Tryd.prog 40 #[.slice a l.length cap, .string ⟨#[]⟩] w fun e w' => e = .returned (.string (cat l)) ∧ Below w.heap.size w w' := by
  rcases hrow with rfl | ⟨b, off, rfl, hb, hcell⟩
  · exact (Any.strings_Join_none joinL joinX a cap ⟨#[]⟩ w).mono fun e w' ⟨he, hw⟩ => ⟨he, hw ▸ Below.refl _ _⟩
  · have e : (Lib.join (l.map (·.data.toList)) (ByteArray.mk #[]).data.toList) = (l.map tl).flatten := join_flat _
    have h := Any.strings_Join joinL joinX b off cap l ⟨#[]⟩ w (fun j x hx => by
      obtain ⟨hj, rfl⟩ := List.getElem?_eq_some_iff.1 hx
      rw [hcell j hj, List.getD_eq_getElem?_getD, hx]; rfl) hb hl hc (by rw [e]; exact ht)
    rw [e] at h
    exact h
end Go.Proofs.YtiabbmdgddbgbaaDoor

namespace Go.Proofs.YtiabbmdgddbgbaaDoor
open Go.RowKit Go.Sort

/-- what some chunks are joined to -/
def joinM (m : Man) (l : List ByteArray) : ByteArray × Int :=
  if manE m ≠ 0 then (⟨#[]⟩, manE m) else if l.length ≠ m.ids.length then (⟨#[]⟩, 5)
  else if l.map idS ≠ m.ids then (⟨#[]⟩, 6) else if (total l : Int) ≠ m.size then (⟨#[]⟩, 5) else (cat l, 0)

theorem ne_bytes {x y : ByteArray} (h : x ≠ y) : (!x.toList == y.toList) = true := by
  cases hb : (!x.toList == y.toList) with
  | true => rfl
  | false => exact absurd (bytes_eq hb) h

theorem total_le {l : List ByteArray} (h : ∀ s ∈ l, s.size ≤ 5000) : total l ≤ l.length * 5000 := by
  induction l with
  | nil => simp [total]
  | cons x r ih =>
    have h1 := h x (by simp)
    have h2 := ih (fun s hs => h s (by simp [hs]))
    have e : total (x :: r) = x.size + total r := by simp [total, tl_length]
    rw [e, List.length_cons]; omega

theorem take_succ' (l : List ByteArray) {k : Nat} (hk : k < l.length) : l.take (k + 1) = l.take k ++ [l.getD k ByteArray.empty] := by
  rw [List.take_succ_eq_append_getElem hk, List.getD_eq_getElem?_getD, List.getElem?_eq_getElem hk]; rfl

theorem getD_mem {l : List ByteArray} {k : Nat} (hk : k < l.length) : l.getD k ByteArray.empty ∈ l := by
  rw [List.getD_eq_getElem?_getD, List.getElem?_eq_getElem hk]; exact List.getElem_mem hk

theorem ids_eq {l ids : List ByteArray} (hl : l.length = ids.length) (h : ∀ j, j < l.length → idS (l.getD j ByteArray.empty) = ids.getD j ByteArray.empty) : l.map idS = ids := by
  apply List.ext_getElem (by simp [hl])
  intro j h1 h2
  have hj : j < l.length := by simpa using h1
  have := h j hj
  rw [List.getD_eq_getElem?_getD, List.getD_eq_getElem?_getD, List.getElem?_eq_getElem hj, List.getElem?_eq_getElem h2] at this
  simpa using this

theorem ids_ne {l ids : List ByteArray} {k : Nat} (hk : k < l.length) (h : idS (l.getD k ByteArray.empty) ≠ ids.getD k ByteArray.empty) : l.map idS ≠ ids := by
  rintro rfl
  apply h
  rw [List.getD_eq_getElem?_getD, List.getD_eq_getElem?_getD, List.getElem?_map, List.getElem?_eq_getElem hk]
  rfl

theorem manE_ok {m : Man} (h : manE m = 0) : 0 ≤ m.size ∧ m.size ≤ 32768 ∧ m.ids.length ≤ 4096 ∧ 1 ≤ m.chunk ∧ m.chunk ≤ 4096 ∧ (∀ s ∈ m.ids, ckE s = 0) ∧ m.ids.length = nP m.size.toNat m.chunk.toNat := by
  unfold manE at h
  split at h
  · cases h
  · rename_i h1
    split at h
    · cases h
    · rename_i h2
      split at h
      · cases h
      · rename_i h3
        have hc : 1 ≤ m.chunk ∧ m.chunk ≤ 4096 := Classical.byContradiction fun hc => h1 (.inl hc)
        exact ⟨by omega, by omega, by omega, hc.1, hc.2, Classical.byContradiction fun hc => h2 (.inr hc), Classical.byContradiction fun hc => h2 (.inl hc)⟩

set_option maxHeartbeats 4000000 in
set_option maxRecDepth 100000 in
theorem joinMC (m : Man) (a : Option Addr) (cap : Nat) (b : Option Addr) (bcap : Nat) (l : List ByteArray) (w : World) (h : MArg w m a) (hl : StrRow w b l) (hlen : l.length ≤ 9223372036854775807) (hcap : l.length ≤ bcap) (hsz : ∀ s ∈ l, s.size ≤ 5000) (hT : Tab w) :
    Calls Tryd.prog 19 #[mv m (.slice a m.ids.length cap), .slice b l.length bcap] w fun e w' => e = .returned (.tuple #[.string (joinM m l).1, .int .i64 (joinM m l).2]) ∧ Below w.heap.size w w' := by
  obtain ⟨hbx, hbw⟩ := box_man w m (.slice a m.ids.length cap)
  have ha := h.below hbw
  have hl1 := hl.below hbw
  have hT1 := hT.below hbw
  have hmlen := h.len
  have h0 := hbx.c0
  have h1 := hbx.c1
  have h2 := hbx.c2
  have hk := hbx.lt
  have hck := fun W (hW : MArg W m a) => checkMC m a cap W hW
  have HA := Lib.hid ha
  have HB := Lib.hid hbw
  have HL := Lib.hid hl1
  have HT := Lib.hid hT1
  by_cases he : manE m = 0
  case neg =>
    have hj : joinM m l = (⟨#[]⟩, manE m) := by unfold joinM; rw [if_pos he]
    rw [hj]
    have hne : (manE m != 0) = true := by simp [he]
    generalize manE m = E at hck hne
    clear hj he h hl hT ha hl1 hT1 hbw hbx
    go_enter Tryd.func19, Tryd.ntmps19
    go_wp2_with fail
    refine (hck _ HA.out).mono ?_
    rintro e w1 ⟨rfl, hb1⟩
    have HB1 := Lib.hid (HB.out.trans (hb1.mono HB.out.size))
    clear hb1
    go_wp2_with fail
    go_ret2
    exact ⟨rfl, HB1.out⟩
  case pos =>
    obtain ⟨hz0, hz1, hil, -, -, -, -⟩ := manE_ok he
    rw [he] at hck
    have hj : joinM m l = if l.length ≠ m.ids.length then (⟨#[]⟩, 5) else if l.map idS ≠ m.ids then (⟨#[]⟩, 6) else if (total l : Int) ≠ m.size then (⟨#[]⟩, 5) else (cat l, 0) := by
      unfold joinM; rw [if_neg (by simp [he])]
    by_cases hn : l.length = m.ids.length
    case neg =>
      rw [if_pos hn] at hj
      rw [hj]
      have hne : ((l.length : Int) != (m.ids.length : Int)) = true := by simp; omega
      have k0 := fun W (hW : Below (w.alloc (.cells #[.int .i64 m.size, .int .i64 m.chunk, .slice a m.ids.length cap] 31)).heap.size (w.alloc (.cells #[.int .i64 m.size, .int .i64 m.chunk, .slice a m.ids.length cap] 31)) W) => (hbx.below hW hk).c2
      have K0 := Lib.hid k0
      clear hj he h hl hT ha hl1 hT1 hbw hbx hn k0
      go_enter Tryd.func19, Tryd.ntmps19
      go_wp2_with fail
      refine (hck _ HA.out).mono ?_
      rintro e w1 ⟨rfl, hb1⟩
      have HB1 := Lib.hid (HB.out.trans (hb1.mono HB.out.size))
      have k1 := K0.out _ hb1
      clear hb1 K0
      go_wp2_with fail
      go_ret2
      exact ⟨rfl, HB1.out⟩
    case pos =>
      rw [if_neg (fun hh => hh hn)] at hj
      have hne : ((l.length : Int) != (m.ids.length : Int)) = false := by simp [hn]
      have HBX := Lib.hid hbx
      have HJ := Lib.hid hj
      have HN := Lib.hid hn
      have htl : ∀ k, k ≤ l.length → total (l.take k) ≤ 20480000 := fun k hk => by
        have := total_le (l := l.take k) (fun s hs => hsz s (List.mem_of_mem_take hs))
        rw [List.length_take] at this
        omega
      have HTL := Lib.hid htl
      clear hj he h hl hT ha hl1 hT1 hbw hbx hn htl
      go_enter Tryd.func19, Tryd.ntmps19
      go_wp2_with fail
      refine (hck _ HA.out).mono ?_
      rintro e w1 ⟨rfl, hb1⟩
      have HB1 := Lib.hid (HB.out.trans (hb1.mono HB.out.size))
      have hbx1 := HBX.out.below hb1 hk
      have HA1 := Lib.hid (HA.out.below hb1)
      have HL1 := Lib.hid (HL.out.below hb1)
      have HT1 := Lib.hid (HT.out.below hb1)
      clear hb1 HB HA HL HT HBX h0 h1 h2 hk
      have k2 := hbx1.c2
      have k0 := hbx1.c0
      have hk1 := hbx1.lt
      have HBX := Lib.hid hbx1
      clear hbx1
      go_wp2_with fail
      go_loopw [7, 23] (fun z i wr => ∃ k : Nat, i = .int .i64 k ∧ k ≤ l.length ∧ z = .int .i64 (total (l.take k) : Nat) ∧ (∀ j, j < k → idS (l.getD j ByteArray.empty) = m.ids.getD j ByteArray.empty) ∧ Below w1.heap.size w1 wr) (fun _ i _ => l.length - (intOf i).toNat)
      case atStart => exact ⟨0, rfl, Nat.zero_le _, rfl, fun j hj => absurd hj (by omega), Below.refl _ _⟩
      case round =>
        obtain ⟨k, rfl, hkl, rfl, hz, hb⟩ := hrel
        have hbx2 := HBX.out.below hb hk1
        have c2 := hbx2.c2
        have c0 := hbx2.c0
        by_cases hlt : k < l.length
        · have hlt2 : k < m.ids.length := by have := HN.out; omega
          obtain ⟨bb, off, rfl, hbl, hcc⟩ := str_at (HL1.out.below hb) hlt
          obtain ⟨ab, aoff, rfl, hal, hca⟩ := str_at ((HA1.out.row).below hb) hlt2
          have hT2 := HT1.out.below hb
          have hls := hsz _ (getD_mem hlt)
          have htk := take_succ' l hlt
          have hb1 := HTL.out k (by omega)
          have hb2 := HTL.out (k + 1) (by omega)
          rw [htk, total_snoc] at hb2
          have cI := fun d os => Calls.regrown_of (idC (l.getD k ByteArray.empty) (grow (redrawn wr d) os) hls (hT2.below (below_regrown wr d os)))
          have HZ := Lib.hid hz
          have HBR := Lib.hid hb
          have HTK := Lib.hid htk
          clear hz hb htk hT2 hbx2
          generalize hx : l.getD k ByteArray.empty = x at *
          generalize hy : m.ids.getD k ByteArray.empty = y at *
          have r2 := fun d os => cell_regrown c2 d os
          have rc := fun d os => cell_regrown hcc d os
          have ra := fun d os => cell_regrown hca d os
          have HCI := Lib.hid cI
          clear cI
          go_upto_region 10 with fail
          have HBX2 := Lib.hid HBX.out
          by_cases hid : idS x = y
          · have hd : (!(idS x).toList == y.toList) = false := by rw [hid]; simp
            refine wp_region_quiet_below (by kernel_rfl) (by kernel_rfl) ?_
            repeat (first | go_big_quiet_step ((go_at_call 27; with_reducible exact HCI.out _ _)) | quiet_step ((go_at_call 27; with_reducible exact HCI.out _ _)))
            refine wpQuiet_nil ?_
            intro _ hw'
            obtain ⟨⟨dq, osq⟩, hw''⟩ := hw'
            subst hw''
            have HBq := Lib.hid (HBR.out.trans ((below_regrown wr dq osq).mono HBR.out.size))
            clear HCI r2 rc ra c0 c2 hcc hca
            go_wp2_with fail
            refine ⟨⟨k + 1, by go_num, by omega, ?_, fun j hj => ?_, HBq.out⟩, by simp [intOf]; omega⟩
            · rw [HTK.out, total_snoc]; go_num
            · by_cases hjk : j < k
              · exact HZ.out j hjk
              · obtain rfl : j = k := by omega
                rw [hx, hy]; exact hid
          · have hd : (!(idS x).toList == y.toList) = true := ne_bytes hid
            have hne2 : l.map idS ≠ m.ids := ids_ne hlt (by rw [hx, hy]; exact hid)
            have hj := HJ.out
            rw [if_pos hne2] at hj
            clear hne2
            refine wp_region_quiet_below (by kernel_rfl) (by kernel_rfl) ?_
            repeat (first | go_big_quiet_step ((go_at_call 27; with_reducible exact HCI.out _ _)) | quiet_step ((go_at_call 27; with_reducible exact HCI.out _ _)))
            refine wpQuiet_nil ?_
            intro _ hw'
            obtain ⟨⟨dq, osq⟩, hw''⟩ := hw'
            subst hw''
            have HBq := Lib.hid (HB1.out.trans ((HBR.out.trans ((below_regrown wr dq osq).mono HBR.out.size)).mono HB1.out.size))
            clear HCI r2 rc ra c0 c2 hcc hca
            go_wp2_with fail
            go_ret2
            first | (rw [hj]; exact ⟨rfl, HBq.out⟩) | exact ⟨rfl, HBq.out⟩
        · obtain rfl : k = l.length := by omega
          have hall : l.map idS = m.ids := ids_eq HN.out hz
          have hj := HJ.out
          rw [if_neg (fun hh => hh hall)] at hj
          have HBR := Lib.hid (HB1.out.trans (hb.mono HB1.out.size))
          have hLw := HL1.out.below hb
          have htot := HTL.out l.length (Nat.le_refl _)
          rw [List.take_length] at *
          clear hz hb hall hbx2
          by_cases ht : (total l : Int) = m.size
          · rw [if_neg (fun hh => hh ht)] at hj
            have hd : ((total l : Int) != m.size) = false := by simp [ht]
            have cJ := joinC b bcap l wr hLw hcap (by have := HN.out; omega) (by omega)
            have HJ2 := Lib.hid hj
            clear hj ht hLw
            go_wp2_with fail
            refine cJ.mono ?_
            rintro e w3 ⟨rfl, hb3⟩
            have HB3 := Lib.hid (HBR.out.trans (hb3.mono HBR.out.size))
            clear hb3
            go_wp2_with fail
            go_ret2
            rw [HJ2.out]; exact ⟨rfl, HB3.out⟩
          · rw [if_pos ht] at hj
            have hd : ((total l : Int) != m.size) = true := by simp [ht]
            have HJ2 := Lib.hid hj
            clear hj ht hLw
            go_wp2_with fail
            go_ret2
            rw [HJ2.out]; exact ⟨rfl, HBR.out⟩
end Go.Proofs.YtiabbmdgddbgbaaDoor

namespace Go.Proofs.YtiabbmdgddbgbaaDoor
open Go.RowKit Go.Sort

theorem cat_snoc (l : List ByteArray) (x : ByteArray) : cat (l ++ [x]) = cat l ++ x := by
  apply tl_inj
  unfold cat
  simp [tl]

set_option maxHeartbeats 4000000 in
set_option maxRecDepth 100000 in
theorem joinMR (m : Man) (a : Option Addr) (cap : Nat) (b : Option Addr) (bcap : Nat) (l : List ByteArray) (w : World) (h : MArg w m a) (hl : StrRow w b l) (hlen : l.length ≤ 9223372036854775807) (hsz : ∀ s ∈ l, s.size ≤ 5000) :
    Calls Tryd.prog 20 #[mv m (.slice a m.ids.length cap), .slice b l.length bcap] w fun e w' => e = .returned (.tuple #[.string (joinM m l).1, .int .i64 (joinM m l).2]) ∧ Below w.heap.size w w' := by
  obtain ⟨hbx, hbw⟩ := box_man w m (.slice a m.ids.length cap)
  have ha := h.below hbw
  have hl1 := hl.below hbw
  have hmlen := h.len
  have h0 := hbx.c0
  have h1 := hbx.c1
  have h2 := hbx.c2
  have hk := hbx.lt
  have hck := fun W (hW : MArg W m a) => checkMR m a cap W hW
  have HA := Lib.hid ha
  have HB := Lib.hid hbw
  have HL := Lib.hid hl1
  by_cases he : manE m = 0
  case neg =>
    have hj : joinM m l = (⟨#[]⟩, manE m) := by unfold joinM; rw [if_pos he]
    rw [hj]
    have hne : (manE m != 0) = true := by simp [he]
    generalize manE m = E at hck hne
    clear hj he h hl ha hl1 hbw hbx
    go_enter Tryd.func20, Tryd.ntmps20
    go_wp2_with fail
    refine (hck _ HA.out).mono ?_
    rintro e w1 ⟨rfl, hb1⟩
    have HB1 := Lib.hid (HB.out.trans (hb1.mono HB.out.size))
    clear hb1
    go_wp2_with fail
    go_ret2
    exact ⟨rfl, HB1.out⟩
  case pos =>
    obtain ⟨hz0, hz1, hil, -, -, -, -⟩ := manE_ok he
    rw [he] at hck
    have hj : joinM m l = if l.length ≠ m.ids.length then (⟨#[]⟩, 5) else if l.map idS ≠ m.ids then (⟨#[]⟩, 6) else if (total l : Int) ≠ m.size then (⟨#[]⟩, 5) else (cat l, 0) := by
      unfold joinM; rw [if_neg (by simp [he])]
    by_cases hn : l.length = m.ids.length
    case neg =>
      rw [if_pos hn] at hj
      rw [hj]
      have hne : ((l.length : Int) != (m.ids.length : Int)) = true := by simp; omega
      have k0 := fun W (hW : Below (w.alloc (.cells #[.int .i64 m.size, .int .i64 m.chunk, .slice a m.ids.length cap] 31)).heap.size (w.alloc (.cells #[.int .i64 m.size, .int .i64 m.chunk, .slice a m.ids.length cap] 31)) W) => (hbx.below hW hk).c2
      have K0 := Lib.hid k0
      clear hj he h hl ha hl1 hbw hbx hn k0
      go_enter Tryd.func20, Tryd.ntmps20
      go_wp2_with fail
      refine (hck _ HA.out).mono ?_
      rintro e w1 ⟨rfl, hb1⟩
      have HB1 := Lib.hid (HB.out.trans (hb1.mono HB.out.size))
      have k1 := K0.out _ hb1
      clear hb1 K0
      go_wp2_with fail
      go_ret2
      exact ⟨rfl, HB1.out⟩
    case pos =>
      rw [if_neg (fun hh => hh hn)] at hj
      have hne : ((l.length : Int) != (m.ids.length : Int)) = false := by simp [hn]
      have HBX := Lib.hid hbx
      have HJ := Lib.hid hj
      have HN := Lib.hid hn
      have htl : ∀ k, k ≤ l.length → total (l.take k) ≤ 20480000 := fun k hk => by
        have := total_le (l := l.take k) (fun s hs => hsz s (List.mem_of_mem_take hs))
        rw [List.length_take] at this
        omega
      have HTL := Lib.hid htl
      clear hj he h hl ha hl1 hbw hbx hn htl
      go_enter Tryd.func20, Tryd.ntmps20
      go_wp2_with fail
      refine (hck _ HA.out).mono ?_
      rintro e w1 ⟨rfl, hb1⟩
      have HB1 := Lib.hid (HB.out.trans (hb1.mono HB.out.size))
      have hbx1 := HBX.out.below hb1 hk
      have HA1 := Lib.hid (HA.out.below hb1)
      have HL1 := Lib.hid (HL.out.below hb1)
      clear hb1 HB HA HL HBX h0 h1 h2 hk
      have k2 := hbx1.c2
      have k0 := hbx1.c0
      have hk1 := hbx1.lt
      have HBX := Lib.hid hbx1
      clear hbx1
      go_wp2_with fail
      go_loopw [7, 8] (fun z i wr => ∃ k : Nat, i = .int .i64 k ∧ k ≤ l.length ∧ z = .string (cat (l.take k)) ∧ (∀ j, j < k → idS (l.getD j ByteArray.empty) = m.ids.getD j ByteArray.empty) ∧ Below w1.heap.size w1 wr) (fun _ i _ => l.length - (intOf i).toNat)
      case atStart => exact ⟨0, rfl, Nat.zero_le _, rfl, fun j hj => absurd hj (by omega), Below.refl _ _⟩
      case round =>
        obtain ⟨k, rfl, hkl, rfl, hz, hb⟩ := hrel
        have hbx2 := HBX.out.below hb hk1
        have c2 := hbx2.c2
        have c0 := hbx2.c0
        by_cases hlt : k < l.length
        · have hlt2 : k < m.ids.length := by have := HN.out; omega
          obtain ⟨bb, off, rfl, hbl, hcc⟩ := str_at (HL1.out.below hb) hlt
          obtain ⟨ab, aoff, rfl, hal, hca⟩ := str_at ((HA1.out.row).below hb) hlt2
          have hls := hsz _ (getD_mem hlt)
          have htk := take_succ' l hlt
          have hb1 := HTL.out k (by omega)
          have hb2 := HTL.out (k + 1) (by omega)
          rw [htk, total_snoc] at hb2
          have cI := fun d os => Calls.regrown_of (idR (l.getD k ByteArray.empty) (grow (redrawn wr d) os) hls)
          have HZ := Lib.hid hz
          have HBR := Lib.hid hb
          have HTK := Lib.hid htk
          clear hz hb htk hbx2
          generalize hx : l.getD k ByteArray.empty = x at *
          generalize hy : m.ids.getD k ByteArray.empty = y at *
          have r2 := fun d os => cell_regrown c2 d os
          have rc := fun d os => cell_regrown hcc d os
          have ra := fun d os => cell_regrown hca d os
          have HCI := Lib.hid cI
          clear cI
          go_upto_region 10 with fail
          have HBX2 := Lib.hid HBX.out
          by_cases hid : idS x = y
          · have hd : (!(idS x).toList == y.toList) = false := by rw [hid]; simp
            refine wp_region_quiet_below (by kernel_rfl) (by kernel_rfl) ?_
            repeat (first | go_big_quiet_step ((go_at_call 28; with_reducible exact HCI.out _ _)) | quiet_step ((go_at_call 28; with_reducible exact HCI.out _ _)))
            refine wpQuiet_nil ?_
            intro _ hw'
            obtain ⟨⟨dq, osq⟩, hw''⟩ := hw'
            subst hw''
            have HBq := Lib.hid (HBR.out.trans ((below_regrown wr dq osq).mono HBR.out.size))
            have kcc := rc dq osq
            have hcs : (cat (l.take k)).size + x.size ≤ 20480000 := by rw [cat_size]; exact hb2
            clear HCI r2 rc ra c0 c2 hcc hca
            go_wp2_with fail
            refine ⟨⟨k + 1, by go_num, by omega, ?_, fun j hj => ?_, HBq.out⟩, by simp [intOf]; omega⟩
            · rw [HTK.out, cat_snoc]
            · by_cases hjk : j < k
              · exact HZ.out j hjk
              · obtain rfl : j = k := by omega
                rw [hx, hy]; exact hid
          · have hd : (!(idS x).toList == y.toList) = true := ne_bytes hid
            have hne2 : l.map idS ≠ m.ids := ids_ne hlt (by rw [hx, hy]; exact hid)
            have hj := HJ.out
            rw [if_pos hne2] at hj
            clear hne2
            refine wp_region_quiet_below (by kernel_rfl) (by kernel_rfl) ?_
            repeat (first | go_big_quiet_step ((go_at_call 28; with_reducible exact HCI.out _ _)) | quiet_step ((go_at_call 28; with_reducible exact HCI.out _ _)))
            refine wpQuiet_nil ?_
            intro _ hw'
            obtain ⟨⟨dq, osq⟩, hw''⟩ := hw'
            subst hw''
            have HBq := Lib.hid (HB1.out.trans ((HBR.out.trans ((below_regrown wr dq osq).mono HBR.out.size)).mono HB1.out.size))
            clear HCI r2 rc ra c0 c2 hcc hca
            go_wp2_with fail
            go_ret2
            first | (rw [hj]; exact ⟨rfl, HBq.out⟩) | exact ⟨rfl, HBq.out⟩
        · obtain rfl : k = l.length := by omega
          have hall : l.map idS = m.ids := ids_eq HN.out hz
          have hj := HJ.out
          rw [if_neg (fun hh => hh hall)] at hj
          have HBR := Lib.hid (HB1.out.trans (hb.mono HB1.out.size))
          have hLw := HL1.out.below hb
          have htot := HTL.out l.length (Nat.le_refl _)
          rw [List.take_length] at *
          clear hz hb hall hbx2
          by_cases ht : (total l : Int) = m.size
          · rw [if_neg (fun hh => hh ht)] at hj
            have hd : (((cat l).size : Int) != m.size) = false := by rw [cat_size]; simp [ht]
            have HJ2 := Lib.hid hj
            clear hj ht hLw
            go_wp2_with fail
            go_ret2
            rw [HJ2.out]; exact ⟨rfl, HBR.out⟩
          · rw [if_pos ht] at hj
            have hd : (((cat l).size : Int) != m.size) = true := by rw [cat_size]; simp [ht]
            have HJ2 := Lib.hid hj
            clear hj ht hLw
            go_wp2_with fail
            go_ret2
            rw [HJ2.out]; exact ⟨rfl, HBR.out⟩
end Go.Proofs.YtiabbmdgddbgbaaDoor
