/-
  disk: New, ready, spend, Off, Fuse, names.
-/
import Derived.Test.YtopigchjdegpeaaDoorDiskMem
import Derived.Lib.Bytealg
namespace Go.Proofs.YtopigchjdegpeaaDoor
open Go.RowKit

set_option maxHeartbeats 1000000 in
set_option maxRecDepth 100000 in
theorem ready_nil (w : World) : Calls Tryd.prog 38 #[.pointer none] w fun e w' => e = .returned (.int .i64 12) ∧ w = w' := by
  go_enter Tryd.func38, Tryd.ntmps38
  go_wp2
  go_ret
  exact ⟨rfl, rfl⟩

def rdy (m : MS) : Int := if m.off then 10 else 0

set_option maxHeartbeats 1000000 in
set_option maxRecDepth 100000 in
theorem ready_any {B : Nat} (m : MS) (w : World) (h : Lies B m w) : Calls Tryd.prog 38 #[.pointer (some ⟨m.D, 0, none⟩)] w fun e w' => e = .returned (.int .i64 (rdy m)) ∧ w = w' := by
  have h2 := h.cell 2
  simp only [MS.head, List.getElem?_toArray, List.getElem?_cons_succ, List.getElem?_cons_zero] at h2
  obtain ⟨D, room, fv, l, off, fused, left⟩ := m
  simp only [rdy] at h2 ⊢
  cases off
  · go_enter Tryd.func38, Tryd.ntmps38
    go_wp2
    go_ret
    exact ⟨rfl, rfl⟩
  · go_enter Tryd.func38, Tryd.ntmps38
    go_wp2
    go_ret
    exact ⟨rfl, rfl⟩

def offB (m : MS) : Bool := m.off

set_option maxHeartbeats 1000000 in
set_option maxRecDepth 100000 in
theorem off_any {B : Nat} (m : MS) (w : World) (h : Lies B m w) : Calls Tryd.prog 21 #[.pointer (some ⟨m.D, 0, none⟩)] w fun e w' => e = .returned (.bool (offB m)) ∧ w = w' := by
  have hr := ready_any m w h
  cases ho : m.off
  · have h1 : rdy m = 0 := by simp [rdy, ho]
    have h2 : offB m = false := ho
    rw [h1] at hr; rw [h2]; clear h1 h2 ho
    go_enter Tryd.func21, Tryd.ntmps21
    go_wp2_with fail
    refine hr.mono ?_
    rintro e w' ⟨rfl, rfl⟩
    go_wp2
    go_ret
    exact ⟨rfl, rfl⟩
  · have h1 : rdy m = 10 := by simp [rdy, ho]
    have h2 : offB m = true := ho
    rw [h1] at hr; rw [h2]; clear h1 h2 ho
    go_enter Tryd.func21, Tryd.ntmps21
    go_wp2_with fail
    refine hr.mono ?_
    rintro e w' ⟨rfl, rfl⟩
    go_wp2
    go_ret
    exact ⟨rfl, rfl⟩

set_option maxHeartbeats 1000000 in
set_option maxRecDepth 100000 in
theorem off_nil (w : World) : Calls Tryd.prog 21 #[.pointer none] w fun e w' => e = .returned (.bool true) ∧ w = w' := by
  go_enter Tryd.func21, Tryd.ntmps21
  go_wp2_with fail
  refine (ready_nil w).mono ?_
  rintro e w' ⟨rfl, rfl⟩
  go_wp2
  go_ret
  exact ⟨rfl, rfl⟩

/-- the disk behind Fuse -/
def MS.fuse (m : MS) (n : Int) : MS := { m with fused := decide (0 ≤ n), left := n.toNat }

set_option maxHeartbeats 1000000 in
set_option maxRecDepth 100000 in
theorem fuse_any {B : Nat} (m : MS) (w : World) (n : Int) (h : Lies B m w) : Calls Tryd.prog 19 #[.pointer (some ⟨m.D, 0, none⟩), .int .i64 n] w fun e w' => e = .returned (.tuple #[]) ∧ Lies B (m.fuse n) w' ∧ Chg m (m.fuse n) w w' := by
  have hc3 := h.cell 3
  have hc4 := h.cell 4
  have hf3 := h.free 3
  have hf4 := h.free 4
  simp only [MS.head, List.getElem?_toArray, List.getElem?_cons_succ, List.getElem?_cons_zero] at hc3 hc4
  obtain ⟨p1, q1⟩ := h.setHead (m' := { m with fused := decide (0 ≤ n) }) 3 (.bool (decide (0 ≤ n))) (by simp [MS.head]) rfl rfl rfl
  obtain ⟨p2, q2⟩ := p1.setHead (m' := m.fuse n) 4 (.int .i64 (max n 0)) (by simp [MS.head, MS.fuse]) rfl rfl rfl
  have H := Lib.hid (And.intro p2 (q1.trans q2)); clear p1 q1 p2 q2 h
  go_enter Tryd.func19, Tryd.ntmps19
  go_wp2
  go_end0
  exact ⟨rfl, H.out⟩

set_option maxHeartbeats 1000000 in
set_option maxRecDepth 100000 in
theorem fuse_nil (n : Int) (w : World) : Calls Tryd.prog 19 #[.pointer none, .int .i64 n] w fun e w' => e = .returned (.tuple #[]) ∧ w = w' := by
  go_enter Tryd.func19, Tryd.ntmps19
  go_wp2
  refine bodyPost_ret (results_none rfl _ _ _) rfl ?_
  exact ⟨rfl, rfl⟩

/-- A new disk. -/
def newMS (D : Nat) (room : Nat) : MS := ⟨D, room, .slice none 0 0, [], false, false, 0⟩

set_option maxHeartbeats 1000000 in
set_option maxRecDepth 100000 in
theorem new_ok (room : Nat) (w : World) (hr : room ≤ 4194304) : Calls Tryd.prog 6 #[.int .i64 (room : Int)] w fun e w' => e = .returned (.tuple #[.pointer (some ⟨w.heap.size, 0, none⟩), .int .i64 0]) ∧ Lies w.heap.size (newMS w.heap.size room) w' ∧ Below w.heap.size w w' := by
  have h0 : ¬ ((room : Int) < 0) := by omega
  have h1 : ¬ ((4194304 : Int) < (room : Int)) := by omega
  go_enter Tryd.func6, Tryd.ntmps6
  go_wp2
  go_ret2
  refine ⟨rfl, ⟨?_, Nat.le_refl _, World.ownsRow_nil _ _ _ _, fun f hf => absurd hf (by simp [newMS]), by simp [MS.blks, newMS, Value.ownBlock, bblks]⟩, Joins.below_alloc1 _ _⟩
  exact heap_alloc_new w _

set_option maxHeartbeats 1000000 in
set_option maxRecDepth 100000 in
theorem new_no (room : Int) (w : World) (hr : room < 0 ∨ 4194304 < room) : Calls Tryd.prog 6 #[.int .i64 room] w fun e w' => e = .returned (.tuple #[.pointer none, .int .i64 1]) ∧ w = w' := by
  rcases hr with hr | hr
  · go_enter Tryd.func6, Tryd.ntmps6
    go_wp2
    go_ret2
    exact ⟨rfl, rfl⟩
  · have h0 : ¬ (room < 0) := by omega
    go_enter Tryd.func6, Tryd.ntmps6
    go_wp2
    go_ret2
    exact ⟨rfl, rfl⟩

theorem ret_b {a b : Bool} (h : a = b) : Ending.returned (.bool a) = .returned (.bool b) := by rw [h]

/-- may a name have this byte? -/
def inNm (c : UInt8) : Bool := (decide (97 ≤ (c.toNat : Int)) && decide ((c.toNat : Int) ≤ 122)) || (decide (48 ≤ (c.toNat : Int)) && decide ((c.toNat : Int) ≤ 57)) || ((c.toNat : Int) == 46) || ((c.toNat : Int) == 45)
def isNm (s : ByteArray) : Bool := decide (s.size ≠ 0) && decide (s.size ≤ 64) && s.data.toList.all inNm

set_option maxHeartbeats 1000000 in
set_option maxRecDepth 100000 in
theorem inName_any (c : UInt8) (w : World) : Calls Tryd.prog 49 #[.int .u8 (c.toNat : Int)] w fun e w' => e = .returned (.bool (inNm c)) ∧ w = w' := by
  go_enter Tryd.func49, Tryd.ntmps49
  go_wp2
  all_goals
    go_ret
    refine ⟨ret_b ?_, rfl⟩
    rw [Bool.eq_iff_iff]
    simp [inNm]
    omega

set_option maxHeartbeats 1000000 in
set_option maxRecDepth 100000 in
theorem isName_yes (s : ByteArray) (w : World) (hs : isNm s = true) : Calls Tryd.prog 33 #[.string s] w fun e w' => e = .returned (.bool true) ∧ w = w' := by
  simp only [isNm, Bool.and_eq_true, decide_eq_true_eq] at hs
  obtain ⟨⟨h0, h64⟩, hall⟩ := hs
  have hne := some_str (t := s) (by omega)
  have hall' : ∀ k : Nat, (hk : k < s.size) → inNm s[k] = true := fun k hk => by
    rw [List.all_eq_true] at hall
    exact hall _ (List.getElem_mem (l := s.data.toList) (n := k) (by simpa using hk))
  have HA := Lib.hid hall'
  clear hall hall'
  obtain ⟨hn1, hn2⟩ := hne
  have h0' : 0 < s.size := by omega
  clear h0
  go_enter Tryd.func33, Tryd.ntmps33
  go_wp2
  go_loop [13] (fun i => ∃ k : Nat, k ≤ s.size ∧ i = .int .i64 k) (fun i => s.size - (intOf i).toNat)
  case atStart => exact ⟨0, Nat.zero_le _, rfl⟩
  case round =>
    obtain ⟨k, hk, rfl⟩ := hrel
    by_cases hlt : k < s.size
    · have hc := inName_any s[k]
      rw [HA.out k hlt] at hc
      go_wp2_with fail
      refine (hc _).mono ?_
      rintro e w' ⟨rfl, rfl⟩
      go_wp2
      go_round
      case rel => exact ⟨k + 1, by omega, by go_num⟩
      case measure => simp [intOf]; omega
    · go_wp2
      go_ret
      exact ⟨rfl, rfl⟩
end Go.Proofs.YtopigchjdegpeaaDoor
