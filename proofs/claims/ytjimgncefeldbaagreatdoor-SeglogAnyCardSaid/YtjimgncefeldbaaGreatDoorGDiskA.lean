/-
  disk.Disk in memory: its head, its row of files, their bytes; what a call may change of it.
  disk: New, ready, spend, Off, Fuse, names.
  disk: spend and the panic; strings.Compare, HasPrefix.
  disk: the door of an act, where power that goes is met.
-/
import Derived.Test.YtjimgncefeldbaaGreatDoorBase
import Derived.Lib.SmallJoins
import Derived.OneCell
import Derived.Laws.OwnMore
import Derived.RegionTactic
import Derived.Lib.Bytealg
import Derived.Tactics
import Derived.Tactics2
import Derived.Defers
import Derived.Recover
import Derived.Laws.Pointers
import Derived.LaidEql
namespace Go.Proofs.YtjimgncefeldbaaGreatDoor
open Go.RowKit

/-- A file in memory: its name, the slice that holds its bytes, these, and how many of them are sure. -/
structure FV where
  name : ByteArray
  bv : Value
  body : List UInt8
  sure : Nat

def FV.cells (f : FV) : List Value := [.string f.name, f.bv, .int .i64 (f.sure : Int)]
def fcells (l : List FV) : List Value := l.flatMap FV.cells

/-- A disk in memory. -/
structure MS where
  D : Nat
  room : Nat
  fv : Value
  l : List FV
  off : Bool
  fused : Bool
  left : Nat

def MS.head (m : MS) : Array Value := #[.int .i64 (m.room : Int), m.fv, .bool m.off, .bool m.fused, .int .i64 (m.left : Int)]
def bblks (l : List FV) : List Nat := l.flatMap fun f => f.bv.ownBlock.toList
def MS.blks (m : MS) : List Nat := m.D :: (m.fv.ownBlock.toList ++ bblks m.l)

/-- The disk m lies in the world w, from block B on. -/
structure Lies (B : Nat) (m : MS) (w : World) : Prop where
  head : w.heap[m.D]? = some (.cells m.head 63 (0, 0))
  base : B ≤ m.D
  row : w.ownsRow B 70 3 m.fv m.l.length (fcells m.l)
  body : ∀ f ∈ m.l, OwnB B f.bv f.body w
  apart : m.blks.Nodup

theorem fcells_length (l : List FV) : (fcells l).length = l.length * 3 := by
  induction l with
  | nil => rfl
  | cons f l ih => simp only [fcells, List.flatMap_cons, List.length_append, List.length_cons] at ih ⊢; rw [ih]; simp [FV.cells]; omega

theorem fcells_append (a b : List FV) : fcells (a ++ b) = fcells a ++ fcells b := by simp [fcells]

theorem fcells_at (l : List FV) : ∀ (i j : Nat) (f : FV), l[i]? = some f → j < 3 → (fcells l)[3 * i + j]? = f.cells[j]? := by
  induction l with
  | nil => intro i j f h; simp at h
  | cons a l ih =>
    intro i j f h hj
    cases i with
    | zero =>
      simp at h; subst h
      simp only [fcells, List.flatMap_cons]
      rw [List.getElem?_append_left (by simp [FV.cells]; omega)]
      simp
    | succ i =>
      simp at h
      have := ih i j f h hj
      simp only [fcells, List.flatMap_cons] at this ⊢
      rw [List.getElem?_append_right (by simp [FV.cells]; omega)]
      rw [← this]
      congr 1
      simp [FV.cells]; omega

theorem Lies.lt {B : Nat} {m : MS} {w : World} (h : Lies B m w) : ∀ k ∈ m.blks, B ≤ k ∧ k < w.heap.size := by
  intro k hk
  simp only [MS.blks, List.mem_cons, List.mem_append, Option.mem_toList, bblks, List.mem_flatMap] at hk
  rcases hk with rfl | hk | ⟨f, hf, hk⟩
  · exact ⟨h.base, (Array.getElem?_eq_some_iff.1 h.head).1⟩
  · exact h.row.lt k hk
  · exact (h.body f hf).lt k hk

theorem Lies.cell {B : Nat} {m : MS} {w : World} (h : Lies B m w) (i : Nat) : w.cell? ⟨m.D, i, none⟩ = m.head[i]? := Joins.cell_of_block h.head i
theorem Lies.free {B : Nat} {m : MS} {w : World} (h : Lies B m w) (i : Nat) : w.frozen? ⟨m.D, i, none⟩ = false := Joins.unfrozen_of_block h.head i

/-- What a call on the disk m may have turned: the disk's own blocks; and it is m' now. -/
structure Chg (m m' : MS) (w w' : World) : Prop where
  os : w'.os = w.os
  tape : w'.tape = w.tape
  output : w'.output = w.output
  size : w.heap.size ≤ w'.heap.size
  block : ∀ k, k < w.heap.size → k ∉ m.blks → w'.heap[k]? = w.heap[k]?
  fresh : ∀ k ∈ m'.blks, k ∈ m.blks ∨ w.heap.size ≤ k

theorem Chg.refl (m : MS) (w : World) : Chg m m w w := ⟨rfl, rfl, rfl, Nat.le_refl _, fun _ _ _ => rfl, fun _ h => .inl h⟩

theorem Chg.trans {a b c : MS} {w w1 w2 : World} (h : Chg a b w w1) (g : Chg b c w1 w2) : Chg a c w w2 :=
  ⟨g.os.trans h.os, g.tape.trans h.tape, g.output.trans h.output, Nat.le_trans h.size g.size,
    fun k hk hn => (g.block k (Nat.lt_of_lt_of_le hk h.size) (fun hb => by rcases h.fresh k hb with h1 | h1; exact hn h1; omega)).trans (h.block k hk hn),
    fun k hk => by
      rcases g.fresh k hk with h1 | h1
      · exact h.fresh k h1
      · exact .inr (Nat.le_trans h.size h1)⟩

theorem Chg.below {a b : MS} {w w' : World} (h : Chg a b w w') {B : Nat} (hB : ∀ k ∈ a.blks, B ≤ k) (hs : B ≤ w.heap.size) : Below B w w' :=
  ⟨h.os, h.tape, h.output, h.size, fun k hk => h.block k (by omega) (fun hb => by have := hB k hb; omega)⟩

theorem Chg.of_below {m : MS} {w w' : World} (h : Below w.heap.size w w') : Chg m m w w' :=
  ⟨h.os, h.tape, h.output, h.size, fun k hk _ => h.block k hk, fun _ h => .inl h⟩

/-- A world in which all old blocks are as they were holds the disk. -/
theorem Lies.kept {B : Nat} {m : MS} {w w' : World} (h : Lies B m w) (hk : ∀ k ∈ m.blks, w'.heap[k]? = w.heap[k]?) : Lies B m w' := by
  have hD : m.D ∈ m.blks := by simp [MS.blks]
  have own : ∀ {v : Value} {n sz : Nat} {e : TypeId} {xs : List Value}, w.ownsRow B e sz v n xs → (∀ k, v.ownBlock = some k → k ∈ m.blks) → w'.ownsRow B e sz v n xs := by
    intro v n sz e xs ho hm
    refine ⟨ho.1, ?_⟩
    rcases ho.2 with hn | ⟨g, cap, cur, rfl, hb, hgg, rest⟩
    · exact .inl hn
    · exact .inr ⟨g, cap, cur, rfl, hb, by rw [hk g (hm g rfl)]; exact hgg, rest⟩
  refine ⟨by rw [hk _ hD]; exact h.head, h.base, own h.row ?_, fun f hf => own (h.body f hf) ?_, h.apart⟩
  · intro k hk; simp [MS.blks, hk]
  · intro k hk
    simp only [MS.blks, List.mem_cons, List.mem_append, bblks, List.mem_flatMap]
    exact .inr (.inr ⟨f, hf, by simp [hk]⟩)

theorem Lies.below {B : Nat} {m : MS} {w w' : World} (h : Lies B m w) (hb : Below w.heap.size w w') : Lies B m w' :=
  h.kept fun k hk => hb.block k (h.lt k hk).2

theorem Lies.other {B : Nat} {m a b : MS} {w w' : World} (h : Lies B m w) (hc : Chg a b w w') (hd : ∀ k ∈ m.blks, k ∉ a.blks) : Lies B m w' :=
  h.kept fun k hk => hc.block k (h.lt k hk).2 (hd k hk)

theorem Lies.le {B B' : Nat} {m : MS} {w : World} (h : Lies B m w) (hB : B' ≤ B) : Lies B' m w :=
  ⟨h.head, Nat.le_trans hB h.base, Joins.ownsRow_le h.row hB, fun f hf => Joins.ownsRow_le (h.body f hf) hB, h.apart⟩

/-- One cell of the head is stored. -/
theorem Lies.setHead {B : Nat} {m m' : MS} {w : World} (h : Lies B m w) (i : Nat) (v : Value) (hm : m'.head = m.head.setIfInBounds i v) (hD : m'.D = m.D) (hf : m'.fv = m.fv) (hl : m'.l = m.l) :
    Lies B m' (w.setCell ⟨m.D, i, none⟩ v) ∧ Chg m m' w (w.setCell ⟨m.D, i, none⟩ v) := by
  have hb : m'.blks = m.blks := by simp [MS.blks, hD, hf, hl]
  have hapart := h.apart
  have hne : ∀ k, k ∈ m.fv.ownBlock.toList ++ bblks m.l → k ≠ m.D := by
    intro k hk e
    subst e
    simp only [MS.blks, List.nodup_cons] at hapart
    exact hapart.1 hk
  have own : ∀ {v' : Value} {n sz : Nat} {e : TypeId} {xs : List Value}, w.ownsRow B e sz v' n xs → (∀ k, v'.ownBlock = some k → k ≠ m.D) → (w.setCell ⟨m.D, i, none⟩ v).ownsRow B e sz v' n xs := by
    intro v' n sz e xs ho hm
    exact ho.kept (row := some m.D) ⟨rfl, rfl, rfl, by simp, fun k _ hk => Below.heap_setCell _ _ _ _ (fun e => hk (by rw [e]))⟩ (by
      cases hv : v'.ownBlock with
      | none => exact .inl rfl
      | some k => right; intro e; simp at e; exact hm k hv e)
  refine ⟨⟨?_, ?_, ?_, ?_, ?_⟩, ⟨rfl, rfl, rfl, by simp, fun k _ hk => Below.heap_setCell _ _ _ _ (fun e => hk (by simp [MS.blks, e])), fun k hk => .inl (by rw [hb] at hk; exact hk)⟩⟩
  · rw [hD, hm]; exact Joins.block_setCell h.head (i := i) v
  · rw [hD]; exact h.base
  · rw [hf, hl]; exact own h.row fun k hk => hne k (by simp [hk])
  · rw [hl]; intro f hf'; exact own (h.body f hf') fun k hk => hne k (by
      simp only [List.mem_append, bblks, List.mem_flatMap]; exact .inr ⟨f, hf', by simp [hk]⟩)
  · rw [hb]; exact hapart
end Go.Proofs.YtjimgncefeldbaaGreatDoor

namespace Go.Proofs.YtjimgncefeldbaaGreatDoor
open Go.RowKit

set_option maxHeartbeats 1000000 in
set_option maxRecDepth 100000 in
theorem ready_nil (w : World) : Calls Tryz.prog 53 #[.pointer none] w fun e w' => e = .returned (.int .i64 12) ∧ w = w' := by
  go_enter Tryz.func53, Tryz.ntmps53
  go_wp2
  go_ret
  exact ⟨rfl, rfl⟩

def rdy (m : MS) : Int := if m.off then 10 else 0

set_option maxHeartbeats 1000000 in
set_option maxRecDepth 100000 in
theorem ready_any {B : Nat} (m : MS) (w : World) (h : Lies B m w) : Calls Tryz.prog 53 #[.pointer (some ⟨m.D, 0, none⟩)] w fun e w' => e = .returned (.int .i64 (rdy m)) ∧ w = w' := by
  have h2 := h.cell 2
  simp only [MS.head, List.getElem?_toArray, List.getElem?_cons_succ, List.getElem?_cons_zero] at h2
  obtain ⟨D, room, fv, l, off, fused, left⟩ := m
  simp only [rdy] at h2 ⊢
  cases off
  · go_enter Tryz.func53, Tryz.ntmps53
    go_wp2
    go_ret
    exact ⟨rfl, rfl⟩
  · go_enter Tryz.func53, Tryz.ntmps53
    go_wp2
    go_ret
    exact ⟨rfl, rfl⟩

def offB (m : MS) : Bool := m.off

set_option maxHeartbeats 1000000 in
set_option maxRecDepth 100000 in
theorem off_any {B : Nat} (m : MS) (w : World) (h : Lies B m w) : Calls Tryz.prog 18 #[.pointer (some ⟨m.D, 0, none⟩)] w fun e w' => e = .returned (.bool (offB m)) ∧ w = w' := by
  have hr := ready_any m w h
  cases ho : m.off
  · have h1 : rdy m = 0 := by simp [rdy, ho]
    have h2 : offB m = false := ho
    rw [h1] at hr; rw [h2]; clear h1 h2 ho
    go_enter Tryz.func18, Tryz.ntmps18
    go_wp2_with fail
    refine hr.mono ?_
    rintro e w' ⟨rfl, rfl⟩
    go_wp2
    go_ret
    exact ⟨rfl, rfl⟩
  · have h1 : rdy m = 10 := by simp [rdy, ho]
    have h2 : offB m = true := ho
    rw [h1] at hr; rw [h2]; clear h1 h2 ho
    go_enter Tryz.func18, Tryz.ntmps18
    go_wp2_with fail
    refine hr.mono ?_
    rintro e w' ⟨rfl, rfl⟩
    go_wp2
    go_ret
    exact ⟨rfl, rfl⟩

set_option maxHeartbeats 1000000 in
set_option maxRecDepth 100000 in
theorem off_nil (w : World) : Calls Tryz.prog 18 #[.pointer none] w fun e w' => e = .returned (.bool true) ∧ w = w' := by
  go_enter Tryz.func18, Tryz.ntmps18
  go_wp2_with fail
  refine (ready_nil w).mono ?_
  rintro e w' ⟨rfl, rfl⟩
  go_wp2
  go_ret
  exact ⟨rfl, rfl⟩

/-- the disk behind Fuse -/
def MS.fuse (m : MS) (n : Int) : MS := { m with fused := decide (0 ≤ n), left := n.toNat }

set_option maxHeartbeats 1000000 in
set_option maxRecDepth 100000 in
theorem fuse_any {B : Nat} (m : MS) (w : World) (n : Int) (h : Lies B m w) : Calls Tryz.prog 17 #[.pointer (some ⟨m.D, 0, none⟩), .int .i64 n] w fun e w' => e = .returned (.tuple #[]) ∧ Lies B (m.fuse n) w' ∧ Chg m (m.fuse n) w w' := by
  have hc3 := h.cell 3
  have hc4 := h.cell 4
  have hf3 := h.free 3
  have hf4 := h.free 4
  simp only [MS.head, List.getElem?_toArray, List.getElem?_cons_succ, List.getElem?_cons_zero] at hc3 hc4
  obtain ⟨p1, q1⟩ := h.setHead (m' := { m with fused := decide (0 ≤ n) }) 3 (.bool (decide (0 ≤ n))) (by simp [MS.head]) rfl rfl rfl
  obtain ⟨p2, q2⟩ := p1.setHead (m' := m.fuse n) 4 (.int .i64 (max n 0)) (by simp [MS.head, MS.fuse]) rfl rfl rfl
  have H := Lib.hid (And.intro p2 (q1.trans q2)); clear p1 q1 p2 q2 h
  go_enter Tryz.func17, Tryz.ntmps17
  go_wp2
  go_end0
  exact ⟨rfl, H.out⟩

set_option maxHeartbeats 1000000 in
set_option maxRecDepth 100000 in
theorem fuse_nil (n : Int) (w : World) : Calls Tryz.prog 17 #[.pointer none, .int .i64 n] w fun e w' => e = .returned (.tuple #[]) ∧ w = w' := by
  go_enter Tryz.func17, Tryz.ntmps17
  go_wp2
  refine bodyPost_ret (results_none rfl _ _ _) rfl ?_
  exact ⟨rfl, rfl⟩

/-- A new disk. -/
def newMS (D : Nat) (room : Nat) : MS := ⟨D, room, .slice none 0 0, [], false, false, 0⟩

set_option maxHeartbeats 1000000 in
set_option maxRecDepth 100000 in
theorem new_ok (room : Nat) (w : World) (hr : room ≤ 4194304) : Calls Tryz.prog 6 #[.int .i64 (room : Int)] w fun e w' => e = .returned (.tuple #[.pointer (some ⟨w.heap.size, 0, none⟩), .int .i64 0]) ∧ Lies w.heap.size (newMS w.heap.size room) w' ∧ Below w.heap.size w w' := by
  have h0 : ¬ ((room : Int) < 0) := by omega
  have h1 : ¬ ((4194304 : Int) < (room : Int)) := by omega
  go_enter Tryz.func6, Tryz.ntmps6
  go_wp2
  go_ret2
  refine ⟨rfl, ⟨?_, Nat.le_refl _, World.ownsRow_nil _ _ _ _, fun f hf => absurd hf (by simp [newMS]), by simp [MS.blks, newMS, Value.ownBlock, bblks]⟩, Joins.below_alloc1 _ _⟩
  exact heap_alloc_new w _

set_option maxHeartbeats 1000000 in
set_option maxRecDepth 100000 in
theorem new_no (room : Int) (w : World) (hr : room < 0 ∨ 4194304 < room) : Calls Tryz.prog 6 #[.int .i64 room] w fun e w' => e = .returned (.tuple #[.pointer none, .int .i64 1]) ∧ w = w' := by
  rcases hr with hr | hr
  · go_enter Tryz.func6, Tryz.ntmps6
    go_wp2
    go_ret2
    exact ⟨rfl, rfl⟩
  · have h0 : ¬ (room < 0) := by omega
    go_enter Tryz.func6, Tryz.ntmps6
    go_wp2
    go_ret2
    exact ⟨rfl, rfl⟩

theorem ret_b {a b : Bool} (h : a = b) : Ending.returned (.bool a) = .returned (.bool b) := by rw [h]

/-- may a name have this byte? -/
def inNm (c : UInt8) : Bool := (decide (97 ≤ (c.toNat : Int)) && decide ((c.toNat : Int) ≤ 122)) || (decide (48 ≤ (c.toNat : Int)) && decide ((c.toNat : Int) ≤ 57)) || ((c.toNat : Int) == 46) || ((c.toNat : Int) == 45)
def isNm (s : ByteArray) : Bool := decide (s.size ≠ 0) && decide (s.size ≤ 64) && s.data.toList.all inNm

set_option maxHeartbeats 1000000 in
set_option maxRecDepth 100000 in
theorem inName_any (c : UInt8) (w : World) : Calls Tryz.prog 73 #[.int .u8 (c.toNat : Int)] w fun e w' => e = .returned (.bool (inNm c)) ∧ w = w' := by
  go_enter Tryz.func73, Tryz.ntmps73
  go_wp2
  all_goals
    go_ret
    refine ⟨ret_b ?_, rfl⟩
    rw [Bool.eq_iff_iff]
    simp [inNm]
    omega

set_option maxHeartbeats 1000000 in
set_option maxRecDepth 100000 in
theorem isName_yes (s : ByteArray) (w : World) (hs : isNm s = true) : Calls Tryz.prog 35 #[.string s] w fun e w' => e = .returned (.bool true) ∧ w = w' := by
  simp only [isNm, Bool.and_eq_true, decide_eq_true_eq] at hs
  obtain ⟨⟨h0, h64⟩, hall⟩ := hs
  have hne := some_str (t := s) (by omega)
  have hall' : ∀ k : Nat, (hk : k < s.size) → inNm s[k] = true := fun k hk => by
    rw [List.all_eq_true] at hall
    exact hall _ (List.getElem_mem (l := s.data.toList) (n := k) (by simpa using hk))
  have HA := Lib.hid hall'
  clear hall hall'
  obtain ⟨hn1, hn2⟩ := hne
  have h0' : 0 < s.size := by omega
  clear h0
  go_enter Tryz.func35, Tryz.ntmps35
  go_wp2
  go_loop [13] (fun i => ∃ k : Nat, k ≤ s.size ∧ i = .int .i64 k) (fun i => s.size - (intOf i).toNat)
  case atStart => exact ⟨0, Nat.zero_le _, rfl⟩
  case round =>
    obtain ⟨k, hk, rfl⟩ := hrel
    by_cases hlt : k < s.size
    · have hc := inName_any s[k]
      rw [HA.out k hlt] at hc
      go_wp2_with fail
      refine (hc _).mono ?_
      rintro e w' ⟨rfl, rfl⟩
      go_wp2
      go_round
      case rel => exact ⟨k + 1, by omega, by go_num⟩
      case measure => simp [intOf]; omega
    · go_wp2
      go_ret
      exact ⟨rfl, rfl⟩
end Go.Proofs.YtjimgncefeldbaaGreatDoor

namespace Go.Proofs.YtjimgncefeldbaaGreatDoor
open Go.RowKit

/-- The variable of the panic holds a pointer. -/
def Pow (a : Addr) (w : World) : Prop := w.cell? ⟨0, 0, none⟩ = some (.iface 194 (.pointer (some a)))
theorem Pow.lt {a : Addr} {w : World} (h : Pow a w) : 0 < w.heap.size := World.block_lt_of_cell? w _ h
theorem Pow.below {a : Addr} {B : Nat} {w w' : World} (h : Pow a w) (hb : Below B w w') (hB : 0 < B) : Pow a w' := by
  unfold Pow; rw [hb.cell (p := ⟨0, 0, none⟩) hB]; exact h

def powV (a : Addr) : Value := .iface 194 (.pointer (some a))

set_option maxHeartbeats 1000000 in
set_option maxRecDepth 100000 in
theorem spend_free {B : Nat} (m : MS) (w : World) (h : Lies B m w) (hf : m.fused = false) : Calls Tryz.prog 38 #[.pointer (some ⟨m.D, 0, none⟩)] w fun e w' => e = .returned (.tuple #[]) ∧ w = w' := by
  have hc3 := h.cell 3
  simp only [MS.head, List.getElem?_toArray, List.getElem?_cons_succ, List.getElem?_cons_zero, hf] at hc3
  clear hf
  go_enter Tryz.func38, Tryz.ntmps38
  go_wp2
  refine bodyPost_ret (results_none rfl _ _ _) rfl ?_
  exact ⟨rfl, rfl⟩

def MS.spent (m : MS) : MS := { m with left := m.left - 1 }

set_option maxHeartbeats 1000000 in
set_option maxRecDepth 100000 in
theorem spend_one {B : Nat} (m : MS) (w : World) (h : Lies B m w) (hf : m.fused = true) (hl : 1 ≤ m.left) (hm : m.left < 9223372036854775808) : Calls Tryz.prog 38 #[.pointer (some ⟨m.D, 0, none⟩)] w fun e w' => e = .returned (.tuple #[]) ∧ Lies B m.spent w' ∧ Chg m m.spent w w' := by
  have hc3 := h.cell 3
  have hc4 := h.cell 4
  have hf4 := h.free 4
  simp only [MS.head, List.getElem?_toArray, List.getElem?_cons_succ, List.getElem?_cons_zero, hf] at hc3 hc4
  have H := Lib.hid (h.setHead (m' := m.spent) 4 (.int .i64 ((m.left : Int) - 1)) (by simp [MS.head, MS.spent]; omega) rfl rfl rfl); clear h hf
  generalize m.left = k at hc4 hl hm H ⊢
  have h0 : ((k : Int) == 0) = false := by simp; omega
  go_enter Tryz.func38, Tryz.ntmps38
  go_wp2
  go_end0
  exact ⟨rfl, H.out⟩

set_option maxHeartbeats 1000000 in
set_option maxRecDepth 100000 in
theorem spend_out {B : Nat} (m : MS) (w : World) (h : Lies B m w) (a : Addr) (hp : Pow a w) (hf : m.fused = true) (hl : m.left = 0) : Calls Tryz.prog 38 #[.pointer (some ⟨m.D, 0, none⟩)] w fun e w' => e = .panicked [{ v := powV a, recovered := false }] ∧ w = w' := by
  have hc3 := h.cell 3
  have hc4 := h.cell 4
  simp only [MS.head, List.getElem?_toArray, List.getElem?_cons_succ, List.getElem?_cons_zero, hf, hl] at hc3 hc4
  unfold Pow at hp
  clear hf hl
  go_enter Tryz.func38, Tryz.ntmps38
  go_wp2
  exact ⟨rfl, rfl, rfl⟩

set_option maxHeartbeats 1000000 in
set_option maxRecDepth 100000 in
theorem cmpString_any (a b : ByteArray) (w : World) : Calls Tryz.prog 110 #[.string a, .string b] w fun e w' => e = .returned (.int .i64 (Lib.compareBytes a.data.toList b.data.toList)) ∧ w = w' := by
  go_enter Tryz.func110, Tryz.ntmps110
  go_wp2
  rw [run_callFunc_extern Tryz.func132 (by kernel_rfl) (by kernel_rfl) (by kernel_rfl) (e := Extern.BytealgCompare.compare) (by kernel_rfl), Lib.run_compareString]
  simp only [Result.andThen]
  rw [Oper.upon_value]
  go_wp2
  go_ret
  exact ⟨rfl, rfl⟩

set_option maxHeartbeats 1000000 in
set_option maxRecDepth 100000 in
theorem compare_any (a b : ByteArray) (w : World) : Calls Tryz.prog 76 #[.string a, .string b] w fun e w' => e = .returned (.int .i64 (Lib.compareBytes a.data.toList b.data.toList)) ∧ w = w' := by
  go_enter Tryz.func76, Tryz.ntmps76
  go_wp2_with fail
  refine (cmpString_any _ _ _).mono ?_
  rintro e w' ⟨rfl, rfl⟩
  go_wp2
  go_ret
  exact ⟨rfl, rfl⟩

set_option maxHeartbeats 1000000 in
set_option maxRecDepth 100000 in
/-- the function that find hands to the search: it looks at a file's name -/
theorem closure_any (n b : ByteArray) (v : Value) (k : Int) (w : World) : Calls Tryz.prog 75 #[.agg #[.string n, v, .int .i64 k], .string b] w fun e w' => e = .returned (.int .i64 (Lib.compareBytes n.data.toList b.data.toList)) ∧ w.alloc (.cells #[.string n, v, .int .i64 k] 70) = w' := by
  go_enter Tryz.func75, Tryz.ntmps75
  go_wp2_with fail
  refine (compare_any _ _ _).mono ?_
  rintro e w' ⟨rfl, rfl⟩
  go_wp2
  go_ret
  exact ⟨rfl, rfl⟩
end Go.Proofs.YtjimgncefeldbaaGreatDoor

namespace Go.Proofs.YtjimgncefeldbaaGreatDoor
open Go.RowKit

theorem pow_same (a : Addr) (w : World) : (binOp .eql 20 (.iface 194 (.pointer (some a))) (.iface 194 (.pointer (some a)))).run Tryz.prog w = .ok (.bool true) w := by
  obtain ⟨i, hi⟩ : ∃ i, Tryz.prog.info? 194 = some i ∧ i.comparable = true := by
    have h : (Tryz.prog.info? 194).map (·.comparable) = some true := by kernel_rfl
    cases hh : Tryz.prog.info? 194 with
    | none => rw [hh] at h; cases h
    | some i => rw [hh] at h; exact ⟨i, rfl, by simpa using h⟩
  obtain ⟨j, hj⟩ : ∃ j, Tryz.prog.info? 196 = some j := by
    have h : (Tryz.prog.info? 196).isSome = true := by kernel_rfl
    exact Option.isSome_iff_exists.1 h
  exact run_eql_iface_ptr_same w a Tryz.underlying20 Tryz.underlying194 hi.1 hi.2 hj

def MS.dark (m : MS) : MS := { m with off := true }

set_option maxHeartbeats 1000000 in
set_option maxRecDepth 100000 in
theorem door_pow {B : Nat} (m : MS) (w : World) (h : Lies B m w) (a : Addr) (hp : Pow a w) (b0 b1 : Nat) (x : Int) (older : List PanicEntry)
    (h0 : w.cell? ⟨b0, 0, none⟩ = some (.pointer (some ⟨m.D, 0, none⟩))) (h1 : w.cell? ⟨b1, 0, none⟩ = some (.int .i64 x)) (z1 : w.frozen? ⟨b1, 0, none⟩ = false) (_hn : ¬ b1 = m.D) :
    CallsD Tryz.prog 72 #[.pointer (some ⟨b0, 0, none⟩), .pointer (some ⟨b1, 0, none⟩)] (.panicking ({ v := powV a, recovered := false } :: older)) w fun e u' w' =>
      e = .returned (.tuple #[]) ∧ u' = .panicking ({ v := powV a, recovered := true } :: older) ∧ w' = (w.setCell ⟨m.D, 2, none⟩ (.bool true)).setCell ⟨b1, 0, none⟩ (.int .i64 10) := by
  have hc := h.cell 2
  have hz := h.free 2
  simp only [MS.head, List.getElem?_toArray, List.getElem?_cons_succ, List.getElem?_cons_zero] at hc
  unfold Pow at hp
  have hq := pow_same a
  refine callsD_of_wpS Tryz.func72 rfl fun c₀ cs hu => ?_
  apply wpS_seq
  apply wpS_region
  simp [wpOpsS, go_sem, recoverD, hu, Tryz.ntmps72, Exit.thenS, powV]
  refine wpS_of_wp ?_
  generalize hT : ({ fn := c₀.fn, tmps := c₀.tmps, todo := c₀.todo, defers := c₀.defers, mode := FrameMode.panicking ({ v := Value.iface 194 (Value.pointer (some a)), recovered := true } :: older), kind := c₀.kind, roundOf := c₀.roundOf } :: cs : List Frame) = T
  have HT := Lib.hid hT; clear hT
  have HU := Lib.hid hu; clear hu h
  rw [show (Array.replicate 12 undef : Array Value) = #[undef, undef, undef, undef, undef, undef, undef, undef, undef, undef, undef, undef] from rfl]
  simp only [List.setIfInBounds_toArray, List.set_cons_succ, List.set_cons_zero, List.append_toArray, List.cons_append, List.nil_append]
  go_wp2
  rw [← HT.out]
  exact ⟨rfl, _, rfl, _, results_none rfl _ _ _, rfl, rfl, rfl⟩

set_option maxHeartbeats 1000000 in
set_option maxRecDepth 100000 in
theorem door_idle (p0 p1 : Value) (w : World) :
    CallsD Tryz.prog 72 #[p0, p1] .returning w fun e u' w' => e = .returned (.tuple #[]) ∧ u' = .returning ∧ w' = w := by
  refine callsD_of_wpS Tryz.func72 rfl fun c₀ cs hu => ?_
  apply wpS_seq
  apply wpS_region
  simp [wpOpsS, go_sem, recoverD, hu, Tryz.ntmps72, Exit.thenS]
  refine wpS_of_wp ?_
  cases c₀
  simp only at hu
  subst hu
  rw [show (Array.replicate 12 undef : Array Value) = #[undef, undef, undef, undef, undef, undef, undef, undef, undef, undef, undef, undef] from rfl]
  simp only [List.setIfInBounds_toArray, List.set_cons_succ, List.set_cons_zero, List.append_toArray, List.cons_append, List.nil_append]
  go_wp2
  exact ⟨rfl, _, rfl, _, results_none rfl _ _ _, rfl, rfl, rfl⟩

/-- the world in which an act's function is called: the disk's pointer and the answer lie in new variables -/
def actW (p : Value) (w : World) : World := (w.alloc (.cells #[p] 24)).alloc (.cells #[.int .i64 0] 25)

set_option maxHeartbeats 1000000 in
set_option maxRecDepth 100000 in
theorem act_nil (f : Value) (w : World) :
    Calls Tryz.prog 33 #[.pointer none, f] w fun e w' => e = .returned (.int .i64 12) ∧ Below w.heap.size w w' := by
  go_enter_defers Tryz.func33, Tryz.ntmps33
  go_wp2_with fail
  refine (ready_nil _).mono ?_
  rintro e w' ⟨rfl, rfl⟩
  go_wp2
  simp [bodyPostD, Leaves, results, Tryz.results33, go_sem]
  exact Joins.below_alloc2 _ _ _

set_option maxHeartbeats 1000000 in
set_option maxRecDepth 100000 in
theorem act_off {B : Nat} (m : MS) (f : Value) (w : World) (h : Lies B m w) (ho : m.off = true) :
    Calls Tryz.prog 33 #[.pointer (some ⟨m.D, 0, none⟩), f] w fun e w' => e = .returned (.int .i64 10) ∧ Below w.heap.size w w' := by
  have hr := ready_any m _ (h.below (Joins.below_alloc2 w (.cells #[.pointer (some ⟨m.D, 0, none⟩)] 24) (.cells #[.int .i64 0] 25)))
  rw [show rdy m = 10 by simp [rdy, ho]] at hr
  clear h ho
  go_enter_defers Tryz.func33, Tryz.ntmps33
  go_wp2_with fail
  refine hr.mono ?_
  rintro e w' ⟨rfl, rfl⟩
  go_wp2
  simp [bodyPostD, Leaves, results, Tryz.results33, go_sem]
  exact Joins.below_alloc2 _ _ _

set_option maxHeartbeats 1000000 in
set_option maxRecDepth 100000 in
/-- an act that is done, or answers an error of its own -/
theorem act_ret {B : Nat} (m : MS) (g : FuncId) (cb : Array Value) (w : World) (hent : ∀ w, (callFunc g cb).run Tryz.prog w = .ok (.enter g cb) w) (h : Lies B m w) (ho : m.off = false) (R : Int → World → Prop)
    (hf : Calls Tryz.prog g cb (actW (.pointer (some ⟨m.D, 0, none⟩)) w) fun e w' => ∃ n : Int, e = .returned (.int .i64 n) ∧ R n w' ∧ w'.heap[w.heap.size + 1]? = some (.cells #[.int .i64 0] 25 (0, 0))) :
    Calls Tryz.prog 33 #[.pointer (some ⟨m.D, 0, none⟩), .func (.func g) #[] cb] w fun e w' => ∃ (n : Int) (w1 : World), e = .returned (.int .i64 n) ∧ R n w1 ∧ w' = w1.setCell ⟨w.heap.size + 1, 0, none⟩ (.int .i64 n) := by
  have hr := ready_any m _ (h.below (Joins.below_alloc2 w (.cells #[.pointer (some ⟨m.D, 0, none⟩)] 24) (.cells #[.int .i64 0] 25)))
  rw [show rdy m = 0 by simp [rdy, ho]] at hr
  have hmf : ∀ (fn : Fn) (first cap : Array Value) (w : World), (Instr.makeFunc fn first cap).run Tryz.prog w = .ok (.func fn first cap) w := fun _ _ _ _ => rfl
  clear h ho
  go_enter_defers Tryz.func33, Tryz.ntmps33
  go_wp2_with fail
  refine hr.mono ?_
  rintro e w' ⟨rfl, rfl⟩
  go_wp2_with fail
  refine hf.mono ?_
  rintro e w1 ⟨n, rfl, hR, hc⟩
  have hc1 : w1.cell? ⟨w.heap.size + 1, 0, none⟩ = some (.int .i64 0) := by rw [Joins.cell_of_block hc]; rfl
  have hc2 : w1.frozen? ⟨w.heap.size + 1, 0, none⟩ = false := Joins.unfrozen_of_block hc 0
  have HR := Lib.hid hR; clear hR hf hmf hent hr hc
  go_wp2
  refine leaves_cons (f := 72) (args := #[.pointer (some ⟨w.heap.size, 0, none⟩), .pointer (some ⟨w.heap.size + 1, 0, none⟩)]) (by simp) (by simp [go_sem]) ?_
  refine (door_idle _ _ _).mono ?_
  rintro e u' w'' ⟨rfl, rfl, rfl⟩
  have hread : (w1.setCell ⟨w.heap.size + 1, 0, none⟩ (.int .i64 n)).cell? ⟨w.heap.size + 1, 0, none⟩ = some (.int .i64 n) := World.cell?_setCell_same _ _ _ hc1
  simp [Leaves, settle, results, Tryz.results33, go_sem, hread]
  refine ⟨w1, HR.out, rfl⟩

set_option maxHeartbeats 1000000 in
set_option maxRecDepth 100000 in
/-- an act in whose middle power goes -/
theorem act_pow {B : Nat} (m : MS) (a : Addr) (g : FuncId) (cb : Array Value) (w : World) (hent : ∀ w, (callFunc g cb).run Tryz.prog w = .ok (.enter g cb) w) (h : Lies B m w) (ho : m.off = false) (hp : Pow a w) (hg : 0 < B)
    (hf : Calls Tryz.prog g cb (actW (.pointer (some ⟨m.D, 0, none⟩)) w) fun e w' => e = .panicked [{ v := powV a, recovered := false }] ∧ Below (w.heap.size + 2) (actW (.pointer (some ⟨m.D, 0, none⟩)) w) w') :
    Calls Tryz.prog 33 #[.pointer (some ⟨m.D, 0, none⟩), .func (.func g) #[] cb] w fun e w' => e = .returned (.int .i64 10) ∧ Lies B m.dark w' ∧ Chg m m.dark w w' := by
  have hb2 := Joins.below_alloc2 w (.cells #[.pointer (some ⟨m.D, 0, none⟩)] 24) (.cells #[.int .i64 0] 25)
  have hr := ready_any m _ (h.below hb2)
  rw [show rdy m = 0 by simp [rdy, ho]] at hr
  have hmf : ∀ (fn : Fn) (first cap : Array Value) (w : World), (Instr.makeFunc fn first cap).run Tryz.prog w = .ok (.func fn first cap) w := fun _ _ _ _ => rfl
  have H := Lib.hid (And.intro h (And.intro hp (And.intro hg hb2)))
  have hlt := (h.lt m.D (by simp [MS.blks])).2
  clear h ho hp hg hb2
  go_enter_defers Tryz.func33, Tryz.ntmps33
  go_wp2_with fail
  refine hr.mono ?_
  rintro e w' ⟨rfl, rfl⟩
  go_wp2_with fail
  refine hf.mono ?_
  rintro e w1 ⟨rfl, hb⟩
  clear hf hmf hent hr
  obtain ⟨h, hp, hg, hb2⟩ := H.out
  have hbw : Below w.heap.size w w1 := hb2.trans (hb.mono (by omega))
  have h1 := h.below hbw
  have hp1 : Pow a w1 := hp.below hbw hp.lt
  have hc0 : w1.cell? ⟨w.heap.size, 0, none⟩ = some (.pointer (some ⟨m.D, 0, none⟩)) := by
    rw [hb.cell (p := ⟨w.heap.size, 0, none⟩) (by simp)]; simp [actW, go_sem]
  have hc1 : w1.cell? ⟨w.heap.size + 1, 0, none⟩ = some (.int .i64 0) := by
    rw [hb.cell (p := ⟨w.heap.size + 1, 0, none⟩) (by simp)]; simp [actW, go_sem]
  have hz1 : w1.frozen? ⟨w.heap.size + 1, 0, none⟩ = false := by
    rw [hb.frozen (p := ⟨w.heap.size + 1, 0, none⟩) (by simp)]; simp [actW, go_sem]
  obtain ⟨p, q⟩ := h1.setHead (m' := m.dark) 2 (.bool true) (by simp [MS.head, MS.dark]) rfl rfl rfl
  have q2 := (Chg.of_below (m := m) hbw).trans q
  have hne : ∀ k ∈ m.blks, k < w.heap.size := fun k hk => (h.lt k hk).2
  have fin : Lies B m.dark ((w1.setCell ⟨m.D, 2, none⟩ (.bool true)).setCell ⟨w.heap.size + 1, 0, none⟩ (.int .i64 10)) ∧ Chg m m.dark w ((w1.setCell ⟨m.D, 2, none⟩ (.bool true)).setCell ⟨w.heap.size + 1, 0, none⟩ (.int .i64 10)) := by
    refine ⟨p.kept fun k hk => Below.heap_setCell _ _ _ _ (fun e => by have := hne k hk; simp at e; omega), q2.os, q2.tape, q2.output, by simpa using q2.size, fun k hk hn => ?_, q2.fresh⟩
    rw [Below.heap_setCell _ _ _ _ (by simp; omega)]
    exact q2.block k hk hn
  have HF := Lib.hid fin
  have HC := Lib.hid (show (w1.setCell ⟨m.D, 2, none⟩ (.bool true)).cell? ⟨w.heap.size + 1, 0, none⟩ = some (.int .i64 0) by rw [World.cell?_setCell_other _ _ _ _ (by simp)]; exact hc1)
  have hD := door_pow m w1 h1 a hp1 w.heap.size (w.heap.size + 1) 0 [] hc0 hc1 hz1 (by omega)
  clear fin p q q2 hne hc0 hc1 hz1 hp1 h1 hb hbw h hp hg hb2 H
  go_wp2
  refine leaves_cons (f := 72) (args := #[.pointer (some ⟨w.heap.size, 0, none⟩), .pointer (some ⟨w.heap.size + 1, 0, none⟩)]) (by simp) (by simp [go_sem]) ?_
  refine hD.mono ?_
  rintro e u' w'' ⟨rfl, rfl, rfl⟩
  have hread : ((w1.setCell ⟨m.D, 2, none⟩ (.bool true)).setCell ⟨w.heap.size + 1, 0, none⟩ (.int .i64 10)).cell? ⟨w.heap.size + 1, 0, none⟩ = some (.int .i64 10) :=
    World.cell?_setCell_same _ _ _ HC.out
  simp [Leaves, settle, results, Tryz.results33, go_sem, hread]
  exact HF.out
end Go.Proofs.YtjimgncefeldbaaGreatDoor
