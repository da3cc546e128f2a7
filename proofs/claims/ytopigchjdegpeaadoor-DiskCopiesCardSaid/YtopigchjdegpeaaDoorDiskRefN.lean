/-
  almonryref06: named, fuse.
-/
import Derived.Test.YtopigchjdegpeaaDoorDiskRef
import Derived.Laws.ResultCell
namespace Go.Proofs.YtopigchjdegpeaaDoor
open Go.RowKit

/-- may a name have this byte? as the document writes it -/
def rNm (c : UInt8) : Bool := (decide (97 ≤ (c.toNat : Int)) && decide ((c.toNat : Int) ≤ 122)) || (decide (48 ≤ (c.toNat : Int)) && decide ((c.toNat : Int) ≤ 57)) || ((c.toNat : Int) == 46) || ((c.toNat : Int) == 45)
theorem rNm_eq (c : UInt8) : rNm c = inNm c := rfl

set_option maxHeartbeats 4000000 in
set_option maxRecDepth 100000 in
theorem named_any (s : ByteArray) (w : World) (hsz : s.size ≤ 9223372036854775807) : Calls Tryd.prog 55 #[.string s] w fun e w' => e = .returned (.bool (isNm s)) ∧ w = w' := by
  go_enter Tryd.func55, Tryd.ntmps55
  go_wp2
  go_loop [3] (fun i => ∃ k : Nat, k ≤ s.size ∧ i = .int .i64 k ∧ Hid (∀ j : Nat, (hj : j < s.size) → j < k → inNm s[j] = true)) (fun i => s.size - (intOf i).toNat)
  case atStart => exact ⟨0, Nat.zero_le _, rfl, fun j hj h => absurd h (by omega)⟩
  case round =>
    obtain ⟨k, hk, rfl, hall⟩ := hrel
    by_cases hlt : k < s.size
    · have hext : Hid (inNm s[k] = true → ∀ j : Nat, (hj : j < s.size) → j < k + 1 → inNm s[j] = true) := fun hb j hj hjk => by
        by_cases he : j = k
        · subst he; exact hb
        · exact hall.out j hj (by omega)
      have hno : Hid (inNm s[k] = false → isNm s = false) := fun hb => by
        cases h : isNm s
        · rfl
        · simp only [isNm, Bool.and_eq_true, decide_eq_true_eq, List.all_eq_true] at h
          have := h.2 s[k] (List.getElem_mem (l := s.data.toList) (n := k) (by simpa using hlt))
          rw [hb] at this; cases this
      have hin : Hid (inNm s[k] = ((decide (97 ≤ (s[k].toNat : Int)) && decide ((s[k].toNat : Int) ≤ 122)) || (decide (48 ≤ (s[k].toNat : Int)) && decide ((s[k].toNat : Int) ≤ 57)) || ((s[k].toNat : Int) == 46) || ((s[k].toNat : Int) == 45))) := rfl
      generalize inNm s[k] = ok at *
      go_wp2
      all_goals (try simp only [Bool.not_eq_true', Bool.not_eq_false', decide_eq_true_eq, decide_eq_false_iff_not, beq_iff_eq, beq_eq_false_iff_ne, ne_eq] at *)
      all_goals first
        | (refine ⟨⟨k + 1, by omega, by go_num, hext.out ?_⟩, ?_⟩
           · rw [hin.out]; simp only [Bool.or_eq_true, Bool.and_eq_true, decide_eq_true_eq, beq_iff_eq]; omega
           · simp [intOf]; omega)
        | (go_ret
           refine ⟨ret_b ?_, rfl⟩
           rw [hno.out (by rw [hin.out]; simp only [Bool.or_eq_false_iff, Bool.and_eq_false_iff, decide_eq_false_iff_not, beq_eq_false_iff_ne, ne_eq]; omega)])
    · obtain rfl : k = s.size := by omega
      have hall' : s.data.toList.all inNm = true := by
        rw [List.all_eq_true]
        intro x hx
        obtain ⟨j, hj, rfl⟩ := List.mem_iff_getElem.1 hx
        have hj' : j < s.size := by simpa using hj
        exact hall.out j hj' hj'
      have hv : Hid (isNm s = (decide (s.size ≠ 0) && decide (s.size ≤ 64))) := by unfold isNm; rw [hall', Bool.and_true]; exact rfl
      clear hall hall'
      go_wp2
      all_goals
        go_ret
        refine ⟨ret_b ?_, rfl⟩
        rw [hv.out, Bool.eq_iff_iff]
        simp only [Bool.and_eq_true, decide_eq_true_eq, Bool.false_eq_true]
        first | omega | (refine ⟨fun h => h.elim, fun h => ?_⟩; omega)

theorem results_D {P : Program} {fn : Func} {p u : Tmp} {ty : TypeId} (h : fn.results = #[.cell p ty, .tmp u]) (tmps : Array Value) (w : World) (g : Nat) (t : TypeId) (x0 x1 x2 x3 : Value) (fr : Nat × Nat) (d : TypeDesc)
    (hp : tmps.getD p undef = .pointer (some ⟨g, 0, none⟩)) (hg : w.heap[g]? = some (.cells #[x0, x1, x2, x3] t fr))
    (hu : P.underlying ty = some d) (hd : (match d with | .struct _ | .array _ _ => true | _ => false) = true) (hi : (P.info? ty).map (·.size) = some 4) :
    (results fn tmps).run P w = .ok (.tuple #[.agg #[x0, x1, x2, x3], tmps.getD u undef]) w := by
  have hp' : tmps[p]?.getD undef = .pointer (some ⟨g, 0, none⟩) := by simpa using hp
  rw [results_cell_tmp h]
  simp [hp', asAddr, run_loadVar_row w g t ty #[x0, x1, x2, x3] fr d hg hu hd hi, Result.andThen]

theorem refDInfo : (Tryd.prog.info? 30).map (·.size) = some 4 := by kernel_rfl

theorem below2 (w : World) (A B : Obj) : Below w.heap.size w ((w.alloc A).alloc B) := (Joins.below_alloc1 _ _).alloc (Joins.below_alloc1 _ _).size _

/-- what an act of the document's fuse leaves -/
def DS.fz (s : DS) : DS := if s.out then s.dark else s.pay

set_option maxHeartbeats 4000000 in
set_option maxRecDepth 100000 in
theorem refFuse_any (s : DS) (p : Option Addr) (c : Nat) (w : World) (hl : s.left < 9223372036854775808) :
    Calls Tryd.prog 56 #[rv s p c] w fun e w' => e = .returned (.tuple #[rv s.fz p c, .int .i64 (if s.out then 10 else 0)]) ∧ Below w.heap.size w w' := by
  obtain ⟨room, l, off, fused, left⟩ := s
  simp only at hl
  cases fused
  · have e1 : DS.fz ⟨room, l, off, false, left⟩ = ⟨room, l, off, false, left⟩ := by simp [DS.fz, DS.out, DS.pay]
    have e2 : DS.out ⟨room, l, off, false, left⟩ = false := rfl
    rw [e1, e2]
    unfold rv
    simp only [Go.Proofs.YtopigchjdegpeaaDoor.fz, Bool.false_eq_true, if_false]
    go_enter Tryd.func56, Tryd.ntmps56
    go_wp2
    (try simp only [Exit.inBlock, Exit.then]); refine bodyPost_ret (results_D rfl _ _ (w.heap.size + 1) _ _ _ _ _ (0, 0) _ rfl (heap_alloc2_new _ _ _) rfl rfl refDInfo) rfl ?_
    exact ⟨rfl, below2 _ _ _⟩
  · by_cases h0 : left = 0
    · subst h0
      have e1 : DS.fz ⟨room, l, off, true, 0⟩ = ⟨room, l, true, true, 0⟩ := by simp [DS.fz, DS.out, DS.dark]
      have e2 : DS.out ⟨room, l, off, true, 0⟩ = true := rfl
      rw [e1, e2]
      unfold rv
      simp only [Go.Proofs.YtopigchjdegpeaaDoor.fz, if_true]
      go_enter Tryd.func56, Tryd.ntmps56
      go_wp2
      (try simp only [Exit.inBlock, Exit.then]); refine bodyPost_ret (results_D rfl _ _ (w.heap.size + 1) _ _ _ _ _ (0, 0) _ rfl (heap_alloc2_new _ _ _) rfl rfl refDInfo) rfl ?_
      exact ⟨rfl, below2 _ _ _⟩
    · have e1 : DS.fz ⟨room, l, off, true, left⟩ = ⟨room, l, off, true, left - 1⟩ := by simp [DS.fz, DS.out, DS.pay, h0]
      have e2 : DS.out ⟨room, l, off, true, left⟩ = false := by simp [DS.out, h0]
      have e3 : ((left - 1 : Nat) : Int) = (left : Int) - 1 := by omega
      rw [e1, e2]
      unfold rv
      simp only [Go.Proofs.YtopigchjdegpeaaDoor.fz, if_true, e3]
      have hl0 : (0 : Int) < (left : Int) := by omega
      have hl1 : (left : Int) < 9223372036854775808 := by omega
      have hne : ¬ (left : Int) = 0 := by omega
      clear e1 e2 e3 h0 hl
      generalize (left : Int) = L at *
      clear left
      go_enter Tryd.func56, Tryd.ntmps56
      go_wp2
      (try simp only [Exit.inBlock, Exit.then]); refine bodyPost_ret (results_D rfl _ _ (w.heap.size + 1) _ _ _ _ _ (0, 0) _ rfl (heap_alloc2_new _ _ _) rfl rfl refDInfo) rfl ?_
      exact ⟨rfl, below2 _ _ _⟩
end Go.Proofs.YtopigchjdegpeaaDoor
