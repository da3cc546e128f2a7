/-
  disk: the door of an act, where power that goes is met.
-/
import Derived.Test.YtopigchjdegpeaaDoorDiskSpend
import Derived.Tactics
import Derived.Tactics2
import Derived.Defers
import Derived.Recover
import Derived.Laws.Pointers
import Derived.LaidEql
namespace Go.Proofs.YtopigchjdegpeaaDoor
open Go.RowKit

theorem pow_same (a : Addr) (w : World) : (binOp .eql 20 (.iface 91 (.pointer (some a))) (.iface 91 (.pointer (some a)))).run Tryd.prog w = .ok (.bool true) w := by
  obtain ⟨i, hi⟩ : ∃ i, Tryd.prog.info? 91 = some i ∧ i.comparable = true := by
    have h : (Tryd.prog.info? 91).map (·.comparable) = some true := by kernel_rfl
    cases hh : Tryd.prog.info? 91 with
    | none => rw [hh] at h; cases h
    | some i => rw [hh] at h; exact ⟨i, rfl, by simpa using h⟩
  obtain ⟨j, hj⟩ : ∃ j, Tryd.prog.info? 108 = some j := by
    have h : (Tryd.prog.info? 108).isSome = true := by kernel_rfl
    exact Option.isSome_iff_exists.1 h
  exact run_eql_iface_ptr_same w a Tryd.underlying20 Tryd.underlying91 hi.1 hi.2 hj

def MS.dark (m : MS) : MS := { m with off := true }

set_option maxHeartbeats 1000000 in
set_option maxRecDepth 100000 in
theorem door_pow {B : Nat} (m : MS) (w : World) (h : Lies B m w) (a : Addr) (hp : Pow a w) (b0 b1 : Nat) (x : Int) (older : List PanicEntry)
    (h0 : w.cell? ⟨b0, 0, none⟩ = some (.pointer (some ⟨m.D, 0, none⟩))) (h1 : w.cell? ⟨b1, 0, none⟩ = some (.int .i64 x)) (z1 : w.frozen? ⟨b1, 0, none⟩ = false) (hn : ¬ b1 = m.D) :
    CallsD Tryd.prog 48 #[.pointer (some ⟨b0, 0, none⟩), .pointer (some ⟨b1, 0, none⟩)] (.panicking ({ v := powV a, recovered := false } :: older)) w fun e u' w' =>
      e = .returned (.tuple #[]) ∧ u' = .panicking ({ v := powV a, recovered := true } :: older) ∧ w' = (w.setCell ⟨m.D, 2, none⟩ (.bool true)).setCell ⟨b1, 0, none⟩ (.int .i64 10) := by
  have hc := h.cell 2
  have hz := h.free 2
  simp only [MS.head, List.getElem?_toArray, List.getElem?_cons_succ, List.getElem?_cons_zero] at hc
  unfold Pow at hp
  have hq := pow_same a
  refine callsD_of_wpS Tryd.func48 rfl fun c₀ cs hu => ?_
  apply wpS_seq
  apply wpS_region
  simp [wpOpsS, go_sem, recoverD, hu, Tryd.ntmps48, Exit.thenS, powV]
  refine wpS_of_wp ?_
  generalize hT : ({ fn := c₀.fn, tmps := c₀.tmps, todo := c₀.todo, defers := c₀.defers, mode := FrameMode.panicking ({ v := Value.iface 91 (Value.pointer (some a)), recovered := true } :: older), kind := c₀.kind, roundOf := c₀.roundOf } :: cs : List Frame) = T
  have HT := Lib.hid hT; clear hT
  have HU := Lib.hid hu; clear hu h
  rw [show (Array.replicate 12 undef : Array Value) = #[undef, undef, undef, undef, undef, undef, undef, undef, undef, undef, undef, undef] from rfl]
  simp only [List.setIfInBounds_toArray, List.set_cons_succ, List.set_cons_zero, List.append_toArray, List.cons_append, List.nil_append]
  go_wp2
  rw [← HT.out]
  exact ⟨rfl, _, rfl, _, results_none rfl _ _ _, rfl, rfl, rfl⟩

set_option maxHeartbeats 1000000 in
set_option maxRecDepth 100000 in
theorem door_idle (p0 p1 : Value) (w : World) :
    CallsD Tryd.prog 48 #[p0, p1] .returning w fun e u' w' => e = .returned (.tuple #[]) ∧ u' = .returning ∧ w' = w := by
  refine callsD_of_wpS Tryd.func48 rfl fun c₀ cs hu => ?_
  apply wpS_seq
  apply wpS_region
  simp [wpOpsS, go_sem, recoverD, hu, Tryd.ntmps48, Exit.thenS]
  refine wpS_of_wp ?_
  cases c₀
  simp only at hu
  subst hu
  rw [show (Array.replicate 12 undef : Array Value) = #[undef, undef, undef, undef, undef, undef, undef, undef, undef, undef, undef, undef] from rfl]
  simp only [List.setIfInBounds_toArray, List.set_cons_succ, List.set_cons_zero, List.append_toArray, List.cons_append, List.nil_append]
  go_wp2
  exact ⟨rfl, _, rfl, _, results_none rfl _ _ _, rfl, rfl, rfl⟩

/-- the world in which an act's function is called: the disk's pointer and the answer lie in new variables -/
def actW (p : Value) (w : World) : World := (w.alloc (.cells #[p] 24)).alloc (.cells #[.int .i64 0] 25)

set_option maxHeartbeats 1000000 in
set_option maxRecDepth 100000 in
theorem act_nil (f : Value) (w : World) :
    Calls Tryd.prog 31 #[.pointer none, f] w fun e w' => e = .returned (.int .i64 12) ∧ Below w.heap.size w w' := by
  go_enter_defers Tryd.func31, Tryd.ntmps31
  go_wp2_with fail
  refine (ready_nil _).mono ?_
  rintro e w' ⟨rfl, rfl⟩
  go_wp2
  simp [bodyPostD, Leaves, settle, results, Tryd.results31, go_sem]
  exact Joins.below_alloc2 _ _ _

set_option maxHeartbeats 1000000 in
set_option maxRecDepth 100000 in
theorem act_off {B : Nat} (m : MS) (f : Value) (w : World) (h : Lies B m w) (ho : m.off = true) :
    Calls Tryd.prog 31 #[.pointer (some ⟨m.D, 0, none⟩), f] w fun e w' => e = .returned (.int .i64 10) ∧ Below w.heap.size w w' := by
  have hr := ready_any m _ (h.below (Joins.below_alloc2 w (.cells #[.pointer (some ⟨m.D, 0, none⟩)] 24) (.cells #[.int .i64 0] 25)))
  rw [show rdy m = 10 by simp [rdy, ho]] at hr
  clear h ho
  go_enter_defers Tryd.func31, Tryd.ntmps31
  go_wp2_with fail
  refine hr.mono ?_
  rintro e w' ⟨rfl, rfl⟩
  go_wp2
  simp [bodyPostD, Leaves, settle, results, Tryd.results31, go_sem]
  exact Joins.below_alloc2 _ _ _

set_option maxHeartbeats 1000000 in
set_option maxRecDepth 100000 in
/-- an act that is done, or answers an error of its own -/
theorem act_ret {B : Nat} (m : MS) (g : FuncId) (cb : Array Value) (w : World) (hent : ∀ w, (callFunc g cb).run Tryd.prog w = .ok (.enter g cb) w) (h : Lies B m w) (ho : m.off = false) (R : Int → World → Prop)
    (hf : Calls Tryd.prog g cb (actW (.pointer (some ⟨m.D, 0, none⟩)) w) fun e w' => ∃ n : Int, e = .returned (.int .i64 n) ∧ R n w' ∧ w'.heap[w.heap.size + 1]? = some (.cells #[.int .i64 0] 25 (0, 0))) :
    Calls Tryd.prog 31 #[.pointer (some ⟨m.D, 0, none⟩), .func (.func g) #[] cb] w fun e w' => ∃ (n : Int) (w1 : World), e = .returned (.int .i64 n) ∧ R n w1 ∧ w' = w1.setCell ⟨w.heap.size + 1, 0, none⟩ (.int .i64 n) := by
  have hr := ready_any m _ (h.below (Joins.below_alloc2 w (.cells #[.pointer (some ⟨m.D, 0, none⟩)] 24) (.cells #[.int .i64 0] 25)))
  rw [show rdy m = 0 by simp [rdy, ho]] at hr
  have hmf : ∀ (fn : Fn) (first cap : Array Value) (w : World), (Instr.makeFunc fn first cap).run Tryd.prog w = .ok (.func fn first cap) w := fun _ _ _ _ => rfl
  clear h ho
  go_enter_defers Tryd.func31, Tryd.ntmps31
  go_wp2_with fail
  refine hr.mono ?_
  rintro e w' ⟨rfl, rfl⟩
  go_wp2_with fail
  refine hf.mono ?_
  rintro e w1 ⟨n, rfl, hR, hc⟩
  have hc1 : w1.cell? ⟨w.heap.size + 1, 0, none⟩ = some (.int .i64 0) := by rw [Joins.cell_of_block hc]; rfl
  have hc2 : w1.frozen? ⟨w.heap.size + 1, 0, none⟩ = false := Joins.unfrozen_of_block hc 0
  have HR := Lib.hid hR; clear hR hf hmf hent hr hc
  go_wp2
  refine leaves_cons (f := 48) (args := #[.pointer (some ⟨w.heap.size, 0, none⟩), .pointer (some ⟨w.heap.size + 1, 0, none⟩)]) (by simp) (by simp [go_sem]) ?_
  refine (door_idle _ _ _).mono ?_
  rintro e u' w'' ⟨rfl, rfl, rfl⟩
  have hread : (w1.setCell ⟨w.heap.size + 1, 0, none⟩ (.int .i64 n)).cell? ⟨w.heap.size + 1, 0, none⟩ = some (.int .i64 n) := World.cell?_setCell_same _ _ _ hc1
  simp [Leaves, settle, results, Tryd.results31, go_sem, hread]
  refine ⟨w1, HR.out, rfl⟩

set_option maxHeartbeats 1000000 in
set_option maxRecDepth 100000 in
/-- an act in whose middle power goes -/
theorem act_pow {B : Nat} (m : MS) (a : Addr) (g : FuncId) (cb : Array Value) (w : World) (hent : ∀ w, (callFunc g cb).run Tryd.prog w = .ok (.enter g cb) w) (h : Lies B m w) (ho : m.off = false) (hp : Pow a w) (hg : 0 < B)
    (hf : Calls Tryd.prog g cb (actW (.pointer (some ⟨m.D, 0, none⟩)) w) fun e w' => e = .panicked [{ v := powV a, recovered := false }] ∧ Below (w.heap.size + 2) (actW (.pointer (some ⟨m.D, 0, none⟩)) w) w') :
    Calls Tryd.prog 31 #[.pointer (some ⟨m.D, 0, none⟩), .func (.func g) #[] cb] w fun e w' => e = .returned (.int .i64 10) ∧ Lies B m.dark w' ∧ Chg m m.dark w w' := by
  have hb2 := Joins.below_alloc2 w (.cells #[.pointer (some ⟨m.D, 0, none⟩)] 24) (.cells #[.int .i64 0] 25)
  have hr := ready_any m _ (h.below hb2)
  rw [show rdy m = 0 by simp [rdy, ho]] at hr
  have hmf : ∀ (fn : Fn) (first cap : Array Value) (w : World), (Instr.makeFunc fn first cap).run Tryd.prog w = .ok (.func fn first cap) w := fun _ _ _ _ => rfl
  have H := Lib.hid (And.intro h (And.intro hp (And.intro hg hb2)))
  have hlt := (h.lt m.D (by simp [MS.blks])).2
  clear h ho hp hg hb2
  go_enter_defers Tryd.func31, Tryd.ntmps31
  go_wp2_with fail
  refine hr.mono ?_
  rintro e w' ⟨rfl, rfl⟩
  go_wp2_with fail
  refine hf.mono ?_
  rintro e w1 ⟨rfl, hb⟩
  clear hf hmf hent hr
  obtain ⟨h, hp, hg, hb2⟩ := H.out
  have hbw : Below w.heap.size w w1 := hb2.trans (hb.mono (by omega))
  have h1 := h.below hbw
  have hp1 : Pow a w1 := hp.below hbw hp.lt
  have hc0 : w1.cell? ⟨w.heap.size, 0, none⟩ = some (.pointer (some ⟨m.D, 0, none⟩)) := by
    rw [hb.cell (p := ⟨w.heap.size, 0, none⟩) (by simp)]; simp [actW, go_sem]
  have hc1 : w1.cell? ⟨w.heap.size + 1, 0, none⟩ = some (.int .i64 0) := by
    rw [hb.cell (p := ⟨w.heap.size + 1, 0, none⟩) (by simp)]; simp [actW, go_sem]
  have hz1 : w1.frozen? ⟨w.heap.size + 1, 0, none⟩ = false := by
    rw [hb.frozen (p := ⟨w.heap.size + 1, 0, none⟩) (by simp)]; simp [actW, go_sem]
  obtain ⟨p, q⟩ := h1.setHead (m' := m.dark) 2 (.bool true) (by simp [MS.head, MS.dark]) rfl rfl rfl
  have q2 := (Chg.of_below (m := m) hbw).trans q
  have hne : ∀ k ∈ m.blks, k < w.heap.size := fun k hk => (h.lt k hk).2
  have fin : Lies B m.dark ((w1.setCell ⟨m.D, 2, none⟩ (.bool true)).setCell ⟨w.heap.size + 1, 0, none⟩ (.int .i64 10)) ∧ Chg m m.dark w ((w1.setCell ⟨m.D, 2, none⟩ (.bool true)).setCell ⟨w.heap.size + 1, 0, none⟩ (.int .i64 10)) := by
    refine ⟨p.kept fun k hk => Below.heap_setCell _ _ _ _ (fun e => by have := hne k hk; simp at e; omega), q2.os, q2.tape, q2.output, by simpa using q2.size, fun k hk hn => ?_, q2.fresh⟩
    rw [Below.heap_setCell _ _ _ _ (by simp; omega)]
    exact q2.block k hk hn
  have HF := Lib.hid fin
  have HC := Lib.hid (show (w1.setCell ⟨m.D, 2, none⟩ (.bool true)).cell? ⟨w.heap.size + 1, 0, none⟩ = some (.int .i64 0) by rw [World.cell?_setCell_other _ _ _ _ (by simp)]; exact hc1)
  have hD := door_pow m w1 h1 a hp1 w.heap.size (w.heap.size + 1) 0 [] hc0 hc1 hz1 (by omega)
  clear fin p q q2 hne hc0 hc1 hz1 hp1 h1 hb hbw h hp hg hb2 H
  go_wp2
  refine leaves_cons (f := 48) (args := #[.pointer (some ⟨w.heap.size, 0, none⟩), .pointer (some ⟨w.heap.size + 1, 0, none⟩)]) (by simp) (by simp [go_sem]) ?_
  refine hD.mono ?_
  rintro e u' w'' ⟨rfl, rfl, rfl⟩
  have hread : ((w1.setCell ⟨m.D, 2, none⟩ (.bool true)).setCell ⟨w.heap.size + 1, 0, none⟩ (.int .i64 10)).cell? ⟨w.heap.size + 1, 0, none⟩ = some (.int .i64 10) :=
    World.cell?_setCell_same _ _ _ HC.out
  simp [Leaves, settle, results, Tryd.results31, go_sem, hread]
  exact HF.out
end Go.Proofs.YtopigchjdegpeaaDoor
