/-
  almonrylaw12: the walk of VectorReckons.
-/
import Derived.Test.YtoiafhbembhppaaVecAwake
namespace Go.Proofs.Ytoiafhbembhppaa
open Go.RowKit Go.Sort

theorem dot_box3 (w : World) (a b : Vc) (d : Dt) : VRow (boxD (boxV (boxV w a) b) d) w.heap.size a ∧ VRow (boxD (boxV (boxV w a) b) d) (w.heap.size + 1) b ∧
    (boxD (boxV (boxV w a) b) d).cell? ⟨w.heap.size + 1 + 1, 0, none⟩ = some (.int .i64 d.1) ∧ (boxD (boxV (boxV w a) b) d).cell? ⟨w.heap.size + 1 + 1, 1, none⟩ = some (.int .i64 d.2) ∧
    Below w.heap.size w (boxD (boxV (boxV w a) b) d) := by
  have e1 := boxV_size w a
  have e2 := boxV_size (boxV w a) b
  have h0 := VRow.new w a
  have h1 := VRow.new (boxV w a) b
  have hn : (boxD (boxV (boxV w a) b) d).heap[(boxV (boxV w a) b).heap.size]? = some (.cells #[.int .i64 d.1, .int .i64 d.2] 31) := heap_alloc_new _ _
  rw [e2, e1] at hn
  rw [e1] at h1
  refine ⟨(h0.alloc _).alloc _, h1.alloc _, ?_, ?_, ((boxV_below w a).alloc (by rw [e1]; omega) _).alloc (by rw [World.size_alloc, e1]; omega) _⟩
  · rw [Joins.cell_of_block hn]; rfl
  · rw [Joins.cell_of_block hn]; rfl
theorem dot_same (h : Bool) : (h == h) = true := by simp

set_option maxHeartbeats 4000000 in
set_option maxRecDepth 100000 in
theorem reckons_row (a b : Vc) (d : Dt) (w : World) (ha : a.length = 16) (hb : b.length = 16) :
    Calls Try.prog 5 #[.agg (ics a), .agg (ics b), .agg #[.int .i64 d.1, .int .i64 d.2]] w fun e w' => e = .returned (.bool true) ∧ Below w.heap.size w w' := by
  have hW := dot_box3 w a b d
  have hj := joinV_len ha hb
  have hm := meetV_len ha hb
  have k1 := fun W => vchkC a ha W
  have k2 := fun W => vchkR a ha W
  have k3 := fun W => vjoinC a b ha hb W
  have k4 := fun W => vjoinR a b ha hb W
  have k5 := fun W => vmeetC a b ha hb W
  have k6 := fun W => vmeetR a b ha hb W
  have k7 := fun W => vcmpC a b ha hb W
  have k8 := fun W => vcmpR a b ha hb W
  have k9 := fun W => vhasC a d ha W
  have k10 := fun W => vhasR a d ha W
  have q1 := fun W => eqlV hj hj W
  have q2 := fun W => eqlV hm hm W
  generalize chkV a = n1 at *
  generalize joinV a b = j at *
  generalize meetV a b = m at *
  generalize cmpV a b = n2 at *
  generalize hasV a d = t at *
  obtain ⟨r, n⟩ := d
  simp only [decide_true] at q1 q2
  unfold boxD at hW
  simp only at hW k9 k10 ⊢
  go_enter Try.func5, Try.ntmps5
  go_upto_region 1 with fail
  change Code.wp _ _ _ _ ((boxV (boxV w a) b).alloc (.cells #[.int .i64 r, .int .i64 n] 31))
  generalize (boxV (boxV w a) b).alloc (.cells #[.int .i64 r, .int .i64 n] 31) = w3 at hW ⊢
  obtain ⟨r0, r1, c0, c1, rB⟩ := hW
  have HR := Lib.hid (And.intro r0.regrown r1.regrown)
  have HB := Lib.hid rB
  have HL := Lib.hid (And.intro ha hb)
  have d0 := fun q os => cell_regrown c0 q os
  have d1 := fun q os => cell_regrown c1 q os
  have K1 := Lib.hid (fun q os => Calls.regrown_of (k1 (grow (redrawn w3 q) os)))
  have K2 := Lib.hid (fun q os => Calls.regrown_of (k2 (grow (redrawn w3 q) os)))
  have K3 := Lib.hid (fun q os => Calls.regrown_of (k3 (grow (redrawn w3 q) os)))
  have K4 := Lib.hid (fun q os => Calls.regrown_of (k4 (grow (redrawn w3 q) os)))
  have K5 := Lib.hid (fun q os => Calls.regrown_of (k5 (grow (redrawn w3 q) os)))
  have K6 := Lib.hid (fun q os => Calls.regrown_of (k6 (grow (redrawn w3 q) os)))
  have K7 := Lib.hid (fun q os => Calls.regrown_of (k7 (grow (redrawn w3 q) os)))
  have K8 := Lib.hid (fun q os => Calls.regrown_of (k8 (grow (redrawn w3 q) os)))
  have K9 := Lib.hid (fun q os => Calls.regrown_of (k9 (grow (redrawn w3 q) os)))
  have K10 := Lib.hid (fun q os => Calls.regrown_of (k10 (grow (redrawn w3 q) os)))
  have K11 := Lib.hid (fun q os => Calls.regrown_of (vecAwake (grow (redrawn w3 q) os)))
  clear r0 r1 c0 c1 rB ha hb hj hm k1 k2 k3 k4 k5 k6 k7 k8 k9 k10
  have e1 : (n1 == n1) = true := by simp
  have e2 : (n2 == n2) = true := by simp
  have e3 : (t == t) = true := by simp
  refine wp_region_quiet_below (by kernel_rfl) (by kernel_rfl) ?_
  repeat (first
    | ((with_reducible refine vq_load ?_ (.tmp 3) ?_ w.heap.size a ?_ ?_ ?_ ?_); rfl; rfl; rfl; exact HR.out.1; exact HL.out.1; simp only [Act.put, List.setIfInBounds_toArray, List.set_cons_zero, List.set_cons_succ])
    | ((with_reducible refine vq_load ?_ (.tmp 4) ?_ (w.heap.size + 1) b ?_ ?_ ?_ ?_); rfl; rfl; rfl; exact HR.out.2; exact HL.out.2; simp only [Act.put, List.setIfInBounds_toArray, List.set_cons_zero, List.set_cons_succ])
    | go_big_quiet_step ((first
      | (go_at_call 17; with_reducible exact K1.out _ _)
      | (go_at_call 18; with_reducible exact K2.out _ _)
      | (go_at_call 19; with_reducible exact K3.out _ _)
      | (go_at_call 20; with_reducible exact K4.out _ _)
      | (go_at_call 21; with_reducible exact K5.out _ _)
      | (go_at_call 22; with_reducible exact K6.out _ _)
      | (go_at_call 23; with_reducible exact K7.out _ _)
      | (go_at_call 24; with_reducible exact K8.out _ _)
      | (go_at_call 25; with_reducible exact K9.out _ _)
      | (go_at_call 26; with_reducible exact K10.out _ _)
      | (go_at_call 27; with_reducible exact K11.out _ _))))
  refine wpQuiet_nil ?_
  intro _ hw'
  obtain ⟨⟨dq, osq⟩, hw''⟩ := hw'
  subst hw''
  have HB9 := Lib.hid (HB.out.trans ((below_regrown w3 dq osq).mono HB.out.size))
  clear d0 d1 K1 K2 K3 K4 K5 K6 K7 K8 K9 K10 K11 q1 q2 HR
  generalize grow (redrawn w3 dq) osq = W at *
  go_wp2_with fail
  go_ret
  exact ⟨rfl, HB9.out⟩
end Go.Proofs.Ytoiafhbembhppaa
