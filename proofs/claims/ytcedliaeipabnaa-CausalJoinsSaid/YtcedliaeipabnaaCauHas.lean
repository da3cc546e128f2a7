/-
  Has: the program's.
-/
import Derived.Test.YtcedliaeipabnaaGCauJ
namespace Go.Proofs.Ytcedliaeipabnaa
set_option maxRecDepth 100000
open Go.RowKit Go.Sort Go.Shelf

/-- in a region that draws: a whole context, its vector, may be taken first -/
theorem yield_C {ops : Array Oper} {S : World → Prop} {o : Oper} {a : Act} (hw : Region.wanted o (yielded ops a.tmps) = true) (x : Operand) (ho : o.op = .load 26 x) (g : Nat) (v : Vc) (s : Value) (hx : a.eval x = .pointer (some ⟨g, 0, none⟩))
    (hg : ∀ w, S w → CRow w g v s) (hl : v.length = 16) : YieldsIf Try.prog ops S o (.agg (ccs v s)) a := by
  refine .inl ⟨hw, fun w hS => ?_⟩
  unfold execOp
  simp only [ho, hx, Sem.run_bind, Sem.run_pure, Result.andThen_ok, (hg w hS).loadAt hl]
theorem yield_V {ops : Array Oper} {S : World → Prop} {o : Oper} {a : Act} (hw : Region.wanted o (yielded ops a.tmps) = true) (x : Operand) (ho : o.op = .load 23 x) (g : Nat) (v : Vc) (s : Value) (hx : a.eval x = .pointer (some ⟨g, 0, none⟩))
    (hg : ∀ w, S w → CRow w g v s) (hl : v.length = 16) : YieldsIf Try.prog ops S o (.agg (ics v)) a := by
  refine .inl ⟨hw, fun w hS => ?_⟩
  unfold execOp
  simp only [ho, hx, Sem.run_bind, Sem.run_pure, Result.andThen_ok, (hg w hS).loadV hl]
theorem yield_S {ops : Array Oper} {S : World → Prop} {o : Oper} {a : Act} (hw : Region.wanted o (yielded ops a.tmps) = true) (x : Operand) (ho : o.op = .load 24 x) (g : Nat) (v : Vc) (s : Value) (hx : a.eval x = .pointer (some ⟨g, 16, none⟩))
    (hg : ∀ w, S w → CRow w g v s) (hl : v.length = 16) : YieldsIf Try.prog ops S o s a := by
  refine .inl ⟨hw, fun w hS => ?_⟩
  have hc := (hg w hS).cloud hl
  unfold execOp
  simp only [ho, hx]
  go_simp
theorem yield_D {ops : Array Oper} {S : World → Prop} {o : Oper} {a : Act} (hw : Region.wanted o (yielded ops a.tmps) = true) (x : Operand) (ho : o.op = .load 31 x) (g off : Nat) (d : Dt) (hx : a.eval x = .pointer (some ⟨g, off, none⟩))
    (hg : ∀ w, S w → w.cell? ⟨g, off, none⟩ = some (.int .i64 d.1) ∧ w.cell? ⟨g, off + 1, none⟩ = some (.int .i64 d.2)) : YieldsIf Try.prog ops S o (.agg #[.int .i64 d.1, .int .i64 d.2]) a := by
  refine .inl ⟨hw, fun w hS => ?_⟩
  obtain ⟨h0, h1⟩ := hg w hS
  unfold execOp
  simp only [ho, hx]
  go_simp

theorem ent_tell : ∀ args w, (callFunc 61 args).run Try.prog w = .ok (.enter 61 args) w := enters_of Try.func61 (by kernel_rfl) rfl

set_option maxHeartbeats 4000000 in
theorem hasCC (c : Cx) (d : Dt) (a : Option Addr) (cap : Nat) (w : World) (h : CIn w c a) :
    Calls Try.prog 9 #[.agg (ccs c.v (.slice a c.l.length cap)), .agg #[.int .i64 d.1, .int .i64 d.2]] w fun e w' => e = .returned (.bool (hasC c d)) ∧ Go.RowKit.Below w.heap.size w w' := by
  have hent := ent_tell
  have hB0 : Go.RowKit.Below w.heap.size w (boxD (boxC w c.v (.slice a c.l.length cap)) d) := (boxC_below _ _ _).trans ((boxD_below _ d).mono (by rw [boxC_size]; omega))
  have hrow : CRow (boxD (boxC w c.v (.slice a c.l.length cap)) d) w.heap.size c.v (.slice a c.l.length cap) := (CRow.new w c.v (.slice a c.l.length cap)).alloc _
  have hn := heap_alloc_new (boxC w c.v (.slice a c.l.length cap)) (.cells #[.int .i64 d.1, .int .i64 d.2] 31)
  rw [boxC_size] at hn
  have q0 : (boxD (boxC w c.v (.slice a c.l.length cap)) d).cell? ⟨w.heap.size + 1, 0, none⟩ = some (.int .i64 d.1) := by unfold boxD; rw [Joins.cell_of_block hn]; rfl
  have q1 : (boxD (boxC w c.v (.slice a c.l.length cap)) d).cell? ⟨w.heap.size + 1, 1, none⟩ = some (.int .i64 d.2) := by unfold boxD; rw [Joins.cell_of_block hn]; rfl
  have hlt : w.heap.size + 1 < (boxD (boxC w c.v (.slice a c.l.length cap)) d).heap.size := by rw [boxD_size, boxC_size]; omega
  have hin := h.below hB0
  have H0 := Lib.hid (And.intro hB0 (And.intro hrow (And.intro q0 (And.intro q1 (And.intro hlt hin)))))
  have HV := Lib.hid h.v16
  clear h hB0 hrow hn hin q0 q1 hlt
  unfold boxD boxC at H0
  obtain ⟨dr, dq⟩ := d
  simp only at H0 ⊢
  go_enter Try.func9, Try.ntmps9
  go_upto_region 1 with fail
  generalize (w.alloc (.cells (ccs c.v (.slice a c.l.length cap)) 26)).alloc (.cells #[.int .i64 dr, .int .i64 dq] 31) = W at *
  refine wp_region_held (S := fun U => Go.RowKit.Below W.heap.size W U) (by kernel_rfl) ?_
  change wpAnyH _ _ _ _ _ _ _ _ W.drew
  have K0 : (fun U => Go.RowKit.Below W.heap.size W U) W.drew := (Below.refl _ _).drew
  refine wpAnyH_take (i := 0) (oi := { dst := some 5, op := _, type := _, pos := _, after := _, guard := _ }) rfl (by kernel_rfl) (by kernel_rfl) (by kernel_rfl) (fun _ _ _ h => h) (yield_C (by rfl) (.tmp 2) rfl w.heap.size c.v (.slice a c.l.length cap) rfl (fun U hU => H0.out.2.1.keep hU) HV.out) K0 ?_
  try simp only [Act.put, List.setIfInBounds_toArray, List.set_cons_zero, List.set_cons_succ]
  refine wpAnyH_take (i := 2) (oi := { dst := some 7, op := _, type := _, pos := _, after := _, guard := _ }) rfl (by kernel_rfl) (by kernel_rfl) (by kernel_rfl) (fun _ _ _ h => h) (yield_D (by rfl) (.tmp 3) rfl (w.heap.size + 1) 0 (dr, dq) rfl (fun U hU => ⟨by rw [hU.cell (p := ⟨w.heap.size + 1, 0, none⟩) H0.out.2.2.2.2.1]; exact H0.out.2.2.1, by rw [hU.cell (p := ⟨w.heap.size + 1, 0 + 1, none⟩) H0.out.2.2.2.2.1]; exact H0.out.2.2.2.1⟩)) K0 ?_
  try simp only [Act.put, List.setIfInBounds_toArray, List.set_cons_zero, List.set_cons_succ]
  refine wpAnyH_ready (rs := [1]) (by kernel_rfl) (by simp) ?_
  refine AllReadyH.cons (o := { dst := some 6, op := _, type := _, pos := _, after := _, guard := _ }) rfl (fun K hK => ?_) AllReadyH.nil
  go_simp
  refine (tellC c a cap _ (H0.out.2.2.2.2.2.below K0)).mono ?_
  rintro e w1 ⟨⟨b1, b2, s, cl, p, k, rfl, ht⟩, hb1⟩
  have K1 := K0.trans (hb1.mono K0.size)
  unfold tellF
  have HT1 := Lib.hid (tell1C (dr, dq) w1 ht)
  clear hb1 ht
  refine hK.out _ _ K1 (fun _ => ?_)
  clear hK K
  try simp only [Act.put, List.setIfInBounds_toArray, List.set_cons_zero, List.set_cons_succ]
  refine wpAnyH_ready (rs := [3]) (by kernel_rfl) (by simp) ?_
  refine AllReadyH.cons (o := { dst := some 8, op := _, type := _, pos := _, after := _, guard := _ }) rfl (fun K hK => ?_) AllReadyH.nil
  go_simp
  refine HT1.out.mono ?_
  rintro e w2 ⟨rfl, hb2⟩
  have K3 := K1.trans (hb2.mono K1.size)
  clear hb2
  refine hK.out _ _ K3 (fun _ => ?_)
  clear hK K
  try simp only [Act.put, List.setIfInBounds_toArray, List.set_cons_zero, List.set_cons_succ]
  refine wpAnyH_take (i := 4) (oi := { dst := some 4, op := _, type := _, pos := _, after := _, guard := _ }) (v := ?v3) rfl (by kernel_rfl) (by kernel_rfl) (by kernel_rfl) (fun _ _ _ h => h) (Or.inl ⟨by rfl, ?hy3⟩) K3 ?rest3
  case hy3 => (intro w hSw; (try dsimp only at hSw); first | (go_simp; done) | (go_simp; with_reducible rfl))
  try simp only [Act.put, List.setIfInBounds_toArray, List.set_cons_zero, List.set_cons_succ]
  refine wpAnyH_done (by kernel_rfl) ?_ _
  try simp only [Act.put, List.setIfInBounds_toArray, List.set_cons_zero, List.set_cons_succ]
  have HF := Lib.hid (H0.out.1.trans (K3.mono H0.out.1.size))
  clear K3 K1 K0 HT1
  go_wp2_with fail
  go_ret
  exact ⟨rfl, HF.out⟩
end Go.Proofs.Ytcedliaeipabnaa
