/-
  Read of facts, the program's: takeFact, list.Read, fact.Read.
  Facts as bytes: how great, what is read of bytes put.
-/
import Derived.Test.YtkodololdjainaaGreatFactLst
import Derived.Test.YtkodololdjainaaGreatGDelI
import Derived.Test.YtkodololdjainaaGreatGDelE
import Derived.Deep.RegionHeld3
import Derived.Test.YtkodololdjainaaGreatFactPut
namespace Go.Proofs.YtkodololdjainaaGreat
set_option linter.unusedSimpArgs false
set_option maxRecDepth 100000
open Go.RowKit Go.Sort

theorem fgrown_newCell {w X : World} {row : Option Nat} {g i : Nat} (h : w.grownBy X row) (hg : w.heap.size ≤ g) (u : Value) : w.grownBy (X.setCell ⟨g, i, none⟩ u) row :=
  ⟨h.os, h.tape, h.output, by simpa using h.size, fun k hk hne => by
    have hn : k ≠ g := by omega
    rw [Below.heap_setCell _ _ _ _ hn]; exact h.block k hk hne⟩
theorem fgrown_alloc {w X : World} {row : Option Nat} (h : w.grownBy X row) (o : Obj) : w.grownBy (X.alloc o) row :=
  ⟨h.os, h.tape, h.output, by have := h.size; simp; omega, fun k hk hne => by rw [Below.heap_alloc _ _ _ (Nat.lt_of_lt_of_le hk h.size)]; exact h.block k hk hne⟩
theorem fgrown_trans {w X Y : World} {row : Option Nat} (h : w.grownBy X row) (k : X.grownBy Y row) : w.grownBy Y row :=
  ⟨k.os.trans h.os, k.tape.trans h.tape, k.output.trans h.output, Nat.le_trans h.size k.size, fun j hj hne => (k.block j (Nat.lt_of_lt_of_le hj h.size) hne).trans (h.block j hj hne)⟩

theorem fgrown_setRow {w X : World} {row : Option Nat} {g : Nat} (h : w.grownBy X row) (hg : w.heap.size ≤ g) (cs : Array Value) : w.grownBy (X.setRow g cs) row :=
  ⟨h.os, h.tape, h.output, by simpa using h.size, fun k hk hne => by
    have hn : k ≠ g := by omega
    rw [setRow_other _ _ _ _ hn]; exact h.block k hk hne⟩
/-- what holds while a fact is taken: g0: where it will lie; g1: its name -/
structure Tk (w : World) (b g0 g1 : Nat) (d : Dt) (U : World) : Prop where
  old : ∃ old : Array Value, U.heap[g0]? = some (.cells old 88 (0, 0)) ∧ old.size = 8
  dot : U.heap[g1]? = some (.cells #[.int .i64 d.1, .int .i64 d.2] 23 (0, 0))
  gr : w.grownBy U (some b)
theorem Tk.kept {w : World} {b g0 g1 : Nat} {d : Dt} {U V : World} (h : Tk w b g0 g1 d U) (hg : U.grownBy V (some b)) (h0 : g0 ≠ b) (h1 : g1 ≠ b) : Tk w b g0 g1 d V := by
  obtain ⟨old, ho, hs⟩ := h.old
  exact ⟨⟨old, (hg.block g0 (lt_of_block ho) (fun e => h0 (Option.some.inj e))).trans ho, hs⟩, (hg.block g1 (lt_of_block h.dot) (fun e => h1 (Option.some.inj e))).trans h.dot, fgrown_trans h.gr hg⟩
theorem Tk.range {w : World} {b g0 g1 : Nat} {d : Dt} {U : World} (h : Tk w b g0 g1 d U) : U.rangeAt g1 0 [.int .i64 d.1, .int .i64 d.2] := fun j v hv => by
  rw [Nat.zero_add, Joins.cell_of_block h.dot]; simpa using hv
theorem Tk.drew {w : World} {b g0 g1 : Nat} {d : Dt} {U : World} (h : Tk w b g0 g1 d U) : Tk w b g0 g1 d U.drew := ⟨h.old, h.dot, ⟨h.gr.os, h.gr.tape, h.gr.output, h.gr.size, h.gr.block⟩⟩
theorem Tk.put {w : World} {b g0 g1 : Nat} {d : Dt} {U : World} (h : Tk w b g0 g1 d U) (h0 : w.heap.size ≤ g0) (h01 : g0 ≠ g1) (f : Ft) : Tk w b g0 g1 d (U.setRow g0 (fcs f).toArray) ∧ FRow (U.setRow g0 (fcs f).toArray) g0 f := by
  obtain ⟨old, ho, hs⟩ := h.old
  have hr : FRow (U.setRow g0 (fcs f).toArray) g0 f := setRow_heap _ _ _ _ _ _ ho
  have hn : g1 ≠ g0 := fun e => h01 e.symm
  exact ⟨⟨⟨_, hr, rfl⟩, by rw [setRow_other _ _ _ _ hn]; exact h.dot, fgrown_setRow h.gr h0 _⟩, hr⟩
theorem Rd.drew1 {b : Nat} {st : ByteArray × Int} {w : World} (h : Rd b st w) : Rd b st w.drew := h
theorem draw_storeF {ops : Array Oper} {o : Oper} {a : Act} {w : World} {K : Act → World → Prop} {Q : Exit → Act → World → Prop} (hgd : o.guard = none) (x y : Operand) (ho : o.op = .store 88 x y)
    (g : Nat) (hx : a.eval x = .pointer (some ⟨g, 0, none⟩)) (f : Ft) (hy : a.eval y = .agg (fcs f).toArray) (hg : ∃ old : Array Value, w.heap[g]? = some (.cells old 88 (0, 0)) ∧ old.size = 8) (h : K (a.put o.dst undef) (w.setRow g (fcs f).toArray)) :
    if Region.wanted o (yielded ops a.tmps) = true then Oper.wp Tryz.prog o a w K Q else K (a.put o.dst undef) w := by
  obtain ⟨old, hg, hs⟩ := hg
  have hl' := run_storeVar_row (P := Tryz.prog) w g 88 88 old (fcs f).toArray hg factSize (by rw [hs]; rfl) (by simp [fcs, Value.oneCell'])
  simp only [Region.wanted, hgd, if_true]
  unfold Oper.wp execOp
  simp only [ho, hx, hy, Instr.storeAt, Instr.sureAddr, Sem.run_bind, Sem.run_pure, Result.andThen_ok, hl']
  exact h

theorem sFact_1 (st : ByteArray × Int) : sFact st = (⟨(((sNum st).1 : Int), ((sNum (sNum st).2).1 : Int)), ⟨(sNum (sNum (sNum st).2).2).1, (sNum (sNum (sNum (sNum st).2).2).2).1, (sNum st).1⟩, (sNum (sNum (sNum (sNum (sNum st).2).2).2).2).1, (sText (sNum (sNum (sNum (sNum (sNum st).2).2).2).2).2).1, (sText (sText (sNum (sNum (sNum (sNum (sNum st).2).2).2).2).2).2).1⟩, (sText (sText (sNum (sNum (sNum (sNum (sNum st).2).2).2).2).2).2).2) := rfl

set_option maxHeartbeats 8000000 in
theorem takeFactC (b : Nat) (st : ByteArray × Int) (w : World) (h : Rd b st w) (hs : st.1.size ≤ 9223372036854775807) :
    Calls Tryz.prog 72 #[.pointer (some ⟨b, 0, none⟩)] w fun e w' => e = .returned (.agg (fcs (sFact st).1).toArray) ∧ Rd b (sFact st).2 w' ∧ w.grownBy w' (some b) := by
  have hlt := h.lt
  have z1 := sNum_size st
  have z2 := sNum_size (sNum st).2
  have z3 := sNum_size (sNum (sNum st).2).2
  have z4 := sNum_size (sNum (sNum (sNum st).2).2).2
  have z5 := sNum_size (sNum (sNum (sNum (sNum st).2).2).2).2
  have z6 := sText_size (sNum (sNum (sNum (sNum (sNum st).2).2).2).2).2
  rw [sFact_1]
  generalize e1 : sNum st = s1 at *
  generalize e2 : sNum s1.2 = s2 at *
  generalize e3 : sNum s2.2 = s3 at *
  generalize e4 : sNum s3.2 = s4 at *
  generalize e5 : sNum s4.2 = s5 at *
  generalize e6 : sText s5.2 = s6 at *
  generalize e7 : sText s6.2 = s7 at *
  have C1 := Lib.hid (fun W (hR : Rd b st W) => rnum_any b st W hR hs)
  have C2 := Lib.hid (fun W (hR : Rd b s1.2 W) => rnum_any b s1.2 W hR (by omega))
  have C3 := Lib.hid (fun W (hR : Rd b s2.2 W) => rnum_any b s2.2 W hR (by omega))
  have C4 := Lib.hid (fun W (hR : Rd b s3.2 W) => rnum_any b s3.2 W hR (by omega))
  have C5 := Lib.hid (fun W (hR : Rd b s4.2 W) => rnum_any b s4.2 W hR (by omega))
  have C6 := Lib.hid (fun W (hR : Rd b s5.2 W) => rtext_any b s5.2 W hR (by omega))
  have C7 := Lib.hid (fun W (hR : Rd b s6.2 W) => rtext_any b s6.2 W hR (by omega))
  rw [e1] at C1
  rw [e2] at C2
  rw [e3] at C3
  rw [e4] at C4
  rw [e5] at C5
  rw [e6] at C6
  rw [e7] at C7
  clear e1 e2 e3 e4 e5 e6 e7 z1 z2 z3 z4 z5 z6 hs
  obtain ⟨n1, t1⟩ := s1
  obtain ⟨n2, t2⟩ := s2
  obtain ⟨n3, t3⟩ := s3
  obtain ⟨n4, t4⟩ := s4
  obtain ⟨n5, t5⟩ := s5
  obtain ⟨n6, t6⟩ := s6
  obtain ⟨n7, t7⟩ := s7
  simp only at C1 C2 C3 C4 C5 C6 C7 ⊢
  have hR0 : Rd b st (w.alloc (.cells zcs 88)) := h.below ((Below.refl _ _).alloc (Nat.le_refl _) _) hlt
  have hG0 : w.grownBy (w.alloc (.cells zcs 88)) (some b) := World.grownBy_alloc w _ _
  have H0 := Lib.hid (And.intro hR0 (And.intro (heap_alloc_new w (.cells zcs 88)) hG0))
  clear h hR0 hG0
  go_enter Tryz.func72, Tryz.ntmps72
  go_wp2_with fail
  refine (C1.out _ H0.out.1).mono ?_
  rintro e w1 ⟨rfl, hR1, hg1⟩
  have H1 := Lib.hid (And.intro hR1 (And.intro ((hg1.block w.heap.size (by simp) (fun e => by have := Option.some.inj e; omega)).trans H0.out.2.1) (fgrown_trans H0.out.2.2 hg1)))
  clear hR1 hg1 H0 C1
  go_wp2_with fail
  refine (C2.out w1 H1.out.1).mono ?_
  rintro e w2 ⟨rfl, hR2, hg2⟩
  have hwl : w.heap.size < w1.heap.size := lt_of_block H1.out.2.1
  have hgb := (hg2.block w.heap.size hwl (fun e => by have := Option.some.inj e; omega)).trans H1.out.2.1
  have hgt := fgrown_trans H1.out.2.2 hg2
  have hwl2 : w.heap.size < w2.heap.size := lt_of_block hgb
  have hT : Tk w b w.heap.size w2.heap.size ((n1 : Int), (n2 : Int)) (w2.alloc (.cells #[.int .i64 (n1 : Int), .int .i64 (n2 : Int)] 23)) :=
    ⟨⟨_, (Below.heap_alloc _ _ _ hwl2).trans hgb, rfl⟩, heap_alloc_new _ _, fgrown_alloc hgt _⟩
  have hR2' : Rd b t2 (w2.alloc (.cells #[.int .i64 (n1 : Int), .int .i64 (n2 : Int)] 23)) := hR2.below ((Below.refl _ _).alloc (Nat.le_refl _) _) hR2.lt
  have HT := Lib.hid hT
  have HR := Lib.hid hR2'.drew1
  have HN := Lib.hid (show w.heap.size ≠ b ∧ w2.heap.size ≠ b ∧ w.heap.size ≠ w2.heap.size from by omega)
  clear hR2 hg2 H1 hgb hwl hgt hT hR2' hwl2 C2
  go_upto_region 2 with fail
  generalize w2.alloc (.cells #[.int .i64 (n1 : Int), .int .i64 (n2 : Int)] 23) = W at *
  generalize w2.heap.size = g1 at *
  refine wp_region_held (S := fun U => Tk w b w.heap.size g1 ((n1 : Int), (n2 : Int)) U) (by kernel_rfl) ?_
  change wpAnyH _ _ _ _ _ _ _ _ W.drew
  have K0 : (fun U => Tk w b w.heap.size g1 ((n1 : Int), (n2 : Int)) U) W.drew := HT.out.drew
  refine wpAnyH_take (i := 0) (oi := { dst := some 9, op := _, type := _, pos := _, after := _, guard := _ }) rfl (by kernel_rfl) (by kernel_rfl) (by kernel_rfl) (fun _ _ _ h => h) (fyield_D (by rfl) (.tmp 3) rfl g1 ((n1 : Int), (n2 : Int)) rfl (fun U hU => Tk.range hU)) K0 ?_
  try simp only [Act.put, List.setIfInBounds_toArray, List.set_cons_zero, List.set_cons_succ]
  refine wpAnyH_take (i := 1) (oi := { dst := some 10, op := _, type := _, pos := _, after := _, guard := _ }) (v := ?v2) rfl (by kernel_rfl) (by kernel_rfl) (by kernel_rfl) (fun _ _ _ h => h) (Or.inl ⟨by rfl, ?hy2⟩) K0 ?rest2
  case hy2 => (intro w hSw; (try dsimp only at hSw); first | (go_simp; done) | (go_simp; with_reducible rfl))
  try simp only [Act.put, List.setIfInBounds_toArray, List.set_cons_zero, List.set_cons_succ]
  refine wpAnyH_take (i := 3) (oi := { dst := some 12, op := _, type := _, pos := _, after := _, guard := _ }) (v := ?v3) rfl (by kernel_rfl) (by kernel_rfl) (by kernel_rfl) (fun _ _ _ h => h) (Or.inl ⟨by rfl, ?hy3⟩) K0 ?rest3
  case hy3 => (intro w hSw; (try dsimp only at hSw); first | (go_simp; done) | (go_simp; with_reducible rfl))
  try simp only [Act.put, List.setIfInBounds_toArray, List.set_cons_zero, List.set_cons_succ]
  refine wpAnyH_take (i := 5) (oi := { dst := some 14, op := _, type := _, pos := _, after := _, guard := _ }) (v := ?v4) rfl (by kernel_rfl) (by kernel_rfl) (by kernel_rfl) (fun _ _ _ h => h) (Or.inl ⟨by rfl, ?hy4⟩) K0 ?rest4
  case hy4 => (intro w hSw; (try dsimp only at hSw); first | (go_simp; done) | (go_simp; with_reducible rfl))
  try simp only [Act.put, List.setIfInBounds_toArray, List.set_cons_zero, List.set_cons_succ]
  refine wpAnyH_take (i := 6) (oi := { dst := some 15, op := _, type := _, pos := _, after := _, guard := _ }) rfl (by kernel_rfl) (by kernel_rfl) (by kernel_rfl) (fun _ _ _ h => h) (fyield_I (by rfl) (.tmp 14) rfl g1 0 (n1 : Int) rfl (fun U hU => by have h := (Tk.range hU) 0 _ rfl; rwa [Nat.zero_add] at h)) K0 ?_
  try simp only [Act.put, List.setIfInBounds_toArray, List.set_cons_zero, List.set_cons_succ]
  refine wpAnyH_take (i := 8) (oi := { dst := some 17, op := _, type := _, pos := _, after := _, guard := _ }) (v := ?v6) rfl (by kernel_rfl) (by kernel_rfl) (by kernel_rfl) (fun _ _ _ h => h) (Or.inl ⟨by rfl, ?hy6⟩) K0 ?rest6
  case hy6 => (intro w hSw; (try dsimp only at hSw); first | (go_simp; done) | (go_simp; with_reducible rfl))
  try simp only [Act.put, List.setIfInBounds_toArray, List.set_cons_zero, List.set_cons_succ]
  refine wpAnyH_take (i := 10) (oi := { dst := some 19, op := _, type := _, pos := _, after := _, guard := _ }) (v := ?v7) rfl (by kernel_rfl) (by kernel_rfl) (by kernel_rfl) (fun _ _ _ h => h) (Or.inl ⟨by rfl, ?hy7⟩) K0 ?rest7
  case hy7 => (intro w hSw; (try dsimp only at hSw); first | (go_simp; done) | (go_simp; with_reducible rfl))
  try simp only [Act.put, List.setIfInBounds_toArray, List.set_cons_zero, List.set_cons_succ]
  refine wpAnyH_take (i := 12) (oi := { dst := some 21, op := _, type := _, pos := _, after := _, guard := _ }) (v := ?v8) rfl (by kernel_rfl) (by kernel_rfl) (by kernel_rfl) (fun _ _ _ h => h) (Or.inl ⟨by rfl, ?hy8⟩) K0 ?rest8
  case hy8 => (intro w hSw; (try dsimp only at hSw); first | (go_simp; done) | (go_simp; with_reducible rfl))
  try simp only [Act.put, List.setIfInBounds_toArray, List.set_cons_zero, List.set_cons_succ]
  refine wpAnyH_ready (rs := [2]) (by kernel_rfl) (by simp) ?_
  refine AllReadyH.cons (o := { dst := some 11, op := _, type := _, pos := _, after := _, guard := _ }) rfl (fun K hK => ?_) AllReadyH.nil
  go_simp
  refine (C3.out _ HR.out).mono ?_
  rintro e u2 ⟨rfl, hR, hg⟩
  have K2 := K0
  have K2 := Tk.kept K2 hg HN.out.1 HN.out.2.1
  have HR2 := Lib.hid hR
  clear hR hg HR C3
  refine hK.out _ _ K2 (fun _ => ?_)
  clear hK K
  try simp only [Act.put, List.setIfInBounds_toArray, List.set_cons_zero, List.set_cons_succ]
  refine wpAnyH_ready (rs := [4]) (by kernel_rfl) (by simp) ?_
  refine AllReadyH.cons (o := { dst := some 13, op := _, type := _, pos := _, after := _, guard := _ }) rfl (fun K hK => ?_) AllReadyH.nil
  go_simp
  refine (C4.out _ HR2.out).mono ?_
  rintro e u4 ⟨rfl, hR, hg⟩
  have K4 := K2
  have K4 := Tk.kept K4 hg HN.out.1 HN.out.2.1
  have HR4 := Lib.hid hR
  clear hR hg HR2 C4
  refine hK.out _ _ K4 (fun _ => ?_)
  clear hK K
  try simp only [Act.put, List.setIfInBounds_toArray, List.set_cons_zero, List.set_cons_succ]
  refine wpAnyH_take (i := 7) (oi := { dst := some 16, op := _, type := _, pos := _, after := _, guard := _ }) (v := ?v9) rfl (by kernel_rfl) (by kernel_rfl) (by kernel_rfl) (fun _ _ _ h => h) (Or.inl ⟨by rfl, ?hy9⟩) K4 ?rest9
  case hy9 => (intro w hSw; (try dsimp only at hSw); first | (go_simp; done) | (go_simp; with_reducible rfl))
  try simp only [Act.put, List.setIfInBounds_toArray, List.set_cons_zero, List.set_cons_succ]
  refine wpAnyH_ready (rs := [9]) (by kernel_rfl) (by simp) ?_
  refine AllReadyH.cons (o := { dst := some 18, op := _, type := _, pos := _, after := _, guard := _ }) rfl (fun K hK => ?_) AllReadyH.nil
  go_simp
  refine (C5.out _ HR4.out).mono ?_
  rintro e u9 ⟨rfl, hR, hg⟩
  have K9 := K4
  have K9 := Tk.kept K9 hg HN.out.1 HN.out.2.1
  have HR9 := Lib.hid hR
  clear hR hg HR4 C5
  refine hK.out _ _ K9 (fun _ => ?_)
  clear hK K
  try simp only [Act.put, List.setIfInBounds_toArray, List.set_cons_zero, List.set_cons_succ]
  refine wpAnyH_ready (rs := [11]) (by kernel_rfl) (by simp) ?_
  refine AllReadyH.cons (o := { dst := some 20, op := _, type := _, pos := _, after := _, guard := _ }) rfl (fun K hK => ?_) AllReadyH.nil
  go_simp
  refine (C6.out _ HR9.out).mono ?_
  rintro e u11 ⟨rfl, hR, hg⟩
  have K11 := K9
  have K11 := Tk.kept K11 hg HN.out.1 HN.out.2.1
  have HR11 := Lib.hid hR
  clear hR hg HR9 C6
  refine hK.out _ _ K11 (fun _ => ?_)
  clear hK K
  try simp only [Act.put, List.setIfInBounds_toArray, List.set_cons_zero, List.set_cons_succ]
  refine wpAnyH_ready (rs := [13]) (by kernel_rfl) (by simp) ?_
  refine AllReadyH.cons (o := { dst := some 22, op := _, type := _, pos := _, after := _, guard := _ }) rfl (fun K hK => ?_) AllReadyH.nil
  go_simp
  refine (C7.out _ HR11.out).mono ?_
  rintro e u13 ⟨rfl, hR, hg⟩
  have K13 := K11
  have K13 := Tk.kept K13 hg HN.out.1 HN.out.2.1
  have HR13 := Lib.hid hR
  clear hR hg HR11 C7
  refine hK.out _ _ K13 (fun _ => ?_)
  clear hK K
  try simp only [Act.put, List.setIfInBounds_toArray, List.set_cons_zero, List.set_cons_succ]
  refine wpAnyH_take (i := 14) (oi := { dst := some 23, op := _, type := _, pos := _, after := _, guard := _ }) (v := ?v10) rfl (by kernel_rfl) (by kernel_rfl) (by kernel_rfl) (fun _ _ _ h => h) (Or.inl ⟨by rfl, ?hy10⟩) K13 ?rest10
  case hy10 => (intro w hSw; (try dsimp only at hSw); first | (go_simp; done) | (go_simp; with_reducible rfl))
  try simp only [Act.put, List.setIfInBounds_toArray, List.set_cons_zero, List.set_cons_succ]
  refine wpAnyH_ready (rs := [15]) (by kernel_rfl) (by simp) ?_
  refine AllReadyH.cons (o := { dst := none, op := _, type := _, pos := _, after := _, guard := _ }) rfl (fun K hK => ?_) AllReadyH.nil
  refine draw_storeF rfl (.tmp 2) (.tmp 23) rfl w.heap.size rfl ⟨((n1 : Int), (n2 : Int)), ⟨(n3 : Int), (n4 : Int), (n1 : Int)⟩, (n5 : Int), n6, n7⟩ rfl (Tk.old K13) ?_
  have K15 := K13
  have HP15 := Lib.hid (Tk.put K15 (Nat.le_refl _) HN.out.2.2 ⟨((n1 : Int), (n2 : Int)), ⟨(n3 : Int), (n4 : Int), (n1 : Int)⟩, (n5 : Int), n6, n7⟩)
  have K15 := HP15.out.1
  refine hK.out _ _ K15 (fun _ => ?_)
  clear hK K
  try simp only [Act.put, List.setIfInBounds_toArray, List.set_cons_zero, List.set_cons_succ]
  refine wpAnyH_done (by kernel_rfl) ?_ _
  try simp only [Act.put, List.setIfInBounds_toArray, List.set_cons_zero, List.set_cons_succ]
  have HK := Lib.hid K15
  clear K15
  have HRf := Lib.hid (show Rd b t7 (u13.setRow w.heap.size (fcs ⟨((n1 : Int), (n2 : Int)), ⟨(n3 : Int), (n4 : Int), (n1 : Int)⟩, (n5 : Int), n6, n7⟩).toArray) from HR13.out.grown (row := some w.heap.size) ⟨rfl, rfl, rfl, by simp, fun k hk hne => setRow_other _ _ _ _ (fun e => hne (by rw [e]))⟩ (fun j hj => by have := Option.some.inj hj; have := HN.out.1; omega))
  go_wp2_with fail
  refine bodyPost_ret (results_cell_row rfl _ _ w.heap.size 88 (fcs ⟨((n1 : Int), (n2 : Int)), ⟨(n3 : Int), (n4 : Int), (n1 : Int)⟩, (n5 : Int), n6, n7⟩).toArray (0, 0) _ rfl HP15.out.2 Tryz.underlying88 rfl factSize) rfl ?_
  exact ⟨rfl, HRf.out, HK.out.gr⟩

theorem sText_val (st : ByteArray × Int) : (sText st).1.size ≤ st.1.size := by
  unfold sText
  split
  · simp
  · split
    · simp
    · have h1 := sCount_size 65536 st
      have h2 := extract_size_le (sCount 65536 st).2.2.1 0 (sCount 65536 st).1
      simp only
      omega
theorem sFact_val (st : ByteArray × Int) : (sFact st).1.v.size ≤ st.1.size := by
  have h1 := sNum_size st
  have h2 := sNum_size (sNum st).2
  have h3 := sNum_size (sNum (sNum st).2).2
  have h4 := sNum_size (sNum (sNum (sNum st).2).2).2
  have h5 := sNum_size (sNum (sNum (sNum (sNum st).2).2).2).2
  have h6 := sText_size (sNum (sNum (sNum (sNum (sNum st).2).2).2).2).2
  have h7 := sText_val (sText (sNum (sNum (sNum (sNum (sNum st).2).2).2).2).2).2
  rw [sFact_1]
  simp only
  omega
theorem sFacts_val : ∀ (n : Nat) (st : ByteArray × Int) (acc : List Ft) (z : Nat), st.1.size ≤ z → (∀ f ∈ acc, f.v.size ≤ z) → ∀ f ∈ (sFacts n st acc).1, f.v.size ≤ z := by
  intro n
  induction n with
  | zero => intro st acc z _ h; exact h
  | succ n ih =>
    intro st acc z hz h
    refine ih _ _ z (Nat.le_trans (sFact_size st) hz) (fun f hf => ?_)
    rcases List.mem_append.1 hf with hf | hf
    · exact h f hf
    · rw [List.mem_singleton.1 hf]; exact Nat.le_trans (sFact_val st) hz
theorem rdF_val (s : ByteArray) : ∀ f ∈ (rdF s).1, f.v.size ≤ s.size := sFacts_val _ _ _ s.size (sNum_size (s, 0)) (fun f hf => by simp at hf)

set_option maxHeartbeats 4000000 in
set_option maxRecDepth 100000 in
theorem lreadF (s : ByteArray) (hs : s.size ≤ 9223372036854775807) (hv : ∀ f ∈ (rdF s).1, f.v.size ≤ 5000) (w : World) :
    Calls Tryz.prog 71 #[.string s, .func (.func 53) #[] #[], .func (.func 54) #[] #[], .func (.func 72) #[] #[]] w fun e w' => ∃ v, e = .returned (.tuple #[v, .int .i64 (readF rdM s).2]) ∧ OwnF w.heap.size v (readF rdM s).1 w' ∧ Below w.heap.size w w' := by
  obtain ⟨i0, hi, hz0, hz1, hz2⟩ := info_parts factInfo
  go_enter Tryz.func71, Tryz.ntmps71
  go_wp2_with fail
  refine (new_any s w).mono ?_
  rintro e w1 ⟨rfl, hw1⟩
  have hrd1 : Rd w.heap.size (s, 0) w1 := by rw [← hw1]; exact Rd.made s w
  have hB1 : Below w.heap.size w w1 := by rw [← hw1]; exact (Below.refl _ _).alloc (Nat.le_refl _) _
  have H1 := Lib.hid (And.intro hrd1 hB1)
  clear hrd1 hB1 hw1
  go_wp2_with fail
  refine (rnum_any w.heap.size (s, 0) w1 H1.out.1 hs).mono ?_
  rintro e w2 ⟨rfl, hrd2, hg2⟩
  have z1 : (sNum (s, 0)).2.1.size ≤ s.size := sNum_size (s, 0)
  have H2 := Lib.hid (And.intro hrd2 (H1.out.2.grown hg2 H1.out.2.size (fun j hj => by have := Option.some.inj hj; omega)))
  have hr : readF rdM s = if 4096 < (sNum (s, 0)).1 then ([], 3) else if doneS (rdF s).2 ≠ 0 then ([], doneS (rdF s).2) else if chkFs rdM (rdF s).1 ≠ 0 then ([], chkFs rdM (rdF s).1) else ((rdF s).1, 0) := rfl
  have hst : sFacts (sNum (s, 0)).1 (sNum (s, 0)).2 [] = rdF s := rfl
  clear hrd2 hg2 H1
  have HVV := Lib.hid hv
  clear hv
  generalize rdF s = T at hr hst HVV
  generalize hn : sNum (s, 0) = nst at *
  obtain ⟨n, st1⟩ := nst
  simp only at hr hst z1
  have HR := Lib.hid hr
  have HST := Lib.hid hst
  clear hr hst hn
  by_cases hbig : 4096 < n
  · have hbi : (4096 : Int) < (n : Int) := by omega
    have hj := HR.out
    rw [if_pos hbig] at hj
    have HF := Lib.hid hj
    clear hj
    go_wp2_with fail
    go_ret2
    rw [HF.out]
    exact ⟨_, rfl, ownF_nil _ _, H2.out.2⟩
  · have hbi : ¬ (4096 : Int) < (n : Int) := by omega
    have hj := HR.out
    rw [if_neg hbig] at hj
    have HJ := Lib.hid hj
    clear hj HR
    go_wp2_with fail
    go_loopw [12, 22] (fun v i wr => ∃ (k : Nat) (acc : List Ft) (st : ByteArray × Int), i = .int .i64 k ∧ k ≤ n ∧ acc.length = k ∧ st.1.size ≤ s.size ∧ sFacts (n - k) st acc = T ∧ OwnF (w.heap.size + 1) v acc wr ∧ Rd w.heap.size st wr ∧ Below w.heap.size w wr) (fun _ i _ => n - (intOf i).toNat)
    case atStart => exact ⟨0, [], st1, rfl, Nat.zero_le _, rfl, z1, by rw [Nat.sub_zero]; exact HST.out, ownF_nil _ _, H2.out.1, H2.out.2⟩
    case round =>
      obtain ⟨k, acc, st, rfl, hk, hacc, hss, heq, hown, hrd, hb⟩ := hrel
      have HQ := Lib.hid heq
      have HC := Lib.hid hacc
      have H3 := Lib.hid (And.intro hown (And.intro hrd hb))
      have hlr := hrd.lt
      clear heq hacc hown hrd hb
      by_cases hlt : k < n
      · have hcut : n - k = (n - (k + 1)) + 1 := by omega
        have HU := Lib.hid hcut
        clear hcut
        go_wp2_with fail
        refine (takeFactC w.heap.size st wr H3.out.2.1 (by omega)).mono ?_
        rintro e w4 ⟨rfl, hrd4, hg4⟩
        have z2 := sFact_size st
        have hsz4 := hg4.size
        have H5 := Lib.hid (And.intro (H3.out.1.keep hg4 (by omega)) (And.intro hrd4 (H3.out.2.2.grown hg4 H3.out.2.2.size (fun j hj => by have := Option.some.inj hj; omega))))
        have hnx : sFacts (n - k) st acc = sFacts (n - (k + 1)) (sFact st).2 (acc ++ [(sFact st).1]) := by rw [HU.out]; rfl
        have HNX := Lib.hid hnx
        clear hrd4 hg4 H3 hnx
        have hzz : (sFact st).2.1.size ≤ s.size := by omega
        clear z2
        generalize (sFact st).2 = st4 at *
        generalize (sFact st).1 = q at *
        unfold fcs
        go_wp2_with (at_builtin; refine wpList_append_own _ rfl _ _ 26 rfl (w.heap.size + 1) 88 i0 zeroF 8 80 Tryz.underlying26 hi hz0 hz1 hz2 rfl (by decide) _ _ _ rfl (World.ownsRow.alloc H5.out.1 _) ⟨w4.heap.size, 0, none⟩ 1 1 (fcs q) rfl rfl ?c1 ?c2 ?c3 ?c4 ?c5 ?_)
        case c1 =>
          intro j u hj
          have e1 : ∀ k, (⟨w4.heap.size, 0, none⟩ : Addr).add k = ⟨w4.heap.size, 0 + k, none⟩ := fun k => by cases k <;> simp [Addr.add]
          rw [e1]
          exact (FRow.new w4 q).range j u hj
        case c2 => exact fcs_cell q
        case c3 => have := HC.out; unfold maxLen; omega
        case c4 => have := HC.out; omega
        case c5 => simp; omega
        intro v' w5 hown5 hg5 _
        have hne : ∀ j, (u12 : Value).ownBlock = some j → w.heap.size + 1 ≤ j := fun j hj => (World.ownsRow.lt H5.out.1 j hj).1
        have hrd5 : Rd w.heap.size st4 w5 := (H5.out.2.1.below ((Below.refl _ _).alloc (Nat.le_refl _) _) H5.out.2.1.lt).grown hg5 (fun j hj => by have := hne j hj; omega)
        have hB5 : Below w.heap.size w w5 := (H5.out.2.2.alloc H5.out.2.2.size _).grown hg5 (by have := H5.out.2.2.size; simp; omega) (fun j hj => by have := hne j hj; omega)
        have hown6 : OwnF (w.heap.size + 1) v' (acc ++ [q]) w5 := by unfold OwnF; rw [List.length_append, rowF_append, rowF_one]; exact hown5
        have H6 := Lib.hid (And.intro hown6 (And.intro hrd5 hB5))
        clear hown5 hg5 hne hrd5 hB5 hown6 H5
        go_wp2_with fail
        go_roundw
        case rel => exact ⟨k + 1, _, st4, by go_num, by omega, by rw [List.length_append, HC.out]; rfl, hzz, by rw [← HNX.out]; exact HQ.out, H6.out.1, H6.out.2.1, H6.out.2.2⟩
        case measure => simp [intOf]; omega
      · obtain rfl : k = n := by omega
        have hT : T = (acc, st) := by rw [← HQ.out, Nat.sub_self]; rfl
        subst hT
        have hdn := done_any w.heap.size st wr H3.out.2.1 (by omega)
        have hd2 : (if st.2 ≠ 0 then st.2 else if 0 < st.1.size then (5 : Int) else 0) = doneS st := rfl
        rw [hd2] at hdn
        clear hd2
        have hj := HJ.out
        simp only at hj
        have HJ2 := Lib.hid hj
        have HDN := Lib.hid hdn
        clear hj HJ hdn
        by_cases hD : doneS st = 0
        · have hj := HJ2.out
          rw [if_neg (fun h => h hD)] at hj
          rw [hD] at HDN
          have HJ3 := Lib.hid hj
          obtain ⟨da, dc, hv, hdin, hdl⟩ := H3.out.1.fin
          rw [HC.out] at hv
          have hck := chkFsC acc da dc wr hdin hdl HVV.out
          rw [HC.out] at hck
          have HCK := Lib.hid hck
          have HO := Lib.hid H3.out.1
          have HB := Lib.hid H3.out.2.2
          subst hv
          clear hj HJ2 hD hdin hdl hck H3
          go_wp2_with fail
          refine HDN.out.mono ?_
          rintro e w6 ⟨rfl, rfl⟩
          go_wp2_with fail
          refine HCK.out.mono ?_
          rintro e w7 ⟨rfl, hb7⟩
          have hO7 := HO.out.below hb7 (Nat.le_refl _)
          have HB7 := Lib.hid (HB.out.trans (hb7.mono HB.out.size))
          have HO7 := Lib.hid (hO7.mono (show w.heap.size ≤ w.heap.size + 1 by omega))
          clear hb7 hO7 HCK HDN
          by_cases hE : chkFs rdM acc = 0
          · have hj := HJ3.out
            rw [if_neg (fun h => h hE)] at hj
            have HF := Lib.hid hj
            have HE := Lib.hid hE
            clear hj HJ3 hE
            go_wp2_with (simp only [HE.out])
            go_ret2
            rw [HF.out]
            exact ⟨_, rfl, HO7.out, HB7.out⟩
          · have hj := HJ3.out
            rw [if_pos hE] at hj
            have HF := Lib.hid hj
            have hne : (chkFs rdM acc != 0) = true := by simp [hE]
            clear hj HJ3 hE
            go_wp2_with fail
            go_ret2
            rw [HF.out]
            exact ⟨_, rfl, ownF_nil _ _, HB7.out⟩
        · have hj := HJ2.out
          rw [if_pos hD] at hj
          have HF := Lib.hid hj
          have hne : (doneS st != 0) = true := by simp [hD]
          have HB := Lib.hid H3.out.2.2
          clear hj HJ2 hD H3
          go_wp2_with fail
          refine HDN.out.mono ?_
          rintro e w6 ⟨rfl, rfl⟩
          go_wp2_with fail
          go_ret2
          rw [HF.out]
          exact ⟨_, rfl, ownF_nil _ _, HB.out⟩
theorem readFC (s : ByteArray) (hs : s.size ≤ 9223372036854775807) (hv : ∀ f ∈ (rdF s).1, f.v.size ≤ 5000) (w : World) :
    Calls Tryz.prog 40 #[.string s] w fun e w' => ∃ v, e = .returned (.tuple #[v, .int .i64 (readF rdM s).2]) ∧ OwnF w.heap.size v (readF rdM s).1 w' ∧ Below w.heap.size w w' := by
  have H := Lib.hid (lreadF s hs hv w)
  clear hs hv
  go_enter Tryz.func40, Tryz.ntmps40
  go_wp2_with fail
  refine H.out.mono ?_
  rintro e w1 ⟨v, rfl, ho, hb1⟩
  go_wp2_with fail
  go_ret2
  exact ⟨v, rfl, ho, hb1⟩
end Go.Proofs.YtkodololdjainaaGreat

namespace Go.Proofs.YtkodololdjainaaGreat
open Go.RowKit Go.Sort
set_option maxRecDepth 100000

theorem putF_size {l : List Ft} : (putF rdM l).1.size ≤ 100000000 := by
  unfold putF
  split
  · simp [ByteArray.size]
  · rename_i hl
    split
    · rename_i hc
      have h1 := encF_len l (chkFs_ok hc).1
      have h2 := Lib.uvarint_length64 (x := l.length) (by omega)
      simp only [ByteArray.size, List.size_toArray, encFs, List.length_append]
      omega
    · simp [ByteArray.size]
theorem rdF_of {s : ByteArray} {l : List Ft} (h : readF rdM s = (l, 0)) : (rdF s).1 = l := by
  unfold readF at h
  split at h
  · cases h
  · split at h
    · rename_i hd; exact absurd (Prod.ext_iff.1 h).2 hd
    · split at h
      · rename_i hc; exact absurd (Prod.ext_iff.1 h).2 hc
      · exact (Prod.ext_iff.1 h).1
theorem putF_bad {l : List Ft} (h : (putF rdM l).2 ≠ 0) : (putF rdM l).1 = ⟨#[]⟩ := by
  unfold putF at h ⊢
  split
  · rfl
  · split
    · rename_i h1 h2; rw [if_neg h1, if_pos h2] at h; exact absurd rfl h
    · rfl
theorem putF_back {l : List Ft} (h : ∀ f ∈ l, f.v.size ≤ 5000) : ∀ f ∈ (rdF (putF rdM l).1).1, f.v.size ≤ 5000 := by
  by_cases e : (putF rdM l).2 = 0
  · rw [rdF_of (readF_put (rd := rdM) (l := l) (by rw [← e]))]
    exact h
  · intro f hf
    have h1 := rdF_val _ f hf
    rw [putF_bad e] at h1
    exact Nat.le_trans h1 (by decide)
theorem readF_val {s : ByteArray} (hs : s.size ≤ 5000) : ∀ f ∈ (readF rdM s).1, f.v.size ≤ 5000 := by
  intro f hf
  unfold readF at hf
  split at hf
  · simp at hf
  · split at hf
    · simp at hf
    · split at hf
      · simp at hf
      · exact Nat.le_trans (rdF_val s f hf) hs
end Go.Proofs.YtkodololdjainaaGreat
