/-
  fact, the document's: take.
  fact, the document's: Read.
-/
import Derived.Test.YtkodololdjainaaGreatFactChR
import Derived.Test.YtkodololdjainaaGreatGDelK
import Derived.Deep.WholeRow
import Derived.Test.YtkodololdjainaaGreatGDelQ
import Derived.Test.YtkodololdjainaaGreatGDelI
namespace Go.Proofs.YtkodololdjainaaGreat
set_option linter.unusedSimpArgs false
set_option maxRecDepth 100000
open Go.RowKit Go.Sort

abbrev qcs (st : ByteArray × Int) : Array Value := #[.string st.1, .int .i64 st.2]
theorem infoQ (st : ByteArray × Int) : (Tryz.prog.info? 75).map (·.size) = some (qcs st).size := by kernel_rfl
theorem Qd.load {w : World} {b : Nat} {st : ByteArray × Int} (h : Qd b st w) : (loadVar 75 ⟨b, 0, none⟩).run Tryz.prog w = .ok (.agg (qcs st)) w :=
  run_loadVar_row w b 75 75 (qcs st) (0, 0) _ h Tryz.underlying75 rfl (infoQ st)
theorem Qd.of_put {w : World} {b : Nat} {st : ByteArray × Int} (h : Qd b st w) (st' : ByteArray × Int) : Qd b st' (w.setRow b (qcs st')) := setRow_heap _ _ _ _ _ _ h
theorem Qd.of_set {w : World} {b c : Nat} {st : ByteArray × Int} (h : Qd b st w) (hc : b ≠ c) (C : Array Value) : Qd b st (w.setRow c C) := by
  unfold Qd; rw [setRow_other _ _ _ _ hc]; exact h
theorem ql_load {ops : Array Oper} {rest : List Oper} {o : Oper} {a : Act} {w : World} {Q : Exit → Act → World → Prop} (hgd : o.guard = none) (x : Operand) (ho : o.op = .load 75 x) (g : Nat) (st : ByteArray × Int)
    (hx : a.eval x = .pointer (some ⟨g, 0, none⟩)) (hg : Qd g st w) (h : wpList Tryz.prog ops Q rest (a.put o.dst (rv st)) w) : wpList Tryz.prog ops Q (o :: rest) a w :=
  wpList_load_row hgd 75 x ho g hx 75 (qcs st) (0, 0) _ hg Tryz.underlying75 rfl (infoQ st) h
theorem ql_store {ops : Array Oper} {rest : List Oper} {o : Oper} {a : Act} {w : World} {Q : Exit → Act → World → Prop} (hgd : o.guard = none) (x y : Operand) (ho : o.op = .store 75 x y) (g : Nat) (st' : ByteArray × Int)
    (hx : a.eval x = .pointer (some ⟨g, 0, none⟩)) (hy : a.eval y = rv st') (hg : ∃ st, Qd g st w) (h : wpList Tryz.prog ops Q rest (a.put o.dst undef) (w.setRow g (qcs st'))) : wpList Tryz.prog ops Q (o :: rest) a w := by
  obtain ⟨st, hg⟩ := hg
  exact wpList_store_row hgd 75 x y ho g (qcs st') hx hy 75 (qcs st) hg (infoQ st') rfl (by simp [Value.oneCell']) h

/-- the document's way to read one: of a text that is not there the bytes stay -/
def qFact (st : ByteArray × Int) : Ft × (ByteArray × Int) :=
  let a := sNum st
  let b := sNum a.2
  let c := sNum b.2
  let d := sNum c.2
  let e := sNum d.2
  let n := sText e.2
  let m := qSt e.2 n.2
  let v := sText m
  (⟨((a.1 : Int), (b.1 : Int)), ⟨c.1, d.1, a.1⟩, e.1, n.1, v.1⟩, qSt m v.2)
theorem qSt_ok {st st' : ByteArray × Int} (h : st'.2 = 0) : qSt st st' = st' := by unfold qSt; rw [if_pos h]
theorem qSt_err (st st' : ByteArray × Int) : (qSt st st').2 = st'.2 := by unfold qSt; split <;> rfl
theorem qSt_size {st st' : ByteArray × Int} (h : st'.1.size ≤ st.1.size) : (qSt st st').1.size ≤ st.1.size := by unfold qSt; split; exact h; exact Nat.le_refl _
theorem qFact_err (st : ByteArray × Int) : (qFact st).2.2 = (sFact st).2.2 := by
  simp only [qFact, sFact]
  generalize (sNum (sNum (sNum (sNum (sNum st).2).2).2).2).2 = e
  by_cases h : (sText e).2.2 = 0
  · rw [qSt_ok h, qSt_err]
  · have hq : (qSt e (sText e).2).2 ≠ 0 := by rw [qSt_err]; exact h
    rw [qSt_err, text_bad hq, qSt_err, text_bad h]
theorem qFact_ok {st : ByteArray × Int} (h : (sFact st).2.2 = 0) : qFact st = sFact st := by
  simp only [sFact] at h
  simp only [qFact, sFact]
  generalize (sNum (sNum (sNum (sNum (sNum st).2).2).2).2).2 = e at *
  by_cases h6 : (sText e).2.2 = 0
  · rw [qSt_ok h6, qSt_ok h]
  · rw [text_bad h6] at h
    exact absurd h h6
theorem qFact_size (st : ByteArray × Int) : (qFact st).2.1.size ≤ st.1.size ∧ (qFact st).1.v.size ≤ st.1.size := by
  have h1 := sNum_size st
  have h2 := sNum_size (sNum st).2
  have h3 := sNum_size (sNum (sNum st).2).2
  have h4 := sNum_size (sNum (sNum (sNum st).2).2).2
  have h5 := sNum_size (sNum (sNum (sNum (sNum st).2).2).2).2
  have h6 := qSt_size (sText_size (sNum (sNum (sNum (sNum (sNum st).2).2).2).2).2)
  have h7 := sText_val (qSt (sNum (sNum (sNum (sNum (sNum st).2).2).2).2).2 (sText (sNum (sNum (sNum (sNum (sNum st).2).2).2).2).2).2)
  have h8 := qSt_size (sText_size (qSt (sNum (sNum (sNum (sNum (sNum st).2).2).2).2).2 (sText (sNum (sNum (sNum (sNum (sNum st).2).2).2).2).2).2))
  simp only [qFact]
  omega

/-- take's boxes: the reader, and where its results will lie -/
structure Tq (w : World) (st : ByteArray × Int) (U : World) : Prop where
  r : Qd w.heap.size st U
  o : ∃ st, Qd (w.heap.size + 1) st U
  f : ∃ old : Array Value, U.heap[w.heap.size + 1 + 1]? = some (.cells old 88 (0, 0)) ∧ old.size = 8
  bel : Below w.heap.size w U
theorem Tq.below {w : World} {st : ByteArray × Int} {U V : World} (h : Tq w st U) (hb : Below U.heap.size U V) : Tq w st V := by
  obtain ⟨s, ho⟩ := h.o
  obtain ⟨old, hf, hs⟩ := h.f
  exact ⟨h.r.below hb h.r.lt, ⟨s, ho.below hb ho.lt⟩, ⟨old, (hb.block _ (lt_of_block hf)).trans hf, hs⟩, h.bel.trans (hb.mono h.bel.size)⟩
theorem Tq.put {w : World} {st : ByteArray × Int} {U : World} (h : Tq w st U) (st' : ByteArray × Int) : Tq w st' (U.setRow w.heap.size (qcs st')) := by
  obtain ⟨s, ho⟩ := h.o
  obtain ⟨old, hf, hs⟩ := h.f
  have h1 : w.heap.size + 1 ≠ w.heap.size := by omega
  have h2 : w.heap.size + 1 + 1 ≠ w.heap.size := by omega
  exact ⟨h.r.of_put st', ⟨s, ho.of_set h1 _⟩, ⟨old, by rw [setRow_other _ _ _ _ h2]; exact hf, hs⟩, belowRow h.bel (Nat.le_refl _) _⟩
theorem Tq.ends {w : World} {st : ByteArray × Int} {U : World} (h : Tq w st U) (f : Ft) :
    Qd (w.heap.size + 1) st ((U.setRow (w.heap.size + 1) (qcs st)).setRow (w.heap.size + 1 + 1) (fcs f).toArray) ∧ FRow ((U.setRow (w.heap.size + 1) (qcs st)).setRow (w.heap.size + 1 + 1) (fcs f).toArray) (w.heap.size + 1 + 1) f ∧ Below w.heap.size w ((U.setRow (w.heap.size + 1) (qcs st)).setRow (w.heap.size + 1 + 1) (fcs f).toArray) ∧
    ∃ old : Array Value, (U.setRow (w.heap.size + 1) (qcs st)).heap[w.heap.size + 1 + 1]? = some (.cells old 88 (0, 0)) ∧ old.size = 8 := by
  obtain ⟨s, ho⟩ := h.o
  obtain ⟨old, hf, hs⟩ := h.f
  have h1 : w.heap.size + 1 + 1 ≠ w.heap.size + 1 := by omega
  have h2 : w.heap.size + 1 ≠ w.heap.size + 1 + 1 := by omega
  have hf' : (U.setRow (w.heap.size + 1) (qcs st)).heap[w.heap.size + 1 + 1]? = some (.cells old 88 (0, 0)) := by rw [setRow_other _ _ _ _ h1]; exact hf
  exact ⟨(ho.of_put st).of_set h2 _, setRow_heap _ _ _ _ _ _ hf', belowRow (belowRow h.bel (by omega) _) (by omega) _, old, hf', hs⟩
theorem Tq.start (w : World) (st : ByteArray × Int) : Tq w st (((w.alloc (.cells (qcs st) 75)).alloc (.cells (qcs (ByteArray.empty, 0)) 75)).alloc (.cells zcs 88)) := by
  have h0 := Qd.made st w
  have h1 := Qd.made (ByteArray.empty, 0) (w.alloc (.cells (qcs st) 75))
  have h2 := heap_alloc_new ((w.alloc (.cells (qcs st) 75)).alloc (.cells (qcs (ByteArray.empty, 0)) 75)) (.cells zcs 88)
  simp only [World.size_alloc] at h1 h2
  exact ⟨(h0.alloc _).alloc _, ⟨_, h1.alloc _⟩, ⟨_, h2, rfl⟩, ((((Below.refl _ _).alloc (Nat.le_refl _) _).alloc (by simp) _).alloc (by simp; omega) _)⟩
theorem retQF {fn : Func} {p q : Tmp} (h : fn.results = #[.cell p 75, .cell q 88]) (tmps : Array Value) (w : World) (g k : Nat) (st : ByteArray × Int) (f : Ft)
    (hp : tmps.getD p undef = .pointer (some ⟨g, 0, none⟩)) (hq : tmps.getD q undef = .pointer (some ⟨k, 0, none⟩)) (hg : Qd g st w) (hk : FRow w k f) :
    (results fn tmps).run Tryz.prog w = .ok (.tuple #[rv st, .agg (fcs f).toArray]) w := by
  have hp' : tmps[p]?.getD undef = .pointer (some ⟨g, 0, none⟩) := by simpa using hp
  have hq' : tmps[q]?.getD undef = .pointer (some ⟨k, 0, none⟩) := by simpa using hq
  have hl : (loadVar 88 ⟨k, 0, none⟩).run Tryz.prog w = .ok (.agg (fcs f).toArray) w := run_loadVar_mid w k 0 88 (fcs f) _ hk.range Tryz.underlying88 rfl factSize
  simp only [results, h]
  simp [Sem.run_bind, hp', hq', asAddr, hg.load, hl]

set_option maxHeartbeats 8000000 in
theorem takeFR (st : ByteArray × Int) (hs : st.1.size ≤ 9223372036854775807) (w : World) :
    Calls Tryz.prog 75 #[rv st] w fun e w' => e = .returned (.tuple #[rv (qFact st).2, .agg (fcs (qFact st).1).toArray]) ∧ Below w.heap.size w w' := by
  have z1 := sNum_size st
  have z2 := sNum_size (sNum st).2
  have z3 := sNum_size (sNum (sNum st).2).2
  have z4 := sNum_size (sNum (sNum (sNum st).2).2).2
  have z5 := sNum_size (sNum (sNum (sNum (sNum st).2).2).2).2
  have z6 := qSt_size (sText_size (sNum (sNum (sNum (sNum (sNum st).2).2).2).2).2)
  simp only [qFact]
  have C1 : ∀ W, Calls Tryz.prog 42 #[rv st] W fun e w' => e = .returned (.tuple #[rv (sNum st).2, .int .i64 (sNum st).1]) ∧ Below W.heap.size W w' := fun W => refR_num st.1 st.2 hs W
  have C2 : ∀ W, Calls Tryz.prog 42 #[rv (sNum st).2] W fun e w' => e = .returned (.tuple #[rv (sNum (sNum st).2).2, .int .i64 (sNum (sNum st).2).1]) ∧ Below W.heap.size W w' := fun W => refR_num (sNum st).2.1 (sNum st).2.2 (by omega) W
  have C3 : ∀ W, Calls Tryz.prog 42 #[rv (sNum (sNum st).2).2] W fun e w' => e = .returned (.tuple #[rv (sNum (sNum (sNum st).2).2).2, .int .i64 (sNum (sNum (sNum st).2).2).1]) ∧ Below W.heap.size W w' := fun W => refR_num (sNum (sNum st).2).2.1 (sNum (sNum st).2).2.2 (by omega) W
  generalize e1 : sNum st = s1 at *
  generalize e2 : sNum s1.2 = s2 at *
  generalize e3 : sNum s2.2 = s3 at *
  have C4 : ∀ W, Calls Tryz.prog 42 #[rv s3.2] W fun e w' => e = .returned (.tuple #[rv (sNum s3.2).2, .int .i64 (sNum s3.2).1]) ∧ Below W.heap.size W w' := fun W => refR_num s3.2.1 s3.2.2 (by omega) W
  generalize e4 : sNum s3.2 = s4 at *
  have C5 : ∀ W, Calls Tryz.prog 42 #[rv s4.2] W fun e w' => e = .returned (.tuple #[rv (sNum s4.2).2, .int .i64 (sNum s4.2).1]) ∧ Below W.heap.size W w' := fun W => refR_num s4.2.1 s4.2.2 (by omega) W
  generalize e5 : sNum s4.2 = s5 at *
  have C6 : ∀ W, Calls Tryz.prog 43 #[rv s5.2] W fun e w' => e = .returned (.tuple #[rv (qSt s5.2 (sText s5.2).2), .string (sText s5.2).1]) ∧ Below W.heap.size W w' := fun W => refR_text s5.2.1 s5.2.2 (by omega) W
  generalize e6 : qSt s5.2 (sText s5.2).2 = q6 at *
  generalize (sText s5.2).1 = n6 at *
  have C7 : ∀ W, Calls Tryz.prog 43 #[rv q6] W fun e w' => e = .returned (.tuple #[rv (qSt q6 (sText q6).2), .string (sText q6).1]) ∧ Below W.heap.size W w' := fun W => refR_text q6.1 q6.2 (by omega) W
  generalize qSt q6 (sText q6).2 = q7 at *
  generalize (sText q6).1 = n7 at *
  have C1 := Lib.hid C1
  have C2 := Lib.hid C2
  have C3 := Lib.hid C3
  have C4 := Lib.hid C4
  have C5 := Lib.hid C5
  have C6 := Lib.hid C6
  have C7 := Lib.hid C7
  clear e1 e2 e3 e4 e5 e6 z1 z2 z3 z4 z5 z6 hs
  obtain ⟨n1, t1⟩ := s1
  obtain ⟨n2, t2⟩ := s2
  obtain ⟨n3, t3⟩ := s3
  obtain ⟨n4, t4⟩ := s4
  obtain ⟨n5, t5⟩ := s5
  simp only at C1 C2 C3 C4 C5 C6 C7 ⊢
  have HT := Lib.hid (Tq.start w st)
  go_enter Tryz.func75, Tryz.ntmps75
  go_upto_region 1 with fail
  change Code.wp _ _ _ _ (((w.alloc (.cells (qcs st) 75)).alloc (.cells (qcs (ByteArray.empty, 0)) 75)).alloc (.cells zcs 88))
  generalize ((w.alloc (.cells (qcs st) 75)).alloc (.cells (qcs (ByteArray.empty, 0)) 75)).alloc (.cells zcs 88) = W0 at *
  go_wp2_with (((with_reducible refine ql_load ?_ (.tmp 1) ?_ w.heap.size st ?_ ?_ ?_); rfl; rfl; rfl; exact HT.out.r; simp only [Act.put, List.setIfInBounds_toArray, List.set_cons_zero, List.set_cons_succ]))
  refine (C1.out _).mono ?_
  rintro e w1 ⟨rfl, hb⟩
  have HT1 := Lib.hid (HT.out.below hb)
  have HU1 := Lib.hid (HT1.out.put t1)
  clear hb HT C1
  go_wp2_with (first
    | ((with_reducible refine ql_store ?_ (.tmp 1) (.tmp 14) ?_ w.heap.size t1 ?_ ?_ ?_ ?_); rfl; rfl; rfl; rfl; exact ⟨_, HT1.out.r⟩; simp only [Act.put, List.setIfInBounds_toArray, List.set_cons_zero, List.set_cons_succ])
    | ((with_reducible refine ql_load ?_ (.tmp 1) ?_ w.heap.size t1 ?_ ?_ ?_); rfl; rfl; rfl; exact HU1.out.r; simp only [Act.put, List.setIfInBounds_toArray, List.set_cons_zero, List.set_cons_succ]))
  clear HT1
  generalize w1.setRow w.heap.size (qcs t1) = v1 at *
  refine (C2.out _).mono ?_
  rintro e w2 ⟨rfl, hb⟩
  have HT2 := Lib.hid (HU1.out.below hb)
  have HU2 := Lib.hid (HT2.out.put t2)
  clear hb HU1 C2
  go_wp2_with (first
    | ((with_reducible refine ql_store ?_ (.tmp 1) (.tmp 19) ?_ w.heap.size t2 ?_ ?_ ?_ ?_); rfl; rfl; rfl; rfl; exact ⟨_, HT2.out.r⟩; simp only [Act.put, List.setIfInBounds_toArray, List.set_cons_zero, List.set_cons_succ])
    | ((with_reducible refine ql_load ?_ (.tmp 1) ?_ w.heap.size t2 ?_ ?_ ?_); rfl; rfl; rfl; exact HU2.out.r; simp only [Act.put, List.setIfInBounds_toArray, List.set_cons_zero, List.set_cons_succ]))
  clear HT2
  generalize w2.setRow w.heap.size (qcs t2) = v2 at *
  refine (C3.out _).mono ?_
  rintro e w3 ⟨rfl, hb⟩
  have HT3 := Lib.hid (HU2.out.below hb)
  have HU3 := Lib.hid (HT3.out.put t3)
  clear hb HU2 C3
  go_wp2_with (first
    | ((with_reducible refine ql_store ?_ (.tmp 1) (.tmp 24) ?_ w.heap.size t3 ?_ ?_ ?_ ?_); rfl; rfl; rfl; rfl; exact ⟨_, HT3.out.r⟩; simp only [Act.put, List.setIfInBounds_toArray, List.set_cons_zero, List.set_cons_succ])
    | ((with_reducible refine ql_load ?_ (.tmp 1) ?_ w.heap.size t3 ?_ ?_ ?_); rfl; rfl; rfl; exact HU3.out.r; simp only [Act.put, List.setIfInBounds_toArray, List.set_cons_zero, List.set_cons_succ]))
  clear HT3
  generalize w3.setRow w.heap.size (qcs t3) = v3 at *
  refine (C4.out _).mono ?_
  rintro e w4 ⟨rfl, hb⟩
  have HT4 := Lib.hid (HU3.out.below hb)
  have HU4 := Lib.hid (HT4.out.put t4)
  clear hb HU3 C4
  go_wp2_with (first
    | ((with_reducible refine ql_store ?_ (.tmp 1) (.tmp 29) ?_ w.heap.size t4 ?_ ?_ ?_ ?_); rfl; rfl; rfl; rfl; exact ⟨_, HT4.out.r⟩; simp only [Act.put, List.setIfInBounds_toArray, List.set_cons_zero, List.set_cons_succ])
    | ((with_reducible refine ql_load ?_ (.tmp 1) ?_ w.heap.size t4 ?_ ?_ ?_); rfl; rfl; rfl; exact HU4.out.r; simp only [Act.put, List.setIfInBounds_toArray, List.set_cons_zero, List.set_cons_succ]))
  clear HT4
  generalize w4.setRow w.heap.size (qcs t4) = v4 at *
  refine (C5.out _).mono ?_
  rintro e w5 ⟨rfl, hb⟩
  have HT5 := Lib.hid (HU4.out.below hb)
  have HU5 := Lib.hid (HT5.out.put t5)
  clear hb HU4 C5
  go_wp2_with (first
    | ((with_reducible refine ql_store ?_ (.tmp 1) (.tmp 34) ?_ w.heap.size t5 ?_ ?_ ?_ ?_); rfl; rfl; rfl; rfl; exact ⟨_, HT5.out.r⟩; simp only [Act.put, List.setIfInBounds_toArray, List.set_cons_zero, List.set_cons_succ])
    | ((with_reducible refine ql_load ?_ (.tmp 1) ?_ w.heap.size t5 ?_ ?_ ?_); rfl; rfl; rfl; exact HU5.out.r; simp only [Act.put, List.setIfInBounds_toArray, List.set_cons_zero, List.set_cons_succ]))
  clear HT5
  generalize w5.setRow w.heap.size (qcs t5) = v5 at *
  refine (C6.out _).mono ?_
  rintro e w6 ⟨rfl, hb⟩
  have HT6 := Lib.hid (HU5.out.below hb)
  have HU6 := Lib.hid (HT6.out.put q6)
  clear hb HU5 C6
  go_wp2_with (first
    | ((with_reducible refine ql_store ?_ (.tmp 1) (.tmp 39) ?_ w.heap.size q6 ?_ ?_ ?_ ?_); rfl; rfl; rfl; rfl; exact ⟨_, HT6.out.r⟩; simp only [Act.put, List.setIfInBounds_toArray, List.set_cons_zero, List.set_cons_succ])
    | ((with_reducible refine ql_load ?_ (.tmp 1) ?_ w.heap.size q6 ?_ ?_ ?_); rfl; rfl; rfl; exact HU6.out.r; simp only [Act.put, List.setIfInBounds_toArray, List.set_cons_zero, List.set_cons_succ]))
  clear HT6
  generalize w6.setRow w.heap.size (qcs q6) = v6 at *
  refine (C7.out _).mono ?_
  rintro e w7 ⟨rfl, hb⟩
  have HT7 := Lib.hid (HU6.out.below hb)
  have HU7 := Lib.hid (HT7.out.put q7)
  clear hb HU6 C7
  have HE := Lib.hid (HU7.out.ends ⟨((n1 : Int), (n2 : Int)), ⟨(n3 : Int), (n4 : Int), (n1 : Int)⟩, (n5 : Int), n6, n7⟩)
  go_wp2_with (first
    | ((with_reducible refine ql_store ?_ (.tmp 1) (.tmp 44) ?_ w.heap.size q7 ?_ ?_ ?_ ?_); rfl; rfl; rfl; rfl; exact ⟨_, HT7.out.r⟩; simp only [Act.put, List.setIfInBounds_toArray, List.set_cons_zero, List.set_cons_succ])
    | ((with_reducible refine ql_load ?_ (.tmp 1) ?_ w.heap.size q7 ?_ ?_ ?_); rfl; rfl; rfl; exact HU7.out.r; simp only [Act.put, List.setIfInBounds_toArray, List.set_cons_zero, List.set_cons_succ])
    | ((with_reducible refine ql_store ?_ (.tmp 2) (.tmp 46) ?_ (w.heap.size + 1) q7 ?_ ?_ ?_ ?_); rfl; rfl; rfl; rfl; exact HU7.out.o; simp only [Act.put, List.setIfInBounds_toArray, List.set_cons_zero, List.set_cons_succ])
    | ((with_reducible refine fl_store ?_ (.tmp 3) (.tmp 57) ?_ (w.heap.size + 1 + 1) ⟨((n1 : Int), (n2 : Int)), ⟨(n3 : Int), (n4 : Int), (n1 : Int)⟩, (n5 : Int), n6, n7⟩ ?_ ?_ ?_ ?_); rfl; rfl; rfl; rfl; exact HE.out.2.2.2; simp only [Act.put, List.setIfInBounds_toArray, List.set_cons_zero, List.set_cons_succ]))
  refine bodyPost_ret (retQF rfl _ _ (w.heap.size + 1) (w.heap.size + 1 + 1) q7 ⟨((n1 : Int), (n2 : Int)), ⟨(n3 : Int), (n4 : Int), (n1 : Int)⟩, (n5 : Int), n6, n7⟩ rfl rfl HE.out.1 HE.out.2.1) rfl ?_
  exact ⟨rfl, HE.out.2.2.1⟩
end Go.Proofs.YtkodololdjainaaGreat

namespace Go.Proofs.YtkodololdjainaaGreat
set_option linter.unusedSimpArgs false
set_option maxRecDepth 100000
open Go.RowKit Go.Sort

/-- what take answered, laid into two blocks made -/
def boxQ (w : World) (st : ByteArray × Int) (f : Ft) : World := (((w.alloc (.cells (qcs (ByteArray.empty, 0)) 75)).alloc (.cells zcs 88)).setRow w.heap.size (qcs st)).setRow (w.heap.size + 1) (fcs f).toArray
theorem boxQ_old0 (w : World) : ∃ st, Qd w.heap.size st ((w.alloc (.cells (qcs (ByteArray.empty, 0)) 75)).alloc (.cells zcs 88)) := ⟨_, (Qd.made (ByteArray.empty, 0) w).alloc _⟩
theorem boxQ_old1 (w : World) (st : ByteArray × Int) : ∃ old : Array Value, (((w.alloc (.cells (qcs (ByteArray.empty, 0)) 75)).alloc (.cells zcs 88)).setRow w.heap.size (qcs st)).heap[w.heap.size + 1]? = some (.cells old 88 (0, 0)) ∧ old.size = 8 := by
  have hn : w.heap.size + 1 ≠ w.heap.size := by omega
  refine ⟨zcs, ?_, rfl⟩
  rw [setRow_other _ _ _ _ hn]
  exact heap_alloc2_new w _ _
theorem boxQ_rows (w : World) (st : ByteArray × Int) (f : Ft) : Qd w.heap.size st (boxQ w st f) ∧ FRow (boxQ w st f) (w.heap.size + 1) f ∧ Below w.heap.size w (boxQ w st f) := by
  obtain ⟨s0, h0⟩ := boxQ_old0 w
  obtain ⟨o1, h1, -⟩ := boxQ_old1 w st
  have hn : w.heap.size ≠ w.heap.size + 1 := by omega
  exact ⟨(h0.of_put st).of_set hn _, setRow_heap _ _ _ _ _ _ h1, belowRow (belowRow ((((Below.refl _ w).alloc (Nat.le_refl _) _).alloc (by simp) _)) (Nat.le_refl _) _) (by omega) _⟩
theorem FRow.of_set {w : World} {b c : Nat} {f : Ft} (h : FRow w b f) (hn : b ≠ c) (cs : Array Value) : FRow (w.setRow c cs) b f := by
  unfold FRow; rw [setRow_other _ _ _ _ hn]; exact h
theorem OwnF.of_set {B g : Nat} {v : Value} {l : List Ft} {w : World} (h : OwnF B v l w) (hb : g < B) (cs : Array Value) : OwnF B v l (w.setRow g cs) := by
  unfold OwnF at *
  refine ⟨h.1, ?_⟩
  rcases h.2 with hn | ⟨g', cap, cur, rfl, hB, hg0, rest⟩
  · exact .inl hn
  · have hne : g' ≠ g := by omega
    exact .inr ⟨g', cap, cur, rfl, hB, by rw [setRow_other _ _ _ _ hne]; exact hg0, rest⟩

set_option maxHeartbeats 8000000 in
theorem readFR (s : ByteArray) (hs : s.size ≤ 5000) (w : World) :
    Calls Tryz.prog 45 #[.string s] w fun e w' => ∃ v, e = .returned (.tuple #[v, .int .i64 (readF rdM s).2]) ∧ OwnF w.heap.size v (readF rdM s).1 w' ∧ Below w.heap.size w w' := by
  obtain ⟨i0, hi, hz0, hz1, hz2⟩ := info_parts factInfo
  go_enter Tryz.func45, Tryz.ntmps45
  go_wp2_with fail
  refine (refR_num s 0 (by omega) w).mono ?_
  rintro e w1 ⟨rfl, hb1⟩
  have z1 : (sNum (s, 0)).2.1.size ≤ s.size := sNum_size (s, 0)
  have hr : readF rdM s = if 4096 < (sNum (s, 0)).1 then ([], 3) else if doneS (rdF s).2 ≠ 0 then ([], doneS (rdF s).2) else if chkFs rdM (rdF s).1 ≠ 0 then ([], chkFs rdM (rdF s).1) else ((rdF s).1, 0) := rfl
  have hst : sFacts (sNum (s, 0)).1 (sNum (s, 0)).2 [] = rdF s := rfl
  have hnb : (sNum (s, 0)).2.2 ≠ 0 → (sNum (s, 0)).1 = 0 := fun h => by
    generalize hr : numR s.data.toList = r at *
    obtain ⟨m, k, e⟩ := r
    by_cases he : e = 0
    · exfalso; apply h; simp [sNum, hr, he]
    · simp [sNum, hr, he]
  have HB1 := Lib.hid hb1
  have hs1 := hb1.size
  have HQ1 := Lib.hid (Qd.made (sNum (s, 0)).2 w1)
  clear hb1
  generalize rdF s = T at hr hst
  generalize hn : sNum (s, 0) = nst at *
  obtain ⟨n, t1, e1⟩ := nst
  simp only at hr hst z1 hnb
  have HR := Lib.hid hr
  have HST := Lib.hid (show (((t1, e1) : ByteArray × Int).2 = 0 → sFacts n (t1, e1) [] = T) ∧ (((t1, e1) : ByteArray × Int).2 ≠ 0 → T.2.2 = ((t1, e1) : ByteArray × Int).2) from ⟨fun _ => hst, fun h => by rw [← hst, sFacts_bad n (t1, e1) [] h]⟩)
  clear hr hst hn
  by_cases hbig : 4096 < n
  · have he1 : e1 = 0 := Classical.byContradiction fun h => by have := hnb h; omega
    subst he1
    have hbi : decide ((4096 : Int) < (n : Int)) = true := by simp; omega
    have hj := HR.out
    rw [if_pos hbig] at hj
    have HF := Lib.hid hj
    clear hj hnb HQ1 HST
    go_wp2_with fail
    go_ret2
    rw [HF.out]
    exact ⟨_, rfl, ownF_nil _ _, HB1.out.alloc hs1 _⟩
  · have hbi : decide ((4096 : Int) < (n : Int)) = false := by simp; omega
    have hj := HR.out
    rw [if_neg hbig] at hj
    have HJ := Lib.hid hj
    clear hj HR
    have hgo : ∀ Q : Prop, ((e1 == 0) = true → Q) → ((e1 == 0) = false → Q) → Q := fun Q h1 h2 => by cases h : (e1 == 0) <;> simp_all
    refine hgo _ ?_ ?_
    all_goals
      intro he1
      clear hgo hnb
      go_wp2_with fail
      go_loopw [6, 7] (fun v i wr => ∃ (k : Nat) (acc : List Ft) (st : ByteArray × Int), i = .int .i64 k ∧ k ≤ n ∧ acc.length = k ∧ st.1.size ≤ s.size ∧ Hid (∀ f ∈ acc, f.v.size ≤ 5000) ∧ Hid ((st.2 = 0 → sFacts (n - k) st acc = T) ∧ (st.2 ≠ 0 → T.2.2 = st.2)) ∧ OwnF (w1.heap.size + 1) v acc wr ∧ Qd w1.heap.size st wr ∧ Below w.heap.size w wr) (fun _ i _ => n - (intOf i).toNat)
      case atStart => exact ⟨0, [], (t1, e1), rfl, Nat.zero_le _, rfl, z1, Lib.hid (fun f hf => by simp at hf), by rw [Nat.sub_zero]; exact HST, ownF_nil _ _, HQ1.out, HB1.out.alloc hs1 _⟩
      case round =>
        clear he1 HQ1 HST
        obtain ⟨k, acc, st, rfl, hk, hacc, hss, HVV, HQ, hown, hrd, hb⟩ := hrel
        have HC := Lib.hid hacc
        have H3 := Lib.hid (And.intro hown (And.intro hrd hb))
        have hlr := hrd.lt
        have q0 := hrd.left
        have q1 := hrd.err
        clear hacc hown hrd hb
        by_cases hlt : k < n
        · have hki : decide ((k : Int) < (n : Int)) = true := by simp; omega
          have hcut : n - k = (n - (k + 1)) + 1 := by omega
          have HU := Lib.hid hcut
          clear hcut
          by_cases h0 : st.2 = 0
          · have he : (st.2 == 0) = true := by simp [h0]
            have hqz := qFact_size st
            have HTK := Lib.hid (fun W => takeFR st (by omega) W)
            have HNX := Lib.hid (show ((qFact st).2.2 = 0 → sFacts (n - (k + 1)) (qFact st).2 (acc ++ [(qFact st).1]) = T) ∧ ((qFact st).2.2 ≠ 0 → T.2.2 = (qFact st).2.2) from by
              have hT := HQ.out.1 h0
              rw [HU.out] at hT
              have hT2 : sFacts (n - (k + 1)) (sFact st).2 (acc ++ [(sFact st).1]) = T := hT
              refine ⟨fun h => ?_, fun h => ?_⟩
              · rw [qFact_ok (by rw [← qFact_err]; exact h)]; exact hT2
              · rw [qFact_err] at h ⊢
                rw [← hT2, sFacts_bad _ _ _ h])
            have HVV2 := Lib.hid (show ∀ f ∈ acc ++ [(qFact st).1], f.v.size ≤ 5000 from fun f hf => by
              rcases List.mem_append.1 hf with hf | hf
              · exact HVV.out f hf
              · rw [List.mem_singleton.1 hf]; have := hqz.2; omega)
            have hzz : (qFact st).2.1.size ≤ s.size := by omega
            clear h0 hqz HQ
            generalize (qFact st).2 = st4 at *
            generalize (qFact st).1 = f at *
            go_wp2_with ((with_reducible refine ql_load ?_ (.tmp 4) ?_ w1.heap.size st ?_ ?_ ?_); rfl; rfl; rfl; exact H3.out.2.1; simp only [Act.put, List.setIfInBounds_toArray, List.set_cons_zero, List.set_cons_succ])
            refine (HTK.out _).mono ?_
            rintro e w3 ⟨rfl, hb3⟩
            have hB3 := H3.out.2.2.trans (hb3.mono H3.out.2.2.size)
            have HX := Lib.hid (boxQ_rows w3 st4 f)
            have hlt3 : w1.heap.size < w3.heap.size := Nat.lt_of_lt_of_le hlr hb3.size
            have HQ4 := Lib.hid ((H3.out.2.1.below hb3 hlr).below HX.out.2.2 hlt3)
            have HO4 := Lib.hid ((H3.out.1.below hb3 (Nat.le_refl _)).below HX.out.2.2 (Nat.le_refl _))
            have HB4 := Lib.hid (hB3.trans (HX.out.2.2.mono hB3.size))
            have hne1 : w3.heap.size + 1 ≠ w1.heap.size := by omega
            have hne0 : w3.heap.size ≠ w1.heap.size := by omega
            have HQ5 := Lib.hid (HQ4.out.of_put st4)
            have HO5 := Lib.hid (HO4.out.of_set (g := w1.heap.size) (by omega) (qcs st4))
            have HB5 := Lib.hid (belowRow HB4.out hs1 (qcs st4))
            have HF5 := Lib.hid (HX.out.2.1.of_set hne1 (qcs st4))
            have hs4 : w3.heap.size + 1 < (boxQ w3 st4 f).heap.size := HX.out.2.1.lt
            clear hb3 hB3 H3 HTK HO4 HB4 q0 q1 hne1 hne0
            go_upto_region 9 with (first
              | ((with_reducible refine ql_store ?_ (.tmp 8) (.tmp 38) ?_ w3.heap.size st4 ?_ ?_ ?_ ?_); rfl; rfl; rfl; rfl; exact boxQ_old0 w3; simp only [Act.put, List.setIfInBounds_toArray, List.set_cons_zero, List.set_cons_succ])
              | ((with_reducible refine fl_store ?_ (.tmp 9) (.tmp 39) ?_ (w3.heap.size + 1) f ?_ ?_ ?_ ?_); rfl; rfl; rfl; rfl; exact boxQ_old1 w3 st4; simp only [Act.put, List.setIfInBounds_toArray, List.set_cons_zero, List.set_cons_succ]))
            change Code.wp _ _ _ _ (boxQ w3 st4 f)
            have HQ8 := Lib.hid HX.out.1
            clear HX
            generalize boxQ w3 st4 f = w4 at *
            go_upto_region 10 with (first
              | ((with_reducible refine ql_load ?_ (.tmp 8) ?_ w3.heap.size st4 ?_ ?_ ?_); rfl; rfl; rfl; exact HQ8.out; simp only [Act.put, List.setIfInBounds_toArray, List.set_cons_zero, List.set_cons_succ])
              | ((with_reducible refine ql_store ?_ (.tmp 4) (.tmp 40) ?_ w1.heap.size st4 ?_ ?_ ?_ ?_); rfl; rfl; rfl; rfl; exact ⟨_, HQ4.out⟩; simp only [Act.put, List.setIfInBounds_toArray, List.set_cons_zero, List.set_cons_succ]))
            have hs5 : w3.heap.size + 1 < (w4.setRow w1.heap.size (qcs st4)).heap.size := by simpa using hs4
            clear HQ8 HQ4 hs4
            generalize w4.setRow w1.heap.size (qcs st4) = w5 at *
            have hne : ∀ j, (u6 : Value).ownBlock = some j → w1.heap.size + 1 ≤ j := fun j hj => (World.ownsRow.lt HO5.out j hj).1
            have HNE := Lib.hid hne
            clear hne
            go_wp2_with (first
              | ((with_reducible refine fl_load ?_ (.tmp 9) ?_ (w3.heap.size + 1) 0 f ?_ ?_ ?_); rfl; rfl; rfl; exact HF5.out.range; simp only [Act.put, List.setIfInBounds_toArray, List.set_cons_zero, List.set_cons_succ])
              | ((with_reducible refine wpList_build1F ?_ (.tmp 42) ?_ f ?_ ?_); rfl; rfl; rfl; simp only [Act.put, List.setIfInBounds_toArray, List.set_cons_zero, List.set_cons_succ])
              | (at_builtin; refine wpList_append_own _ rfl _ _ 26 rfl (w1.heap.size + 1) 88 i0 zeroF 8 80 Tryz.underlying26 hi hz0 hz1 hz2 rfl (by decide) _ _ _ rfl (World.ownsRow.alloc HO5.out _) ⟨w5.heap.size, 0, none⟩ 1 1 (fcs f) rfl rfl ?c1 ?c2 ?c3 ?c4 ?c5 ?_))
            case c1 =>
              intro j u hj
              have e1 : ∀ k, (⟨w5.heap.size, 0, none⟩ : Addr).add k = ⟨w5.heap.size, 0 + k, none⟩ := fun k => by cases k <;> simp [Addr.add]
              rw [e1]
              exact (FRow.new w5 f).range j u hj
            case c2 => exact fcs_cell f
            case c3 => have := HC.out; unfold maxLen; omega
            case c4 => have := HC.out; omega
            case c5 => simp; omega
            intro v' w6 hown6 hg6 _
            have hrd6 : Qd w1.heap.size st4 w6 := (HQ5.out.alloc _).grown hg6 (fun j hj => by have := HNE.out j hj; omega)
            have hB6 : Below w.heap.size w w6 := (HB5.out.alloc HB5.out.size _).grown hg6 (by have := HB5.out.size; simp; omega) (fun j hj => by have := HNE.out j hj; omega)
            have hown7 : OwnF (w1.heap.size + 1) v' (acc ++ [f]) w6 := by unfold OwnF; rw [List.length_append, rowF_append, rowF_one]; exact hown6
            have H6 := Lib.hid (And.intro hown7 (And.intro hrd6 hB6))
            clear hown6 hg6 hrd6 hB6 hown7 HO5 HQ5 HB5 HF5
            go_wp2_with fail
            go_roundw
            case rel => exact ⟨k + 1, _, st4, by go_num, by omega, by rw [List.length_append, HC.out]; rfl, hzz, HVV2, HNX, H6.out.1, H6.out.2.1, H6.out.2.2⟩
            case measure => simp [intOf]; omega
          · have hT : T.2.2 = st.2 := HQ.out.2 h0
            have hTn : T.2.2 ≠ 0 := by rw [hT]; exact h0
            have hD : doneS T.2 = st.2 := by unfold doneS; rw [if_pos hTn, hT]
            have hD2 : doneS st = st.2 := by unfold doneS; rw [if_pos h0]
            have hb0 : (st.2 == 0) = false := by simp [h0]
            have hne : (st.2 != 0) = true := by simp [h0]
            have hj := HJ.out
            rw [hD, if_pos h0] at hj
            have HF := Lib.hid hj
            have HDE := Lib.hid hD2
            have HDN := Lib.hid (fun W => show Calls Tryz.prog 44 #[rv st] W fun e w' => e = .returned (.int .i64 (doneS st)) ∧ W.alloc (.cells (qcs st) 75) = w' from refR_done st.1 st.2 W)
            rw [hD2] at HDN
            clear hj HJ hT hD h0 hTn hD2
            go_wp2_with ((with_reducible refine ql_load ?_ (.tmp 4) ?_ w1.heap.size st ?_ ?_ ?_); rfl; rfl; rfl; exact H3.out.2.1; simp only [Act.put, List.setIfInBounds_toArray, List.set_cons_zero, List.set_cons_succ])
            refine (HDN.out _).mono ?_
            rintro e w6 ⟨rfl, hw6⟩
            have HB6 := Lib.hid (show Below w.heap.size w w6 from by rw [← hw6]; exact H3.out.2.2.alloc H3.out.2.2.size _)
            clear hw6
            go_wp2_with fail
            go_ret2
            rw [HF.out]
            exact ⟨_, rfl, ownF_nil _ _, HB6.out⟩
        · obtain rfl : k = n := by omega
          have hki : decide ((k : Int) < (k : Int)) = false := by simp
          have hdT : doneS T.2 = doneS st ∧ (doneS st = 0 → T.1 = acc) := by
            by_cases h0 : st.2 = 0
            · have hT := HQ.out.1 h0
              rw [Nat.sub_self] at hT
              have hT2 : (acc, st) = T := hT
              rw [← hT2]
              exact ⟨rfl, fun _ => rfl⟩
            · have hT := HQ.out.2 h0
              have h1 : doneS T.2 = st.2 := by unfold doneS; rw [if_pos (by rw [hT]; exact h0), hT]
              have h2 : doneS st = st.2 := by unfold doneS; rw [if_pos h0]
              exact ⟨h1.trans h2.symm, fun h => absurd (h2.symm.trans h) h0⟩
          have hj := HJ.out
          rw [hdT.1] at hj
          have HJ2 := Lib.hid hj
          have HTA := Lib.hid hdT.2
          have HDN := Lib.hid (fun W => show Calls Tryz.prog 44 #[rv st] W fun e w' => e = .returned (.int .i64 (doneS st)) ∧ W.alloc (.cells (qcs st) 75) = w' from refR_done st.1 st.2 W)
          clear hj HJ hdT HQ
          by_cases hD : doneS st = 0
          · have hj := HJ2.out
            rw [if_neg (fun h => h hD), HTA.out hD] at hj
            have HJ3 := Lib.hid hj
            rw [hD] at HDN
            obtain ⟨da, dc, hv, hdin, hdl⟩ := H3.out.1.fin
            rw [HC.out] at hv
            subst hv
            have HDI := Lib.hid hdin
            have hck := fun W (h : FIn W da acc) => chkFsR acc da dc W h hdl HVV.out
            rw [HC.out] at hck
            have HCK := Lib.hid hck
            clear hj HJ2 hD hdin hck HTA
            go_wp2_with ((with_reducible refine ql_load ?_ (.tmp 4) ?_ w1.heap.size st ?_ ?_ ?_); rfl; rfl; rfl; exact H3.out.2.1; simp only [Act.put, List.setIfInBounds_toArray, List.set_cons_zero, List.set_cons_succ])
            refine (HDN.out _).mono ?_
            rintro e w6 ⟨rfl, hw6⟩
            have hb6 : Below wr.heap.size wr w6 := by rw [← hw6]; exact (Below.refl _ _).alloc (Nat.le_refl _) _
            have HDI6 := Lib.hid (HDI.out.below hb6)
            have HO6 := Lib.hid (H3.out.1.below hb6 (Nat.le_refl _))
            have HB6 := Lib.hid (H3.out.2.2.trans (hb6.mono H3.out.2.2.size))
            clear hw6 hb6 HDI H3 q0 q1
            go_wp2_with fail
            refine (HCK.out _ HDI6.out).mono ?_
            rintro e w7 ⟨rfl, hb7⟩
            have HO7 := Lib.hid ((HO6.out.below hb7 (Nat.le_refl _)).mono (show w.heap.size ≤ w1.heap.size + 1 by omega))
            have HB7 := Lib.hid (HB6.out.trans (hb7.mono HB6.out.size))
            clear hb7 HO6 HCK
            by_cases hE : chkFs rdM acc = 0
            · have hj := HJ3.out
              rw [if_neg (fun h => h hE)] at hj
              have HF := Lib.hid hj
              have HE := Lib.hid hE
              clear hj HJ3 hE
              go_wp2_with (simp only [HE.out])
              go_ret2
              rw [HF.out]
              exact ⟨_, rfl, HO7.out, HB7.out⟩
            · have hj := HJ3.out
              rw [if_pos hE] at hj
              have HF := Lib.hid hj
              have hne : (chkFs rdM acc != 0) = true := by simp [hE]
              clear hj HJ3 hE
              go_wp2_with fail
              go_ret2
              rw [HF.out]
              exact ⟨_, rfl, ownF_nil _ _, HB7.out⟩
          · have hj := HJ2.out
            rw [if_pos hD] at hj
            have HF := Lib.hid hj
            have hne : (doneS st != 0) = true := by simp [hD]
            clear hj HJ2 hD HTA
            go_wp2_with ((with_reducible refine ql_load ?_ (.tmp 4) ?_ w1.heap.size st ?_ ?_ ?_); rfl; rfl; rfl; exact H3.out.2.1; simp only [Act.put, List.setIfInBounds_toArray, List.set_cons_zero, List.set_cons_succ])
            refine (HDN.out _).mono ?_
            rintro e w6 ⟨rfl, hw6⟩
            have HB6 := Lib.hid (show Below w.heap.size w w6 from by rw [← hw6]; exact H3.out.2.2.alloc H3.out.2.2.size _)
            clear hw6
            go_wp2_with fail
            go_ret2
            rw [HF.out]
            exact ⟨_, rfl, ownF_nil _ _, HB6.out⟩
end Go.Proofs.YtkodololdjainaaGreat
