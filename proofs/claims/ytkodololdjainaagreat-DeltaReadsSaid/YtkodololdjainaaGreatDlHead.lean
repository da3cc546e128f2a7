/-
  delta's reader: the head of an update.
-/
import Derived.Test.YtkodololdjainaaGreatGDelO
import Derived.Test.YtkodololdjainaaGreatGDelN
import Derived.Test.YtkodololdjainaaGreatGDelK
namespace Go.Proofs.YtkodololdjainaaGreat
set_option linter.unusedSimpArgs false
set_option linter.unusedVariables false
set_option maxRecDepth 100000
open Go.RowKit Go.Sort

theorem yield_cP {ops : Array Oper} {S : World → Prop} {o : Oper} {a : Act} (hw : Region.wanted o (yielded ops a.tmps) = true) (x : Operand) (ho : o.op = .load 64 x) (g off : Nat) (p : Option Addr) (hx : a.eval x = .pointer (some ⟨g, off, none⟩))
    (hg : ∀ w, S w → w.cell? ⟨g, off, none⟩ = some (.pointer p)) : YieldsIf Tryz.prog ops S o (.pointer p) a := by
  refine .inl ⟨hw, fun w hS => ?_⟩
  have h0 := hg w hS
  unfold execOp
  simp only [ho, hx]
  go_simp
theorem Rd.setRow {b g : Nat} {st : ByteArray × Int} {w : World} (h : Rd b st w) (hn : b ≠ g) (cs : Array Value) : Rd b st (w.setRow g cs) := by
  unfold Rd; rw [setRow_other _ _ _ _ hn]; exact h
theorem Blk.grown {w w' : World} {b r : Nat} {T : TypeId} {A : Array Value} (h : Blk w b T A) (hg : w.grownBy w' (some r)) (hn : b ≠ r) : Blk w' b T A :=
  (hg.block b h.lt (fun e => hn (Option.some.inj e))).trans h
theorem Blk.drew1 {w : World} {b : Nat} {T : TypeId} {A : Array Value} (h : Blk w b T A) : Blk w.drew b T A := h
/-- what the head says -/
def hdQ (st : ByteArray × Int) : Dl := ⟨(((sNum st).1 : Nat), ((sNum (sNum st).2).1 : Nat)), ⟨((sNum (sNum (sNum st).2).2).1 : Nat), ((sNum (sNum (sNum (sNum st).2).2).2).1 : Nat), ((sNum st).1 : Nat)⟩, [], []⟩
def stQ (st : ByteArray × Int) : ByteArray × Int := (sNum (sNum (sNum (sNum st).2).2).2).2
theorem builtHd (a b c d e : Int) : Tryz.prog.built 29 [(0, .agg #[.int .i64 a, .int .i64 b]), (1, .agg #[.int .i64 c, .int .i64 d, .int .i64 e])] = some (dlc ⟨(a, b), ⟨c, d, e⟩, [], []⟩ none 0 none 0) := by kernel_rfl
theorem yield_BHd {ops : Array Oper} {S : World → Prop} {o : Oper} {a : Act} (hw : Region.wanted o (yielded ops a.tmps) = true) (x y : Operand) (ho : o.op = .build 29 #[(0, x), (1, y)]) (i j k l m : Int)
    (hx : a.eval x = .agg #[.int .i64 i, .int .i64 j]) (hy : a.eval y = .agg #[.int .i64 k, .int .i64 l, .int .i64 m]) : YieldsIf Tryz.prog ops S o (.agg (dlc ⟨(i, j), ⟨k, l, m⟩, [], []⟩ none 0 none 0)) a := by
  refine .inl ⟨hw, fun w _ => ?_⟩
  have h := run_build (P := Tryz.prog) w 29 #[(0, .agg #[.int .i64 i, .int .i64 j]), (1, .agg #[.int .i64 k, .int .i64 l, .int .i64 m])] _ (builtHd i j k l m)
  unfold execOp
  simp only [ho, List.map_toArray, List.map_cons, List.map_nil, hx, hy, Sem.run_bind, Sem.run_pure, Result.andThen_ok, h]
theorem dot2 (a b : Int) : (Tryz.prog.info? 23).map (·.size) = some (#[.int .i64 a, .int .i64 b] : Array Value).size := dotSize

theorem oneD2 (a b : Int) : (#[.int .i64 a, .int .i64 b] : Array Value).all (·.oneCell') = true := by simp [Value.oneCell']

/-- what holds while the head is read: the reader's box, the answer's block -/
structure HdK (w : World) (b : Nat) (U : World) : Prop where
  box : Blk U w.heap.size 67 #[.pointer (some ⟨b, 0, none⟩)]
  res : ∃ old, Blk U (w.heap.size + 1) 29 old ∧ old.size = 7
  gr : w.grownBy U (some b)
theorem HdK.grow {w : World} {b : Nat} {U V : World} (h : HdK w b U) (hg : U.grownBy V (some b)) (hb : b < w.heap.size) : HdK w b V := by
  obtain ⟨old, ho, hs⟩ := h.res
  exact ⟨h.box.grown hg (by omega), ⟨old, ho.grown hg (by omega), hs⟩, fgrown_trans h.gr hg⟩
theorem HdK.alloc {w : World} {b : Nat} {U : World} (h : HdK w b U) (o : Obj) : HdK w b (U.alloc o) := by
  obtain ⟨old, ho, hs⟩ := h.res
  exact ⟨h.box.alloc o, ⟨old, ho.alloc o, hs⟩, fgrown_alloc h.gr o⟩
theorem HdK.setRow {w : World} {b g : Nat} {U : World} (h : HdK w b U) (hg : w.heap.size + 2 ≤ g) (cs : Array Value) : HdK w b (U.setRow g cs) := by
  obtain ⟨old, ho, hs⟩ := h.res
  exact ⟨h.box.other (by omega) cs, ⟨old, ho.other (by omega) cs, hs⟩, fgrown_setRow h.gr (by omega) cs⟩
theorem HdK.drew {w : World} {b : Nat} {U : World} (h : HdK w b U) : HdK w b U.drew := ⟨h.box, h.res, ⟨h.gr.os, h.gr.tape, h.gr.output, h.gr.size, h.gr.block⟩⟩
theorem HdK.lt {w : World} {b : Nat} {U : World} (h : HdK w b U) : w.heap.size + 2 ≤ U.heap.size := by
  obtain ⟨old, ho, -⟩ := h.res
  have := ho.lt
  omega
/-- .. with the name -/
structure HdD (w : World) (b g : Nat) (x y : Int) (U : World) : Prop where
  k : HdK w b U
  dot : Blk U g 23 #[.int .i64 x, .int .i64 y]
  lo : w.heap.size + 2 ≤ g
theorem HdD.grow {w : World} {b g : Nat} {x y : Int} {U V : World} (h : HdD w b g x y U) (hg : U.grownBy V (some b)) (hb : b < w.heap.size) : HdD w b g x y V :=
  ⟨h.k.grow hg hb, h.dot.grown hg (by have := h.lo; omega), h.lo⟩
theorem HdD.drew {w : World} {b g : Nat} {x y : Int} {U : World} (h : HdD w b g x y U) : HdD w b g x y U.drew := ⟨h.k.drew, h.dot, h.lo⟩
theorem HdD.range {w : World} {b g : Nat} {x y : Int} {U : World} (h : HdD w b g x y U) : U.rangeAt g 0 [.int .i64 x, .int .i64 y] := h.dot.range 0 _ fun j v hv => by rw [Nat.zero_add]; simpa using hv
theorem HdD.put {w : World} {b g : Nat} {x y : Int} {U : World} (h : HdD w b g x y U) (e : Dl) :
    DBlk (U.setRow (w.heap.size + 1) (dlc e none 0 none 0)) (w.heap.size + 1) e none 0 none 0 ∧ HdD w b g x y (U.setRow (w.heap.size + 1) (dlc e none 0 none 0)) := by
  obtain ⟨old, ho, hs⟩ := h.k.res
  have hl := h.lo
  exact ⟨ho.put _, ⟨h.k.box.other (by omega) _, ⟨_, ho.put _, rfl⟩, fgrown_setRow h.k.gr (by omega) _⟩, h.dot.other (by omega) _, h.lo⟩

set_option maxHeartbeats 8000000 in
theorem headC (b : Nat) (st : ByteArray × Int) (w : World) (h : Rd b st w) (hs : st.1.size ≤ 9223372036854775807) :
    Calls Tryz.prog 37 #[.agg #[.pointer (some ⟨b, 0, none⟩)]] w fun v w' => v = .returned (.agg (dlc (hdQ st) none 0 none 0)) ∧ Rd b (stQ st) w' ∧ w.grownBy w' (some b) := by
  have hlt := h.lt
  have z1 := sNum_size st
  have z2 := sNum_size (sNum st).2
  have z3 := sNum_size (sNum (sNum st).2).2
  have hq1 : hdQ st = ⟨(((sNum st).1 : Nat), ((sNum (sNum st).2).1 : Nat)), ⟨((sNum (sNum (sNum st).2).2).1 : Nat), ((sNum (sNum (sNum (sNum st).2).2).2).1 : Nat), ((sNum st).1 : Nat)⟩, [], []⟩ := rfl
  have hq2 : stQ st = (sNum (sNum (sNum (sNum st).2).2).2).2 := rfl
  rw [hq1, hq2]
  generalize e1 : sNum st = s1 at *
  generalize e2 : sNum s1.2 = s2 at *
  generalize e3 : sNum s2.2 = s3 at *
  generalize e4 : sNum s3.2 = s4 at *
  have C1 := Lib.hid (fun W (hR : Rd b st W) => rnum_any b st W hR hs)
  have C2 := Lib.hid (fun W (hR : Rd b s1.2 W) => rnum_any b s1.2 W hR (by omega))
  have C3 := Lib.hid (fun W (hR : Rd b s2.2 W) => rnum_any b s2.2 W hR (by omega))
  have C4 := Lib.hid (fun W (hR : Rd b s3.2 W) => rnum_any b s3.2 W hR (by omega))
  rw [e1] at C1
  rw [e2] at C2
  rw [e3] at C3
  rw [e4] at C4
  clear e1 e2 e3 e4 z1 z2 z3 hs hq1 hq2
  obtain ⟨n1, t1⟩ := s1
  obtain ⟨n2, t2⟩ := s2
  obtain ⟨n3, t3⟩ := s3
  obtain ⟨n4, t4⟩ := s4
  simp only at C1 C2 C3 C4 ⊢
  have e1 : (w.alloc (.cells #[.pointer (some ⟨b, 0, none⟩)] 67)).heap.size = w.heap.size + 1 := World.size_alloc _ _
  have hx := Blk.new (w.alloc (.cells #[.pointer (some ⟨b, 0, none⟩)] 67)) 29 (dlc zDl none 0 none 0)
  rw [e1] at hx
  have H0 : Hid (HdK w b ((w.alloc (.cells #[.pointer (some ⟨b, 0, none⟩)] 67)).alloc (.cells (dlc zDl none 0 none 0) 29))) :=
    Lib.hid ⟨(Blk.new w _ _).alloc _, ⟨_, hx, rfl⟩, fgrown_alloc (World.grownBy_alloc w _ _) _⟩
  have HR0 : Hid (Rd b st ((w.alloc (.cells #[.pointer (some ⟨b, 0, none⟩)] 67)).alloc (.cells (dlc zDl none 0 none 0) 29))) :=
    Lib.hid (h.below (((Below.refl _ w).alloc (Nat.le_refl _) _).alloc (by rw [e1]; omega) _) hlt)
  clear h hx e1
  go_enter Tryz.func37, Tryz.ntmps37
  go_upto_region 1 with fail
  change Code.wp _ _ _ _ ((w.alloc (.cells #[.pointer (some ⟨b, 0, none⟩)] 67)).alloc (.cells (dlc zDl none 0 none 0) 29))
  generalize (w.alloc (.cells #[.pointer (some ⟨b, 0, none⟩)] 67)).alloc (.cells (dlc zDl none 0 none 0) 29) = W at *
  go_cut [3] (fun p U => ∃ g : Nat, p = .pointer (some ⟨g, 0, none⟩) ∧ HdD w b g (n1 : Int) (n2 : Int) U ∧ Rd b t2 U)
  case first =>
    refine wp_region_held (S := fun U => HdK w b U) (by kernel_rfl) ?_
    change wpAnyH _ _ _ _ _ _ _ _ W.drew
    have K0 : (fun U => HdK w b U) W.drew := H0.out.drew
    have HR0 := Lib.hid HR0.out.drew1
    refine wpAnyH_take (i := 0) (oi := { dst := some 4, op := _, type := _, pos := _, after := _, guard := _ }) (v := ?v1) rfl (by kernel_rfl) (by kernel_rfl) (by kernel_rfl) (fun _ _ _ h => h) (Or.inl ⟨by rfl, ?hy1⟩) K0 ?rest1
    case hy1 => (intro w hSw; (try dsimp only at hSw); first | (go_simp; done) | (go_simp; with_reducible rfl))
    try simp only [Act.put, List.setIfInBounds_toArray, List.set_cons_zero, List.set_cons_succ]
    refine wpAnyH_take (i := 1) (oi := { dst := some 5, op := _, type := _, pos := _, after := _, guard := _ }) rfl (by kernel_rfl) (by kernel_rfl) (by kernel_rfl) (fun _ _ _ h => h) (yield_cP (by rfl) (.tmp 4) rfl w.heap.size 0 (some ⟨b, 0, none⟩) rfl (fun U hU => hU.box.cell rfl)) K0 ?_
    try simp only [Act.put, List.setIfInBounds_toArray, List.set_cons_zero, List.set_cons_succ]
    refine wpAnyH_take (i := 3) (oi := { dst := some 7, op := _, type := _, pos := _, after := _, guard := _ }) (v := ?v2) rfl (by kernel_rfl) (by kernel_rfl) (by kernel_rfl) (fun _ _ _ h => h) (Or.inl ⟨by rfl, ?hy2⟩) K0 ?rest2
    case hy2 => (intro w hSw; (try dsimp only at hSw); first | (go_simp; done) | (go_simp; with_reducible rfl))
    try simp only [Act.put, List.setIfInBounds_toArray, List.set_cons_zero, List.set_cons_succ]
    refine wpAnyH_take (i := 4) (oi := { dst := some 8, op := _, type := _, pos := _, after := _, guard := _ }) rfl (by kernel_rfl) (by kernel_rfl) (by kernel_rfl) (fun _ _ _ h => h) (yield_cP (by rfl) (.tmp 7) rfl w.heap.size 0 (some ⟨b, 0, none⟩) rfl (fun U hU => hU.box.cell rfl)) K0 ?_
    try simp only [Act.put, List.setIfInBounds_toArray, List.set_cons_zero, List.set_cons_succ]
    refine wpAnyH_ready (rs := [2, 7]) (by kernel_rfl) (by simp) ?_
    refine AllReadyH.cons (o := { dst := some 6, op := _, type := _, pos := _, after := _, guard := _ }) rfl (fun K hK => ?_) (AllReadyH.cons (o := { dst := some 3, op := _, type := _, pos := _, after := _, guard := _ }) rfl (fun K hK => ?_) AllReadyH.nil)
    · skip
      go_simp
      refine (C1.out _ HR0.out).mono ?_
      rintro v u2 ⟨rfl, hR, hg⟩
      have K2 := K0.grow hg hlt
      have HR2 := Lib.hid hR
      clear hR hg
      refine hK.out _ _ K2 (fun _ => ?_)
      clear hK K
      try simp only [Act.put, List.setIfInBounds_toArray, List.set_cons_zero, List.set_cons_succ]
      refine wpAnyH_ready (rs := [5, 7]) (by kernel_rfl) (by simp) ?_
      refine AllReadyH.cons (o := { dst := some 9, op := _, type := _, pos := _, after := _, guard := _ }) rfl (fun K hK => ?_) (AllReadyH.cons (o := { dst := some 3, op := _, type := _, pos := _, after := _, guard := _ }) rfl (fun K hK => ?_) AllReadyH.nil)
      · skip
        go_simp
        refine (C2.out _ HR2.out).mono ?_
        rintro v u5 ⟨rfl, hR, hg⟩
        have K5 := K2.grow hg hlt
        have HR5 := Lib.hid hR
        clear hR hg
        refine hK.out _ _ K5 (fun _ => ?_)
        clear hK K
        try simp only [Act.put, List.setIfInBounds_toArray, List.set_cons_zero, List.set_cons_succ]
        refine wpAnyH_take (i := 6) (oi := { dst := some 10, op := _, type := _, pos := _, after := _, guard := _ }) (v := ?v3) rfl (by kernel_rfl) (by kernel_rfl) (by kernel_rfl) (fun _ _ _ h => h) (Or.inl ⟨by rfl, ?hy3⟩) K5 ?rest3
        case hy3 => (intro w hSw; (try dsimp only at hSw); first | (go_simp; done) | (go_simp; with_reducible rfl))
        try simp only [Act.put, List.setIfInBounds_toArray, List.set_cons_zero, List.set_cons_succ]
        refine wpAnyH_ready (rs := [7]) (by kernel_rfl) (by simp) ?_
        refine AllReadyH.cons (o := { dst := some 3, op := _, type := _, pos := _, after := _, guard := _ }) rfl (fun K hK => ?_) AllReadyH.nil
        go_simp
        have HA7 := Lib.hid (And.intro (Blk.new (u5) 23 #[.int .i64 0, .int .i64 0]) (show w.heap.size + 2 ≤ (u5).heap.size from K5.lt))
        have K7 := K5.alloc (.cells #[.int .i64 0, .int .i64 0] 23)
        have HR7 := Lib.hid (HR5.out.below (lowA (u5) (.cells #[.int .i64 0, .int .i64 0] 23)) HR5.out.lt)
        refine hK.out _ _ K7 (fun _ => ?_)
        clear hK K
        try simp only [Act.put, List.setIfInBounds_toArray, List.set_cons_zero, List.set_cons_succ]
        refine wpAnyH_ready (rs := [8]) (by kernel_rfl) (by simp) ?_
        refine AllReadyH.cons (o := { dst := none, op := _, type := _, pos := _, after := _, guard := _ }) rfl (fun K hK => ?_) AllReadyH.nil
        refine draw_storeB rfl 23 (.tmp 3) (.tmp 10) rfl (u5.heap.size) #[.int .i64 (n1 : Int), .int .i64 (n2 : Int)] rfl rfl (dot2 _ _) (oneD2 _ _) ⟨_, HA7.out.1, rfl⟩ ?_
        have K8 := K7.setRow HA7.out.2 #[.int .i64 (n1 : Int), .int .i64 (n2 : Int)]
        have HZ := Lib.hid (show HdD w b (u5.heap.size) (n1 : Int) (n2 : Int) ((u5.alloc (.cells #[.int .i64 0, .int .i64 0] 23)).setRow (u5.heap.size) #[.int .i64 (n1 : Int), .int .i64 (n2 : Int)]) from ⟨K8, HA7.out.1.put _, HA7.out.2⟩)
        have HY := Lib.hid (HR7.out.setRow (g := u5.heap.size) (by have := HA7.out.2; omega) #[.int .i64 (n1 : Int), .int .i64 (n2 : Int)])
        refine hK.out _ _ K8 (fun _ => ?_)
        clear hK K
        try simp only [Act.put, List.setIfInBounds_toArray, List.set_cons_zero, List.set_cons_succ]
        refine wpAnyH_done (by kernel_rfl) ?_ _
        try simp only [Act.put, List.setIfInBounds_toArray, List.set_cons_zero, List.set_cons_succ]
        go_wp2_with fail
        go_meet
        exact ⟨_, rfl, HZ.out, HY.out⟩
      · skip
        go_simp
        have HA7 := Lib.hid (And.intro (Blk.new (u2) 23 #[.int .i64 0, .int .i64 0]) (show w.heap.size + 2 ≤ (u2).heap.size from K2.lt))
        have K7 := K2.alloc (.cells #[.int .i64 0, .int .i64 0] 23)
        have HR7 := Lib.hid (HR2.out.below (lowA (u2) (.cells #[.int .i64 0, .int .i64 0] 23)) HR2.out.lt)
        refine hK.out _ _ K7 (fun _ => ?_)
        clear hK K
        try simp only [Act.put, List.setIfInBounds_toArray, List.set_cons_zero, List.set_cons_succ]
        refine wpAnyH_ready (rs := [5]) (by kernel_rfl) (by simp) ?_
        refine AllReadyH.cons (o := { dst := some 9, op := _, type := _, pos := _, after := _, guard := _ }) rfl (fun K hK => ?_) AllReadyH.nil
        go_simp
        refine (C2.out _ HR7.out).mono ?_
        rintro v u5 ⟨rfl, hR, hg⟩
        have K5 := K7.grow hg hlt
        have HR5 := Lib.hid hR
        have HA5 := Lib.hid (Blk.grown HA7.out.1 hg (by have := HA7.out.2; omega))
        have HA5 := Lib.hid (And.intro HA5.out HA7.out.2)
        clear hR hg
        refine hK.out _ _ K5 (fun _ => ?_)
        clear hK K
        try simp only [Act.put, List.setIfInBounds_toArray, List.set_cons_zero, List.set_cons_succ]
        refine wpAnyH_take (i := 6) (oi := { dst := some 10, op := _, type := _, pos := _, after := _, guard := _ }) (v := ?v5) rfl (by kernel_rfl) (by kernel_rfl) (by kernel_rfl) (fun _ _ _ h => h) (Or.inl ⟨by rfl, ?hy5⟩) K5 ?rest5
        case hy5 => (intro w hSw; (try dsimp only at hSw); first | (go_simp; done) | (go_simp; with_reducible rfl))
        try simp only [Act.put, List.setIfInBounds_toArray, List.set_cons_zero, List.set_cons_succ]
        refine wpAnyH_ready (rs := [8]) (by kernel_rfl) (by simp) ?_
        refine AllReadyH.cons (o := { dst := none, op := _, type := _, pos := _, after := _, guard := _ }) rfl (fun K hK => ?_) AllReadyH.nil
        refine draw_storeB rfl 23 (.tmp 3) (.tmp 10) rfl (u2.heap.size) #[.int .i64 (n1 : Int), .int .i64 (n2 : Int)] rfl rfl (dot2 _ _) (oneD2 _ _) ⟨_, HA5.out.1, rfl⟩ ?_
        have K8 := K5.setRow HA5.out.2 #[.int .i64 (n1 : Int), .int .i64 (n2 : Int)]
        have HZ := Lib.hid (show HdD w b (u2.heap.size) (n1 : Int) (n2 : Int) (u5.setRow (u2.heap.size) #[.int .i64 (n1 : Int), .int .i64 (n2 : Int)]) from ⟨K8, HA5.out.1.put _, HA5.out.2⟩)
        have HY := Lib.hid (HR5.out.setRow (g := u2.heap.size) (by have := HA5.out.2; omega) #[.int .i64 (n1 : Int), .int .i64 (n2 : Int)])
        refine hK.out _ _ K8 (fun _ => ?_)
        clear hK K
        try simp only [Act.put, List.setIfInBounds_toArray, List.set_cons_zero, List.set_cons_succ]
        refine wpAnyH_done (by kernel_rfl) ?_ _
        try simp only [Act.put, List.setIfInBounds_toArray, List.set_cons_zero, List.set_cons_succ]
        go_wp2_with fail
        go_meet
        exact ⟨_, rfl, HZ.out, HY.out⟩
    · skip
      go_simp
      have HA7 := Lib.hid (And.intro (Blk.new (W.drew) 23 #[.int .i64 0, .int .i64 0]) (show w.heap.size + 2 ≤ (W.drew).heap.size from K0.lt))
      have K7 := K0.alloc (.cells #[.int .i64 0, .int .i64 0] 23)
      have HR7 := Lib.hid (HR0.out.below (lowA (W.drew) (.cells #[.int .i64 0, .int .i64 0] 23)) HR0.out.lt)
      refine hK.out _ _ K7 (fun _ => ?_)
      clear hK K
      try simp only [Act.put, List.setIfInBounds_toArray, List.set_cons_zero, List.set_cons_succ]
      refine wpAnyH_ready (rs := [2]) (by kernel_rfl) (by simp) ?_
      refine AllReadyH.cons (o := { dst := some 6, op := _, type := _, pos := _, after := _, guard := _ }) rfl (fun K hK => ?_) AllReadyH.nil
      go_simp
      refine (C1.out _ HR7.out).mono ?_
      rintro v u2 ⟨rfl, hR, hg⟩
      have K2 := K7.grow hg hlt
      have HR2 := Lib.hid hR
      have HA2 := Lib.hid (Blk.grown HA7.out.1 hg (by have := HA7.out.2; omega))
      have HA2 := Lib.hid (And.intro HA2.out HA7.out.2)
      clear hR hg
      refine hK.out _ _ K2 (fun _ => ?_)
      clear hK K
      try simp only [Act.put, List.setIfInBounds_toArray, List.set_cons_zero, List.set_cons_succ]
      refine wpAnyH_ready (rs := [5]) (by kernel_rfl) (by simp) ?_
      refine AllReadyH.cons (o := { dst := some 9, op := _, type := _, pos := _, after := _, guard := _ }) rfl (fun K hK => ?_) AllReadyH.nil
      go_simp
      refine (C2.out _ HR2.out).mono ?_
      rintro v u5 ⟨rfl, hR, hg⟩
      have K5 := K2.grow hg hlt
      have HR5 := Lib.hid hR
      have HA5 := Lib.hid (Blk.grown HA2.out.1 hg (by have := HA2.out.2; omega))
      have HA5 := Lib.hid (And.intro HA5.out HA2.out.2)
      clear hR hg
      refine hK.out _ _ K5 (fun _ => ?_)
      clear hK K
      try simp only [Act.put, List.setIfInBounds_toArray, List.set_cons_zero, List.set_cons_succ]
      refine wpAnyH_take (i := 6) (oi := { dst := some 10, op := _, type := _, pos := _, after := _, guard := _ }) (v := ?v6) rfl (by kernel_rfl) (by kernel_rfl) (by kernel_rfl) (fun _ _ _ h => h) (Or.inl ⟨by rfl, ?hy6⟩) K5 ?rest6
      case hy6 => (intro w hSw; (try dsimp only at hSw); first | (go_simp; done) | (go_simp; with_reducible rfl))
      try simp only [Act.put, List.setIfInBounds_toArray, List.set_cons_zero, List.set_cons_succ]
      refine wpAnyH_ready (rs := [8]) (by kernel_rfl) (by simp) ?_
      refine AllReadyH.cons (o := { dst := none, op := _, type := _, pos := _, after := _, guard := _ }) rfl (fun K hK => ?_) AllReadyH.nil
      refine draw_storeB rfl 23 (.tmp 3) (.tmp 10) rfl (W.drew.heap.size) #[.int .i64 (n1 : Int), .int .i64 (n2 : Int)] rfl rfl (dot2 _ _) (oneD2 _ _) ⟨_, HA5.out.1, rfl⟩ ?_
      have K8 := K5.setRow HA5.out.2 #[.int .i64 (n1 : Int), .int .i64 (n2 : Int)]
      have HZ := Lib.hid (show HdD w b (W.drew.heap.size) (n1 : Int) (n2 : Int) (u5.setRow (W.drew.heap.size) #[.int .i64 (n1 : Int), .int .i64 (n2 : Int)]) from ⟨K8, HA5.out.1.put _, HA5.out.2⟩)
      have HY := Lib.hid (HR5.out.setRow (g := W.drew.heap.size) (by have := HA5.out.2; omega) #[.int .i64 (n1 : Int), .int .i64 (n2 : Int)])
      refine hK.out _ _ K8 (fun _ => ?_)
      clear hK K
      try simp only [Act.put, List.setIfInBounds_toArray, List.set_cons_zero, List.set_cons_succ]
      refine wpAnyH_done (by kernel_rfl) ?_ _
      try simp only [Act.put, List.setIfInBounds_toArray, List.set_cons_zero, List.set_cons_succ]
      go_wp2_with fail
      go_meet
      exact ⟨_, rfl, HZ.out, HY.out⟩
  case rest =>
    obtain ⟨g, rfl, hz, hy⟩ := hcut
    have HZ := Lib.hid hz
    have HY := Lib.hid hy.drew1
    clear hz hy H0 HR0 C1 C2
    go_upto_region 2 with fail
    refine wp_region_held (S := fun U => HdD w b g (n1 : Int) (n2 : Int) U) (by kernel_rfl) ?_
    change wpAnyH _ _ _ _ _ _ _ _ wc.drew
    have K0 : (fun U => HdD w b g (n1 : Int) (n2 : Int) U) wc.drew := HZ.out.drew
    refine wpAnyH_take (i := 0) (oi := { dst := some 11, op := _, type := _, pos := _, after := _, guard := _ }) rfl (by kernel_rfl) (by kernel_rfl) (by kernel_rfl) (fun _ _ _ h => h) (fyield_D (by rfl) (.tmp 3) rfl g ((n1 : Int), (n2 : Int)) rfl (fun U hU => hU.range)) K0 ?_
    try simp only [Act.put, List.setIfInBounds_toArray, List.set_cons_zero, List.set_cons_succ]
    refine wpAnyH_take (i := 1) (oi := { dst := some 12, op := _, type := _, pos := _, after := _, guard := _ }) (v := ?v7) rfl (by kernel_rfl) (by kernel_rfl) (by kernel_rfl) (fun _ _ _ h => h) (Or.inl ⟨by rfl, ?hy7⟩) K0 ?rest7
    case hy7 => (intro w hSw; (try dsimp only at hSw); first | (go_simp; done) | (go_simp; with_reducible rfl))
    try simp only [Act.put, List.setIfInBounds_toArray, List.set_cons_zero, List.set_cons_succ]
    refine wpAnyH_take (i := 2) (oi := { dst := some 13, op := _, type := _, pos := _, after := _, guard := _ }) rfl (by kernel_rfl) (by kernel_rfl) (by kernel_rfl) (fun _ _ _ h => h) (yield_cP (by rfl) (.tmp 12) rfl w.heap.size 0 (some ⟨b, 0, none⟩) rfl (fun U hU => hU.k.box.cell rfl)) K0 ?_
    try simp only [Act.put, List.setIfInBounds_toArray, List.set_cons_zero, List.set_cons_succ]
    refine wpAnyH_take (i := 4) (oi := { dst := some 15, op := _, type := _, pos := _, after := _, guard := _ }) (v := ?v8) rfl (by kernel_rfl) (by kernel_rfl) (by kernel_rfl) (fun _ _ _ h => h) (Or.inl ⟨by rfl, ?hy8⟩) K0 ?rest8
    case hy8 => (intro w hSw; (try dsimp only at hSw); first | (go_simp; done) | (go_simp; with_reducible rfl))
    try simp only [Act.put, List.setIfInBounds_toArray, List.set_cons_zero, List.set_cons_succ]
    refine wpAnyH_take (i := 5) (oi := { dst := some 16, op := _, type := _, pos := _, after := _, guard := _ }) rfl (by kernel_rfl) (by kernel_rfl) (by kernel_rfl) (fun _ _ _ h => h) (yield_cP (by rfl) (.tmp 15) rfl w.heap.size 0 (some ⟨b, 0, none⟩) rfl (fun U hU => hU.k.box.cell rfl)) K0 ?_
    try simp only [Act.put, List.setIfInBounds_toArray, List.set_cons_zero, List.set_cons_succ]
    refine wpAnyH_take (i := 7) (oi := { dst := some 18, op := _, type := _, pos := _, after := _, guard := _ }) (v := ?v9) rfl (by kernel_rfl) (by kernel_rfl) (by kernel_rfl) (fun _ _ _ h => h) (Or.inl ⟨by rfl, ?hy9⟩) K0 ?rest9
    case hy9 => (intro w hSw; (try dsimp only at hSw); first | (go_simp; done) | (go_simp; with_reducible rfl))
    try simp only [Act.put, List.setIfInBounds_toArray, List.set_cons_zero, List.set_cons_succ]
    refine wpAnyH_take (i := 8) (oi := { dst := some 19, op := _, type := _, pos := _, after := _, guard := _ }) rfl (by kernel_rfl) (by kernel_rfl) (by kernel_rfl) (fun _ _ _ h => h) (fyield_I (by rfl) (.tmp 18) rfl g 0 (n1 : Int) rfl (fun U hU => hU.dot.cell rfl)) K0 ?_
    try simp only [Act.put, List.setIfInBounds_toArray, List.set_cons_zero, List.set_cons_succ]
    refine wpAnyH_ready (rs := [3]) (by kernel_rfl) (by simp) ?_
    refine AllReadyH.cons (o := { dst := some 14, op := _, type := _, pos := _, after := _, guard := _ }) rfl (fun K hK => ?_) AllReadyH.nil
    go_simp
    refine (C3.out _ HY.out).mono ?_
    rintro v u3 ⟨rfl, hR, hg⟩
    have K3 := K0.grow hg hlt
    have HR3 := Lib.hid hR
    clear hR hg
    refine hK.out _ _ K3 (fun _ => ?_)
    clear hK K
    try simp only [Act.put, List.setIfInBounds_toArray, List.set_cons_zero, List.set_cons_succ]
    refine wpAnyH_ready (rs := [6]) (by kernel_rfl) (by simp) ?_
    refine AllReadyH.cons (o := { dst := some 17, op := _, type := _, pos := _, after := _, guard := _ }) rfl (fun K hK => ?_) AllReadyH.nil
    go_simp
    refine (C4.out _ HR3.out).mono ?_
    rintro v u6 ⟨rfl, hR, hg⟩
    have K6 := K3.grow hg hlt
    have HR6 := Lib.hid hR
    clear hR hg
    refine hK.out _ _ K6 (fun _ => ?_)
    clear hK K
    try simp only [Act.put, List.setIfInBounds_toArray, List.set_cons_zero, List.set_cons_succ]
    refine wpAnyH_take (i := 9) (oi := { dst := some 20, op := _, type := _, pos := _, after := _, guard := _ }) (v := ?v10) rfl (by kernel_rfl) (by kernel_rfl) (by kernel_rfl) (fun _ _ _ h => h) (Or.inl ⟨by rfl, ?hy10⟩) K6 ?rest10
    case hy10 => (intro w hSw; (try dsimp only at hSw); first | (go_simp; done) | (go_simp; with_reducible rfl))
    try simp only [Act.put, List.setIfInBounds_toArray, List.set_cons_zero, List.set_cons_succ]
    refine wpAnyH_take (i := 10) (oi := { dst := some 21, op := _, type := _, pos := _, after := _, guard := _ }) rfl (by kernel_rfl) (by kernel_rfl) (by kernel_rfl) (fun _ _ _ h => h) (yield_BHd (by rfl) (.tmp 11) (.tmp 20) rfl (n1 : Int) (n2 : Int) (n3 : Int) (n4 : Int) (n1 : Int) rfl rfl) K6 ?_
    try simp only [Act.put, List.setIfInBounds_toArray, List.set_cons_zero, List.set_cons_succ]
    refine wpAnyH_ready (rs := [11]) (by kernel_rfl) (by simp) ?_
    refine AllReadyH.cons (o := { dst := none, op := _, type := _, pos := _, after := _, guard := _ }) rfl (fun K hK => ?_) AllReadyH.nil
    refine draw_storeB rfl 29 (.tmp 2) (.tmp 21) rfl (w.heap.size + 1) (dlc ⟨((n1 : Int), (n2 : Int)), ⟨(n3 : Int), (n4 : Int), (n1 : Int)⟩, [], []⟩ none 0 none 0) rfl rfl (infoD _ _ _ _ _) (dl_one _ _ _ _ _) K6.k.res ?_
    have HP := Lib.hid (HdD.put K6 ⟨((n1 : Int), (n2 : Int)), ⟨(n3 : Int), (n4 : Int), (n1 : Int)⟩, [], []⟩)
    have HRf := Lib.hid (HR6.out.setRow (g := w.heap.size + 1) (by omega) (dlc ⟨((n1 : Int), (n2 : Int)), ⟨(n3 : Int), (n4 : Int), (n1 : Int)⟩, [], []⟩ none 0 none 0))
    have K11 := HP.out.2
    refine hK.out _ _ K11 (fun _ => ?_)
    clear hK K
    try simp only [Act.put, List.setIfInBounds_toArray, List.set_cons_zero, List.set_cons_succ]
    refine wpAnyH_done (by kernel_rfl) ?_ _
    try simp only [Act.put, List.setIfInBounds_toArray, List.set_cons_zero, List.set_cons_succ]
    have HK := Lib.hid K11
    clear K0 K3 K6 K11
    go_wp2_with fail
    refine bodyPost_ret (results_cell_row rfl _ _ (w.heap.size + 1) 29 (dlc ⟨((n1 : Int), (n2 : Int)), ⟨(n3 : Int), (n4 : Int), (n1 : Int)⟩, [], []⟩ none 0 none 0) (0, 0) _ rfl HP.out.1 Tryz.underlying29 rfl (infoD _ _ _ _ _)) rfl ?_
    exact ⟨rfl, HRf.out, HK.out.k.gr⟩
end Go.Proofs.YtkodololdjainaaGreat
