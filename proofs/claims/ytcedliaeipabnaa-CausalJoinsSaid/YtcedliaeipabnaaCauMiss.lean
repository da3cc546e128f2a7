/-
  Missing: the program's.
-/
import Derived.Test.YtcedliaeipabnaaGCauI
import Derived.Test.YtcedliaeipabnaaCauAdd
import Derived.Deep.Cut
import Derived.Deep.DeepCutAuto
import Derived.Laws.EntriesVeiled
namespace Go.Proofs.Ytcedliaeipabnaa
set_option linter.unusedSimpArgs false
set_option linter.unusedVariables false
set_option maxRecDepth 100000
open Go.RowKit Go.Sort Go.Shelf

attribute [local go_sem] Oper.semAt_some
attribute [-go_sem] Builtin.append_

theorem rowD_cells {W : World} {base e size k : Nat} {v : Value} {xs : List Value} (h : W.ownsRow base e size v k xs) {j : Nat} {o : Obj} (ej : v.ownBlock = some j) (hj : W.heap[j]? = some o) : o.isCells = true := by
  rcases h.2 with ⟨rfl, _⟩ | ⟨g, cap, cur, rfl, _, hgb, _⟩
  · simp [Value.ownBlock] at ej
  · obtain rfl : g = j := by simpa [Value.ownBlock] using ej
    rw [hgb] at hj; cases hj; rfl
theorem OwnD.machine {B : Nat} {v : Value} {l : List Dt} {W W' : World} {row : Option Nat} (h : OwnD B v l W) (hg : W.grownBy W' row) (hr : ∀ r, row = some r → ∃ o : Obj, W.heap[r]? = some o ∧ o.isCells = false) : OwnD B v l W' := by
  unfold OwnD at *
  refine ⟨h.1, ?_⟩
  rcases h.2 with hn | ⟨g, cap, cur, hv, hB, hgg, rest⟩
  · exact .inl hn
  · refine .inr ⟨g, cap, cur, hv, hB, ?_, rest⟩
    rw [hg.block g (lt_of_block hgg) (fun e => by
      obtain ⟨o, ho, hoc⟩ := hr g e.symm
      rw [hgg] at ho
      cases ho
      cases hoc)]
    exact hgg
/-- one name more, and what else lies there -/
theorem appD_one {w : World} {B : Nat} {v : Value} {xs : List Dt} (d : Dt) (h : OwnD B v xs w) (hb : B ≤ w.heap.size) (n : Nat) (hn : xs.length + 1 = n) (hl : n ≤ 200000) :
    ∃ p' c' w', (Builtin.append_ #[24, 24] 24 #[v, .slice (some ⟨w.heap.size, 0, none⟩) 1 1]).run Try.prog (w.alloc (.cells #[.int .i64 d.1, .int .i64 d.2] 31)) = .ok (.slice p' n c') w' ∧ OwnD B (.slice p' n c') (xs ++ [d]) w' ∧ Go.RowKit.Below B w w' ∧ KeepsOthers w w' := by
  obtain ⟨i0, hi, hz0, hz1, hz2⟩ := info_parts dotInfo
  have hone := din_new w d
  have hsrc : Src Try.prog 2 24 (.slice (some ⟨w.heap.size, 0, none⟩) [d].length 1) [d].length (rowD [d]) (w.alloc (.cells #[.int .i64 d.1, .int .i64 d.2] 31)) := Src.ofSlice _ Try.underlying24 _ [d].length 1 _ (rowD_len [d]) (hone.cells rfl) (rowD_cell [d])
  obtain ⟨v', w', hr, ho, hg, -, -⟩ := run_append_sf (P := Try.prog) (w.alloc (.cells #[.int .i64 d.1, .int .i64 d.2] 31)) B 24 24 24 31 i0 _ 2 16 Try.underlying24 hi hz0 hz1 hz2 rfl v xs.length (rowD xs) (World.ownsRow.alloc h _) _ [d].length (rowD [d]) hsrc (by simp only [List.length_singleton]; unfold maxLen; omega) (by simp only [List.length_singleton]; omega) (by simp; omega)
  have ho' : OwnD B v' (xs ++ [d]) w' := by
    unfold OwnD
    rw [List.length_append, rowD_append]
    exact ho
  obtain ⟨p', c', rfl, -, -⟩ := ho'.din
  rw [List.length_append, List.length_singleton, hn] at ho' hr
  have hbel : Go.RowKit.Below B w w' := ((Below.refl _ _).alloc hb _).grown hg (by simp; omega) (fun j hj => (World.ownsRow.lt h j hj).1)
  exact ⟨p', c', w', hr, ho', hbel, (KeepsOthers.alloc w _).trans (KeepsOthers.of_grownBy hg fun j o ej hj => rowD_cells (World.ownsRow.alloc h _) ej hj)⟩

theorem draw_loadC {ops : Array Oper} {o : Oper} {a : Act} {w : World} {K : Act → World → Prop} {Q : Exit → Act → World → Prop} (hgd : o.guard = none) (x : Operand) (ho : o.op = .load 26 x)
    (g : Nat) (hx : a.eval x = .pointer (some ⟨g, 0, none⟩)) (v : Vc) (s : Value) (hg : CRow w g v s) (hl : v.length = 16) (h : K (a.put o.dst (.agg (ccs v s))) w) :
    if Region.wanted o (yielded ops a.tmps) = true then Oper.wp Try.prog o a w K Q else K (a.put o.dst undef) w := by
  simp only [Region.wanted, hgd, if_true]
  unfold Oper.wp execOp
  simp only [ho, hx, hg.loadAt hl, Sem.run_bind, Sem.run_pure, Result.andThen_ok]
  exact h
/-- two contexts' blocks, whatever lies in them -/
structure Hold0 (w : World) (U : World) : Prop where
  res : ∃ (old : Vc) (so : Value), CRow U w.heap.size old so ∧ old.length = 16
  res2 : ∃ (old : Vc) (so : Value), CRow U (w.heap.size + 1) old so ∧ old.length = 16
  low : Go.RowKit.Below w.heap.size w U
theorem Hold0.below {w U U' : World} (h : Hold0 w U) (hb : Go.RowKit.Below U.heap.size U U') : Hold0 w U' :=
  ⟨by obtain ⟨o, so, h1, h2⟩ := h.res; exact ⟨o, so, h1.keep hb, h2⟩, by obtain ⟨o, so, h1, h2⟩ := h.res2; exact ⟨o, so, h1.keep hb, h2⟩, h.low.trans (hb.mono h.low.size)⟩
theorem Hold0.put {w U : World} {x : Vc} {t : Value} (h : Hold0 w U) (hx : x.length = 16) : Hold0 w (U.setRow w.heap.size (ccs x t)) ∧ CRow (U.setRow w.heap.size (ccs x t)) w.heap.size x t := by
  obtain ⟨o, so, h1, h2⟩ := h.res
  obtain ⟨o', so', h3, h4⟩ := h.res2
  have h5 := CRow.of_put h1 x t
  exact ⟨⟨⟨x, t, h5, hx⟩, ⟨o', so', h3.of_set (by omega) _, h4⟩, belowRow h.low (by omega) _⟩, h5⟩
theorem Hold0.put2 {w U : World} {x : Vc} {t : Value} (h : Hold0 w U) (hx : x.length = 16) : Hold0 w (U.setRow (w.heap.size + 1) (ccs x t)) ∧ CRow (U.setRow (w.heap.size + 1) (ccs x t)) (w.heap.size + 1) x t := by
  obtain ⟨o, so, h1, h2⟩ := h.res
  obtain ⟨o', so', h3, h4⟩ := h.res2
  have h5 := CRow.of_put h3 x t
  exact ⟨⟨⟨o, so, h1.of_set (by omega) _, h2⟩, ⟨x, t, h5, hx⟩, belowRow h.low (by omega) _⟩, h5⟩

/-- what holds ahead of each round: t is the box of what lacks, f that of the closure, D the world in which the loop began -/
structure Lk (o : Cx) (w1 : World) (f t D : Nat) (fv : Value) (pre : List Dt) (W : World) : Prop where
  out : ∃ oa oc, Boxed W t 24 (.slice oa (lackF o pre).length oc) ∧ OwnD D (.slice oa (lackF o pre).length oc) (lackF o pre) W
  fn : Boxed W f 54 fv
  len : (lackF o pre).length ≤ 4096
  size : D ≤ W.heap.size
  low : Go.RowKit.Below w1.heap.size w1 W
theorem Lk.machine {o : Cx} {w1 : World} {f t D : Nat} {fv : Value} {pre : List Dt} {W W' : World} {row : Option Nat} (h : Lk o w1 f t D fv pre W) (hf : f < D) (ht : t < D) (hw : w1.heap.size ≤ D) (hg : W.grownBy W' row) (hr : ∀ r, row = some r → D ≤ r ∧ ∃ o : Obj, W.heap[r]? = some o ∧ o.isCells = false) : Lk o w1 f t D fv pre W' := by
  obtain ⟨oa, oc, h1, h2⟩ := h.out
  refine ⟨⟨oa, oc, h1.kept hg (fun e => by have := (hr t e.symm).1; omega), h2.machine hg (fun r e => (hr r e).2)⟩, h.fn.kept hg (fun e => by have := (hr f e.symm).1; omega), h.len, Nat.le_trans h.size hg.size, ?_⟩
  exact h.low.grown hg (Nat.le_trans hw h.size) (fun k e => Nat.le_trans hw (hr k e).1)
theorem Lk.below {o : Cx} {w1 : World} {f t D : Nat} {fv : Value} {pre : List Dt} {W W' : World} (h : Lk o w1 f t D fv pre W) (hf : f < D) (ht : t < D) (hw : w1.heap.size ≤ D) (hb : Go.RowKit.Below W.heap.size W W') : Lk o w1 f t D fv pre W' := by
  obtain ⟨oa, oc, h1, h2⟩ := h.out
  have hs := h.size
  refine ⟨⟨oa, oc, (hb.block t (by omega)).trans h1, h2.below hb (Nat.le_refl _)⟩, (hb.block f (by omega)).trans h.fn, h.len, Nat.le_trans h.size hb.size, h.low.trans (hb.mono (by omega))⟩
theorem keepsBelow {W W' : World} (h : Go.RowKit.Below W.heap.size W W') : KeepsOthers W W' := ⟨h.size, fun k o hk _ => (h.block k (Array.getElem?_eq_some_iff.1 hk).1).trans hk⟩
theorem KeepS.low {S : Nat → Prop} {W W' : World} {B : Nat} (h : Go.RowKit.Below B W W') (hS : ∀ k, S k → k < B) : KeepS S W W' := ⟨h.size, fun k hk _ => h.block k (hS k hk)⟩
theorem dfrom_put {W : World} {lo lo' : Nat} {p : Option Addr} {l : List Dt} {D : Nat} {ds : Option (List Deferred)} (h : DFrom W lo p l) (hK : W.heap[D]? = some (.deferred ds)) (hl : lo' ≤ lo) (o : Obj) : DFrom (W.putObj D o) lo' p l := by
  rcases h with h | ⟨b, off, h1, h2, h3, h4⟩
  · exact .inl h
  · refine .inr ⟨b, off, h1, by omega, by simpa using h3, fun j d hj => ?_⟩
    have hbD : b ≠ D := by
      intro e
      subst e
      have h5 := (h4 j d hj).1
      simp [World.cell?, hK] at h5
    obtain ⟨c0, c1⟩ := h4 j d hj
    have hb : (W.putObj D o).heap[b]? = W.heap[b]? := World.putObj_heap_other hbD
    exact ⟨(World.cell?_of_block (a := ⟨b, off + j * 2, none⟩) hb).trans c0, (World.cell?_of_block (a := ⟨b, off + j * 2 + 1, none⟩) hb).trans c1⟩
/-- the dot of the round -/
structure Rnd (A : Act) (D : Nat) (x : Dt) (a' : Act) (W : World) (g : Nat) : Prop where
  act : a' = { tmps := (A.tmps.setIfInBounds 18 (.agg #[.int .i64 x.1, .int .i64 x.2])).setIfInBounds 7 (.pointer (some ⟨g, 0, none⟩)), defers := [] }
  blk : W.heap[g]? = some (.cells #[.int .i64 x.1, .int .i64 x.2] 31 (0, 0))
  lo : D ≤ g

set_option maxHeartbeats 2000000 in
theorem pastC (c : Cx) (a : Option Addr) (cap : Nat) (v : Vc) (w : World) :
    Calls Try.prog 43 #[.agg (ccs c.v (.slice a c.l.length cap)), .agg (ics v)] w fun e w' => e = .returned (.func (.func 69) #[] #[.pointer (some ⟨w.heap.size, 0, none⟩), .pointer (some ⟨w.heap.size + 1, 0, none⟩)]) ∧ (w.alloc (.cells (ccs c.v (.slice a c.l.length cap)) 26)).alloc (.cells (ics v) 23) = w' := by
  have hmf : ∀ (fn : Fn) (first cap : Array Value) (w : World), (Instr.makeFunc fn first cap).run Try.prog w = .ok (.func fn first cap) w := fun _ _ _ _ => rfl
  go_enter Try.func43, Try.ntmps43
  go_wp2_with fail
  go_ret
  exact ⟨rfl, rfl⟩

/-- the iterator hands over what lies past the vector -/
theorem past_stops (n : Nat) (hn : 1 ≤ n) (S : Nat → Prop) (B1 B2 : Nat) (b : Cx) (hb : IsClean b) (v : Vc) (hv : v.length = 16) (hvk : ∀ i, i < 16 → okN (v.getD i 0)) (p : Option Addr) (k : Nat) (hlen : b.l.length ≤ 32768) (hk : b.l.length ≤ k) (s1 : S B1) (s2 : S B2) (w : World)
    (h1 : CRow w B1 b.v (.slice p b.l.length k)) (h2 : VRow w B2 v) (h3 : SIn S w p b.l) :
    SeqStopsK Fence.wide n Try.prog 69 #[.pointer (some ⟨B1, 0, none⟩), .pointer (some ⟨B2, 0, none⟩)] (fun x : Dt => #[.agg #[.int .i64 x.1, .int .i64 x.2]]) (KeepS S) (fun ys => ys = pastL v b) (fun pre => pre <+: pastL v b) (pastL v b).length w := fun l J Jx W hW _ _ hY h0 =>
  past1_in n hn S l B1 B2 b hb v hv hvk p k hlen hk s1 s2 J Jx hY W (h1.keep hW) (h2.keep hW) (h3.keep (KeepS.below hW)) h0

theorem two_ctx' (w : World) (v v2 : Vc) (s s2 : Value) : CRow (boxC (boxC w v s) v2 s2) w.heap.size v s ∧ CRow (boxC (boxC w v s) v2 s2) (w.heap.size + 1) v2 s2 ∧ Go.RowKit.Below w.heap.size w (boxC (boxC w v s) v2 s2) := by
  have e1 := boxC_size w v s
  have h0 := CRow.new w v s
  have h1 := CRow.new (boxC w v s) v2 s2
  rw [e1] at h1
  exact ⟨h0.alloc _, h1, (boxC_below w v s).alloc (by rw [e1]; omega) _⟩

set_option maxHeartbeats 16000000 in
theorem missCC (a b : Cx) (pa pb : Option Addr) (ca cb : Nat) (w : World) (h : CIn w a pa) (hm : CIn w b pb) :
    Calls Try.prog 21 #[.agg (ccs a.v (.slice pa a.l.length ca)), .agg (ccs b.v (.slice pb b.l.length cb))] w fun e w' => (∃ (m : List Dt) (p : Option Addr) (k : Nat), e = .returned (.slice p m.length k) ∧ IsMiss a b m ∧ DFrom w' w.heap.size p m) ∧ Go.RowKit.Below w.heap.size w w' := by
  have HV := Lib.hid h.v16
  have HV2 := Lib.hid hm.v16
  have HI := Lib.hid (And.intro h hm)
  have HC := Lib.hid (two_ctx' w a.v b.v (.slice pa a.l.length ca) (.slice pb b.l.length cb))
  unfold boxC at HC
  clear h hm
  refine (callsIn_wide (n := 4)).1 ?_
  refine callsIn_of_wp_marks Try.func21 rfl trivial ?_ rfl
  simp only [Try.ntmps21, List.size_toArray, List.length_cons, List.length_nil, Nat.reduceAdd, Nat.reduceSub, Array.replicate_succ, Array.replicate_zero, List.push_toArray, List.append_toArray, List.nil_append, List.cons_append]
  refine wpIn_wide.2 ?_
  go_upto_region 1 with fail
  change Code.wp _ _ _ _ ((w.alloc (.cells (ccs a.v (.slice pa a.l.length ca)) 26)).alloc (.cells (ccs b.v (.slice pb b.l.length cb)) 26))
  generalize (w.alloc (.cells (ccs a.v (.slice pa a.l.length ca)) 26)).alloc (.cells (ccs b.v (.slice pb b.l.length cb)) 26) = W at *
  have hzW : w.heap.size + 2 ≤ W.heap.size := by have := HC.out.2.1.lt; omega
  go_cut [] from 8 to 11 (fun U => ∃ (o1 o2 : Cx) (p1 p2 : Option Addr) (c1 c2 : Nat), CleanOf a o1 ∧ CleanOf b o2 ∧ CRow U w.heap.size o1.v (.slice p1 o1.l.length c1) ∧ CRow U (w.heap.size + 1) o2.v (.slice p2 o2.l.length c2) ∧ Made (w.heap.size + 2) U o1 p1 ∧ Made (w.heap.size + 2) U o2 p2 ∧ o2.l.length ≤ c2 ∧ Go.RowKit.Below w.heap.size w U)
  case first =>
    have X0 := Lib.hid (And.intro HC.out.1 HC.out.2.1)
    refine wp_region_held (S := fun U => Hold0 w U) (by kernel_rfl) ?_
    change wpAnyH _ _ _ _ _ _ _ _ W.drew
    have K0 : (fun U => Hold0 w U) W.drew := (show Hold0 w W from ⟨⟨_, _, HC.out.1, HV.out⟩, ⟨_, _, HC.out.2.1, HV2.out⟩, HC.out.2.2⟩).below (Below.refl _ _).drew
    refine wpAnyH_ready (rs := [0, 2]) (by kernel_rfl) (by simp) ?_
    refine AllReadyH.cons (o := { dst := some 8, op := _, type := _, pos := _, after := _, guard := _ }) rfl (fun K hK => ?_) (AllReadyH.cons (o := { dst := some 10, op := _, type := _, pos := _, after := _, guard := _ }) rfl (fun K hK => ?_) AllReadyH.nil)
    · refine draw_loadC rfl (.tmp 2) rfl w.heap.size rfl a.v (.slice pa a.l.length ca) X0.out.1 HV.out ?_
      have K0 := K0
      refine hK.out _ _ K0 (fun _ => ?_)
      clear hK K
      try simp only [Act.put, List.setIfInBounds_toArray, List.set_cons_zero, List.set_cons_succ]
      refine wpAnyH_ready (rs := [1, 2]) (by kernel_rfl) (by simp) ?_
      refine AllReadyH.cons (o := { dst := some 9, op := _, type := _, pos := _, after := _, guard := _ }) rfl (fun K hK => ?_) (AllReadyH.cons (o := { dst := some 10, op := _, type := _, pos := _, after := _, guard := _ }) rfl (fun K hK => ?_) AllReadyH.nil)
      · go_simp
        refine (cleanCC a pa ca _ (HI.out.1.below K0.low)).mono ?_
        rintro e w1 ⟨⟨o1, p1, c1, rfl, hof1, hom1, hol1, hcp1⟩, hb1⟩
        have X1 := Lib.hid (And.intro (X0.out.1.keep (undrew hb1)) (X0.out.2.keep (undrew hb1)))
        have K1 := K0.below hb1
        have HO1 := Lib.hid (And.intro hof1 (hom1.mono (B' := w.heap.size + 2) (by simpa using hzW)))
        clear hof1 hom1 hol1 hcp1 hb1
        refine hK.out _ _ K1 (fun _ => ?_)
        clear hK K
        try simp only [Act.put, List.setIfInBounds_toArray, List.set_cons_zero, List.set_cons_succ]
        refine wpAnyH_ready (rs := [2]) (by kernel_rfl) (by simp) ?_
        refine AllReadyH.cons (o := { dst := some 10, op := _, type := _, pos := _, after := _, guard := _ }) rfl (fun K hK => ?_) AllReadyH.nil
        refine draw_loadC rfl (.tmp 3) rfl (w.heap.size + 1) rfl b.v (.slice pb b.l.length cb) X1.out.2 HV2.out ?_
        have K2 := K1
        refine hK.out _ _ K2 (fun _ => ?_)
        clear hK K
        try simp only [Act.put, List.setIfInBounds_toArray, List.set_cons_zero, List.set_cons_succ]
        refine wpAnyH_ready (rs := [3]) (by kernel_rfl) (by simp) ?_
        refine AllReadyH.cons (o := { dst := some 11, op := _, type := _, pos := _, after := _, guard := _ }) rfl (fun K hK => ?_) AllReadyH.nil
        go_simp
        refine (cleanCC b pb cb w1 (HI.out.2.below K2.low)).mono ?_
        rintro e w3 ⟨⟨o2, p2, c2, rfl, hof2, hom2, hol2, hcp2⟩, hb3⟩
        have X3 := Lib.hid (And.intro (X1.out.1.keep hb3) (X1.out.2.keep hb3))
        have hz1 : w.heap.size + 2 ≤ w1.heap.size := by have := X1.out.2.lt; omega
        have K3 := K2.below hb3
        have HO2 := Lib.hid (And.intro hof2 (And.intro (hom2.mono hz1) (And.intro hcp2 (HO1.out.2.below hb3))))
        clear hof2 hom2 hol2 hcp2 hb3
        refine hK.out _ _ K3 (fun _ => ?_)
        clear hK K
        try simp only [Act.put, List.setIfInBounds_toArray, List.set_cons_zero, List.set_cons_succ]
        refine wpAnyH_ready (rs := [4]) (by kernel_rfl) (by simp) ?_
        refine AllReadyH.cons (o := { dst := none, op := _, type := _, pos := _, after := _, guard := _ }) rfl (fun K hK => ?_) AllReadyH.nil
        refine draw_storeC rfl (.tmp 2) (.tmp 9) rfl w.heap.size rfl o1.v p1 o1.l.length c1 rfl HO1.out.2.v16 K3.res ?_
        have K4 := (K3.put (x := o1.v) (t := .slice p1 o1.l.length c1) HO1.out.2.v16).1
        have R4 := Lib.hid (K3.put (x := o1.v) (t := .slice p1 o1.l.length c1) HO1.out.2.v16).2
        refine hK.out _ _ K4 (fun _ => ?_)
        clear hK K
        try simp only [Act.put, List.setIfInBounds_toArray, List.set_cons_zero, List.set_cons_succ]
        refine wpAnyH_ready (rs := [5]) (by kernel_rfl) (by simp) ?_
        refine AllReadyH.cons (o := { dst := none, op := _, type := _, pos := _, after := _, guard := _ }) rfl (fun K hK => ?_) AllReadyH.nil
        refine draw_storeC rfl (.tmp 3) (.tmp 11) rfl (w.heap.size + 1) rfl o2.v p2 o2.l.length c2 rfl HO2.out.2.1.v16 K4.res2 ?_
        have K5 := (K4.put2 (x := o2.v) (t := .slice p2 o2.l.length c2) HO2.out.2.1.v16).1
        have R5 := Lib.hid (K4.put2 (x := o2.v) (t := .slice p2 o2.l.length c2) HO2.out.2.1.v16).2
        refine hK.out _ _ K5 (fun _ => ?_)
        clear hK K
        try simp only [Act.put, List.setIfInBounds_toArray, List.set_cons_zero, List.set_cons_succ]
        refine wpAnyH_done (by kernel_rfl) ?_ _
        try simp only [Act.put, List.setIfInBounds_toArray, List.set_cons_zero, List.set_cons_succ]
        go_wp2_with fail
        go_meet
        exact ⟨o1, o2, p1, p2, c1, c2, HO1.out.1, HO2.out.1, R4.out.of_set (by omega) _, R5.out, (HO2.out.2.2.2.setRow (show w.heap.size < w.heap.size + 2 by omega) _).setRow (show w.heap.size + 1 < w.heap.size + 2 by omega) _, (HO2.out.2.1.setRow (show w.heap.size < w.heap.size + 2 by omega) _).setRow (show w.heap.size + 1 < w.heap.size + 2 by omega) _, HO2.out.2.2.1, K5.low⟩
      · refine draw_loadC rfl (.tmp 3) rfl (w.heap.size + 1) rfl b.v (.slice pb b.l.length cb) X0.out.2 HV2.out ?_
        have K2 := K0
        refine hK.out _ _ K2 (fun _ => ?_)
        clear hK K
        try simp only [Act.put, List.setIfInBounds_toArray, List.set_cons_zero, List.set_cons_succ]
        refine wpAnyH_ready (rs := [1]) (by kernel_rfl) (by simp) ?_
        refine AllReadyH.cons (o := { dst := some 9, op := _, type := _, pos := _, after := _, guard := _ }) rfl (fun K hK => ?_) AllReadyH.nil
        go_simp
        refine (cleanCC a pa ca _ (HI.out.1.below K2.low)).mono ?_
        rintro e w1 ⟨⟨o1, p1, c1, rfl, hof1, hom1, hol1, hcp1⟩, hb1⟩
        have X1 := Lib.hid (And.intro (X0.out.1.keep (undrew hb1)) (X0.out.2.keep (undrew hb1)))
        have K1 := K2.below hb1
        have HO1 := Lib.hid (And.intro hof1 (hom1.mono (B' := w.heap.size + 2) (by simpa using hzW)))
        clear hof1 hom1 hol1 hcp1 hb1
        refine hK.out _ _ K1 (fun _ => ?_)
        clear hK K
        try simp only [Act.put, List.setIfInBounds_toArray, List.set_cons_zero, List.set_cons_succ]
        refine wpAnyH_ready (rs := [3]) (by kernel_rfl) (by simp) ?_
        refine AllReadyH.cons (o := { dst := some 11, op := _, type := _, pos := _, after := _, guard := _ }) rfl (fun K hK => ?_) AllReadyH.nil
        go_simp
        refine (cleanCC b pb cb w1 (HI.out.2.below K1.low)).mono ?_
        rintro e w3 ⟨⟨o2, p2, c2, rfl, hof2, hom2, hol2, hcp2⟩, hb3⟩
        have X3 := Lib.hid (And.intro (X1.out.1.keep hb3) (X1.out.2.keep hb3))
        have hz1 : w.heap.size + 2 ≤ w1.heap.size := by have := X1.out.2.lt; omega
        have K3 := K1.below hb3
        have HO2 := Lib.hid (And.intro hof2 (And.intro (hom2.mono hz1) (And.intro hcp2 (HO1.out.2.below hb3))))
        clear hof2 hom2 hol2 hcp2 hb3
        refine hK.out _ _ K3 (fun _ => ?_)
        clear hK K
        try simp only [Act.put, List.setIfInBounds_toArray, List.set_cons_zero, List.set_cons_succ]
        refine wpAnyH_ready (rs := [4]) (by kernel_rfl) (by simp) ?_
        refine AllReadyH.cons (o := { dst := none, op := _, type := _, pos := _, after := _, guard := _ }) rfl (fun K hK => ?_) AllReadyH.nil
        refine draw_storeC rfl (.tmp 2) (.tmp 9) rfl w.heap.size rfl o1.v p1 o1.l.length c1 rfl HO1.out.2.v16 K3.res ?_
        have K4 := (K3.put (x := o1.v) (t := .slice p1 o1.l.length c1) HO1.out.2.v16).1
        have R4 := Lib.hid (K3.put (x := o1.v) (t := .slice p1 o1.l.length c1) HO1.out.2.v16).2
        refine hK.out _ _ K4 (fun _ => ?_)
        clear hK K
        try simp only [Act.put, List.setIfInBounds_toArray, List.set_cons_zero, List.set_cons_succ]
        refine wpAnyH_ready (rs := [5]) (by kernel_rfl) (by simp) ?_
        refine AllReadyH.cons (o := { dst := none, op := _, type := _, pos := _, after := _, guard := _ }) rfl (fun K hK => ?_) AllReadyH.nil
        refine draw_storeC rfl (.tmp 3) (.tmp 11) rfl (w.heap.size + 1) rfl o2.v p2 o2.l.length c2 rfl HO2.out.2.1.v16 K4.res2 ?_
        have K5 := (K4.put2 (x := o2.v) (t := .slice p2 o2.l.length c2) HO2.out.2.1.v16).1
        have R5 := Lib.hid (K4.put2 (x := o2.v) (t := .slice p2 o2.l.length c2) HO2.out.2.1.v16).2
        refine hK.out _ _ K5 (fun _ => ?_)
        clear hK K
        try simp only [Act.put, List.setIfInBounds_toArray, List.set_cons_zero, List.set_cons_succ]
        refine wpAnyH_done (by kernel_rfl) ?_ _
        try simp only [Act.put, List.setIfInBounds_toArray, List.set_cons_zero, List.set_cons_succ]
        go_wp2_with fail
        go_meet
        exact ⟨o1, o2, p1, p2, c1, c2, HO1.out.1, HO2.out.1, R4.out.of_set (by omega) _, R5.out, (HO2.out.2.2.2.setRow (show w.heap.size < w.heap.size + 2 by omega) _).setRow (show w.heap.size + 1 < w.heap.size + 2 by omega) _, (HO2.out.2.1.setRow (show w.heap.size < w.heap.size + 2 by omega) _).setRow (show w.heap.size + 1 < w.heap.size + 2 by omega) _, HO2.out.2.2.1, K5.low⟩
    · refine draw_loadC rfl (.tmp 3) rfl (w.heap.size + 1) rfl b.v (.slice pb b.l.length cb) X0.out.2 HV2.out ?_
      have K2 := K0
      refine hK.out _ _ K2 (fun _ => ?_)
      clear hK K
      try simp only [Act.put, List.setIfInBounds_toArray, List.set_cons_zero, List.set_cons_succ]
      refine wpAnyH_ready (rs := [0]) (by kernel_rfl) (by simp) ?_
      refine AllReadyH.cons (o := { dst := some 8, op := _, type := _, pos := _, after := _, guard := _ }) rfl (fun K hK => ?_) AllReadyH.nil
      refine draw_loadC rfl (.tmp 2) rfl w.heap.size rfl a.v (.slice pa a.l.length ca) X0.out.1 HV.out ?_
      have K0 := K2
      refine hK.out _ _ K0 (fun _ => ?_)
      clear hK K
      try simp only [Act.put, List.setIfInBounds_toArray, List.set_cons_zero, List.set_cons_succ]
      refine wpAnyH_ready (rs := [1]) (by kernel_rfl) (by simp) ?_
      refine AllReadyH.cons (o := { dst := some 9, op := _, type := _, pos := _, after := _, guard := _ }) rfl (fun K hK => ?_) AllReadyH.nil
      go_simp
      refine (cleanCC a pa ca _ (HI.out.1.below K0.low)).mono ?_
      rintro e w1 ⟨⟨o1, p1, c1, rfl, hof1, hom1, hol1, hcp1⟩, hb1⟩
      have X1 := Lib.hid (And.intro (X0.out.1.keep (undrew hb1)) (X0.out.2.keep (undrew hb1)))
      have K1 := K0.below hb1
      have HO1 := Lib.hid (And.intro hof1 (hom1.mono (B' := w.heap.size + 2) (by simpa using hzW)))
      clear hof1 hom1 hol1 hcp1 hb1
      refine hK.out _ _ K1 (fun _ => ?_)
      clear hK K
      try simp only [Act.put, List.setIfInBounds_toArray, List.set_cons_zero, List.set_cons_succ]
      refine wpAnyH_ready (rs := [3]) (by kernel_rfl) (by simp) ?_
      refine AllReadyH.cons (o := { dst := some 11, op := _, type := _, pos := _, after := _, guard := _ }) rfl (fun K hK => ?_) AllReadyH.nil
      go_simp
      refine (cleanCC b pb cb w1 (HI.out.2.below K1.low)).mono ?_
      rintro e w3 ⟨⟨o2, p2, c2, rfl, hof2, hom2, hol2, hcp2⟩, hb3⟩
      have X3 := Lib.hid (And.intro (X1.out.1.keep hb3) (X1.out.2.keep hb3))
      have hz1 : w.heap.size + 2 ≤ w1.heap.size := by have := X1.out.2.lt; omega
      have K3 := K1.below hb3
      have HO2 := Lib.hid (And.intro hof2 (And.intro (hom2.mono hz1) (And.intro hcp2 (HO1.out.2.below hb3))))
      clear hof2 hom2 hol2 hcp2 hb3
      refine hK.out _ _ K3 (fun _ => ?_)
      clear hK K
      try simp only [Act.put, List.setIfInBounds_toArray, List.set_cons_zero, List.set_cons_succ]
      refine wpAnyH_ready (rs := [4]) (by kernel_rfl) (by simp) ?_
      refine AllReadyH.cons (o := { dst := none, op := _, type := _, pos := _, after := _, guard := _ }) rfl (fun K hK => ?_) AllReadyH.nil
      refine draw_storeC rfl (.tmp 2) (.tmp 9) rfl w.heap.size rfl o1.v p1 o1.l.length c1 rfl HO1.out.2.v16 K3.res ?_
      have K4 := (K3.put (x := o1.v) (t := .slice p1 o1.l.length c1) HO1.out.2.v16).1
      have R4 := Lib.hid (K3.put (x := o1.v) (t := .slice p1 o1.l.length c1) HO1.out.2.v16).2
      refine hK.out _ _ K4 (fun _ => ?_)
      clear hK K
      try simp only [Act.put, List.setIfInBounds_toArray, List.set_cons_zero, List.set_cons_succ]
      refine wpAnyH_ready (rs := [5]) (by kernel_rfl) (by simp) ?_
      refine AllReadyH.cons (o := { dst := none, op := _, type := _, pos := _, after := _, guard := _ }) rfl (fun K hK => ?_) AllReadyH.nil
      refine draw_storeC rfl (.tmp 3) (.tmp 11) rfl (w.heap.size + 1) rfl o2.v p2 o2.l.length c2 rfl HO2.out.2.1.v16 K4.res2 ?_
      have K5 := (K4.put2 (x := o2.v) (t := .slice p2 o2.l.length c2) HO2.out.2.1.v16).1
      have R5 := Lib.hid (K4.put2 (x := o2.v) (t := .slice p2 o2.l.length c2) HO2.out.2.1.v16).2
      refine hK.out _ _ K5 (fun _ => ?_)
      clear hK K
      try simp only [Act.put, List.setIfInBounds_toArray, List.set_cons_zero, List.set_cons_succ]
      refine wpAnyH_done (by kernel_rfl) ?_ _
      try simp only [Act.put, List.setIfInBounds_toArray, List.set_cons_zero, List.set_cons_succ]
      go_wp2_with fail
      go_meet
      exact ⟨o1, o2, p1, p2, c1, c2, HO1.out.1, HO2.out.1, R4.out.of_set (by omega) _, R5.out, (HO2.out.2.2.2.setRow (show w.heap.size < w.heap.size + 2 by omega) _).setRow (show w.heap.size + 1 < w.heap.size + 2 by omega) _, (HO2.out.2.1.setRow (show w.heap.size < w.heap.size + 2 by omega) _).setRow (show w.heap.size + 1 < w.heap.size + 2 by omega) _, HO2.out.2.2.1, K5.low⟩
  case rest =>
    obtain ⟨o1, o2, p1, p2, c1, c2, hof1, hof2, r1, r2, hm1, hm2, hcp, hlow⟩ := hcut
    have HO := Lib.hid (And.intro hof1 (And.intro hof2 (And.intro hm1 (And.intro hm2 hlow))))
    have HR := Lib.hid (And.intro r1 r2)
    have HV3 := Lib.hid hm1.v16
    have HV4 := Lib.hid hm2.v16
    clear hof1 hof2 r1 r2 hm1 hm2 hlow
    go_wp2_with ((with_reducible refine cl_load ?_ (.tmp 2) ?_ w.heap.size o1.v (.slice p1 o1.l.length c1) ?_ ?_ ?_ ?_); rfl; rfl; rfl; exact HR.out.1; exact HV3.out)
    refine (tellC o1 p1 c1 wc HO.out.2.2.1.cin).mono ?_
    rintro e w1 ⟨⟨b1, b2, s, cl, tp, tk, rfl, ht⟩, hb1⟩
    unfold tellF
    have X1 := Lib.hid (And.intro (HR.out.1.keep hb1) (And.intro (HR.out.2.keep hb1) (And.intro ht (And.intro (HO.out.2.2.2.1.below hb1) (HO.out.2.2.2.2.trans (hb1.mono HO.out.2.2.2.2.size))))))
    clear ht hb1 HR
    go_upto_region 4 with fail
    have hbF := (Below.refl w1.heap.size w1).alloc (Nat.le_refl _) (.cells #[.func (.func 61) #[] #[.pointer (some ⟨b1, 0, none⟩), .pointer (some ⟨b2, 0, none⟩)]] 54)
    have hbT := hbF.alloc (by simp) (.cells #[.slice none 0 0] 24)
    have f5 : Boxed ((w1.alloc (.cells #[.func (.func 61) #[] #[.pointer (some ⟨b1, 0, none⟩), .pointer (some ⟨b2, 0, none⟩)]] 54)).alloc (.cells #[.slice none 0 0] 24)) w1.heap.size 54 (.func (.func 61) #[] #[.pointer (some ⟨b1, 0, none⟩), .pointer (some ⟨b2, 0, none⟩)]) := (Boxed.new w1 _ _).alloc _
    have f6 := Boxed.new (w1.alloc (.cells #[.func (.func 61) #[] #[.pointer (some ⟨b1, 0, none⟩), .pointer (some ⟨b2, 0, none⟩)]] 54)) 24 (.slice none 0 0)
    rw [World.size_alloc] at f6
    have X2 := Lib.hid (And.intro (X1.out.1.keep hbT) (And.intro (X1.out.2.1.keep hbT) (And.intro (X1.out.2.2.1.below hbT) (And.intro (X1.out.2.2.2.1.below hbT) (And.intro (X1.out.2.2.2.2.trans (hbT.mono X1.out.2.2.2.2.size)) (And.intro f5 f6))))))
    have hsT : ((w1.alloc (.cells #[.func (.func 61) #[] #[.pointer (some ⟨b1, 0, none⟩), .pointer (some ⟨b2, 0, none⟩)]] 54)).alloc (.cells #[.slice none 0 0] 24)).heap.size = w1.heap.size + 2 := by simp
    have hz1 : w.heap.size + 2 ≤ w1.heap.size := by have := X1.out.2.1.lt; omega
    have HLW := Lib.hid hbT
    have HMD := Lib.hid X1.out.2.2.2.1
    have HTL := Lib.hid X1.out.2.2.1
    have HLB := Lib.hid X1.out.2.2.2.2
    have hsw := X1.out.2.2.2.2.size
    clear hbF hbT f5 f6 X1
    generalize (w1.alloc (.cells #[.func (.func 61) #[] #[.pointer (some ⟨b1, 0, none⟩), .pointer (some ⟨b2, 0, none⟩)]] 54)).alloc (.cells #[.slice none 0 0] 24) = W2 at *
    go_wp2_with (first
      | ((with_reducible refine cl_load ?_ (.tmp 3) ?_ (w.heap.size + 1) o2.v (.slice p2 o2.l.length c2) ?_ ?_ ?_ ?_); rfl; rfl; rfl; exact X2.out.2.1; exact HV4.out)
      | ((with_reducible refine cl_loadV ?_ (.tmp 15) ?_ w.heap.size o1.v (.slice p1 o1.l.length c1) ?_ ?_ ?_ ?_); rfl; rfl; rfl; exact X2.out.1; exact HV3.out))
    refine (pastC o2 p2 c2 o1.v W2).mono ?_
    rintro e W3 ⟨rfl, hw3⟩
    go_wp2_with fail
    have e2 : (W2.alloc (.cells (ccs o2.v (.slice p2 o2.l.length c2)) 26)).heap.size = W2.heap.size + 1 := by simp
    have hbW : Go.RowKit.Below W2.heap.size W2 W3 := by rw [← hw3]; exact ((Below.refl _ _).alloc (Nat.le_refl _) _).alloc (by simp) _
    have hc3 : CRow W3 (w1.heap.size + 2) o2.v (.slice p2 o2.l.length c2) := by rw [← hw3, ← hsT]; exact (CRow.new W2 _ _).alloc _
    have hv3 : VRow W3 (w1.heap.size + 2 + 1) o1.v := by rw [← hw3, ← hsT, ← e2]; exact VRow.new _ _
    have hs3 : W3.heap.size = w1.heap.size + 4 := by rw [← hw3]; simp; omega
    have HB13 := Lib.hid (X2.out.2.2.2.2.2.1)
    have X3 := Lib.hid (And.intro hc3 (And.intro hv3 (And.intro hbW (And.intro ((hbW.block w1.heap.size (by omega)).trans X2.out.2.2.2.2.2.1) ((hbW.block (w1.heap.size + 1) (by omega)).trans X2.out.2.2.2.2.2.2)))))
    have hlow : Go.RowKit.Below w1.heap.size w1 W3 := HLW.out.trans (hbW.mono (by omega))
    have HLO := Lib.hid hlow
    have hsin : SIn (fun k => k < w1.heap.size ∨ k = w1.heap.size + 2 ∨ k = w1.heap.size + 2 + 1) W3 p2 o2.l := by
      rcases HMD.out.new with h | ⟨b, off, h1, h2, h3, h4⟩
      · exact .inl h
      · refine .inr ⟨b, off, h1, .inl h3, Nat.lt_of_lt_of_le h3 hlow.size, fun j d hj => ?_⟩
        obtain ⟨q0, q1⟩ := h4 j d hj
        exact ⟨by rw [hlow.cell (p := ⟨b, off + j * 2, none⟩) h3]; exact q0, by rw [hlow.cell (p := ⟨b, off + j * 2 + 1, none⟩) h3]; exact q1⟩
    have HSI := Lib.hid hsin
    have hca := HO.out.1.clean
    have hcb := HO.out.2.1.clean
    have hst := past_stops 3 (by omega) (fun k => k < w1.heap.size ∨ k = w1.heap.size + 2 ∨ k = w1.heap.size + 2 + 1) (w1.heap.size + 2) (w1.heap.size + 2 + 1) o2 hcb o1.v HV3.out hca.ok p2 c2 HMD.out.len hcp (.inr (.inl rfl)) (.inr (.inr rfl)) W3 X3.out.1 X3.out.2.1 HSI.out
    have hlk0 : Lk o1 w1 w1.heap.size (w1.heap.size + 1) W3.heap.size (.func (.func 61) #[] #[.pointer (some ⟨b1, 0, none⟩), .pointer (some ⟨b2, 0, none⟩)]) [] W3 := ⟨⟨none, 0, X3.out.2.2.2.2, ownD_nil _ _⟩, X3.out.2.2.2.1, by simp [lackF], Nat.le_refl _, hlow⟩
    clear hc3 hv3 hbW hw3 e2 hsin hlow
    have hf : w1.heap.size < W3.heap.size := by omega
    have ht : w1.heap.size + 1 < W3.heap.size := by omega
    have hw : w1.heap.size ≤ W3.heap.size := by omega
    obtain ⟨A, hA⟩ : ∃ A : Act, A = { tmps := #[.agg (ccs a.v (.slice pa a.l.length ca)), .agg (ccs b.v (.slice pb b.l.length cb)), .pointer (some ⟨w.heap.size, 0, none⟩), .pointer (some ⟨w.heap.size + 1, 0, none⟩), .slice none 0 0, .pointer (some ⟨w1.heap.size, 0, none⟩), .pointer (some ⟨w1.heap.size + 1, 0, none⟩), undef, u8, u9, u10, u11, .agg (ccs o1.v (.slice p1 o1.l.length c1)), .func (.func 61) #[] #[.pointer (some ⟨b1, 0, none⟩), .pointer (some ⟨b2, 0, none⟩)], .agg (ccs o2.v (.slice p2 o2.l.length c2)), .pointer (some ⟨w.heap.size, 0, none⟩), .agg (ics o1.v), .func (.func 69) #[] #[.pointer (some ⟨w1.heap.size + 2, 0, none⟩), .pointer (some ⟨w1.heap.size + 2 + 1, 0, none⟩)], undef, undef, undef, undef, undef, undef, undef, undef, undef, undef, undef, undef, undef], defers := [] } := ⟨_, rfl⟩
    have hent := ent_tell
    refine (wpIn_wide (n := 4)).1 ?_
    refine wpIn_rangeFunc_ownH rfl (by omega) (gf := 69) (lb := #[.pointer (some ⟨w1.heap.size + 2, 0, none⟩), .pointer (some ⟨w1.heap.size + 2 + 1, 0, none⟩)]) rfl trivial (enters_of Try.func69 (by kernel_rfl) rfl)
      hst (fun h k => h.trans k) (keepS_b (fun k hk => by rcases hk with h | h | h <;> omega)) (Below.refl _ _) (fun _ => rfl)
      (Lk o1 w1 w1.heap.size (w1.heap.size + 1) W3.heap.size (.func (.func 61) #[] #[.pointer (some ⟨b1, 0, none⟩), .pointer (some ⟨b2, 0, none⟩)]))
      (fun c pre' W => c = .exit 0 ∧ ∃ pre x, pre' = pre ++ [x] ∧ Lk o1 w1 w1.heap.size (w1.heap.size + 1) W3.heap.size (.func (.func 61) #[] #[.pointer (some ⟨b1, 0, none⟩), .pointer (some ⟨b2, 0, none⟩)]) pre W ∧ (lackF o1 pre).length = 4096)
      (fun s W W' row hs hg hr => hs.machine hf ht hw hg hr)
      (fun c s W W' row hs hg hr => by
        obtain ⟨h1, pre, x, h2, h3, h4⟩ := hs
        exact ⟨h1, pre, x, h2, h3.machine hf ht hw hg hr, h4⟩)
      hlk0
      (fun x a' W => ∃ g, Rnd A W3.heap.size x a' W g)
      (fun x a' s W W' row hs hg hr => by
        obtain ⟨g, h1, h2, h3⟩ := hs
        refine ⟨g, h1, ?_, h3⟩
        rw [hg.block g (lt_of_block h2) (fun e => by
          obtain ⟨o, ho, hoc⟩ := (hr g e.symm).2
          rw [h2] at ho
          cases ho
          cases hoc)]
        exact h2)
      ?assign ?body ?done ?stop
    case assign =>
      intro l pre x W K hI hK
      have hKK := hK { tmps := (A.tmps.setIfInBounds 18 (.agg #[.int .i64 x.1, .int .i64 x.2])).setIfInBounds 7 (.pointer (some ⟨W.heap.size, 0, none⟩)), defers := [] } (W.alloc (.cells #[.int .i64 x.1, .int .i64 x.2] 31)) ((KeepsOthers.alloc W _).from _) (KeepS.below ((Below.refl _ _).alloc (Nat.le_refl _) _)) (hI.below hf ht hw ((Below.refl _ _).alloc (Nat.le_refl _) _)) ⟨W.heap.size, rfl, heap_alloc_new W _, hI.size⟩
      rw [hA] at hKK
      gi_wp2
      exact hKK
    case body =>
      rintro l pre x a' W hl - hI ⟨g, rfl, hblk, hlo⟩ hlt
      rw [hA]
      simp only [List.setIfInBounds_toArray, List.set_cons_zero, List.set_cons_succ]
      obtain ⟨oa, oc, hbx, hown⟩ := hI.out
      have hml := hI.len
      have ct := hbx.cell
      have cf := hI.fn.cell
      have d0 : W.cell? ⟨g, 0, none⟩ = some (.int .i64 x.1) := by rw [Joins.cell_of_block hblk]; rfl
      have d1 : W.cell? ⟨g, 1, none⟩ = some (.int .i64 x.2) := by rw [Joins.cell_of_block hblk]; rfl
      have HII := Lib.hid hI
      have HBX := Lib.hid (And.intro hbx (And.intro hown hblk))
      by_cases h4 : (lackF o1 pre).length = 4096
      · have hg4 : (((lackF o1 pre).length : Int) == 4096) = true := by simp; omega
        have H4 := Lib.hid h4
        clear hI hbx hown hblk h4
        gi_wp2
        exact ⟨KeepsFrom.refl _ _, rfl, pre, x, rfl, HII.out, H4.out⟩
      · have hg4 : (((lackF o1 pre).length : Int) == 4096) = false := by simp; omega
        have hlt4 : (lackF o1 pre).length < 4096 := by omega
        have htl := tell1C x W (HTL.out.below hI.low)
        obtain ⟨u, hu⟩ : ∃ u, hasC o1 x = u := ⟨_, rfl⟩
        rw [hu] at htl
        have HTC := Lib.hid htl
        have hsn := lackF_snoc o1 pre x
        rw [hu] at hsn
        have hsW := hI.size
        have hgW := lt_of_block hblk
        clear hI hbx hown htl hu h4
        cases u with
        | true =>
          rw [if_pos rfl] at hsn
          have HSN := Lib.hid hsn
          clear hsn hblk
          gi_wp2_with (first
            | (refine ⟨trivial, ?_⟩; gi_at_call 61; refine (CallsIn.inRound l (callsIn_wide.2 HTC.out)).mono ?_; rintro e w5 ⟨rfl, hb5⟩; have HB5 := Lib.hid hb5; clear hb5))
          exact ⟨(keepsBelow HB5.out).from _, KeepS.below HB5.out, by
            have h1 := HII.out.below hf ht hw HB5.out
            obtain ⟨q1, q2, q3, q4, q5⟩ := h1
            exact ⟨by rw [HSN.out]; exact q1, q2, by rw [HSN.out]; exact q3, q4, q5⟩⟩
        | false =>
          rw [if_neg (by simp)] at hsn
          have HSN := Lib.hid hsn
          have e9 : (lackF o1 pre ++ [x]).length = (lackF o1 pre).length + 1 := by simp
          clear hsn hblk
          gi_wp2_with (first
            | (refine ⟨trivial, ?_⟩; gi_at_call 61; refine (CallsIn.inRound l (callsIn_wide.2 HTC.out)).mono ?_; rintro e w5 ⟨rfl, hb5⟩
               (have hbx5 : Boxed w5 (w1.heap.size + 1) 24 (.slice oa (lackF o1 pre).length oc) := (hb5.block _ (by omega)).trans HBX.out.1)
               (have hown5 := HBX.out.2.1.below hb5 (Nat.le_refl _))
               (have hs5 := hb5.size)
               (obtain ⟨q, qc, w6, hr6, ho6, hb6, hko6⟩ := appD_one x hown5 (by omega) ((lackF o1 pre).length + 1) rfl (by omega))
               (have hbx6 : Boxed w6 (w1.heap.size + 1) 24 (.slice oa (lackF o1 pre).length oc) := (hb6.block _ ht).trans hbx5)
               (have ct5 := hbx5.cell)
               (have d05 : w5.cell? ⟨g, 0, none⟩ = some (.int .i64 x.1) := by rw [hb5.cell (p := ⟨g, 0, none⟩) hgW]; exact d0)
               (have d15 : w5.cell? ⟨g, 1, none⟩ = some (.int .i64 x.2) := by rw [hb5.cell (p := ⟨g, 1, none⟩) hgW]; exact d1)
               (have ct6 := hbx6.cell)
               (have cz6 := hbx6.frozen)
               (have HB5 := Lib.hid (And.intro hb5 (And.intro hb6 (And.intro hko6 (And.intro ho6 hbx6)))))
               clear hb5 hb6 hko6 ho6 hbx6 hown5 hbx5))
          have h1 := HII.out.below hf ht hw HB5.out.1
          have hb6 := HB5.out.2.1
          have hs6 := hb6.size
          refine ⟨(((keepsBelow HB5.out.1).trans HB5.out.2.2.1).trans (KeepsOthers.setCell _ _ _)).from _, ((KeepS.below HB5.out.1).trans (KeepS.low hb6 (fun k hk => by rcases hk with h | h | h <;> omega))).trans (KeepS.grown (grownBy_setCell' _ _ _) (fun k e hk => by have := Option.some.inj e; rcases hk with h | h | h <;> omega)), ⟨⟨q, qc, ?_, ?_⟩, ?_, ?_, ?_, ?_⟩⟩
          · rw [HSN.out, e9]; exact HB5.out.2.2.2.2.set _
          · rw [HSN.out, e9]; exact HB5.out.2.2.2.1.setc ht _ _
          · have hb61 : Boxed w6 w1.heap.size 54 (.func (.func 61) #[] #[.pointer (some ⟨b1, 0, none⟩), .pointer (some ⟨b2, 0, none⟩)]) := (hb6.block _ hf).trans h1.fn
            exact hb61.other (by omega) _
          · rw [HSN.out, e9]; omega
          · simp; omega
          · exact (h1.low.trans (hb6.mono hw)).setCell (show w1.heap.size ≤ w1.heap.size + 1 by omega) _
    case done =>
      rintro D ys W hD rfl hI hK
      obtain ⟨oa, oc, hbx, hown⟩ := hI.out
      have ct := hbx.cell
      have hmis := miss_past (a := o1) (b := o2) hca hcb (pre := pastL o1.v o2) (List.prefix_refl _) hI.len (.inl rfl)
      have HMI := Lib.hid (hmis.clean HO.out.1 HO.out.2.1)
      have HOW := Lib.hid (And.intro hown.from hI.low)
      have hDW := (Array.getElem?_eq_some_iff.1 hK).1
      clear hmis hbx hown
      go_wp2_with fail
      refine ⟨by simp, .inl ⟨_, _, rfl, run_takeDeferred hK, ?_⟩⟩
      refine ⟨_, results_tmp rfl _ _ _, ?_⟩
      obtain ⟨a', c', he, hfr, -⟩ := HOW.out.1
      injection he with he1 he2 he3
      subst he1
      have hbl : Go.RowKit.Below w.heap.size w (W.putObj D (.deferred none)) := (HLB.out.trans (HOW.out.2.mono (by omega))).trans (belowK_b (w := W3) (by omega) W D _ _ hD hK rfl rfl)
      have hfr2 : DFrom (W.putObj D (.deferred none)) w.heap.size oa _ := dfrom_put hfr hK (by omega) _
      exact ⟨⟨_, oa, oc, rfl, HMI.out, hfr2⟩, hbl⟩
    case stop =>
      rintro D c pre' W hD hpre ⟨rfl, pre, x, rfl, hI, h4⟩ hK
      obtain ⟨oa, oc, hbx, hown⟩ := hI.out
      have ct := hbx.cell
      have hmis := miss_past (a := o1) (b := o2) hca hcb (pre := pre) ((List.prefix_append _ _).trans hpre) hI.len (.inr h4)
      clear h4
      refine wpIn_wide.2 ?_
      have HMI := Lib.hid (hmis.clean HO.out.1 HO.out.2.1)
      have HOW := Lib.hid (And.intro hown.from hI.low)
      have hDW := (Array.getElem?_eq_some_iff.1 hK).1
      clear hmis hbx hown
      go_wp2_with fail
      refine ⟨by simp, .inl ⟨_, _, rfl, run_takeDeferred hK, ?_⟩⟩
      refine ⟨_, results_tmp rfl _ _ _, ?_⟩
      obtain ⟨a', c', he, hfr, -⟩ := HOW.out.1
      injection he with he1 he2 he3
      subst he1
      have hbl : Go.RowKit.Below w.heap.size w (W.putObj D (.deferred none)) := (HLB.out.trans (HOW.out.2.mono (by omega))).trans (belowK_b (w := W3) (by omega) W D _ _ hD hK rfl rfl)
      have hfr2 : DFrom (W.putObj D (.deferred none)) w.heap.size oa _ := dfrom_put hfr hK (by omega) _
      exact ⟨⟨_, oa, oc, rfl, HMI.out, hfr2⟩, hbl⟩
end Go.Proofs.Ytcedliaeipabnaa
