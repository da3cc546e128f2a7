/-
  op, the document's: Make.
-/
import Derived.Test.YtmnblpjdiplioaaGreatGOp20
import Derived.Test.YtmnblpjdiplioaaGreatGOp22
import Derived.Test.YtmnblpjdiplioaaGreatGOp25
import Derived.Test.YtmnblpjdiplioaaGreatGOp26
import Derived.Test.YtmnblpjdiplioaaGreatGOp27
namespace Go.Proofs.YtmnblpjdiplioaaGreat
set_option linter.unusedSimpArgs false
set_option linter.unusedVariables false
set_option maxRecDepth 100000
open Go.RowKit Go.Sort

/-- what lies there while an update is made: what is asked for, the name, the stamp, the answer -/
structure MkR (w : World) (o : Opp) (d : Dt) (s : St) (U : World) : Prop where
  op : OBlk U w.heap.size o
  dt : Blk U (w.heap.size + 1) 36 #[.int .i64 d.1, .int .i64 d.2]
  st : Blk U (w.heap.size + 2) 38 #[.int .i64 s.t, .int .i64 s.c, .int .i64 s.r]
  rs : DBlk U (w.heap.size + 3) zDl none 0 none 0
  low : Go.RowKit.Below w.heap.size w U
theorem MkR.below {w : World} {o : Opp} {d : Dt} {s : St} {U V : World} (h : MkR w o d s U) (hb : Go.RowKit.Below U.heap.size U V) : MkR w o d s V :=
  ⟨h.op.keep hb, h.dt.keep hb, h.st.keep hb, h.rs.keep hb, h.low.trans (hb.mono h.low.size)⟩
theorem MkR.above {w : World} {o : Opp} {d : Dt} {s : St} {U V : World} {B : Nat} (h : MkR w o d s U) (hb : Go.RowKit.Below B U V) (hB : w.heap.size + 4 ≤ B) : MkR w o d s V :=
  ⟨h.op.below hb (by omega), h.dt.below hb (by omega), h.st.below hb (by omega), h.rs.below hb (by omega), h.low.trans (hb.mono (by omega))⟩
theorem MkR.set {w : World} {o : Opp} {d : Dt} {s : St} {U : World} (h : MkR w o d s U) {g j : Nat} (hg : w.heap.size + 4 ≤ g) (u : Value) : MkR w o d s (U.setCell ⟨g, j, none⟩ u) :=
  ⟨h.op.set (by omega) u, h.dt.set (by omega) u, h.st.set (by omega) u, h.rs.set (by omega) u, h.low.setCell (p := ⟨g, j, none⟩) (show w.heap.size ≤ g by omega) u⟩
theorem Blk.lset5 {w : World} {b : Nat} {d : Dt} {s : St} {l : List Ft} {g : List Dt} {la ga : Option Addr} {lk gk : Nat} (h : DBlk w b ⟨d, s, l, g⟩ la lk ga gk) (l' : List Ft) (la' : Option Addr) (lk' : Nat) : DBlk (w.setCell ⟨b, 5, none⟩ (.slice la' l'.length lk')) b ⟨d, s, l', g⟩ la' lk' ga gk := by
  have := Joins.block_setCell (i := 5) h (.slice la' l'.length lk')
  exact this
theorem Blk.lset6 {w : World} {b : Nat} {d : Dt} {s : St} {l : List Ft} {g : List Dt} {la ga : Option Addr} {lk gk : Nat} (h : DBlk w b ⟨d, s, l, g⟩ la lk ga gk) (g' : List Dt) (ga' : Option Addr) (gk' : Nat) : DBlk (w.setCell ⟨b, 6, none⟩ (.slice ga' g'.length gk')) b ⟨d, s, l, g'⟩ la lk ga' gk' := by
  have := Joins.block_setCell (i := 6) h (.slice ga' g'.length gk')
  exact this
/-- a fact with the update's name and stamp -/
def namedF (d : Dt) (s : St) (f : Ft) : Ft := ⟨d, s, f.k, f.n, f.v⟩
theorem bare_says {o : Opp} {d : Dt} {s : St} {m : ByteArray} : saysO o d s m = (bareO o m).map (namedF d s) := by
  unfold bareO saysO
  split
  · rfl
  split
  · rfl
  split
  · rfl
  split
  · rfl
  · rfl
theorem FFrom.setCell {w : World} {lo : Nat} {a : Option Addr} {l : List Ft} (h : FFrom w lo a l) {g : Nat} (hg : g < lo) (j : Nat) (u : Value) : FFrom (w.setCell ⟨g, j, none⟩ u) lo a l := by
  rcases h with h | ⟨b, off, rfl, hlo, hlt, hc⟩
  · exact .inl h
  · refine .inr ⟨b, off, rfl, hlo, by simpa using hlt, fun j f hj i v hv => ?_⟩
    have h1 := hc j f hj i v hv
    unfold World.cell? at h1 ⊢
    rw [Below.heap_setCell _ _ _ _ (show b ≠ g by omega)]
    exact h1
theorem named_snoc {F : List Ft} {k : Nat} {f : Ft} (d : Dt) (s : St) (h : F[k]? = some f) : (F.take (k + 1)).map (namedF d s) = (F.take k).map (namedF d s) ++ [namedF d s f] := by
  obtain ⟨h1, h2⟩ := List.getElem?_eq_some_iff.1 h
  rw [List.take_succ_eq_append_getElem h1, List.map_append, h2]; rfl
theorem FFrom.fmid {w3 U : World} {lo hi : Nat} {a : Option Addr} {l : List Ft} (h : FFrom w3 lo a l) (hh : hi = w3.heap.size) (hm : Mid lo hi w3 U) : FIn U a l := by
  rcases h with h | ⟨b, off, rfl, hlo, hlt, hc⟩
  · exact .inl h
  · refine .inr ⟨b, off, rfl, Nat.lt_of_lt_of_le hlt hm.size, fun j f hj i v hv => ?_⟩
    have h1 := hc j f hj i v hv
    unfold World.cell? at h1 ⊢
    rw [hm.block b hlo (by omega)]
    exact h1
/-- the state of the first loop -/
structure LpR (w : World) (o : Opp) (d : Dt) (s : St) (g lo hi : Nat) (w3 : World) (A : List Ft) (la : Option Addr) (lk : Nat) (U : World) : Prop where
  k : MkR w o d s U
  d : DBlk U g ⟨d, s, A, []⟩ la lk none 0
  own : OwnF hi (.slice la A.length lk) A U
  src : Mid lo hi w3 U
  hi : hi ≤ U.heap.size
theorem LpR.below {w : World} {o : Opp} {d : Dt} {s : St} {g lo hi : Nat} {w3 : World} {A : List Ft} {la : Option Addr} {lk : Nat} {U V : World} (h : LpR w o d s g lo hi w3 A la lk U) (hb : Go.RowKit.Below U.heap.size U V) : LpR w o d s g lo hi w3 A la lk V :=
  ⟨h.k.below hb, h.d.keep hb, h.own.below hb (Nat.le_refl _), h.src.below hb h.hi, Nat.le_trans h.hi hb.size⟩

/-- the state of the second loop, but the names kept -/
structure LqS (w : World) (o : Opp) (d : Dt) (s : St) (g lo hi : Nat) (w7 : World) (Fx : List Ft) (sa : Option Addr) (sk : Nat) (A : List Dt) (ga : Option Addr) (gk : Nat) (U : World) : Prop where
  k : MkR w o d s U
  d : DBlk U g ⟨d, s, Fx, A⟩ sa sk ga gk
  mid : Mid lo hi w7 U
  hi : hi ≤ U.heap.size
theorem LqS.below {w : World} {o : Opp} {d : Dt} {s : St} {g lo hi : Nat} {w7 : World} {Fx : List Ft} {sa : Option Addr} {sk : Nat} {A : List Dt} {ga : Option Addr} {gk : Nat} {U V : World} (h : LqS w o d s g lo hi w7 Fx sa sk A ga gk U) (hb : Go.RowKit.Below U.heap.size U V) : LqS w o d s g lo hi w7 Fx sa sk A ga gk V :=
  ⟨h.k.below hb, h.d.keep hb, h.mid.below hb h.hi, Nat.le_trans h.hi hb.size⟩
theorem LqS.above {w : World} {o : Opp} {d : Dt} {s : St} {g lo hi : Nat} {w7 : World} {Fx : List Ft} {sa : Option Addr} {sk : Nat} {A : List Dt} {ga : Option Addr} {gk : Nat} {U V : World} (h : LqS w o d s g lo hi w7 Fx sa sk A ga gk U) (hb : Go.RowKit.Below hi U V) (h4 : w.heap.size + 4 ≤ hi) (hg : g < hi) : LqS w o d s g lo hi w7 Fx sa sk A ga gk V :=
  ⟨h.k.above hb h4, h.d.below hb hg, h.mid.below hb (Nat.le_refl _), Nat.le_trans h.hi hb.size⟩
theorem OwnF.from1 {B n c : Nat} {a : Option Addr} {l : List Ft} {w : World} (h : OwnF B (.slice a n c) l w) : FFrom w B a l := by
  obtain ⟨a', c', he, hf, -⟩ := OwnF.from h
  injection he with h1 h2 h3
  rw [h1]; exact hf
theorem OwnD.from1 {B n c : Nat} {a : Option Addr} {l : List Dt} {w : World} (h : OwnD B (.slice a n c) l w) : DFrom w B a l := by
  obtain ⟨a', c', he, hf, -⟩ := OwnD.from h
  injection he with h1 h2 h3
  rw [h1]; exact hf
theorem DIn.cell2 {w : World} {b off k : Nat} {T : List Dt} {z : Dt} (h : DIn w (some ⟨b, off, none⟩) T) (hz : T[k]? = some z) : w.cell? ⟨b, off + k * 2, none⟩ = some (.int .i64 z.1) ∧ w.cell? ⟨b, off + k * 2 + 1, none⟩ = some (.int .i64 z.2) := by
  rcases h with rfl | ⟨b', off', he, hlt, hc⟩
  · simp at hz
  · injection he with he; injection he with h1 h2 h3; subst h1 h2
    exact hc k z hz
theorem build1Dr (z : Dt) (w : World) : (Instr.buildSlice 41 1 #[(0, .agg #[.int .i64 z.1, .int .i64 z.2])]).run Tryz.prog w = .ok (.slice (some ⟨w.heap.size, 0, none⟩) 1 1) (w.alloc (.cells #[.int .i64 z.1, .int .i64 z.2] 36)) := by
  obtain ⟨i0, hi, hz0, hz1, hz2⟩ := info_parts dotInfo
  refine run_buildSlice w 41 36 1 _ #[.int .i64 z.1, .int .i64 z.2] i0 (.agg #[.int .i64 0, .int .i64 0]) Tryz.underlying41 hi hz0 (by rw [hz1]; decide) (by rw [hz1]; decide) ?_
  rw [hz1]
  kernel_rfl
theorem drops_eq {T : List Dt} {k : Nat} {z d : Dt} (h : T[k]? = some z) (hz : z = d) : (T.take (k + 1)).filter (fun z => decide (z ≠ d)) = (T.take k).filter (fun z => decide (z ≠ d)) := by
  obtain ⟨h1, h2⟩ := List.getElem?_eq_some_iff.1 h
  rw [List.take_succ_eq_append_getElem h1, h2, List.filter_append]
  simp [hz]
theorem drops_ne {T : List Dt} {k : Nat} {z d : Dt} (h : T[k]? = some z) (hz : z ≠ d) : (T.take (k + 1)).filter (fun z => decide (z ≠ d)) = (T.take k).filter (fun z => decide (z ≠ d)) ++ [z] := by
  obtain ⟨h1, h2⟩ := List.getElem?_eq_some_iff.1 h
  rw [List.take_succ_eq_append_getElem h1, h2, List.filter_append]
  simp [hz]

/-- what lies there at Make's end -/
structure EndR (w : World) (d : Dt) (g lo hi : Nat) (w7 : World) (e : Dl) (la : Option Addr) (lk : Nat) (ga : Option Addr) (gk : Nat) (U : World) : Prop where
  dt : Blk U (w.heap.size + 1) 36 #[.int .i64 d.1, .int .i64 d.2]
  dl : DBlk U g e la lk ga gk
  rs : ∃ old, Blk U (w.heap.size + 3) 43 old ∧ old.size = (dlc e la lk ga gk).size
  low : Go.RowKit.Below w.heap.size w U
  mid : Mid lo hi w7 U
  own : OwnD hi (.slice ga e.g.length gk) e.g U
  hi : hi ≤ U.heap.size
theorem EndR.below {w : World} {d : Dt} {g lo hi : Nat} {w7 : World} {e : Dl} {la : Option Addr} {lk : Nat} {ga : Option Addr} {gk : Nat} {U V : World} (h : EndR w d g lo hi w7 e la lk ga gk U) (hb : Go.RowKit.Below U.heap.size U V) : EndR w d g lo hi w7 e la lk ga gk V := by
  obtain ⟨old, ho, hs⟩ := h.rs
  exact ⟨h.dt.keep hb, h.dl.keep hb, ⟨old, ho.keep hb, hs⟩, h.low.trans (hb.mono h.low.size), h.mid.below hb h.hi, h.own.below hb (Nat.le_refl _), Nat.le_trans h.hi hb.size⟩
theorem EndR.put {w : World} {d : Dt} {g lo hi : Nat} {w7 : World} {e : Dl} {la : Option Addr} {lk : Nat} {ga : Option Addr} {gk : Nat} {U : World} (h : EndR w d g lo hi w7 e la lk ga gk U) (h4 : w.heap.size + 4 ≤ g) (hg : g < lo) (hl : lo ≤ hi) :
    EndR w d g lo hi w7 e la lk ga gk (U.setRow (w.heap.size + 3) (dlc e la lk ga gk)) ∧ DBlk (U.setRow (w.heap.size + 3) (dlc e la lk ga gk)) (w.heap.size + 3) e la lk ga gk := by
  obtain ⟨old, ho, hs⟩ := h.rs
  have hp := ho.put (dlc e la lk ga gk)
  exact ⟨⟨h.dt.other (by omega) _, h.dl.other (by omega) _, ⟨_, hp, rfl⟩, belowRow h.low (by omega) _, h.mid.setRow (.inl (by omega)) _, h.own.ofRow (by omega) _, by simpa using h.hi⟩, hp⟩
theorem chkDm_dot {e : Dl} (h : chkDm e = 0) : chkD e.d = 0 := by
  rw [chkDm_of] at h
  by_cases h1 : hdE e = 0
  · unfold hdE at h1
    by_cases h2 : chkD e.d = 0
    · exact h2
    · rw [if_pos h2] at h1; exact absurd h1 h2
  · rw [if_pos h1] at h; exact absurd h h1

set_option maxHeartbeats 32000000 in
theorem makeOR (l : List Ft) (a : Option Addr) (cap : Nat) (o : Opp) (d : Dt) (s : St) (m : ByteArray) (w : World) (hf : FIn w a l) (hl : l.length ≤ 60) (ho : OpArg o) (hval : ∀ f ∈ saysO o d s m, f.v.size ≤ 5000) :
    Calls Tryz.prog 15 #[.slice a l.length cap, .agg (opc o), .agg #[.int .i64 d.1, .int .i64 d.2], .agg #[.int .i64 s.t, .int .i64 s.c, .int .i64 s.r], .string m] w fun v w' =>
      (∃ (la : Option Addr) (lk : Nat) (ga : Option Addr) (gk : Nat), v = .returned (.tuple #[.agg (dlc (makeO l o 0 d s m).1 la lk ga gk), .int .i64 (makeO l o 0 d s m).2]) ∧ DlMem w' (makeO l o 0 d s m).1 la ga) ∧ Go.RowKit.Below w.heap.size w w' := by
  have e1 : (w.alloc (.cells (opc o) 25)).heap.size = w.heap.size + 1 := World.size_alloc _ _
  have e2 : ((w.alloc (.cells (opc o) 25)).alloc (.cells #[.int .i64 d.1, .int .i64 d.2] 36)).heap.size = w.heap.size + 2 := by rw [World.size_alloc, e1]
  have e3 : (((w.alloc (.cells (opc o) 25)).alloc (.cells #[.int .i64 d.1, .int .i64 d.2] 36)).alloc (.cells #[.int .i64 s.t, .int .i64 s.c, .int .i64 s.r] 38)).heap.size = w.heap.size + 3 := by rw [World.size_alloc, e2]
  have r0 := (((Blk.new w 25 (opc o)).alloc (.cells #[.int .i64 d.1, .int .i64 d.2] 36)).alloc (.cells #[.int .i64 s.t, .int .i64 s.c, .int .i64 s.r] 38)).alloc (.cells (dlc zDl none 0 none 0) 43)
  have r1 := ((Blk.new (w.alloc (.cells (opc o) 25)) 36 #[.int .i64 d.1, .int .i64 d.2]).alloc (.cells #[.int .i64 s.t, .int .i64 s.c, .int .i64 s.r] 38)).alloc (.cells (dlc zDl none 0 none 0) 43)
  have r2 := (Blk.new ((w.alloc (.cells (opc o) 25)).alloc (.cells #[.int .i64 d.1, .int .i64 d.2] 36)) 38 #[.int .i64 s.t, .int .i64 s.c, .int .i64 s.r]).alloc (.cells (dlc zDl none 0 none 0) 43)
  have r3 := Blk.new (((w.alloc (.cells (opc o) 25)).alloc (.cells #[.int .i64 d.1, .int .i64 d.2] 36)).alloc (.cells #[.int .i64 s.t, .int .i64 s.c, .int .i64 s.r] 38)) 43 (dlc zDl none 0 none 0)
  rw [e1] at r1
  rw [e2] at r2
  rw [e3] at r3
  have hlow : Go.RowKit.Below w.heap.size w ((((w.alloc (.cells (opc o) 25)).alloc (.cells #[.int .i64 d.1, .int .i64 d.2] 36)).alloc (.cells #[.int .i64 s.t, .int .i64 s.c, .int .i64 s.r] 38)).alloc (.cells (dlc zDl none 0 none 0) 43)) :=
    (((lowA w _).alloc (by rw [e1]; omega) _).alloc (by rw [e2]; omega) _).alloc (by rw [e3]; omega) _
  have K0 : Hid (MkR w o d s ((((w.alloc (.cells (opc o) 25)).alloc (.cells #[.int .i64 d.1, .int .i64 d.2] 36)).alloc (.cells #[.int .i64 s.t, .int .i64 s.c, .int .i64 s.r] 38)).alloc (.cells (dlc zDl none 0 none 0) 43))) := Lib.hid ⟨r0, r1, r2, r3, hlow⟩
  have HI := Lib.hid hf
  have HM := Lib.hid (fun W (hb : Go.RowKit.Below w.heap.size w W) => mayOR l a cap o W (hf.below hb) hl ho)
  have HMV := Lib.hid (show makeO l o 0 d s m = if mayO l o 0 ≠ 0 then (zDl, mayO l o 0) else if chkDm (makeE l o d s m) ≠ 0 then (zDl, chkDm (makeE l o d s m)) else (makeE l o d s m, 0) from rfl)
  have HOK := Lib.hid (fun h : mayO l o 0 = 0 => chkO_ok (mayO_ok h).1)
  have HVAL := Lib.hid hval
  clear e1 e2 e3 r0 r1 r2 r3 hlow hf hval
  generalize makeO l o 0 d s m = RS at *
  generalize mayO l o 0 = E at *
  go_enter Tryz.func15, Tryz.ntmps15
  go_upto_region 1 with fail
  change Code.wp _ _ _ _ ((((w.alloc (.cells (opc o) 25)).alloc (.cells #[.int .i64 d.1, .int .i64 d.2] 36)).alloc (.cells #[.int .i64 s.t, .int .i64 s.c, .int .i64 s.r] 38)).alloc (.cells (dlc zDl none 0 none 0) 43))
  generalize (((w.alloc (.cells (opc o) 25)).alloc (.cells #[.int .i64 d.1, .int .i64 d.2] 36)).alloc (.cells #[.int .i64 s.t, .int .i64 s.c, .int .i64 s.r] 38)).alloc (.cells (dlc zDl none 0 none 0) 43) = W at *
  go_wp2_with ((with_reducible refine bl_load ?_ 25 (.tmp 6) ?_ w.heap.size 0 (opc o) ?_ ?_ Tryz.underlying25 ?_ ?_ ?_); rfl; rfl; rfl; exact K0.out.op.all; rfl; exact infoO _; simp only [Act.put, List.setIfInBounds_toArray, List.set_cons_zero, List.set_cons_succ])
  refine (HM.out W K0.out.low).mono ?_
  rintro v w1 ⟨rfl, hb1⟩
  have K1 := Lib.hid (K0.out.below hb1)
  clear hb1 K0 HM
  by_cases hE : E = 0
  case neg =>
    have hne : (E != 0) = true := by simp [hE]
    have HV := Lib.hid (show RS = (zDl, E) by rw [HMV.out, if_pos hE])
    have HP := Lib.hid (K1.out.rs.put (dlc zDl none 0 none 0))
    have HB := Lib.hid (belowRow K1.out.low (show w.heap.size ≤ w.heap.size + 3 by omega) (dlc zDl none 0 none 0))
    clear hE HOK
    go_wp2_with ((with_reducible refine bl_store ?_ 43 (.tmp 10) (.tmp 25) ?_ (w.heap.size + 3) (dlc zDl none 0 none 0) ?_ ?_ ?_ ?_ ?_ ?_); rfl; rfl; rfl; rfl; exact ⟨_, K1.out.rs, rfl⟩; exact infoD _ _ _ _ _; exact dl_one _ _ _ _ _; simp only [Act.put, List.setIfInBounds_toArray, List.set_cons_zero, List.set_cons_succ])
    refine bodyPost_ret (retDl rfl _ _ (w.heap.size + 3) zDl none 0 none 0 _ rfl rfl HP.out) rfl ?_
    rw [HV.out]
    exact ⟨⟨none, 0, none, 0, rfl, dlMem_zero _⟩, HB.out⟩
  case pos =>
  have hkk := HOK.out hE
  have hk1 := hkk.1
  have hk6 := hkk.2.1
  subst hE
  have HMV1 := Lib.hid (show RS = _ from HMV.out.trans (if_neg (by simp)))
  clear HOK hkk HMV
  have c0 : w1.cell? ⟨w.heap.size + 1, 0, none⟩ = some (.int .i64 d.1) := K1.out.dt.cell rfl
  have c1 : w1.cell? ⟨w.heap.size + 1, 1, none⟩ = some (.int .i64 d.2) := K1.out.dt.cell rfl
  have q0 : w1.cell? ⟨w.heap.size + 2, 0, none⟩ = some (.int .i64 s.t) := K1.out.st.cell rfl
  have q1 : w1.cell? ⟨w.heap.size + 2, 1, none⟩ = some (.int .i64 s.c) := K1.out.st.cell rfl
  have q2 : w1.cell? ⟨w.heap.size + 2, 2, none⟩ = some (.int .i64 s.r) := K1.out.st.cell rfl
  have HDZ := Lib.hid (Blk.new w1 43 (dlc zDl none 0 none 0))
  have hla := lowA w1 (.cells (dlc zDl none 0 none 0) 43)
  have hlb := belowRow hla (Nat.le_refl _) (dlc ⟨d, s, [], []⟩ none 0 none 0)
  have D2 := Lib.hid (HDZ.out.put (dlc ⟨d, s, [], []⟩ none 0 none 0))
  have K2 := Lib.hid (K1.out.below hlb)
  have HG := Lib.hid (show w.heap.size + 4 ≤ w1.heap.size by have := K1.out.rs.lt; omega)
  clear hla hlb K1
  go_upto_region 5 with ((with_reducible refine bl_store ?_ 43 (.tmp 13) (.tmp 29) ?_ w1.heap.size (dlc ⟨d, s, [], []⟩ none 0 none 0) ?_ ?_ ?_ ?_ ?_ ?_); rfl; rfl; rfl; rfl; exact ⟨_, HDZ.out, rfl⟩; exact infoD _ _ _ _ _; exact dl_one _ _ _ _ _; simp only [Act.put, List.setIfInBounds_toArray, List.set_cons_zero, List.set_cons_succ])
  change Code.wp _ _ _ _ ((w1.alloc (.cells (dlc zDl none 0 none 0) 43)).setRow w1.heap.size (dlc ⟨d, s, [], []⟩ none 0 none 0))
  clear HDZ c0 c1 q0 q1 q2
  generalize (w1.alloc (.cells (dlc zDl none 0 none 0) 43)).setRow w1.heap.size (dlc ⟨d, s, [], []⟩ none 0 none 0) = W2 at *
  generalize w1.heap.size = g at *
  go_wp2_with ((with_reducible refine bl_load ?_ 25 (.tmp 6) ?_ w.heap.size 0 (opc o) ?_ ?_ Tryz.underlying25 ?_ ?_ ?_); rfl; rfl; rfl; exact K2.out.op.all; rfl; exact infoO _; simp only [Act.put, List.setIfInBounds_toArray, List.set_cons_zero, List.set_cons_succ])
  refine (factsOR o m hk1 hk6 W2).mono ?_
  rintro v w3 ⟨⟨fa, fk, rfl, hfi⟩, hb3⟩
  have K3 := Lib.hid (K2.out.below hb3)
  have D3 := Lib.hid (D2.out.keep hb3)
  have HFI := Lib.hid hfi
  have HSY := Lib.hid (bare_says (o := o) (d := d) (s := s) (m := m))
  have HGL := Lib.hid (show g < w3.heap.size from D3.out.lt)
  have HGW2 := Lib.hid (show g < W2.heap.size from D2.out.lt)
  have HBL := Lib.hid (show (bareO o m).length ≤ 1 from saysO_len _ _ _ _)
  clear hfi hb3 K2 D2
  generalize bareO o m = F at *
  go_wp2_with fail
  go_loopw [15] (fun i wr => ∃ k : Nat, k ≤ F.length ∧ i = .int .i64 k ∧ Hid (∃ A la lk, A = (F.take k).map (namedF d s) ∧ LpR w o d s g W2.heap.size w3.heap.size w3 A la lk wr)) (fun i _ => F.length - (intOf i).toNat)
  case atStart => exact ⟨0, Nat.zero_le _, rfl, Lib.hid ⟨[], none, 0, by simp, K3.out, D3.out, ownF_nil _ _, Mid.refl _ _ _, Nat.le_refl _⟩⟩
  case round =>
    obtain ⟨k, hk, rfl, HR⟩ := hrel
    obtain ⟨A, la, lk, hA, hlp⟩ := HR.out
    have LP := Lib.hid hlp
    have HA := Lib.hid hA
    clear hlp HR hA
    by_cases hlt : k < F.length
    · obtain ⟨f, hf⟩ : ∃ f, F[k]? = some f := ⟨_, List.getElem?_eq_getElem hlt⟩
      obtain ⟨fb, off, rfl, hbl, r0⟩ := (HFI.out.fmid rfl LP.out.src).at hf
      have hi1 : (k : Int) < (F.length : Int) := by omega
      have R0 := Lib.hid r0
      have HN := Lib.hid (named_snoc d s hf)
      have HZ := Lib.hid (boxZ_row wr f)
      have LZ := Lib.hid (LP.out.below (boxZ_below wr f))
      have HGW := Lib.hid (show w.heap.size + 4 ≤ wr.heap.size by have := LP.out.k.rs.lt; omega)
      have HGD := Lib.hid (show g < wr.heap.size from LP.out.d.lt)
      have BZ := Lib.hid (boxZ_below wr f)
      have hFl := HBL.out
      have hAl : A.length ≤ 60 := by rw [HA.out, List.length_map, List.length_take]; have := HBL.out; omega
      clear r0 hf
      go_upto_region 10 with (first
        | ((with_reducible refine fl_load ?_ (.tmp 41) ?_ fb (off + k * 8) f ?_ ?_ ?_); rfl; rfl; rfl; exact R0.out)
        | ((with_reducible refine fl_store ?_ (.tmp 16) (.tmp 42) ?_ wr.heap.size f ?_ ?_ ?_ ?_); rfl; rfl; rfl; rfl; exact boxZ_old wr))
      change Code.wp _ _ _ _ (boxZ wr f)
      have HHI := Lib.hid LP.out.hi
      generalize boxZ wr f = Z at *
      clear R0
      have c0 : Z.cell? ⟨w.heap.size + 1, 0, none⟩ = some (.int .i64 d.1) := LZ.out.k.dt.cell rfl
      have c1 : Z.cell? ⟨w.heap.size + 1, 1, none⟩ = some (.int .i64 d.2) := LZ.out.k.dt.cell rfl
      have z0 : Z.cell? ⟨wr.heap.size, 0, none⟩ = some (.int .i64 f.d.1) := by have h := HZ.out.range 0 _ rfl; rwa [Nat.zero_add] at h
      have z1 : Z.cell? ⟨wr.heap.size, 1, none⟩ = some (.int .i64 f.d.2) := by have h := HZ.out.range 1 _ rfl; rwa [Nat.zero_add] at h
      have y0 : Z.frozen? ⟨wr.heap.size, 0, none⟩ = false := Joins.unfrozen_of_block HZ.out 0
      have y1 : Z.frozen? ⟨wr.heap.size, 1, none⟩ = false := Joins.unfrozen_of_block HZ.out 1
      go_upto_region 11 with fail
      clear c0 c1 z0 z1 y0 y1
      have b2 := (BZ.out.setCell (p := ⟨wr.heap.size, 0, none⟩) (Nat.le_refl _) (.int .i64 d.1)).setCell (p := ⟨wr.heap.size, 1, none⟩) (Nat.le_refl _) (.int .i64 d.2)
      have B2 := Lib.hid b2
      have L2 := Lib.hid (LP.out.below b2)
      have H2 : Hid (FRow ((Z.setCell ⟨wr.heap.size, 0, none⟩ (.int .i64 d.1)).setCell ⟨wr.heap.size, 1, none⟩ (.int .i64 d.2)) wr.heap.size ⟨d, f.s, f.k, f.n, f.v⟩) := Lib.hid (Joins.block_setCell (i := 1) (Joins.block_setCell (i := 0) HZ.out (.int .i64 d.1)) (.int .i64 d.2))
      clear b2 BZ LZ HZ
      generalize (Z.setCell ⟨wr.heap.size, 0, none⟩ (.int .i64 d.1)).setCell ⟨wr.heap.size, 1, none⟩ (.int .i64 d.2) = Z2 at *
      have q0 : Z2.cell? ⟨w.heap.size + 2, 0, none⟩ = some (.int .i64 s.t) := L2.out.k.st.cell rfl
      have q1 : Z2.cell? ⟨w.heap.size + 2, 1, none⟩ = some (.int .i64 s.c) := L2.out.k.st.cell rfl
      have q2 : Z2.cell? ⟨w.heap.size + 2, 2, none⟩ = some (.int .i64 s.r) := L2.out.k.st.cell rfl
      have z2 : Z2.cell? ⟨wr.heap.size, 2, none⟩ = some (.int .i64 f.s.t) := by have h := H2.out.range 2 _ rfl; rwa [Nat.zero_add] at h
      have z3 : Z2.cell? ⟨wr.heap.size, 3, none⟩ = some (.int .i64 f.s.c) := by have h := H2.out.range 3 _ rfl; rwa [Nat.zero_add] at h
      have z4 : Z2.cell? ⟨wr.heap.size, 4, none⟩ = some (.int .i64 f.s.r) := by have h := H2.out.range 4 _ rfl; rwa [Nat.zero_add] at h
      have y2 : Z2.frozen? ⟨wr.heap.size, 2, none⟩ = false := Joins.unfrozen_of_block H2.out 2
      have y3 : Z2.frozen? ⟨wr.heap.size, 3, none⟩ = false := Joins.unfrozen_of_block H2.out 3
      have y4 : Z2.frozen? ⟨wr.heap.size, 4, none⟩ = false := Joins.unfrozen_of_block H2.out 4
      go_upto_region 12 with fail
      clear q0 q1 q2 z2 z3 z4 y2 y3 y4
      have b3 := ((B2.out.setCell (p := ⟨wr.heap.size, 2, none⟩) (Nat.le_refl _) (.int .i64 s.t)).setCell (p := ⟨wr.heap.size, 3, none⟩) (Nat.le_refl _) (.int .i64 s.c)).setCell (p := ⟨wr.heap.size, 4, none⟩) (Nat.le_refl _) (.int .i64 s.r)
      have L3 := Lib.hid (LP.out.below b3)
      have H3 : Hid (FRow (((Z2.setCell ⟨wr.heap.size, 2, none⟩ (.int .i64 s.t)).setCell ⟨wr.heap.size, 3, none⟩ (.int .i64 s.c)).setCell ⟨wr.heap.size, 4, none⟩ (.int .i64 s.r)) wr.heap.size (namedF d s f)) := Lib.hid (Joins.block_setCell (i := 4) (Joins.block_setCell (i := 3) (Joins.block_setCell (i := 2) H2.out (.int .i64 s.t)) (.int .i64 s.c)) (.int .i64 s.r))
      clear b3 B2 L2 H2 LP
      generalize ((Z2.setCell ⟨wr.heap.size, 2, none⟩ (.int .i64 s.t)).setCell ⟨wr.heap.size, 3, none⟩ (.int .i64 s.c)).setCell ⟨wr.heap.size, 4, none⟩ (.int .i64 s.r) = Z3 at *
      have k5 : Z3.cell? ⟨g, 5, none⟩ = some (.slice la A.length lk) := L3.out.d.cell rfl
      have hone := fin_new Z3 (namedF d s f)
      obtain ⟨p2, d2, w8, hr8, ho8, hb8⟩ := appF (c := 1) (L3.out.own.alloc (.cells (fcs (namedF d s f)).toArray 63)) hone (by have := L3.out.hi; simp; omega) (A.length + 1) (by simp) (by omega)
      have hl8 := lowA Z3 (.cells (fcs (namedF d s f)).toArray 63)
      have hb9 : Go.RowKit.Below w3.heap.size Z3 w8 := (hl8.mono L3.out.hi).trans hb8
      have HR8 := Lib.hid hr8
      have D8 := Lib.hid (L3.out.d.below hb9 HGL.out)
      have K8 := Lib.hid (L3.out.k.above hb9 (by have := HGL.out; have := HG.out; omega))
      have S8 := Lib.hid (L3.out.src.below hb9 (Nat.le_refl _))
      have O8 := Lib.hid ho8
      have hA8 : (A ++ [namedF d s f]).length = A.length + 1 := by simp
      have k5' : w8.cell? ⟨g, 5, none⟩ = some (.slice la A.length lk) := D8.out.cell rfl
      have f5' : w8.frozen? ⟨g, 5, none⟩ = false := Joins.unfrozen_of_block D8.out 5
      have LN : Hid (LpR w o d s g W2.heap.size w3.heap.size w3 (A ++ [namedF d s f]) p2 d2 (w8.setCell ⟨g, 5, none⟩ (.slice p2 (A.length + 1) d2))) := Lib.hid (by
        have hd := Blk.lset5 D8.out (A ++ [namedF d s f]) p2 d2
        rw [hA8] at hd
        exact ⟨K8.out.set HG.out _, hd, by rw [hA8]; exact OwnF.set O8.out HGL.out _, S8.out.set (.inl HGW2.out) _ _, by have := hb9.size; have := L3.out.hi; simp; omega⟩)
      have HAN := Lib.hid (show A ++ [namedF d s f] = (F.take (k + 1)).map (namedF d s) by rw [HN.out, HA.out])
      clear hone hr8 ho8 hb8 hl8 hb9 hA8 O8 S8 K8 D8 L3
      generalize namedF d s f = f' at *
      go_wp2_with (first
        | ((with_reducible refine fl_load ?_ (.tmp 16) ?_ wr.heap.size 0 f' ?_ ?_ ?_); rfl; rfl; rfl; exact H3.out.range)
        | ((with_reducible refine wpList_build1F ?_ (.tmp 49) ?_ f' ?_ ?_); rfl; rfl; rfl; simp only [Act.put, List.setIfInBounds_toArray, List.set_cons_zero, List.set_cons_succ])
        | (at_builtin; refine wpList_append_run rfl _ _ 22 22 rfl (.slice la A.length lk) (.slice (some ⟨Z3.heap.size, 0, none⟩) 1 1) _ w8 rfl rfl HR8.out ?_))
      go_roundw
      case rel => exact ⟨k + 1, by omega, by go_num, Lib.hid ⟨_, p2, d2, HAN.out, LN.out⟩⟩
      case measure => simp [intOf]; omega
    · obtain rfl : k = F.length := by omega
      have hi1 : ¬ (F.length : Int) < (F.length : Int) := by omega
      have HA2 := Lib.hid (show A = saysO o d s m by rw [HA.out, List.take_length, HSY.out])
      have hAl : A.length ≤ 1 := by rw [HA2.out]; exact saysO_len _ _ _ _
      have HAS := Lib.hid (show sortF A = A by rw [HA2.out]; exact saysO_sort _ _ _ _)
      clear HA HSY HBL hk hlt
      have k5 : wr.cell? ⟨g, 5, none⟩ = some (.slice la A.length lk) := LP.out.d.cell rfl
      have HST := Lib.hid (sortFR A la lk wr LP.out.own.fin1 (by omega))
      go_wp2_with fail
      refine HST.out.mono ?_
      rintro v w4 ⟨v4, rfl, hown, hb4⟩
      rw [HAS.out] at hown
      obtain ⟨sa, sk, rfl, -, -⟩ := hown.fin
      have L4 := Lib.hid (LP.out.below hb4)
      have O4 := Lib.hid hown
      have HW4 := Lib.hid (show g < wr.heap.size from LP.out.d.lt)
      have k5 : w4.cell? ⟨g, 5, none⟩ = some (.slice la A.length lk) := L4.out.d.cell rfl
      have f5 : w4.frozen? ⟨g, 5, none⟩ = false := Joins.unfrozen_of_block L4.out.d 5
      have K5 := Lib.hid (L4.out.k.set (g := g) (j := 5) HG.out (.slice sa A.length sk))
      have D5 := Lib.hid (Blk.lset5 L4.out.d A sa sk)
      have O5 := Lib.hid (OwnF.set (i := 5) O4.out HW4.out (.slice sa A.length sk))
      have HS5 := Lib.hid (show wr.heap.size ≤ (w4.setCell ⟨g, 5, none⟩ (.slice sa A.length sk)).heap.size by have := hb4.size; simpa using this)
      clear hown hb4 HST O4 L4 LP HAS HFI
      go_upto_region 14 with fail
      clear k5 f5
      generalize w4.setCell ⟨g, 5, none⟩ (.slice sa A.length sk) = W5 at *
      have HW5 := Lib.hid HW4.out
      have HB5 := Lib.hid (show wr.heap.size ≤ W5.heap.size from HS5.out)
      generalize wr.heap.size = B5 at *
      rw [HA2.out] at D5 O5 hAl
      clear HA2
      have HFX := Lib.hid (show (saysO o d s m).length ≤ 1 from hAl)
      have HGO := Lib.hid (fun W hW => goneOR l a cap o hk1 hk6 W hW hl)
      have HGN := Lib.hid (show (goneO l o).length ≤ l.length from List.length_filter_le _ _)
      have HIN := Lib.hid (fun W (hb : Go.RowKit.Below w.heap.size w W) => HI.out.below hb)
      have HME := Lib.hid (show takesO l o d = (sortD ((goneO l o).map (·.d))).filter (fun z => decide (z ≠ d)) from rfl)
      clear hAl
      generalize goneO l o = Gn at *
      go_wp2_with ((with_reducible refine bl_load ?_ 25 (.tmp 6) ?_ w.heap.size 0 (opc o) ?_ ?_ Tryz.underlying25 ?_ ?_ ?_); rfl; rfl; rfl; exact K5.out.op.all; rfl; exact infoO _; simp only [Act.put, List.setIfInBounds_toArray, List.set_cons_zero, List.set_cons_succ])
      refine (HGO.out W5 (HIN.out W5 K5.out.low)).mono ?_
      rintro v w6 ⟨⟨v6, rfl, hown⟩, hb6⟩
      obtain ⟨na, nk, rfl, hfin, -⟩ := hown.fin
      have HB56 := Lib.hid (Nat.le_trans HB5.out hb6.size)
      have K6 := Lib.hid (K5.out.below hb6)
      have D6 := Lib.hid (D5.out.keep hb6)
      have O6 := Lib.hid (O5.out.below hb6 (Nat.le_refl _))
      have HDT := Lib.hid (dotsKR Gn na nk w6 hfin (by have := HGN.out; omega))
      clear hown hfin hb6 K5 D5 O5 HGO
      go_wp2_with fail
      refine HDT.out.mono ?_
      rintro v w7 ⟨v7, rfl, hown, hb7⟩
      obtain ⟨ta, tk, rfl, -, -⟩ := hown.din
      have K7 := Lib.hid (K6.out.below hb7)
      have D7 := Lib.hid (D6.out.keep hb7)
      have O7 := Lib.hid (O6.out.below hb7 (Nat.le_refl _))
      have T7 := Lib.hid (OwnD.from1 hown)
      have HG7 := Lib.hid (show g < w6.heap.size from D6.out.lt)
      have HH4 := Lib.hid (show w.heap.size + 4 ≤ w7.heap.size ∧ g < w7.heap.size by have h1 := D7.out.lt; have := HG.out; omega)
      have HTL := Lib.hid (show (sortD (Gn.map (·.d))).length ≤ 60 by have h1 := sortD_len (Gn.map (·.d)); rw [List.length_map] at h1; have := HGN.out; omega)
      have HB67 := Lib.hid hb7.size
      clear hown hb7 K6 D6 O6 HDT
      have HLO := Lib.hid (show B5 ≤ w6.heap.size ∧ g < B5 from ⟨HB56.out, HW5.out⟩)
      have HFF := Lib.hid (OwnF.from1 O7.out)
      have HTF := Lib.hid (T7.out.mono HLO.out.1)
      clear O7 T7
      generalize sortD (Gn.map (·.d)) = T at *
      generalize hFXX : saysO o d s m = Fx at *
      have HFXX := Lib.hid hFXX
      clear hFXX
      go_wp2_with fail
      go_loopw [18] (fun i wq => ∃ k : Nat, k ≤ T.length ∧ i = .int .i64 k ∧ Hid (∃ A ga gk, A = (T.take k).filter (fun z => decide (z ≠ d)) ∧ LqS w o d s g B5 w7.heap.size w7 Fx sa sk A ga gk wq ∧ OwnD w7.heap.size (.slice ga A.length gk) A wq)) (fun i _ => T.length - (intOf i).toNat)
      case atStart => exact ⟨0, Nat.zero_le _, rfl, Lib.hid ⟨[], none, 0, by simp, ⟨K7.out, D7.out, Mid.refl _ _ _, Nat.le_refl _⟩, ownD_nil _ _⟩⟩
      case round =>
        obtain ⟨k, hk, rfl, HR⟩ := hrel
        obtain ⟨A, ga, gk, hA, hlp, hown⟩ := HR.out
        have LP := Lib.hid hlp
        have OP := Lib.hid hown
        have HA := Lib.hid hA
        have hTl := HTL.out
        clear hlp HR hA hown
        by_cases hlt : k < T.length
        · obtain ⟨z, hz⟩ : ∃ z, T[k]? = some z := ⟨_, List.getElem?_eq_getElem hlt⟩
          have hdin := (HTF.out.mid LP.out.mid (Nat.le_refl _)).din
          obtain ⟨tb, tf, rfl, htb, z0, z1⟩ := hdin.at hz
          have HTD := Lib.hid (fun (U : World) (hm : Mid B5 w7.heap.size w7 U) => DIn.cell2 (HTF.out.mid hm (Nat.le_refl _)).din hz)
          have hi1 : (k : Int) < (T.length : Int) := by omega
          have c0 : wr.cell? ⟨w.heap.size + 1, 0, none⟩ = some (.int .i64 d.1) := LP.out.k.dt.cell rfl
          have c1 : wr.cell? ⟨w.heap.size + 1, 1, none⟩ = some (.int .i64 d.2) := LP.out.k.dt.cell rfl
          have hq := fun X => neqD z d X
          have HZ := Lib.hid hz
          have LN := Lib.hid (fun n => LP.out.below (belowN (Below.refl wr.heap.size wr) n))
          have ON := Lib.hid (fun n => OP.out.below (belowN (Below.refl wr.heap.size wr) n) (Nat.le_refl _))
          clear hz hdin
          by_cases he : z = d
          · have hd : decide (z = d) = true := decide_eq_true he
            rw [hd] at hq
            have HAN := Lib.hid (show A = (T.take (k + 1)).filter (fun z => decide (z ≠ d)) by rw [HA.out, drops_eq HZ.out he])
            clear hd he
            go_upto_region 18 with fail
            go_quiet (fail)
            go_wp2_with fail
            go_roundw
            case rel => exact ⟨k + 1, by omega, by go_num, Lib.hid ⟨A, ga, gk, HAN.out, LN.out _, ON.out _⟩⟩
            case measure => simp [intOf]; omega
          · have hd : decide (z = d) = false := decide_eq_false he
            rw [hd] at hq
            have HAN := Lib.hid (show A ++ [z] = (T.take (k + 1)).filter (fun z => decide (z ≠ d)) by rw [HA.out, drops_ne HZ.out he])
            have hAl : A.length ≤ 60 := by
              have h1 := List.length_filter_le (fun z => decide (z ≠ d)) (T.take k)
              rw [List.length_take] at h1
              rw [HA.out]; omega
            clear hd he
            go_upto_region 18 with fail
            go_quiet (fail)
            clear z0 z1 c0 c1 hq LP OP
            go_upto_region 19 with fail
            generalize hgd : wr.drewN _ = D at *
            have LD := Lib.hid (show LqS w o d s g B5 w7.heap.size w7 Fx sa sk A ga gk D by rw [← hgd]; exact LN.out _)
            have OD := Lib.hid (show OwnD w7.heap.size (.slice ga A.length gk) A D by rw [← hgd]; exact ON.out _)
            clear hgd LN ON
            refine wp_region_held (S := fun U => Mid B5 w7.heap.size w7 U) (by kernel_rfl) ?_
            change wpAnyH _ _ _ _ _ _ _ _ D.drew
            have L0 := Lib.hid (LD.out.below ((Below.refl D.heap.size D).drew))
            have K0 : (fun U => Mid B5 w7.heap.size w7 U) D.drew := L0.out.mid
            have O0 := Lib.hid (OD.out.below (C := D.heap.size) ((Below.refl _ _).drew) (Nat.le_refl _))
            refine wpAnyH_take (i := 0) (oi := { dst := some 73, op := _, type := _, pos := _, after := _, guard := _ }) (v := ?v2) rfl (by kernel_rfl) (by kernel_rfl) (by kernel_rfl) (fun _ _ _ h => h) (Or.inl ⟨by rfl, ?hy2⟩) K0 ?rest2
            case hy2 => (intro w hSw; (try dsimp only at hSw); first | (go_simp; done) | (go_simp; with_reducible rfl))
            try simp only [Act.put, List.setIfInBounds_toArray, List.set_cons_zero, List.set_cons_succ]
            refine wpAnyH_take (i := 2) (oi := { dst := some 75, op := _, type := _, pos := _, after := _, guard := _ }) (v := ?v3) rfl (by kernel_rfl) (by kernel_rfl) (by kernel_rfl) (fun _ _ _ h => h) (Or.inl ⟨by rfl, ?hy3⟩) K0 ?rest3
            case hy3 => (intro w hSw; (try dsimp only at hSw); first | (go_simp; done) | (go_simp; with_reducible rfl))
            try simp only [Act.put, List.setIfInBounds_toArray, List.set_cons_zero, List.set_cons_succ]
            refine wpAnyH_take (i := 3) (oi := { dst := some 76, op := _, type := _, pos := _, after := _, guard := _ }) (v := ?v4) rfl (by kernel_rfl) (by kernel_rfl) (by kernel_rfl) (fun _ _ _ h => h) (Or.inl ⟨by rfl, ?hy4⟩) K0 ?rest4
            case hy4 => (intro w hSw; (try dsimp only at hSw); first | (go_simp; done) | (go_simp; with_reducible rfl))
            try simp only [Act.put, List.setIfInBounds_toArray, List.set_cons_zero, List.set_cons_succ]
            refine wpAnyH_take (i := 4) (oi := { dst := some 77, op := _, type := _, pos := _, after := _, guard := _ }) (v := ?v5) rfl (by kernel_rfl) (by kernel_rfl) (by kernel_rfl) (fun _ _ _ h => h) (Or.inl ⟨by rfl, ?hy5⟩) K0 ?rest5
            case hy5 => (intro w hSw; (try dsimp only at hSw); first | (go_simp; done) | (go_simp; with_reducible rfl))
            try simp only [Act.put, List.setIfInBounds_toArray, List.set_cons_zero, List.set_cons_succ]
            refine wpAnyH_take (i := 5) (oi := { dst := some 78, op := _, type := _, pos := _, after := _, guard := _ }) rfl (by kernel_rfl) (by kernel_rfl) (by kernel_rfl) (fun _ _ _ h => h) (yield_D (by rfl) (.tmp 77) rfl tb (tf + k * 2) z rfl (fun U hU => HTD.out U hU)) K0 ?_
            try simp only [Act.put, List.setIfInBounds_toArray, List.set_cons_zero, List.set_cons_succ]
            have L6 := Lib.hid (L0.out.below (lowA D.drew (.cells #[.int .i64 z.1, .int .i64 z.2] 36)))
            have hk6 : (D.drew.alloc (.cells #[.int .i64 z.1, .int .i64 z.2] 36)).cell? ⟨g, 6, none⟩ = some (.slice ga A.length gk) := L6.out.d.cell rfl
            have hk7 : (D.alloc (.cells #[.int .i64 z.1, .int .i64 z.2] 36)).cell? ⟨g, 6, none⟩ = some (.slice ga A.length gk) := L6.out.d.cell rfl
            have hk0 : D.drew.cell? ⟨g, 6, none⟩ = some (.slice ga A.length gk) := L0.out.d.cell rfl
            have K6 : (fun U => Mid B5 w7.heap.size w7 U) (D.drew.alloc (.cells #[.int .i64 z.1, .int .i64 z.2] 36)) := L6.out.mid
            obtain ⟨p2, d2, w8, hr8, ho8, hb8⟩ := appD (c := 1) (O0.out.alloc (.cells #[.int .i64 z.1, .int .i64 z.2] 36)) (din_new D.drew z) L6.out.hi (A.length + 1) (by simp) (by omega)
            have HR8 := Lib.hid hr8
            have L8 := Lib.hid (L6.out.above hb8 HH4.out.1 HH4.out.2)
            have O8 := Lib.hid ho8
            clear hr8 ho8 hb8
            refine wpAnyH_ready (rs := [1, 6]) (by kernel_rfl) (by simp) ?_
            refine AllReadyH.cons (o := { dst := some 74, op := _, type := _, pos := _, after := _, guard := _ }) rfl (fun K hK => ?_) (AllReadyH.cons (o := { dst := some 79, op := _, type := _, pos := _, after := _, guard := _ }) rfl (fun K hK => ?_) AllReadyH.nil)
            · go_simp
              refine hK.out _ _ K0 (fun _ => ?_)
              clear hK K
              try simp only [Act.put, List.setIfInBounds_toArray, List.set_cons_zero, List.set_cons_succ]
              refine wpAnyH_ready (rs := [6]) (by kernel_rfl) (by simp) ?_
              refine AllReadyH.cons (o := { dst := some 79, op := _, type := _, pos := _, after := _, guard := _ }) rfl (fun K hK => ?_) AllReadyH.nil
              have hbs := fun X => build1Dr z X
              go_simp
              clear hbs
              refine hK.out _ _ K6 (fun _ => ?_)
              clear hK K
              try simp only [Act.put, List.setIfInBounds_toArray, List.set_cons_zero, List.set_cons_succ]
              refine wpAnyH_ready (rs := [7]) (by kernel_rfl) (by simp) ?_
              refine AllReadyH.cons (o := { dst := some 80, op := _, type := _, pos := _, after := _, guard := _ }) rfl (fun K hK => ?_) AllReadyH.nil
              refine draw_append rfl (.tmp 74) (.tmp 79) rfl rfl (.slice ga A.length gk) (.slice (some ⟨D.drew.heap.size, 0, none⟩) 1 1) rfl rfl _ w8 HR8.out ?_
              have K7 : (fun U => Mid B5 w7.heap.size w7 U) w8 := L8.out.mid
              refine hK.out _ _ K7 (fun _ => ?_)
              clear hK K
              try simp only [Act.put, List.setIfInBounds_toArray, List.set_cons_zero, List.set_cons_succ]
              refine wpAnyH_take (i := 8) (oi := { dst := some 81, op := _, type := _, pos := _, after := _, guard := _ }) (v := ?v6) rfl (by kernel_rfl) (by kernel_rfl) (by kernel_rfl) (fun _ _ _ h => h) (Or.inl ⟨by rfl, ?hy6⟩) K7 ?rest6
              case hy6 => (intro w hSw; (try dsimp only at hSw); first | (go_simp; done) | (go_simp; with_reducible rfl))
              try simp only [Act.put, List.setIfInBounds_toArray, List.set_cons_zero, List.set_cons_succ]
              refine wpAnyH_ready (rs := [9]) (by kernel_rfl) (by simp) ?_
              refine AllReadyH.cons (o := { dst := none, op := _, type := _, pos := _, after := _, guard := _ }) rfl (fun K hK => ?_) AllReadyH.nil
              have k6 : w8.cell? ⟨g, 6, none⟩ = some (.slice ga A.length gk) := L8.out.d.cell rfl
              have f6 : w8.frozen? ⟨g, 6, none⟩ = false := Joins.unfrozen_of_block L8.out.d 6
              go_simp
              have hA8 : (A ++ [z]).length = A.length + 1 := by simp
              have HLN : Hid (LqS w o d s g B5 w7.heap.size w7 Fx sa sk (A ++ [z]) p2 d2 (w8.setCell ⟨g, 6, none⟩ (.slice p2 (A.length + 1) d2)) ∧ OwnD w7.heap.size (.slice p2 (A ++ [z]).length d2) (A ++ [z]) (w8.setCell ⟨g, 6, none⟩ (.slice p2 (A.length + 1) d2))) := Lib.hid (by
                have hd := Blk.lset6 L8.out.d (A ++ [z]) p2 d2
                rw [hA8] at hd
                exact ⟨⟨L8.out.k.set HG.out _, hd, L8.out.mid.set (.inl HLO.out.2) _ _, by have := L8.out.hi; simpa using this⟩, by rw [hA8]; exact OwnD.setc O8.out HH4.out.2 _ _⟩)
              have K9 : (fun U => Mid B5 w7.heap.size w7 U) (w8.setCell ⟨g, 6, none⟩ (.slice p2 (A.length + 1) d2)) := HLN.out.1.mid
              refine hK.out _ _ K9 (fun _ => ?_)
              clear hK K
              try simp only [Act.put, List.setIfInBounds_toArray, List.set_cons_zero, List.set_cons_succ]
              refine wpAnyH_done (by kernel_rfl) ?_ _
              try simp only [Act.put, List.setIfInBounds_toArray, List.set_cons_zero, List.set_cons_succ]
              go_wp2_with fail
              go_roundw
              case rel => exact ⟨k + 1, by omega, by go_num, Lib.hid ⟨_, p2, d2, HAN.out, HLN.out.1, HLN.out.2⟩⟩
              case measure => simp [intOf]; omega
            · have hbs := fun X => build1Dr z X
              go_simp
              clear hbs
              refine hK.out _ _ K6 (fun _ => ?_)
              clear hK K
              try simp only [Act.put, List.setIfInBounds_toArray, List.set_cons_zero, List.set_cons_succ]
              refine wpAnyH_ready (rs := [1]) (by kernel_rfl) (by simp) ?_
              refine AllReadyH.cons (o := { dst := some 74, op := _, type := _, pos := _, after := _, guard := _ }) rfl (fun K hK => ?_) AllReadyH.nil
              go_simp
              refine hK.out _ _ K6 (fun _ => ?_)
              clear hK K
              try simp only [Act.put, List.setIfInBounds_toArray, List.set_cons_zero, List.set_cons_succ]
              refine wpAnyH_ready (rs := [7]) (by kernel_rfl) (by simp) ?_
              refine AllReadyH.cons (o := { dst := some 80, op := _, type := _, pos := _, after := _, guard := _ }) rfl (fun K hK => ?_) AllReadyH.nil
              refine draw_append rfl (.tmp 74) (.tmp 79) rfl rfl (.slice ga A.length gk) (.slice (some ⟨D.drew.heap.size, 0, none⟩) 1 1) rfl rfl _ w8 HR8.out ?_
              have K7 : (fun U => Mid B5 w7.heap.size w7 U) w8 := L8.out.mid
              refine hK.out _ _ K7 (fun _ => ?_)
              clear hK K
              try simp only [Act.put, List.setIfInBounds_toArray, List.set_cons_zero, List.set_cons_succ]
              refine wpAnyH_take (i := 8) (oi := { dst := some 81, op := _, type := _, pos := _, after := _, guard := _ }) (v := ?v7) rfl (by kernel_rfl) (by kernel_rfl) (by kernel_rfl) (fun _ _ _ h => h) (Or.inl ⟨by rfl, ?hy7⟩) K7 ?rest7
              case hy7 => (intro w hSw; (try dsimp only at hSw); first | (go_simp; done) | (go_simp; with_reducible rfl))
              try simp only [Act.put, List.setIfInBounds_toArray, List.set_cons_zero, List.set_cons_succ]
              refine wpAnyH_ready (rs := [9]) (by kernel_rfl) (by simp) ?_
              refine AllReadyH.cons (o := { dst := none, op := _, type := _, pos := _, after := _, guard := _ }) rfl (fun K hK => ?_) AllReadyH.nil
              have k6 : w8.cell? ⟨g, 6, none⟩ = some (.slice ga A.length gk) := L8.out.d.cell rfl
              have f6 : w8.frozen? ⟨g, 6, none⟩ = false := Joins.unfrozen_of_block L8.out.d 6
              go_simp
              have hA8 : (A ++ [z]).length = A.length + 1 := by simp
              have HLN : Hid (LqS w o d s g B5 w7.heap.size w7 Fx sa sk (A ++ [z]) p2 d2 (w8.setCell ⟨g, 6, none⟩ (.slice p2 (A.length + 1) d2)) ∧ OwnD w7.heap.size (.slice p2 (A ++ [z]).length d2) (A ++ [z]) (w8.setCell ⟨g, 6, none⟩ (.slice p2 (A.length + 1) d2))) := Lib.hid (by
                have hd := Blk.lset6 L8.out.d (A ++ [z]) p2 d2
                rw [hA8] at hd
                exact ⟨⟨L8.out.k.set HG.out _, hd, L8.out.mid.set (.inl HLO.out.2) _ _, by have := L8.out.hi; simpa using this⟩, by rw [hA8]; exact OwnD.setc O8.out HH4.out.2 _ _⟩)
              have K9 : (fun U => Mid B5 w7.heap.size w7 U) (w8.setCell ⟨g, 6, none⟩ (.slice p2 (A.length + 1) d2)) := HLN.out.1.mid
              refine hK.out _ _ K9 (fun _ => ?_)
              clear hK K
              try simp only [Act.put, List.setIfInBounds_toArray, List.set_cons_zero, List.set_cons_succ]
              refine wpAnyH_done (by kernel_rfl) ?_ _
              try simp only [Act.put, List.setIfInBounds_toArray, List.set_cons_zero, List.set_cons_succ]
              go_wp2_with fail
              go_roundw
              case rel => exact ⟨k + 1, by omega, by go_num, Lib.hid ⟨_, p2, d2, HAN.out, HLN.out.1, HLN.out.2⟩⟩
              case measure => simp [intOf]; omega
        · obtain rfl : k = T.length := by omega
          have hi1 : ¬ (T.length : Int) < (T.length : Int) := by omega
          have HAT := Lib.hid (show A = takesO l o d by rw [HA.out, HME.out, List.take_length])
          have HFIN := Lib.hid (HFF.out.fmid rfl LP.out.mid)
          have hAl : A.length ≤ 60 := by
            have h1 := List.length_filter_le (fun z => decide (z ≠ d)) (T.take T.length)
            rw [List.length_take] at h1
            rw [HA.out]; omega
          have HMV2 := Lib.hid (show RS = if chkDm ⟨d, s, Fx, A⟩ ≠ 0 then (zDl, chkDm ⟨d, s, Fx, A⟩) else (⟨d, s, Fx, A⟩, 0) by
            rw [HMV1.out]
            have he : makeE l o d s m = ⟨d, s, Fx, A⟩ := by rw [HAT.out, ← HFXX.out]; rfl
            rw [he])
          have HVF := Lib.hid (show ∀ f ∈ Fx, f.v.size ≤ 5000 by first | exact HVAL.out | (rw [← HFXX.out]; exact HVAL.out))
          have HFF' := Lib.hid (fun U (hm : Mid B5 w7.heap.size w7 U) => HFF.out.fmid rfl hm)
          have HN := Lib.hid (show w.heap.size + 4 ≤ g ∧ g < B5 ∧ B5 ≤ w7.heap.size by have h1 := HG.out; have h2 := HLO.out; have h3 := D7.out.lt; exact ⟨h1, h2.2, by have := HB67.out; omega⟩)
          have E0 : Hid (EndR w d g B5 w7.heap.size w7 ⟨d, s, Fx, A⟩ sa sk ga gk wr) := Lib.hid ⟨LP.out.k.dt, LP.out.d, ⟨_, LP.out.k.rs, rfl⟩, LP.out.k.low, LP.out.mid, OP.out, LP.out.hi⟩
          have HMEM := Lib.hid (fun U (h : EndR w d g B5 w7.heap.size w7 ⟨d, s, Fx, A⟩ sa sk ga gk U) => (⟨HFF'.out U h.mid, h.own.din1, by have := HFX.out; show Fx.length ≤ 65536; omega, by show A.length ≤ 65536; omega, HVF.out⟩ : DlMem U ⟨d, s, Fx, A⟩ sa ga))
          have HC := Lib.hid (chkDR ⟨d, s, Fx, A⟩ sa sk ga gk wr (HMEM.out wr E0.out))
          have HD0 := Lib.hid (fun h : chkDm ⟨d, s, Fx, A⟩ = 0 => chkDm_dot h)
          clear HA HAT HMV1 HVF HFF' HFIN LP OP
          generalize chkDm ⟨d, s, Fx, A⟩ = E at *
          go_wp2_with ((with_reducible refine bl_load ?_ 43 (.tmp 13) ?_ g 0 (dlc ⟨d, s, Fx, A⟩ sa sk ga gk) ?_ ?_ Tryz.underlying43 ?_ ?_ ?_); rfl; rfl; rfl; exact E0.out.dl.all; rfl; exact infoD _ _ _ _ _; simp only [Act.put, List.setIfInBounds_toArray, List.set_cons_zero, List.set_cons_succ])
          refine HC.out.mono ?_
          rintro v w9 ⟨rfl, hb9⟩
          have E1 := Lib.hid (E0.out.below hb9)
          clear hb9 E0 HC
          by_cases hE : E = 0
          case neg =>
            have hne : (E != 0) = true := by simp [hE]
            have HV := Lib.hid (show RS = (zDl, E) by rw [HMV2.out, if_pos hE])
            obtain ⟨old, ho9, hs9⟩ := E1.out.rs
            have HP := Lib.hid (Blk.put ho9 (dlc zDl none 0 none 0))
            have HB := Lib.hid (belowRow E1.out.low (show w.heap.size ≤ w.heap.size + 3 by omega) (dlc zDl none 0 none 0))
            have HO9 := Lib.hid (show ∃ old, Blk w9 (w.heap.size + 3) 43 old ∧ old.size = (dlc zDl none 0 none 0).size from ⟨old, ho9, hs9⟩)
            clear hE HD0 ho9 hs9
            go_wp2_with ((with_reducible refine bl_store ?_ 43 (.tmp 10) (.tmp 86) ?_ (w.heap.size + 3) (dlc zDl none 0 none 0) ?_ ?_ ?_ ?_ ?_ ?_); rfl; rfl; rfl; rfl; exact HO9.out; exact infoD _ _ _ _ _; exact dl_one _ _ _ _ _; simp only [Act.put, List.setIfInBounds_toArray, List.set_cons_zero, List.set_cons_succ])
            refine bodyPost_ret (retDl rfl _ _ (w.heap.size + 3) zDl none 0 none 0 _ rfl rfl HP.out) rfl ?_
            rw [HV.out]
            exact ⟨⟨none, 0, none, 0, rfl, dlMem_zero _⟩, HB.out⟩
          case pos =>
          have hd0 := HD0.out hE
          subst hE
          have HV := Lib.hid (show RS = (⟨d, s, Fx, A⟩, 0) by rw [HMV2.out]; exact if_neg (by simp))
          have HCD := Lib.hid (fun W => checkRb d W)
          rw [hd0] at HCD
          clear HMV2 hd0 HD0
          go_wp2_with fail
          refine wp_region_held (S := fun U => EndR w d g B5 w7.heap.size w7 ⟨d, s, Fx, A⟩ sa sk ga gk U) (by kernel_rfl) ?_
          change wpAnyH _ _ _ _ _ _ _ _ w9.drew
          have K0 : (fun U => EndR w d g B5 w7.heap.size w7 ⟨d, s, Fx, A⟩ sa sk ga gk U) w9.drew := E1.out.below ((Below.refl w9.heap.size w9).drew)
          clear E1
          refine wpAnyH_take (i := 0) (oi := { dst := some 88, op := _, type := _, pos := _, after := _, guard := _ }) rfl (by kernel_rfl) (by kernel_rfl) (by kernel_rfl) (fun _ _ _ h => h) (b_yield (by rfl) 43 (.tmp 13) rfl g 0 (dlc ⟨d, s, Fx, A⟩ sa sk ga gk) rfl (fun U hU => hU.dl.all) Tryz.underlying43 rfl (infoD _ _ _ _ _)) K0 ?_
          try simp only [Act.put, List.setIfInBounds_toArray, List.set_cons_zero, List.set_cons_succ]
          refine wpAnyH_take (i := 1) (oi := { dst := some 89, op := _, type := _, pos := _, after := _, guard := _ }) rfl (by kernel_rfl) (by kernel_rfl) (by kernel_rfl) (fun _ _ _ h => h) (yield_D (by rfl) (.tmp 7) rfl (w.heap.size + 1) 0 d rfl (fun U hU => ⟨hU.dt.cell rfl, hU.dt.cell rfl⟩)) K0 ?_
          try simp only [Act.put, List.setIfInBounds_toArray, List.set_cons_zero, List.set_cons_succ]
          refine wpAnyH_ready (rs := [2]) (by kernel_rfl) (by simp) ?_
          refine AllReadyH.cons (o := { dst := some 90, op := _, type := _, pos := _, after := _, guard := _ }) rfl (fun K hK => ?_) AllReadyH.nil
          go_simp
          refine (HCD.out _).mono ?_
          rintro v u2 ⟨rfl, hb⟩
          have K2 := EndR.below K0 hb
          clear hb
          refine hK.out _ _ K2 (fun _ => ?_)
          clear hK K
          try simp only [Act.put, List.setIfInBounds_toArray, List.set_cons_zero, List.set_cons_succ]
          refine wpAnyH_ready (rs := [3]) (by kernel_rfl) (by simp) ?_
          refine AllReadyH.cons (o := { dst := none, op := _, type := _, pos := _, after := _, guard := _ }) rfl (fun K hK => ?_) AllReadyH.nil
          refine draw_storeB rfl 43 (.tmp 10) (.tmp 88) rfl (w.heap.size + 3) (dlc ⟨d, s, Fx, A⟩ sa sk ga gk) rfl rfl (infoD _ _ _ _ _) (dl_one _ _ _ _ _) (EndR.rs K2) ?_
          have K3 := EndR.put K2 HN.out.1 HN.out.2.1 HN.out.2.2
          refine hK.out _ _ K3.1 (fun _ => ?_)
          clear hK K
          try simp only [Act.put, List.setIfInBounds_toArray, List.set_cons_zero, List.set_cons_succ]
          refine wpAnyH_take (i := 4) (oi := { dst := some 11, op := _, type := _, pos := _, after := _, guard := _ }) (v := ?v1) rfl (by kernel_rfl) (by kernel_rfl) (by kernel_rfl) (fun _ _ _ h => h) (Or.inl ⟨by rfl, ?hy1⟩) K3.1 ?rest1
          case hy1 => (intro w hSw; (try dsimp only at hSw); first | (go_simp; done) | (go_simp; with_reducible rfl))
          try simp only [Act.put, List.setIfInBounds_toArray, List.set_cons_zero, List.set_cons_succ]
          refine wpAnyH_done (by kernel_rfl) ?_ _
          try simp only [Act.put, List.setIfInBounds_toArray, List.set_cons_zero, List.set_cons_succ]
          go_wp2_with fail
          refine bodyPost_ret (retDl rfl _ _ (w.heap.size + 3) ⟨d, s, Fx, A⟩ sa sk ga gk (.int .i64 0) rfl rfl K3.2) rfl ?_
          rw [HV.out]
          exact ⟨⟨sa, sk, ga, ⟨gk, rfl⟩, HMEM.out _ K3.1⟩, EndR.low K3.1⟩
end Go.Proofs.YtmnblpjdiplioaaGreat
