/-
  op, the program's: Make.
-/
import Derived.Test.YtmnblpjdiplioaaGreatGOp18
import Derived.Test.YtmnblpjdiplioaaGreatGOp29
import Derived.Test.YtmnblpjdiplioaaGreatGOp23
namespace Go.Proofs.YtmnblpjdiplioaaGreat
set_option linter.unusedSimpArgs false
set_option linter.unusedVariables false
set_option maxRecDepth 100000
open Go.RowKit Go.Sort

/-- a row of names does not lie in a block -/
def RNot (a : Option Addr) (l : List Dt) (g : Nat) : Prop := l = [] ∨ ∃ b off, a = some ⟨b, off, none⟩ ∧ b ≠ g
theorem DIn.rnot_new {w : World} {a : Option Addr} {l : List Dt} (h : DIn w a l) {g : Nat} (hg : w.heap.size ≤ g) : RNot a l g := by
  rcases h with h | ⟨b, off, e, hlt, -⟩
  · exact .inl h
  · exact .inr ⟨b, off, e, by omega⟩
theorem DFrom.rnot_old {w : World} {lo : Nat} {a : Option Addr} {l : List Dt} (h : DFrom w lo a l) {g : Nat} (hg : g < lo) : RNot a l g := by
  rcases h with h | ⟨b, off, e, hlo, -⟩
  · exact .inl h
  · exact .inr ⟨b, off, e, by omega⟩
theorem DFrom.off_row {w : World} {lo : Nat} {a : Option Addr} {l : List Dt} {g : Nat} (h : DFrom w lo a l) (hn : RNot a l g) (C : Array Value) : DFrom (w.setRow g C) lo a l := by
  rcases h with h | ⟨b, off, rfl, hlo, hlt, hc⟩
  · exact .inl h
  · rcases hn with hn | ⟨b', off', e, hne⟩
    · exact .inl hn
    · injection e with e
      injection e with e1 e2
      subst e1
      refine .inr ⟨b, off, rfl, hlo, by simpa using hlt, fun j d hj => ?_⟩
      obtain ⟨h1, h2⟩ := hc j d hj
      unfold World.cell? at h1 h2 ⊢
      rw [setRow_other _ _ _ _ hne]
      exact ⟨h1, h2⟩
theorem DFrom.off_cell {w : World} {lo : Nat} {a : Option Addr} {l : List Dt} {g : Nat} (h : DFrom w lo a l) (hn : RNot a l g) (j : Nat) (u : Value) : DFrom (w.setCell ⟨g, j, none⟩ u) lo a l := by
  rcases h with h | ⟨b, off, rfl, hlo, hlt, hc⟩
  · exact .inl h
  · rcases hn with hn | ⟨b', off', e, hne⟩
    · exact .inl hn
    · injection e with e
      injection e with e1 e2
      subst e1
      refine .inr ⟨b, off, rfl, hlo, by simpa using hlt, fun j d hj => ?_⟩
      obtain ⟨h1, h2⟩ := hc j d hj
      unfold World.cell? at h1 h2 ⊢
      rw [Below.heap_setCell _ _ _ _ hne]
      exact ⟨h1, h2⟩
/-- the update in memory, without what it says -/
structure MkG (w : World) (o : Opp) (d : Dt) (s : St) (T : List Dt) (b : Nat) (ga : Option Addr) (gk : Nat) (U : World) : Prop where
  k : MkR w o d s U
  d : DBlk U b ⟨d, s, [], T⟩ none 0 ga gk
  g : DFrom U (w.heap.size + 4) ga T
  n : RNot ga T b
  lo : w.heap.size + 4 ≤ b
theorem MkG.below {w : World} {o : Opp} {d : Dt} {s : St} {T : List Dt} {b : Nat} {ga : Option Addr} {gk : Nat} {U V : World} (h : MkG w o d s T b ga gk U) (hb : Go.RowKit.Below U.heap.size U V) : MkG w o d s T b ga gk V :=
  ⟨h.k.below hb, h.d.keep hb, h.g.below hb, h.n, h.lo⟩
theorem MkR.lt4 {w : World} {o : Opp} {d : Dt} {s : St} {U : World} (h : MkR w o d s U) : w.heap.size + 4 ≤ U.heap.size := by have := h.rs.lt; omega
theorem MkR.row {w : World} {o : Opp} {d : Dt} {s : St} {U : World} (h : MkR w o d s U) {g : Nat} (hg : w.heap.size + 4 ≤ g) (C : Array Value) : MkR w o d s (U.setRow g C) :=
  ⟨h.op.other (by omega) C, h.dt.other (by omega) C, h.st.other (by omega) C, h.rs.other (by omega) C, belowRow h.low (by omega) C⟩
/-- what lies there at Make's end -/
structure EndC (w : World) (b : Nat) (e : Dl) (la : Option Addr) (lk : Nat) (ga : Option Addr) (gk : Nat) (U : World) : Prop where
  dl : DBlk U b e la lk ga gk
  rs : DBlk U (w.heap.size + 3) zDl none 0 none 0
  low : Go.RowKit.Below w.heap.size w U
  f : FFrom U (w.heap.size + 4) la e.l
  g : DFrom U (w.heap.size + 4) ga e.g
theorem EndC.below {w : World} {b : Nat} {e : Dl} {la : Option Addr} {lk : Nat} {ga : Option Addr} {gk : Nat} {U V : World} (h : EndC w b e la lk ga gk U) (hb : Go.RowKit.Below U.heap.size U V) : EndC w b e la lk ga gk V :=
  ⟨h.dl.keep hb, h.rs.keep hb, h.low.trans (hb.mono h.low.size), h.f.below hb, h.g.below hb⟩
theorem EndC.mem {w : World} {b : Nat} {e : Dl} {la : Option Addr} {lk : Nat} {ga : Option Addr} {gk : Nat} {U : World} (h : EndC w b e la lk ga gk U) (hl : e.l.length ≤ 65536) (hg : e.g.length ≤ 65536) (hv : ∀ f ∈ e.l, f.v.size ≤ 5000) : DlMem U e la ga :=
  ⟨h.f.fin, h.g.din, hl, hg, hv⟩
theorem EndC.memRow {w : World} {b : Nat} {e : Dl} {la : Option Addr} {lk : Nat} {ga : Option Addr} {gk : Nat} {U : World} (h : EndC w b e la lk ga gk U) (hl : e.l.length ≤ 65536) (hg : e.g.length ≤ 65536) (hv : ∀ f ∈ e.l, f.v.size ≤ 5000) (C : Array Value) : DlMem (U.setRow (w.heap.size + 3) C) e la ga :=
  ⟨(h.f.setRow (by omega) C).fin, (h.g.setRow (by omega) C).din, hl, hg, hv⟩
theorem yield_St {ops : Array Oper} {S : World → Prop} {o : Oper} {a : Act} (hw : Region.wanted o (yielded ops a.tmps) = true) (x : Operand) (ho : o.op = .load 38 x) (g : Nat) (s : St) (hx : a.eval x = .pointer (some ⟨g, 0, none⟩))
    (hg : ∀ w, S w → Blk w g 38 #[.int .i64 s.t, .int .i64 s.c, .int .i64 s.r]) : YieldsIf Tryz.prog ops S o (.agg #[.int .i64 s.t, .int .i64 s.c, .int .i64 s.r]) a := by
  refine .inl ⟨hw, fun w hS => ?_⟩
  have h0 : w.cell? ⟨g, 0, none⟩ = some (.int .i64 s.t) := (hg w hS).cell rfl
  have h1 : w.cell? ⟨g, 1, none⟩ = some (.int .i64 s.c) := (hg w hS).cell rfl
  have h2 : w.cell? ⟨g, 2, none⟩ = some (.int .i64 s.r) := (hg w hS).cell rfl
  unfold execOp
  simp only [ho, hx]
  go_simp
theorem builtMk (d : Dt) (s : St) (T : List Dt) (ga : Option Addr) (gk : Nat) : Tryz.prog.built 43 [(0, .agg #[.int .i64 d.1, .int .i64 d.2]), (1, .agg #[.int .i64 s.t, .int .i64 s.c, .int .i64 s.r]), (3, .slice ga T.length gk)] = some (dlc ⟨d, s, [], T⟩ none 0 ga gk) := by kernel_rfl
theorem yield_BMk {ops : Array Oper} {S : World → Prop} {o : Oper} {a : Act} (hw : Region.wanted o (yielded ops a.tmps) = true) (x y z : Operand) (ho : o.op = .build 43 #[(0, x), (1, y), (3, z)]) (d : Dt) (s : St) (T : List Dt) (ga : Option Addr) (gk : Nat)
    (hx : a.eval x = .agg #[.int .i64 d.1, .int .i64 d.2]) (hy : a.eval y = .agg #[.int .i64 s.t, .int .i64 s.c, .int .i64 s.r]) (hz : a.eval z = .slice ga T.length gk) : YieldsIf Tryz.prog ops S o (.agg (dlc ⟨d, s, [], T⟩ none 0 ga gk)) a := by
  refine .inl ⟨hw, fun w _ => ?_⟩
  have h := run_build (P := Tryz.prog) w 43 #[(0, .agg #[.int .i64 d.1, .int .i64 d.2]), (1, .agg #[.int .i64 s.t, .int .i64 s.c, .int .i64 s.r]), (3, .slice ga T.length gk)] _ (builtMk d s T ga gk)
  unfold execOp
  simp only [ho, List.map_toArray, List.map_cons, List.map_nil, hx, hy, hz, Sem.run_bind, Sem.run_pure, Result.andThen_ok, h]

set_option maxHeartbeats 32000000 in
theorem opMakeC (l : List Ft) (a : Option Addr) (cap : Nat) (o : Opp) (d : Dt) (s : St) (m : ByteArray) (w : World) (hf : FIn w a l) (hl : l.length ≤ 60) (ho : OpArg o) (hval : ∀ f ∈ saysO o d s m, f.v.size ≤ 5000) :
    Calls Tryz.prog 14 #[.slice a l.length cap, .agg (opc o), .agg #[.int .i64 d.1, .int .i64 d.2], .agg #[.int .i64 s.t, .int .i64 s.c, .int .i64 s.r], .string m] w fun v w' =>
      (∃ (la : Option Addr) (lk : Nat) (ga : Option Addr) (gk : Nat), v = .returned (.tuple #[.agg (dlc (makeO l o 0 d s m).1 la lk ga gk), .int .i64 (makeO l o 0 d s m).2]) ∧ DlMem w' (makeO l o 0 d s m).1 la ga) ∧ Go.RowKit.Below w.heap.size w w' := by

  have e1 : (w.alloc (.cells (opc o) 25)).heap.size = w.heap.size + 1 := World.size_alloc _ _
  have e2 : ((w.alloc (.cells (opc o) 25)).alloc (.cells #[.int .i64 d.1, .int .i64 d.2] 36)).heap.size = w.heap.size + 2 := by rw [World.size_alloc, e1]
  have e3 : (((w.alloc (.cells (opc o) 25)).alloc (.cells #[.int .i64 d.1, .int .i64 d.2] 36)).alloc (.cells #[.int .i64 s.t, .int .i64 s.c, .int .i64 s.r] 38)).heap.size = w.heap.size + 3 := by rw [World.size_alloc, e2]
  have r0 := (((Blk.new w 25 (opc o)).alloc (.cells #[.int .i64 d.1, .int .i64 d.2] 36)).alloc (.cells #[.int .i64 s.t, .int .i64 s.c, .int .i64 s.r] 38)).alloc (.cells (dlc zDl none 0 none 0) 43)
  have r1 := ((Blk.new (w.alloc (.cells (opc o) 25)) 36 #[.int .i64 d.1, .int .i64 d.2]).alloc (.cells #[.int .i64 s.t, .int .i64 s.c, .int .i64 s.r] 38)).alloc (.cells (dlc zDl none 0 none 0) 43)
  have r2 := (Blk.new ((w.alloc (.cells (opc o) 25)).alloc (.cells #[.int .i64 d.1, .int .i64 d.2] 36)) 38 #[.int .i64 s.t, .int .i64 s.c, .int .i64 s.r]).alloc (.cells (dlc zDl none 0 none 0) 43)
  have r3 := Blk.new (((w.alloc (.cells (opc o) 25)).alloc (.cells #[.int .i64 d.1, .int .i64 d.2] 36)).alloc (.cells #[.int .i64 s.t, .int .i64 s.c, .int .i64 s.r] 38)) 43 (dlc zDl none 0 none 0)
  rw [e1] at r1
  rw [e2] at r2
  rw [e3] at r3
  have hlow : Go.RowKit.Below w.heap.size w ((((w.alloc (.cells (opc o) 25)).alloc (.cells #[.int .i64 d.1, .int .i64 d.2] 36)).alloc (.cells #[.int .i64 s.t, .int .i64 s.c, .int .i64 s.r] 38)).alloc (.cells (dlc zDl none 0 none 0) 43)) :=
    (((lowA w _).alloc (by rw [e1]; omega) _).alloc (by rw [e2]; omega) _).alloc (by rw [e3]; omega) _
  have K0 : Hid (MkR w o d s ((((w.alloc (.cells (opc o) 25)).alloc (.cells #[.int .i64 d.1, .int .i64 d.2] 36)).alloc (.cells #[.int .i64 s.t, .int .i64 s.c, .int .i64 s.r] 38)).alloc (.cells (dlc zDl none 0 none 0) 43))) := Lib.hid ⟨r0, r1, r2, r3, hlow⟩
  have HI := Lib.hid hf
  have HM := Lib.hid (fun W (hb : Go.RowKit.Below w.heap.size w W) => opMayC l a cap o W (hf.below hb) hl ho)
  have HMV := Lib.hid (show makeO l o 0 d s m = if mayO l o 0 ≠ 0 then (zDl, mayO l o 0) else if chkDm (makeE l o d s m) ≠ 0 then (zDl, chkDm (makeE l o d s m)) else (makeE l o d s m, 0) from rfl)
  have HOK := Lib.hid (fun h : mayO l o 0 = 0 => chkO_ok (mayO_ok h).1)
  have HVAL := Lib.hid hval
  clear e1 e2 e3 r0 r1 r2 r3 hlow hf hval
  generalize makeO l o 0 d s m = RS at *
  generalize mayO l o 0 = E at *
  go_enter Tryz.func14, Tryz.ntmps14
  go_upto_region 1 with fail
  change Code.wp _ _ _ _ ((((w.alloc (.cells (opc o) 25)).alloc (.cells #[.int .i64 d.1, .int .i64 d.2] 36)).alloc (.cells #[.int .i64 s.t, .int .i64 s.c, .int .i64 s.r] 38)).alloc (.cells (dlc zDl none 0 none 0) 43))
  generalize (((w.alloc (.cells (opc o) 25)).alloc (.cells #[.int .i64 d.1, .int .i64 d.2] 36)).alloc (.cells #[.int .i64 s.t, .int .i64 s.c, .int .i64 s.r] 38)).alloc (.cells (dlc zDl none 0 none 0) 43) = W at *
  go_wp2_with ((with_reducible refine bl_load ?_ 25 (.tmp 6) ?_ w.heap.size 0 (opc o) ?_ ?_ Tryz.underlying25 ?_ ?_ ?_); rfl; rfl; rfl; exact K0.out.op.all; rfl; exact infoO _; simp only [Act.put, List.setIfInBounds_toArray, List.set_cons_zero, List.set_cons_succ])
  refine (HM.out W K0.out.low).mono ?_
  rintro v w1 ⟨rfl, hb1⟩
  have K1 := Lib.hid (K0.out.below hb1)
  clear hb1 K0 HM
  by_cases hE : E = 0
  case neg =>
    have hne : (E != 0) = true := by simp [hE]
    have HV := Lib.hid (show RS = (zDl, E) by rw [HMV.out, if_pos hE])
    have HP := Lib.hid (K1.out.rs.put (dlc zDl none 0 none 0))
    have HB := Lib.hid (belowRow K1.out.low (show w.heap.size ≤ w.heap.size + 3 by omega) (dlc zDl none 0 none 0))
    clear hE HOK
    go_wp2_with ((with_reducible refine bl_store ?_ 43 (.tmp 10) (.tmp 23) ?_ (w.heap.size + 3) (dlc zDl none 0 none 0) ?_ ?_ ?_ ?_ ?_ ?_); rfl; rfl; rfl; rfl; exact ⟨_, K1.out.rs, rfl⟩; exact infoD _ _ _ _ _; exact dl_one _ _ _ _ _; simp only [Act.put, List.setIfInBounds_toArray, List.set_cons_zero, List.set_cons_succ])
    refine bodyPost_ret (retDl rfl _ _ (w.heap.size + 3) zDl none 0 none 0 _ rfl rfl HP.out) rfl ?_
    rw [HV.out]
    exact ⟨⟨none, 0, none, 0, rfl, dlMem_zero _⟩, HB.out⟩
  case pos =>
  have hkk := HOK.out hE
  have hk1 := hkk.1
  have hk6 := hkk.2.1
  subst hE
  have HMV1 := Lib.hid (show RS = _ from HMV.out.trans (if_neg (by simp)))
  clear HOK hkk HMV

  have HGN := Lib.hid (fun W (hb : Go.RowKit.Below w.heap.size w W) => goneOC l a cap o d hk1 hk6 W (HI.out.below hb) hl)
  have HSY := Lib.hid (fun W => saysC o m hk1 hk6 W)
  have HSE := Lib.hid (saysO_eq o d s m)
  have HTL := Lib.hid (takesO_len l o d)
  have HME := Lib.hid (show makeE l o d s m = ⟨d, s, saysO o d s m, takesO l o d⟩ from rfl)
  generalize takesO l o d = T at *
  have hTl : T.length ≤ 60 := by have := HTL.out; omega
  clear HTL hk1 hk6
  go_upto_region 4 with fail
  go_cut [13] (fun p U => ∃ (b : Nat) (ga : Option Addr) (gk : Nat), p = .pointer (some ⟨b, 0, none⟩) ∧ MkG w o d s T b ga gk U)
  case first =>
    refine wp_region_held (S := fun U => MkR w o d s U) (by kernel_rfl) ?_
    change wpAnyH _ _ _ _ _ _ _ _ w1.drew
    have K0 : (fun U => MkR w o d s U) w1.drew := K1.out.below ((Below.refl _ _).drew)
    refine wpAnyH_take (i := 0) (oi := { dst := some 25, op := _, type := _, pos := _, after := _, guard := _ }) rfl (by kernel_rfl) (by kernel_rfl) (by kernel_rfl) (fun _ _ _ h => h) (yield_D (by rfl) (.tmp 7) rfl (w.heap.size + 1) 0 d rfl (fun U hU => ⟨hU.dt.cell rfl, hU.dt.cell rfl⟩)) K0 ?_
    try simp only [Act.put, List.setIfInBounds_toArray, List.set_cons_zero, List.set_cons_succ]
    refine wpAnyH_take (i := 1) (oi := { dst := some 26, op := _, type := _, pos := _, after := _, guard := _ }) rfl (by kernel_rfl) (by kernel_rfl) (by kernel_rfl) (fun _ _ _ h => h) (yield_St (by rfl) (.tmp 8) rfl (w.heap.size + 2) s rfl (fun U hU => hU.st)) K0 ?_
    try simp only [Act.put, List.setIfInBounds_toArray, List.set_cons_zero, List.set_cons_succ]
    refine wpAnyH_take (i := 2) (oi := { dst := some 27, op := _, type := _, pos := _, after := _, guard := _ }) (v := ?v3) rfl (by kernel_rfl) (by kernel_rfl) (by kernel_rfl) (fun _ _ _ h => h) (Or.inl ⟨by rfl, ?hy3⟩) K0 ?rest3
    case hy3 => (intro w hSw; (try dsimp only at hSw); first | (go_simp; done) | (go_simp; with_reducible rfl))
    try simp only [Act.put, List.setIfInBounds_toArray, List.set_cons_zero, List.set_cons_succ]
    refine wpAnyH_take (i := 3) (oi := { dst := some 28, op := _, type := _, pos := _, after := _, guard := _ }) rfl (by kernel_rfl) (by kernel_rfl) (by kernel_rfl) (fun _ _ _ h => h) (b_yield (by rfl) 25 (.tmp 6) rfl w.heap.size 0 (opc o) rfl (fun U hU => hU.op.all) Tryz.underlying25 rfl (infoO _)) K0 ?_
    try simp only [Act.put, List.setIfInBounds_toArray, List.set_cons_zero, List.set_cons_succ]
    refine wpAnyH_take (i := 4) (oi := { dst := some 29, op := _, type := _, pos := _, after := _, guard := _ }) rfl (by kernel_rfl) (by kernel_rfl) (by kernel_rfl) (fun _ _ _ h => h) (yield_D (by rfl) (.tmp 7) rfl (w.heap.size + 1) 0 d rfl (fun U hU => ⟨hU.dt.cell rfl, hU.dt.cell rfl⟩)) K0 ?_
    try simp only [Act.put, List.setIfInBounds_toArray, List.set_cons_zero, List.set_cons_succ]
    refine wpAnyH_ready (rs := [5, 7]) (by kernel_rfl) (by simp) ?_
    refine AllReadyH.cons (o := { dst := some 30, op := _, type := _, pos := _, after := _, guard := _ }) rfl (fun K hK => ?_) (AllReadyH.cons (o := { dst := some 13, op := _, type := _, pos := _, after := _, guard := _ }) rfl (fun K hK => ?_) AllReadyH.nil)
    · go_simp
      refine (HGN.out _ (MkR.low K0)).mono ?_
      rintro v u5 ⟨⟨v5, rfl, hown⟩, hb⟩
      obtain ⟨ga, gk, rfl, hdf, -, -⟩ := hown.from
      have K5 := MkR.below K0 hb
      have HDF := Lib.hid (hdf.mono (show w.heap.size + 4 ≤ _ by have := MkR.lt4 K0; omega))
      clear hb hown hdf
      refine hK.out _ _ K5 (fun _ => ?_)
      clear hK K
      try simp only [Act.put, List.setIfInBounds_toArray, List.set_cons_zero, List.set_cons_succ]
      refine wpAnyH_take (i := 6) (oi := { dst := some 31, op := _, type := _, pos := _, after := _, guard := _ }) rfl (by kernel_rfl) (by kernel_rfl) (by kernel_rfl) (fun _ _ _ h => h) (yield_BMk (by rfl) (.tmp 25) (.tmp 26) (.tmp 30) rfl d s T ga gk rfl rfl rfl) K5 ?_
      try simp only [Act.put, List.setIfInBounds_toArray, List.set_cons_zero, List.set_cons_succ]
      refine wpAnyH_ready (rs := [7]) (by kernel_rfl) (by simp) ?_
      refine AllReadyH.cons (o := { dst := some 13, op := _, type := _, pos := _, after := _, guard := _ }) rfl (fun K hK => ?_) AllReadyH.nil
      go_simp
      have K7 := MkR.below K5 (lowA u5 (.cells (dlc zDl none 0 none 0) 43))
      have HBK := Lib.hid (Blk.new u5 43 (dlc zDl none 0 none 0))
      have HNB := Lib.hid (HDF.out.din.rnot_new (g := u5.heap.size) (Nat.le_refl _))
      have HDG := Lib.hid (HDF.out.below (lowA u5 (.cells (dlc zDl none 0 none 0) 43)))
      clear HDF
      have HDF := Lib.hid HDG.out
      clear HDG
      refine hK.out _ _ K7 (fun _ => ?_)
      clear hK K
      try simp only [Act.put, List.setIfInBounds_toArray, List.set_cons_zero, List.set_cons_succ]
      refine wpAnyH_ready (rs := [8]) (by kernel_rfl) (by simp) ?_
      refine AllReadyH.cons (o := { dst := none, op := _, type := _, pos := _, after := _, guard := _ }) rfl (fun K hK => ?_) AllReadyH.nil
      refine draw_storeB rfl 43 (.tmp 13) (.tmp 31) rfl u5.heap.size (dlc ⟨d, s, [], T⟩ none 0 ga gk) rfl rfl (infoD _ _ _ _ _) (dl_one _ _ _ _ _) ⟨_, HBK.out, rfl⟩ ?_
      have HLO := Lib.hid (show w.heap.size + 4 ≤ u5.heap.size from by have := MkR.lt4 K5; omega)
      have HMG : Hid (MkG w o d s T u5.heap.size ga gk (World.setRow (u5.alloc (.cells (dlc zDl none 0 none 0) 43)) u5.heap.size (dlc ⟨d, s, [], T⟩ none 0 ga gk))) := Lib.hid ⟨MkR.row K7 HLO.out _, HBK.out.put _, HDF.out.off_row HNB.out _, HNB.out, HLO.out⟩
      have K8 := HMG.out.k
      refine hK.out _ _ K8 (fun _ => ?_)
      clear hK K
      try simp only [Act.put, List.setIfInBounds_toArray, List.set_cons_zero, List.set_cons_succ]
      refine wpAnyH_done (by kernel_rfl) ?_ _
      try simp only [Act.put, List.setIfInBounds_toArray, List.set_cons_zero, List.set_cons_succ]
      go_wp2_with fail
      go_meet
      exact ⟨_, _, _, rfl, HMG.out⟩
    · go_simp
      have K7 := MkR.below K0 (lowA w1.drew (.cells (dlc zDl none 0 none 0) 43))
      have HBZ := Lib.hid (Blk.new w1.drew 43 (dlc zDl none 0 none 0))
      refine hK.out _ _ K7 (fun _ => ?_)
      clear hK K
      try simp only [Act.put, List.setIfInBounds_toArray, List.set_cons_zero, List.set_cons_succ]
      refine wpAnyH_ready (rs := [5]) (by kernel_rfl) (by simp) ?_
      refine AllReadyH.cons (o := { dst := some 30, op := _, type := _, pos := _, after := _, guard := _ }) rfl (fun K hK => ?_) AllReadyH.nil
      go_simp
      refine (HGN.out _ (MkR.low K7)).mono ?_
      rintro v u5 ⟨⟨v5, rfl, hown⟩, hb⟩
      obtain ⟨ga, gk, rfl, hdf, -, -⟩ := hown.from
      have K5 := MkR.below K7 hb
      have HDF := Lib.hid (hdf.mono (show w.heap.size + 4 ≤ _ by have := MkR.lt4 K0; rw [World.size_alloc]; omega))
      have HNB := Lib.hid (hdf.rnot_old (g := w1.drew.heap.size) (by simp))
      have HBK := Lib.hid (HBZ.out.keep hb)
      clear hb hown hdf HBZ
      refine hK.out _ _ K5 (fun _ => ?_)
      clear hK K
      try simp only [Act.put, List.setIfInBounds_toArray, List.set_cons_zero, List.set_cons_succ]
      refine wpAnyH_take (i := 6) (oi := { dst := some 31, op := _, type := _, pos := _, after := _, guard := _ }) rfl (by kernel_rfl) (by kernel_rfl) (by kernel_rfl) (fun _ _ _ h => h) (yield_BMk (by rfl) (.tmp 25) (.tmp 26) (.tmp 30) rfl d s T ga gk rfl rfl rfl) K5 ?_
      try simp only [Act.put, List.setIfInBounds_toArray, List.set_cons_zero, List.set_cons_succ]
      refine wpAnyH_ready (rs := [8]) (by kernel_rfl) (by simp) ?_
      refine AllReadyH.cons (o := { dst := none, op := _, type := _, pos := _, after := _, guard := _ }) rfl (fun K hK => ?_) AllReadyH.nil
      refine draw_storeB rfl 43 (.tmp 13) (.tmp 31) rfl w1.drew.heap.size (dlc ⟨d, s, [], T⟩ none 0 ga gk) rfl rfl (infoD _ _ _ _ _) (dl_one _ _ _ _ _) ⟨_, HBK.out, rfl⟩ ?_
      have HLO := Lib.hid (show w.heap.size + 4 ≤ w1.drew.heap.size from by have := MkR.lt4 K0; omega)
      have HMG : Hid (MkG w o d s T w1.drew.heap.size ga gk (World.setRow u5 w1.drew.heap.size (dlc ⟨d, s, [], T⟩ none 0 ga gk))) := Lib.hid ⟨MkR.row K5 HLO.out _, HBK.out.put _, HDF.out.off_row HNB.out _, HNB.out, HLO.out⟩
      have K8 := HMG.out.k
      refine hK.out _ _ K8 (fun _ => ?_)
      clear hK K
      try simp only [Act.put, List.setIfInBounds_toArray, List.set_cons_zero, List.set_cons_succ]
      refine wpAnyH_done (by kernel_rfl) ?_ _
      try simp only [Act.put, List.setIfInBounds_toArray, List.set_cons_zero, List.set_cons_succ]
      go_wp2_with fail
      go_meet
      exact ⟨_, _, _, rfl, HMG.out⟩
  case rest =>
  obtain ⟨b, ga, gk, rfl, hg⟩ := hcut
  have G1 := Lib.hid hg
  clear hg HGN
  go_wp2_with ((with_reducible refine bl_load ?_ 25 (.tmp 6) ?_ w.heap.size 0 (opc o) ?_ ?_ Tryz.underlying25 ?_ ?_ ?_); rfl; rfl; rfl; exact G1.out.k.op.all; rfl; exact infoO _; simp only [Act.put, List.setIfInBounds_toArray, List.set_cons_zero, List.set_cons_succ])
  refine (HSY.out wc).mono ?_
  rintro v w5 ⟨rfl, hb5⟩
  have G5 := Lib.hid (G1.out.below hb5)
  clear hb5 G1 HSY
  generalize sayO o m = Y at *
  obtain ⟨yk, yv, yb⟩ := Y
  simp only at HSE
  cases yb with
  | false =>
    have HSX := Lib.hid (show saysO o d s m = [] from HSE.out)
    have E0 : Hid (EndC w b ⟨d, s, [], T⟩ none 0 ga gk w5) := Lib.hid ⟨G5.out.d, G5.out.k.rs, G5.out.k.low, .inl rfl, G5.out.g⟩
    clear HSE G5
    go_upto_region 8 with fail
    have HLN := Lib.hid (show (⟨d, s, [], T⟩ : Dl).l.length ≤ 65536 by first | (show 0 ≤ 65536; omega) | (show 1 ≤ 65536; omega))
    have HGL := Lib.hid (show (⟨d, s, [], T⟩ : Dl).g.length ≤ 65536 by show T.length ≤ 65536; omega)
    have HVL : Hid (∀ f ∈ (⟨d, s, [], T⟩ : Dl).l, f.v.size ≤ 5000) := Lib.hid (fun f hf => by simp at hf)
    have HMV2 := Lib.hid (show RS = if chkDm ⟨d, s, [], T⟩ ≠ 0 then (zDl, chkDm ⟨d, s, [], T⟩) else (⟨d, s, [], T⟩, 0) by rw [HMV1.out, HME.out, HSX.out])
    have HC := Lib.hid (chkDC ⟨d, s, [], T⟩ none 0 ga gk _ (E0.out.mem HLN.out HGL.out HVL.out))
    clear HMV1 HME HSX
    generalize hed : (⟨d, s, [], T⟩ : Dl) = e at *
    generalize chkDm e = E at *
    clear hed
    go_wp2_with ((with_reducible refine bl_load ?_ 43 (.tmp 13) ?_ b 0 (dlc e none 0 ga gk) ?_ ?_ Tryz.underlying43 ?_ ?_ ?_); rfl; rfl; rfl; exact E0.out.dl.all; rfl; exact infoD _ _ _ _ _; simp only [Act.put, List.setIfInBounds_toArray, List.set_cons_zero, List.set_cons_succ])
    refine HC.out.mono ?_
    rintro v w9 ⟨rfl, hb9⟩
    have E1 := Lib.hid (E0.out.below hb9)
    clear hb9 E0 HC
    by_cases hE : E = 0
    case neg =>
      have hne : (E != 0) = true := by simp [hE]
      have HV := Lib.hid (show RS = (zDl, E) by rw [HMV2.out, if_pos hE])
      have HP := Lib.hid (E1.out.rs.put (dlc zDl none 0 none 0))
      have HB := Lib.hid (belowRow E1.out.low (show w.heap.size ≤ w.heap.size + 3 by omega) (dlc zDl none 0 none 0))
      clear hE
      go_wp2_with ((with_reducible refine bl_store ?_ 43 (.tmp 10) (.tmp 53) ?_ (w.heap.size + 3) (dlc zDl none 0 none 0) ?_ ?_ ?_ ?_ ?_ ?_); rfl; rfl; rfl; rfl; exact ⟨_, E1.out.rs, rfl⟩; exact infoD _ _ _ _ _; exact dl_one _ _ _ _ _; simp only [Act.put, List.setIfInBounds_toArray, List.set_cons_zero, List.set_cons_succ])
      refine bodyPost_ret (retDl rfl _ _ (w.heap.size + 3) zDl none 0 none 0 _ rfl rfl HP.out) rfl ?_
      rw [HV.out]
      exact ⟨⟨none, 0, none, 0, rfl, dlMem_zero _⟩, HB.out⟩
    case pos =>
    subst hE
    have HV := Lib.hid (show RS = (e, 0) by rw [HMV2.out]; exact if_neg (by simp))
    have HP := Lib.hid (E1.out.rs.put (dlc e none 0 ga gk))
    have HB := Lib.hid (belowRow E1.out.low (show w.heap.size ≤ w.heap.size + 3 by omega) (dlc e none 0 ga gk))
    have HM := Lib.hid (E1.out.memRow HLN.out HGL.out HVL.out (dlc e none 0 ga gk))
    go_wp2_with (first
      | ((with_reducible refine bl_load ?_ 43 (.tmp 13) ?_ b 0 (dlc e none 0 ga gk) ?_ ?_ Tryz.underlying43 ?_ ?_ ?_); rfl; rfl; rfl; exact E1.out.dl.all; rfl; exact infoD _ _ _ _ _; simp only [Act.put, List.setIfInBounds_toArray, List.set_cons_zero, List.set_cons_succ])
      | ((with_reducible refine bl_store ?_ 43 (.tmp 10) (.tmp 55) ?_ (w.heap.size + 3) (dlc e none 0 ga gk) ?_ ?_ ?_ ?_ ?_ ?_); rfl; rfl; rfl; rfl; exact ⟨_, E1.out.rs, rfl⟩; exact infoD _ _ _ _ _; exact dl_one _ _ _ _ _; simp only [Act.put, List.setIfInBounds_toArray, List.set_cons_zero, List.set_cons_succ]))
    refine bodyPost_ret (retDl rfl _ _ (w.heap.size + 3) e none 0 ga gk _ rfl rfl HP.out) rfl ?_
    rw [HV.out]
    exact ⟨⟨none, 0, ga, gk, rfl, HM.out⟩, HB.out⟩
  | true =>
    have HSX := Lib.hid (show saysO o d s m = [⟨d, s, yk, o.n, yv⟩] from HSE.out)
    have c0 : w5.cell? ⟨w.heap.size + 1, 0, none⟩ = some (.int .i64 d.1) := G5.out.k.dt.cell rfl
    have c1 : w5.cell? ⟨w.heap.size + 1, 1, none⟩ = some (.int .i64 d.2) := G5.out.k.dt.cell rfl
    have q0 : w5.cell? ⟨w.heap.size + 2, 0, none⟩ = some (.int .i64 s.t) := G5.out.k.st.cell rfl
    have q1 : w5.cell? ⟨w.heap.size + 2, 1, none⟩ = some (.int .i64 s.c) := G5.out.k.st.cell rfl
    have q2 : w5.cell? ⟨w.heap.size + 2, 2, none⟩ = some (.int .i64 s.r) := G5.out.k.st.cell rfl
    have hn : w5.cell? ⟨w.heap.size, 1, none⟩ = some (.string o.n) := G5.out.k.op.cell rfl
    have ha := lowA w5 (.cells (fcs ⟨d, s, yk, o.n, yv⟩).toArray 63)
    have G6 := Lib.hid (G5.out.below ha)
    have r5 : (w5.alloc (.cells #[.int .i64 d.1, .int .i64 d.2, .int .i64 s.t, .int .i64 s.c, .int .i64 s.r, .int .i64 yk, .string o.n, .string yv] 63)).cell? ⟨b, 5, none⟩ = some (.slice none 0 0) := G6.out.d.cell rfl
    have f5 : (w5.alloc (.cells #[.int .i64 d.1, .int .i64 d.2, .int .i64 s.t, .int .i64 s.c, .int .i64 s.r, .int .i64 yk, .string o.n, .string yv] 63)).frozen? ⟨b, 5, none⟩ = false := Joins.unfrozen_of_block G6.out.d 5
    have hbl : b < w5.heap.size := G5.out.d.lt
    have HBW := Lib.hid hbl
    have hsz : (w5.setCell ⟨b, 5, none⟩ (.slice (some ⟨w5.heap.size, 0, none⟩) 1 1)).heap.size = w5.heap.size := by simp
    have hfn := fin_new (w5.setCell ⟨b, 5, none⟩ (.slice (some ⟨w5.heap.size, 0, none⟩) 1 1)) ⟨d, s, yk, o.n, yv⟩
    rw [hsz] at hfn
    have hla := lowA (w5.setCell ⟨b, 5, none⟩ (.slice (some ⟨w5.heap.size, 0, none⟩) 1 1)) (.cells (fcs ⟨d, s, yk, o.n, yv⟩).toArray 63)
    have hk5 := (G5.out.k.set G5.out.lo (j := 5) (.slice (some ⟨w5.heap.size, 0, none⟩) 1 1)).below hla
    have E0 : Hid (EndC w b ⟨d, s, [⟨d, s, yk, o.n, yv⟩], T⟩ (some ⟨w5.heap.size, 0, none⟩) 1 ga gk ((w5.setCell ⟨b, 5, none⟩ (.slice (some ⟨w5.heap.size, 0, none⟩) 1 1)).alloc (.cells (fcs ⟨d, s, yk, o.n, yv⟩).toArray 63))) := Lib.hid
      ⟨Blk.alloc (G5.out.d.lset5 [⟨d, s, yk, o.n, yv⟩] (some ⟨w5.heap.size, 0, none⟩) 1) _, hk5.rs, hk5.low, FFrom.of hfn G5.out.k.lt4, (G5.out.g.off_cell G5.out.n _ _).below hla⟩
    clear hsz hfn hla hk5
    have hsl : ∀ X, (Instr.buildSlice 22 1 #[(0, .agg #[.int .i64 d.1, .int .i64 d.2, .int .i64 s.t, .int .i64 s.c, .int .i64 s.r, .int .i64 yk, .string o.n, .string yv])]).run Tryz.prog X = .ok (.slice (some ⟨X.heap.size, 0, none⟩) 1 1) (X.alloc (.cells (fcs ⟨d, s, yk, o.n, yv⟩).toArray 63)) := fun X => build1Fr ⟨d, s, yk, o.n, yv⟩ X
    clear HSE G5 G6 ha
    go_upto_region 8 with fail
    clear hsl c0 c1 q0 q1 q2 hn r5 f5 hbl
    change Code.wp _ _ _ _ ((w5.setCell ⟨b, 5, none⟩ (.slice (some ⟨w5.heap.size, 0, none⟩) 1 1)).alloc (.cells (fcs ⟨d, s, yk, o.n, yv⟩).toArray 63))
    generalize (w5.setCell ⟨b, 5, none⟩ (.slice (some ⟨w5.heap.size, 0, none⟩) 1 1)).alloc (.cells (fcs ⟨d, s, yk, o.n, yv⟩).toArray 63) = W8 at *
    generalize w5.heap.size = fb at *
    have HLN := Lib.hid (show (⟨d, s, [⟨d, s, yk, o.n, yv⟩], T⟩ : Dl).l.length ≤ 65536 by first | (show 0 ≤ 65536; omega) | (show 1 ≤ 65536; omega))
    have HGL := Lib.hid (show (⟨d, s, [⟨d, s, yk, o.n, yv⟩], T⟩ : Dl).g.length ≤ 65536 by show T.length ≤ 65536; omega)
    have HVL : Hid (∀ f ∈ (⟨d, s, [⟨d, s, yk, o.n, yv⟩], T⟩ : Dl).l, f.v.size ≤ 5000) := Lib.hid (fun f hf => HVAL.out f (by rw [HSX.out]; exact hf))
    have HMV2 := Lib.hid (show RS = if chkDm ⟨d, s, [⟨d, s, yk, o.n, yv⟩], T⟩ ≠ 0 then (zDl, chkDm ⟨d, s, [⟨d, s, yk, o.n, yv⟩], T⟩) else (⟨d, s, [⟨d, s, yk, o.n, yv⟩], T⟩, 0) by rw [HMV1.out, HME.out, HSX.out])
    have HC := Lib.hid (chkDC ⟨d, s, [⟨d, s, yk, o.n, yv⟩], T⟩ (some ⟨fb, 0, none⟩) 1 ga gk _ (E0.out.mem HLN.out HGL.out HVL.out))
    clear HMV1 HME HSX
    generalize hed : (⟨d, s, [⟨d, s, yk, o.n, yv⟩], T⟩ : Dl) = e at *
    generalize chkDm e = E at *
    clear hed
    go_wp2_with ((with_reducible refine bl_load ?_ 43 (.tmp 13) ?_ b 0 (dlc e (some ⟨fb, 0, none⟩) 1 ga gk) ?_ ?_ Tryz.underlying43 ?_ ?_ ?_); rfl; rfl; rfl; exact E0.out.dl.all; rfl; exact infoD _ _ _ _ _; simp only [Act.put, List.setIfInBounds_toArray, List.set_cons_zero, List.set_cons_succ])
    refine HC.out.mono ?_
    rintro v w9 ⟨rfl, hb9⟩
    have E1 := Lib.hid (E0.out.below hb9)
    clear hb9 E0 HC
    by_cases hE : E = 0
    case neg =>
      have hne : (E != 0) = true := by simp [hE]
      have HV := Lib.hid (show RS = (zDl, E) by rw [HMV2.out, if_pos hE])
      have HP := Lib.hid (E1.out.rs.put (dlc zDl none 0 none 0))
      have HB := Lib.hid (belowRow E1.out.low (show w.heap.size ≤ w.heap.size + 3 by omega) (dlc zDl none 0 none 0))
      clear hE
      go_wp2_with ((with_reducible refine bl_store ?_ 43 (.tmp 10) (.tmp 53) ?_ (w.heap.size + 3) (dlc zDl none 0 none 0) ?_ ?_ ?_ ?_ ?_ ?_); rfl; rfl; rfl; rfl; exact ⟨_, E1.out.rs, rfl⟩; exact infoD _ _ _ _ _; exact dl_one _ _ _ _ _; simp only [Act.put, List.setIfInBounds_toArray, List.set_cons_zero, List.set_cons_succ])
      refine bodyPost_ret (retDl rfl _ _ (w.heap.size + 3) zDl none 0 none 0 _ rfl rfl HP.out) rfl ?_
      rw [HV.out]
      exact ⟨⟨none, 0, none, 0, rfl, dlMem_zero _⟩, HB.out⟩
    case pos =>
    subst hE
    have HV := Lib.hid (show RS = (e, 0) by rw [HMV2.out]; exact if_neg (by simp))
    have HP := Lib.hid (E1.out.rs.put (dlc e (some ⟨fb, 0, none⟩) 1 ga gk))
    have HB := Lib.hid (belowRow E1.out.low (show w.heap.size ≤ w.heap.size + 3 by omega) (dlc e (some ⟨fb, 0, none⟩) 1 ga gk))
    have HM := Lib.hid (E1.out.memRow HLN.out HGL.out HVL.out (dlc e (some ⟨fb, 0, none⟩) 1 ga gk))
    go_wp2_with (first
      | ((with_reducible refine bl_load ?_ 43 (.tmp 13) ?_ b 0 (dlc e (some ⟨fb, 0, none⟩) 1 ga gk) ?_ ?_ Tryz.underlying43 ?_ ?_ ?_); rfl; rfl; rfl; exact E1.out.dl.all; rfl; exact infoD _ _ _ _ _; simp only [Act.put, List.setIfInBounds_toArray, List.set_cons_zero, List.set_cons_succ])
      | ((with_reducible refine bl_store ?_ 43 (.tmp 10) (.tmp 55) ?_ (w.heap.size + 3) (dlc e (some ⟨fb, 0, none⟩) 1 ga gk) ?_ ?_ ?_ ?_ ?_ ?_); rfl; rfl; rfl; rfl; exact ⟨_, E1.out.rs, rfl⟩; exact infoD _ _ _ _ _; exact dl_one _ _ _ _ _; simp only [Act.put, List.setIfInBounds_toArray, List.set_cons_zero, List.set_cons_succ]))
    refine bodyPost_ret (retDl rfl _ _ (w.heap.size + 3) e (some ⟨fb, 0, none⟩) 1 ga gk _ rfl rfl HP.out) rfl ?_
    rw [HV.out]
    exact ⟨⟨(some ⟨fb, 0, none⟩), 1, ga, gk, rfl, HM.out⟩, HB.out⟩
end Go.Proofs.YtmnblpjdiplioaaGreat
