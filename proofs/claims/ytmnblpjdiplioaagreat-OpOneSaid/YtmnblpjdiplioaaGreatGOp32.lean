/-
  How what a client asks for, and a case, that came in are opened.
  almonrylaw19: the walk of OpMay.
-/
import Derived.Test.YtmnblpjdiplioaaGreatGOp13
import Derived.Test.YtmnblpjdiplioaaGreatGOp31
import Derived.Test.YtmnblpjdiplioaaGreatGOp29
namespace Go.Proofs.YtmnblpjdiplioaaGreat
set_option linter.unusedSimpArgs false
set_option linter.unusedVariables false
set_option maxRecDepth 100000
open Go.ChangeShapes Go.WideShapes Go.ChangeAt Go.RowKit Go.Deep
open Go.ChangeMaps (open_string shut_string)

theorem trod_float1 {H : Type} {enc : TypeId × Value → H} {P : Program} {w : World} {base : Nat} {sp : Nat → Bool} {held : Bool} {fuel : Nat} {t : TypeId} {k : FloatKind} {cs : List Value} {x : DataW H × List MemPlace}
    (ht : P.underlying t = some (.float k)) (h : DataW.trod enc P w base sp held fuel t cs = some x) : ∃ n, cs = [.float k n] ∧ (Lit.float k n).wf = true := by
  cases fuel with
  | zero => simp [DataW.trod] at h
  | succ n =>
    unfold DataW.trod at h
    rw [ht] at h
    split at h <;> simp_all
theorem five_of {cs : List Value} {a b c d e : Value} (hl : cs.length = 5) (h0 : (cs.drop 0).take 1 = [a]) (h1 : (cs.drop 1).take 1 = [b]) (h2 : (cs.drop 2).take 1 = [c]) (h3 : (cs.drop 3).take 1 = [d]) (h4 : (cs.drop 4).take 1 = [e]) : cs = [a, b, c, d, e] := by
  match cs, hl with
  | [_, _, _, _, _], _ => simp_all
/-- no field is greater than can be -/
structure OpOk (o : Opp) : Prop where
  n : o.n.size ≤ maxLen
  v : o.v.size ≤ maxLen
  b : o.b.size ≤ maxLen
  p : o.p < 18446744073709551616
theorem op_cells {H : Type} {enc : TypeId × Value → H} {W : World} {b0 : Nat} {sp : Nat → Bool} {held : Bool} {fuel : Nat} {cs : List Value} {x : DataW H × List MemPlace}
    (h : DataW.trod enc Tryz.prog W b0 sp held fuel 25 cs = some x) : ∃ o : Opp, cs = (opc o).toList ∧ OpOk o := by
  obtain ⟨xs, n, _, _, hlen, hxl, hf⟩ := DataW.trod_struct Tryz.underlying25 h
  have hc5 : Tryz.prog.cellsOf 25 = 5 := by kernel_rfl
  rw [hc5] at hlen
  have get : ∀ i, i < 5 → ∃ y, xs[i]? = some y := fun i hi => ⟨_, List.getElem?_eq_getElem (by rw [hxl]; simpa using hi)⟩
  obtain ⟨y0, g0⟩ := get 0 (by omega)
  obtain ⟨y1, g1⟩ := get 1 (by omega)
  obtain ⟨y2, g2⟩ := get 2 (by omega)
  obtain ⟨y3, g3⟩ := get 3 (by omega)
  obtain ⟨y4, g4⟩ := get 4 (by omega)
  have f0 := (hf 0 _ rfl).trans g0
  have f1 := (hf 1 _ rfl).trans g1
  have f2 := (hf 2 _ rfl).trans g2
  have f3 := (hf 3 _ rfl).trans g3
  have f4 := (hf 4 _ rfl).trans g4
  obtain ⟨k, e0, _, w0⟩ := DataW.trod_int Tryz.underlying3 f0
  obtain ⟨nm, e1, _, w1⟩ := DataW.trod_string Tryz.underlying9 f1
  obtain ⟨v, e2, _, w2⟩ := DataW.trod_string Tryz.underlying9 f2
  obtain ⟨p, e3, w3⟩ := trod_float1 Tryz.underlying23 f3
  obtain ⟨b, e4, _, w4⟩ := DataW.trod_string Tryz.underlying9 f4
  exact ⟨⟨k, nm, v, p, b⟩, five_of hlen (by rw [← e0]; rfl) (by rw [← e1]; rfl) (by rw [← e2]; rfl) (by rw [← e3]; rfl) (by rw [← e4]; rfl), w1, w2, w4, by simpa [Lit.wf] using w3⟩
theorem open_op {H : Type} {enc : TypeId × Value → H} {W : World} {base : Nat} {v : Value} {d : DataW H} {p : List MemPlace}
    (hv : Value.okWide Tryz.prog W .any base 25 v) (h : DataW.Trod enc Tryz.prog W 0 (fun _ => true) true 25 v d p) : ∃ o : Opp, v = .agg (opc o) ∧ OpOk o := by
  obtain ⟨cs, rfl, _⟩ := okWide_struct Tryz.underlying25 hv
  obtain ⟨fuel, hf⟩ := h
  obtain ⟨o, ho, hk⟩ := op_cells hf
  have ho' : cs.toList = (opc o).toList := ho
  exact ⟨o, by rw [Array.toList_inj.1 ho'], hk⟩

/-- a case: facts, what is asked for, a name, a stamp, a manifest -/
structure Cs where
  l : List Ft
  o : Opp
  d : Dt
  s : St
  m : ByteArray
def csc (x : Cs) (la : Option Addr) (lk : Nat) : Array Value := #[.slice la x.l.length lk] ++ (opc x.o ++ #[.int .i64 x.d.1, .int .i64 x.d.2, .int .i64 x.s.t, .int .i64 x.s.c, .int .i64 x.s.r, .string x.m])
abbrev CBlk (w : World) (b : Nat) (x : Cs) (la : Option Addr) (lk : Nat) : Prop := Blk w b 40 (csc x la lk)
/-- a case that came in -/
structure CaseArg (w : World) (x : Cs) (la : Option Addr) : Prop where
  facts : FactArg w la x.l.length x.l
  op : OpOk x.o
  m : x.m.size ≤ maxLen
theorem split5 {cs : List Value} {a : Value} {o d s : List Value} {m : Value} (hl : cs.length = 12) (h0 : (cs.drop 0).take 1 = [a]) (h1 : (cs.drop 1).take 5 = o) (h2 : (cs.drop 6).take 2 = d) (h3 : (cs.drop 8).take 3 = s) (h4 : (cs.drop 11).take 1 = [m]) : cs = [a] ++ (o ++ (d ++ (s ++ [m]))) := by
  match cs, hl with
  | [_, _, _, _, _, _, _, _, _, _, _, _], _ => subst h1 h2 h3; simp_all
theorem open_case {H : Type} {enc : TypeId × Value → H} {W : World} {base : Nat} {v : Value} {d : DataW H} {p : List MemPlace}
    (hv : Value.okWide Tryz.prog W .any base 40 v) (h : DataW.Trod enc Tryz.prog W 0 (fun _ => true) true 40 v d p) :
    ∃ (x : Cs) (la : Option Addr) (lk : Nat), v = .agg (csc x la lk) ∧ CaseArg W x la := by
  obtain ⟨cs, rfl, _⟩ := okWide_struct Tryz.underlying40 hv
  obtain ⟨fuel, hf⟩ := h
  obtain ⟨xs, n, _, _, hlen, hxl, hf⟩ := DataW.trod_struct Tryz.underlying40 hf
  have hc12 : Tryz.prog.cellsOf 40 = 12 := by kernel_rfl
  rw [hc12] at hlen
  have get : ∀ i, i < 5 → ∃ y, xs[i]? = some y := fun i hi => ⟨_, List.getElem?_eq_getElem (by rw [hxl]; simpa using hi)⟩
  obtain ⟨y0, g0⟩ := get 0 (by omega)
  obtain ⟨y1, g1⟩ := get 1 (by omega)
  obtain ⟨y2, g2⟩ := get 2 (by omega)
  obtain ⟨y3, g3⟩ := get 3 (by omega)
  obtain ⟨y4, g4⟩ := get 4 (by omega)
  have f0 := (hf 0 _ rfl).trans g0
  have f1 := (hf 1 _ rfl).trans g1
  have f2 := (hf 2 _ rfl).trans g2
  have f3 := (hf 3 _ rfl).trans g3
  have f4 := (hf 4 _ rfl).trans g4
  have hf0 : DataW.trod enc Tryz.prog W 0 (fun _ => true) true n 22 ((cs.toList.drop 0).take 1) = some y0 := f0
  obtain ⟨l, la, lk, e0, hl⟩ := facts_cells hf0
  obtain ⟨o, e1, ho⟩ := op_cells f1
  obtain ⟨dd, e2⟩ := dot_cells f2
  obtain ⟨s, e3⟩ := stamp_cells f3
  obtain ⟨m, e4, _, w4⟩ := DataW.trod_string Tryz.underlying9 f4
  refine ⟨⟨l, o, dd, s, m⟩, la, lk, ?_, hl, ho, w4⟩
  congr 1
  apply Array.toList_inj.1
  have k0 : (cs.toList.drop 0).take 1 = [.slice la l.length lk] := e0
  have k1 : (cs.toList.drop 1).take 5 = (opc o).toList := e1
  have k2 : (cs.toList.drop 6).take 2 = dcs dd := e2
  have k3 : (cs.toList.drop 8).take 3 = scs s := e3
  have k4 : (cs.toList.drop 11).take 1 = [.string m] := e4
  have hsp : cs.toList = _ := split5 hlen k0 k1 k2 k3 k4
  rw [hsp]
  simp [csc, opc, dcs, scs]
end Go.Proofs.YtmnblpjdiplioaaGreat

namespace Go.Proofs.YtmnblpjdiplioaaGreat
set_option linter.unusedSimpArgs false
set_option linter.unusedVariables false
set_option maxRecDepth 100000
open Go.RowKit Go.Sort

/-- what is asked for lies in its box -/
structure OnO (w : World) (o : Opp) (U : World) : Prop where
  op : OBlk U w.heap.size o
  low : Go.RowKit.Below w.heap.size w U
theorem OnO.below {w : World} {o : Opp} {U V : World} (h : OnO w o U) (hb : Go.RowKit.Below U.heap.size U V) : OnO w o V := ⟨h.op.keep hb, h.low.trans (hb.mono h.low.size)⟩

set_option maxHeartbeats 16000000 in
theorem op_may_row (a : Option Addr) (len cap : Nat) (l : List Ft) (o : Opp) (w : World) (h : FactArg w a len l) (ho : OpOk o) :
    Calls Tryz.prog 3 #[.slice a len cap, .agg (opc o)] w fun v w' => v = .returned (.bool true) ∧ Go.RowKit.Below w.heap.size w w' := by
  obtain ⟨rfl, hl, hin, hsz⟩ := h
  have H0 : Hid (OnO w o (w.alloc (.cells (opc o) 25))) := Lib.hid ⟨Blk.new w 25 (opc o), lowA w _⟩
  have HF := Lib.hid (fun W (hb : Go.RowKit.Below w.heap.size w W) => hin.below hb)
  have HFW := Lib.hid (fun W (hW : FIn W a l) => ffewC l a cap W hW hl hsz)
  have HFO := Lib.hid (fun W => fewOC o ho.n ho.v ho.b W)
  have HA : Hid (OpArg o) := Lib.hid ⟨ho.n, ho.v, ho.b, ho.p⟩
  clear hin hsz ho
  unfold maxLen at hl
  go_enter Tryz.func3, Tryz.ntmps3
  go_upto_region 1 with fail
  change Code.wp _ _ _ _ (w.alloc (.cells (opc o) 25))
  generalize w.alloc (.cells (opc o) 25) = W at *
  go_wp2_with fail
  refine (HFW.out W (HF.out W H0.out.low)).mono ?_
  rintro v w1 ⟨rfl, rfl⟩
  clear HFW
  rcases hfw : fewP l with _ | _
  · clear hfw
    go_wp2_with fail
    refine (opAwake W).mono ?_
    rintro v w2 ⟨rfl, hb2⟩
    have H2 := Lib.hid (H0.out.low.trans (hb2.mono H0.out.low.size))
    clear hb2
    go_wp2_with fail
    go_ret
    exact ⟨rfl, H2.out⟩
  have hl30 := (fewP_ok hfw).1
  clear hfw
  go_wp2_with ((with_reducible refine bl_load ?_ 25 (.tmp 3) ?_ w.heap.size 0 (opc o) ?_ ?_ Tryz.underlying25 ?_ ?_ ?_); rfl; rfl; rfl; exact H0.out.op.all; rfl; exact infoO _; simp only [Act.put, List.setIfInBounds_toArray, List.set_cons_zero, List.set_cons_succ])
  refine (HFO.out W).mono ?_
  rintro v w1 ⟨rfl, hb1⟩
  have H1 := Lib.hid (H0.out.below hb1)
  clear hb1 HFO H0
  rcases hfw : fewO o with _ | _
  · clear hfw
    go_wp2_with fail
    refine (opAwake w1).mono ?_
    rintro v w2 ⟨rfl, hb2⟩
    have H2 := Lib.hid (H1.out.low.trans (hb2.mono H1.out.low.size))
    clear hb2
    go_wp2_with fail
    go_ret
    exact ⟨rfl, H2.out⟩
  clear hfw
  have h60 : l.length ≤ 60 := by omega
  have C1 := Lib.hid (fun W => opCheckC o HA.out W)
  have C2 := Lib.hid (fun W => chkOR o HA.out.n HA.out.v HA.out.b HA.out.p W)
  have C3 := Lib.hid (fun W (hb : Go.RowKit.Below w.heap.size w W) => opMayC l a cap o W (HF.out W hb) h60 HA.out)
  have C4 := Lib.hid (fun W (hb : Go.RowKit.Below w.heap.size w W) => mayOR l a cap o W (HF.out W hb) h60 HA.out)
  clear HA HF h60 hl30
  generalize chkO o = E at *
  generalize mayO l o 0 = M at *
  have hEE : (E == E) = true := by simp
  have hMM : (M == M) = true := by simp
  go_upto_region 3 with fail
  refine wp_region_held (S := fun U => OnO w o U) (by kernel_rfl) ?_
  change wpAnyH _ _ _ _ _ _ _ _ w1.drew
  have K0 : (fun U => OnO w o U) w1.drew := H1.out.below ((Below.refl _ _).drew)
  clear H1
  refine wpAnyH_take (i := 0) (oi := { dst := some 14, op := _, type := _, pos := _, after := _, guard := _ }) rfl (by kernel_rfl) (by kernel_rfl) (by kernel_rfl) (fun _ _ _ h => h) (b_yield (by rfl) 25 (.tmp 3) rfl w.heap.size 0 (opc o) rfl (fun U hU => hU.op.all) Tryz.underlying25 rfl (infoO _)) K0 ?_
  try simp only [Act.put, List.setIfInBounds_toArray, List.set_cons_zero, List.set_cons_succ]
  refine wpAnyH_take (i := 2) (oi := { dst := some 16, op := _, type := _, pos := _, after := _, guard := _ }) rfl (by kernel_rfl) (by kernel_rfl) (by kernel_rfl) (fun _ _ _ h => h) (b_yield (by rfl) 25 (.tmp 3) rfl w.heap.size 0 (opc o) rfl (fun U hU => hU.op.all) Tryz.underlying25 rfl (infoO _)) K0 ?_
  try simp only [Act.put, List.setIfInBounds_toArray, List.set_cons_zero, List.set_cons_succ]
  refine wpAnyH_ready (rs := [1]) (by kernel_rfl) (by simp) ?_
  refine AllReadyH.cons (o := { dst := some 15, op := _, type := _, pos := _, after := _, guard := _ }) rfl (fun K hK => ?_) AllReadyH.nil
  go_simp
  have hh := C1.out w1.drew
  refine Calls.mono hh ?_
  rintro v u1 ⟨rfl, hb⟩
  have K101 := OnO.below K0 hb
  clear hh hb K0
  refine hK.out _ _ K101 (fun _ => ?_)
  clear hK K
  try simp only [Act.put, List.setIfInBounds_toArray, List.set_cons_zero, List.set_cons_succ]
  refine wpAnyH_ready (rs := [3]) (by kernel_rfl) (by simp) ?_
  refine AllReadyH.cons (o := { dst := some 17, op := _, type := _, pos := _, after := _, guard := _ }) rfl (fun K hK => ?_) AllReadyH.nil
  go_simp
  have hh := C2.out u1
  refine Calls.mono hh ?_
  rintro v u3 ⟨rfl, hb⟩
  have K103 := OnO.below K101 hb
  clear hh hb K101
  refine hK.out _ _ K103 (fun _ => ?_)
  clear hK K
  try simp only [Act.put, List.setIfInBounds_toArray, List.set_cons_zero, List.set_cons_succ]
  refine wpAnyH_take (i := 4) (oi := { dst := some 18, op := _, type := _, pos := _, after := _, guard := _ }) (v := ?v1) rfl (by kernel_rfl) (by kernel_rfl) (by kernel_rfl) (fun _ _ _ h => h) (Or.inl ⟨by rfl, ?hy1⟩) K103 ?rest1
  case hy1 => (intro w hSw; (try dsimp only at hSw); first | (go_simp; done) | (go_simp; with_reducible rfl))
  try simp only [Act.put, List.setIfInBounds_toArray, List.set_cons_zero, List.set_cons_succ]
  refine wpAnyH_take (i := 5) (oi := { dst := some 19, op := _, type := _, pos := _, after := _, guard := _ }) (v := ?v2) rfl (by kernel_rfl) (by kernel_rfl) (by kernel_rfl) (fun _ _ _ h => h) (Or.inl ⟨by rfl, ?hy2⟩) K103 ?rest2
  case hy2 => (intro w hSw; (try dsimp only at hSw); first | (go_simp; done) | (go_simp; with_reducible rfl))
  try simp only [Act.put, List.setIfInBounds_toArray, List.set_cons_zero, List.set_cons_succ]
  refine wpAnyH_take (i := 6) (oi := { dst := some 20, op := _, type := _, pos := _, after := _, guard := _ }) (v := ?v3) rfl (by kernel_rfl) (by kernel_rfl) (by kernel_rfl) (fun _ _ _ h => h) (Or.inl ⟨by rfl, ?hy3⟩) K103 ?rest3
  case hy3 => (intro w hSw; (try dsimp only at hSw); first | (go_simp; done) | (go_simp; with_reducible rfl))
  try simp only [Act.put, List.setIfInBounds_toArray, List.set_cons_zero, List.set_cons_succ]
  refine wpAnyH_take (i := 7) (oi := { dst := some 21, op := _, type := _, pos := _, after := _, guard := _ }) rfl (by kernel_rfl) (by kernel_rfl) (by kernel_rfl) (fun _ _ _ h => h) (b_yield (by rfl) 25 (.tmp 3) rfl w.heap.size 0 (opc o) rfl (fun U hU => hU.op.all) Tryz.underlying25 rfl (infoO _)) K103 ?_
  try simp only [Act.put, List.setIfInBounds_toArray, List.set_cons_zero, List.set_cons_succ]
  refine wpAnyH_take (i := 9) (oi := { dst := some 23, op := _, type := _, pos := _, after := _, guard := _ }) (v := ?v4) rfl (by kernel_rfl) (by kernel_rfl) (by kernel_rfl) (fun _ _ _ h => h) (Or.inl ⟨by rfl, ?hy4⟩) K103 ?rest4
  case hy4 => (intro w hSw; (try dsimp only at hSw); first | (go_simp; done) | (go_simp; with_reducible rfl))
  try simp only [Act.put, List.setIfInBounds_toArray, List.set_cons_zero, List.set_cons_succ]
  refine wpAnyH_take (i := 10) (oi := { dst := some 24, op := _, type := _, pos := _, after := _, guard := _ }) rfl (by kernel_rfl) (by kernel_rfl) (by kernel_rfl) (fun _ _ _ h => h) (b_yield (by rfl) 25 (.tmp 3) rfl w.heap.size 0 (opc o) rfl (fun U hU => hU.op.all) Tryz.underlying25 rfl (infoO _)) K103 ?_
  try simp only [Act.put, List.setIfInBounds_toArray, List.set_cons_zero, List.set_cons_succ]
  refine wpAnyH_ready (rs := [8]) (by kernel_rfl) (by simp) ?_
  refine AllReadyH.cons (o := { dst := some 22, op := _, type := _, pos := _, after := _, guard := _ }) rfl (fun K hK => ?_) AllReadyH.nil
  go_simp
  have hh := C3.out u3 (OnO.low K103)
  refine Calls.mono hh ?_
  rintro v u8 ⟨rfl, hb⟩
  have K108 := OnO.below K103 hb
  clear hh hb K103
  refine hK.out _ _ K108 (fun _ => ?_)
  clear hK K
  try simp only [Act.put, List.setIfInBounds_toArray, List.set_cons_zero, List.set_cons_succ]
  refine wpAnyH_ready (rs := [11]) (by kernel_rfl) (by simp) ?_
  refine AllReadyH.cons (o := { dst := some 25, op := _, type := _, pos := _, after := _, guard := _ }) rfl (fun K hK => ?_) AllReadyH.nil
  go_simp
  have hh := C4.out u8 (OnO.low K108)
  refine Calls.mono hh ?_
  rintro v u11 ⟨rfl, hb⟩
  have K111 := OnO.below K108 hb
  clear hh hb K108
  refine hK.out _ _ K111 (fun _ => ?_)
  clear hK K
  try simp only [Act.put, List.setIfInBounds_toArray, List.set_cons_zero, List.set_cons_succ]
  refine wpAnyH_take (i := 12) (oi := { dst := some 26, op := _, type := _, pos := _, after := _, guard := _ }) (v := ?v5) rfl (by kernel_rfl) (by kernel_rfl) (by kernel_rfl) (fun _ _ _ h => h) (Or.inl ⟨by rfl, ?hy5⟩) K111 ?rest5
  case hy5 => (intro w hSw; (try dsimp only at hSw); first | (go_simp; done) | (go_simp; with_reducible rfl))
  try simp only [Act.put, List.setIfInBounds_toArray, List.set_cons_zero, List.set_cons_succ]
  refine wpAnyH_take (i := 13) (oi := { dst := some 27, op := _, type := _, pos := _, after := _, guard := _ }) (v := ?v6) rfl (by kernel_rfl) (by kernel_rfl) (by kernel_rfl) (fun _ _ _ h => h) (Or.inl ⟨by rfl, ?hy6⟩) K111 ?rest6
  case hy6 => (intro w hSw; (try dsimp only at hSw); first | (go_simp; done) | (go_simp; with_reducible rfl))
  try simp only [Act.put, List.setIfInBounds_toArray, List.set_cons_zero, List.set_cons_succ]
  refine wpAnyH_take (i := 14) (oi := { dst := some 28, op := _, type := _, pos := _, after := _, guard := _ }) (v := ?v7) rfl (by kernel_rfl) (by kernel_rfl) (by kernel_rfl) (fun _ _ _ h => h) (Or.inl ⟨by rfl, ?hy7⟩) K111 ?rest7
  case hy7 => (intro w hSw; (try dsimp only at hSw); first | (go_simp; done) | (go_simp; with_reducible rfl))
  try simp only [Act.put, List.setIfInBounds_toArray, List.set_cons_zero, List.set_cons_succ]
  refine wpAnyH_ready (rs := [15]) (by kernel_rfl) (by simp) ?_
  refine AllReadyH.cons (o := { dst := some 29, op := _, type := _, pos := _, after := _, guard := _ }) rfl (fun K hK => ?_) AllReadyH.nil
  go_simp
  have hh := opAwake u11
  refine Calls.mono hh ?_
  rintro v u15 ⟨rfl, hb⟩
  have K115 := OnO.below K111 hb
  clear hh hb K111
  refine hK.out _ _ K115 (fun _ => ?_)
  clear hK K
  try simp only [Act.put, List.setIfInBounds_toArray, List.set_cons_zero, List.set_cons_succ]
  refine wpAnyH_take (i := 16) (oi := { dst := some 30, op := _, type := _, pos := _, after := _, guard := _ }) (v := ?v8) rfl (by kernel_rfl) (by kernel_rfl) (by kernel_rfl) (fun _ _ _ h => h) (Or.inl ⟨by rfl, ?hy8⟩) K115 ?rest8
  case hy8 => (intro w hSw; (try dsimp only at hSw); first | (go_simp; done) | (go_simp; with_reducible rfl))
  try simp only [Act.put, List.setIfInBounds_toArray, List.set_cons_zero, List.set_cons_succ]
  refine wpAnyH_take (i := 17) (oi := { dst := some 4, op := _, type := _, pos := _, after := _, guard := _ }) (v := ?v9) rfl (by kernel_rfl) (by kernel_rfl) (by kernel_rfl) (fun _ _ _ h => h) (Or.inl ⟨by rfl, ?hy9⟩) K115 ?rest9
  case hy9 => (intro w hSw; (try dsimp only at hSw); first | (go_simp; done) | (go_simp; with_reducible rfl))
  try simp only [Act.put, List.setIfInBounds_toArray, List.set_cons_zero, List.set_cons_succ]
  refine wpAnyH_done (by kernel_rfl) ?_ _
  try simp only [Act.put, List.setIfInBounds_toArray, List.set_cons_zero, List.set_cons_succ]
  have HK := Lib.hid (OnO.low K115)
  clear K115
  go_wp2_with fail
  go_ret
  exact ⟨rfl, HK.out⟩
end Go.Proofs.YtmnblpjdiplioaaGreat
