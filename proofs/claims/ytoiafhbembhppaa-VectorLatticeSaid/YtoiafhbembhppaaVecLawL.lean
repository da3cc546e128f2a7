/-
  almonrylaw12: the walk of VectorLattice.
-/
import Derived.Test.YtoiafhbembhppaaVecAwake
import Derived.Deep.RegionHeld3
import Derived.Deep.Cut
import Derived.Deep.DeepCutAuto
namespace Go.Proofs.Ytoiafhbembhppaa
open Go.RowKit Go.Sort

/-- what is known in the midst of the first statement: three vectors, and those that were made for its own -/
structure Kn (w0 : World) (a b c : Vc) (W : World) (p q : Option Nat) : Prop where
  ra : VRow W w0.heap.size a
  rb : VRow W (w0.heap.size + 1) b
  rc : VRow W (w0.heap.size + 1 + 1) c
  lo : Below w0.heap.size w0 W
  fp : ∀ g, p = some g → VRow W g zV ∧ w0.heap.size + 3 ≤ g
  fq : ∀ g, q = some g → VRow W g zV ∧ w0.heap.size + 3 ≤ g
  ne : ∀ g h, p = some g → q = some h → g ≠ h
theorem Kn.below {w0 : World} {a b c : Vc} {W W' : World} {p q : Option Nat} (h : Kn w0 a b c W p q) (hb : Below W.heap.size W W') : Kn w0 a b c W' p q :=
  ⟨h.ra.keep hb, h.rb.keep hb, h.rc.keep hb, h.lo.trans (hb.mono h.lo.size), fun g e => ⟨(h.fp g e).1.keep hb, (h.fp g e).2⟩, fun g e => ⟨(h.fq g e).1.keep hb, (h.fq g e).2⟩, h.ne⟩
theorem Kn.newP {w0 : World} {a b c : Vc} {W : World} {q : Option Nat} (h : Kn w0 a b c W none q) : Kn w0 a b c (boxV W zV) (some W.heap.size) q := by
  have k := h.below (boxV_below W zV)
  have hs := h.rc.lt
  refine ⟨k.ra, k.rb, k.rc, k.lo, fun g e => ?_, k.fq, fun g g' e e' => ?_⟩
  · obtain rfl := Option.some.inj e
    exact ⟨VRow.new W zV, by omega⟩
  · obtain rfl := Option.some.inj e
    have := (h.fq g' e').1.lt
    omega
theorem Kn.newQ {w0 : World} {a b c : Vc} {W : World} {p : Option Nat} (h : Kn w0 a b c W p none) : Kn w0 a b c (boxV W zV) p (some W.heap.size) := by
  have k := h.below (boxV_below W zV)
  have hs := h.rc.lt
  refine ⟨k.ra, k.rb, k.rc, k.lo, k.fp, fun g e => ?_, fun g g' e e' => ?_⟩
  · obtain rfl := Option.some.inj e
    exact ⟨VRow.new W zV, by omega⟩
  · obtain rfl := Option.some.inj e'
    have := (h.fp g e).1.lt
    omega
theorem Kn.put {w0 : World} {a b c j m : Vc} {W : World} {g h : Nat} (k : Kn w0 a b c W (some g) (some h)) :
    VRow ((W.setRow g (ics j)).setRow h (ics m)) w0.heap.size a ∧ VRow ((W.setRow g (ics j)).setRow h (ics m)) (w0.heap.size + 1) b ∧ VRow ((W.setRow g (ics j)).setRow h (ics m)) (w0.heap.size + 1 + 1) c ∧
    VRow ((W.setRow g (ics j)).setRow h (ics m)) g j ∧ VRow ((W.setRow g (ics j)).setRow h (ics m)) h m ∧ Below w0.heap.size w0 ((W.setRow g (ics j)).setRow h (ics m)) := by
  obtain ⟨p0, p1⟩ := k.fp g rfl
  obtain ⟨q0, q1⟩ := k.fq h rfl
  have hn := k.ne g h rfl rfl
  exact ⟨(k.ra.of_set (by omega) _).of_set (by omega) _, (k.rb.of_set (by omega) _).of_set (by omega) _, (k.rc.of_set (by omega) _).of_set (by omega) _, (VRow.of_put p0 j).of_set hn _, VRow.of_put (q0.of_set (fun e => hn e.symm) _) m, belowRow (belowRow k.lo (by omega) _) (by omega) _⟩

theorem Kn.forget {w0 : World} {a b c : Vc} {W : World} {p q : Option Nat} (h : Kn w0 a b c W p q) : Kn w0 a b c W none none :=
  ⟨h.ra, h.rb, h.rc, h.lo, (fun _ e => nomatch e), (fun _ e => nomatch e), (fun _ _ e => nomatch e)⟩
theorem Kn.set {w0 : World} {a b c : Vc} {W : World} {p q : Option Nat} (h : Kn w0 a b c W p q) {g : Nat} (hg : w0.heap.size + 3 ≤ g) (C : Array Value) : Kn w0 a b c (W.setRow g C) none none :=
  ⟨h.ra.of_set (by omega) _, h.rb.of_set (by omega) _, h.rc.of_set (by omega) _, belowRow h.lo (by omega) _, (fun _ e => nomatch e), (fun _ e => nomatch e), (fun _ _ e => nomatch e)⟩
theorem Kn.start (w : World) (a b c : Vc) : Kn w a b c (boxV (boxV (boxV w a) b) c) none none := by
  have e1 := boxV_size w a
  have e2 := boxV_size (boxV w a) b
  have h0 := VRow.new w a
  have h1 := VRow.new (boxV w a) b
  have h2 := VRow.new (boxV (boxV w a) b) c
  rw [e1] at h1
  rw [e2, e1] at h2
  exact ⟨(h0.alloc _).alloc _, h1.alloc _, h2, ((boxV_below w a).alloc (by rw [e1]; omega) _).alloc (by rw [World.size_alloc, e1]; omega) _, (fun _ e => nomatch e), (fun _ e => nomatch e), (fun _ _ e => nomatch e)⟩
theorem yield_load {ops : Array Oper} {S : World → Prop} {o : Oper} {a : Act} (hgd : o.guard = none) (x : Operand) (ho : o.op = .load 39 x) (g : Nat) (l : Vc) (hx : a.eval x = .pointer (some ⟨g, 0, none⟩))
    (hg : ∀ w, S w → VRow w g l) (hl : l.length = 16) : YieldsIf Try.prog ops S o (.agg (ics l)) a := by
  refine .inl ⟨by simp only [Region.wanted, hgd], fun w hS => ?_⟩
  unfold execOp
  simp only [ho, hx, Instr.loadAt, Instr.sureAddr, Sem.run_bind, Sem.run_pure, Result.andThen_ok, (hg w hS).load hl]

/-- the five vectors behind the first statement -/
structure Fv (w0 : World) (a b c j m : Vc) (g h : Nat) (W : World) : Prop where
  ra : VRow W w0.heap.size a
  rb : VRow W (w0.heap.size + 1) b
  rc : VRow W (w0.heap.size + 1 + 1) c
  rj : VRow W g j
  rm : VRow W h m
  lo : Below w0.heap.size w0 W
theorem Fv.keep {w0 : World} {a b c j m : Vc} {g h : Nat} {W W' : World} (k : Fv w0 a b c j m g h W) (hb : Below W.heap.size W W') : Fv w0 a b c j m g h W' :=
  ⟨k.ra.keep hb, k.rb.keep hb, k.rc.keep hb, k.rj.keep hb, k.rm.keep hb, k.lo.trans (hb.mono k.lo.size)⟩

set_option maxHeartbeats 8000000 in
set_option maxRecDepth 100000 in
theorem lattice_row (a b c : Vc) (w : World) (ha : a.length = 16) (hb : b.length = 16) (hc : c.length = 16) :
    Calls Try.prog 6 #[.agg (ics a), .agg (ics b), .agg (ics c)] w fun e w' => e = .returned (.bool true) ∧ Below w.heap.size w w' := by
  have hK0 := Kn.start w a b c
  have HLa := Lib.hid ha
  have HLb := Lib.hid hb
  have HLc := Lib.hid hc
  have HLj := Lib.hid (joinV_len ha hb)
  have HLm := Lib.hid (meetV_len ha hb)
  have HLk := Lib.hid (joinV_len hb hc)
  have HLx := Lib.hid (joinV_len (joinV_len ha hb) hc)
  have HCJ := Lib.hid (fun W => vjoinC a b ha hb W)
  have HCM := Lib.hid (fun W => vmeetC a b ha hb W)
  have HC1 := Lib.hid (fun W => vcmpC a (joinV a b) ha (joinV_len ha hb) W)
  have HC2 := Lib.hid (fun W => vcmpC b (joinV a b) hb (joinV_len ha hb) W)
  have HC3 := Lib.hid (fun W => vcmpC (meetV a b) a (meetV_len ha hb) ha W)
  have HC4 := Lib.hid (fun W => vcmpC (meetV a b) b (meetV_len ha hb) hb W)
  have HC5 := Lib.hid (fun W => vcmpC a c ha hc W)
  have HC6 := Lib.hid (fun W => vcmpC b c hb hc W)
  have HC7 := Lib.hid (fun W => vcmpC (joinV a b) c (joinV_len ha hb) hc W)
  have HC8 := Lib.hid (fun W => vcmpC a b ha hb W)
  have c9 := fun W => vjoinC b c hb hc W
  have c10 := fun W => vjoinC a (joinV b c) ha (joinV_len hb hc) W
  have c11 := fun W => vjoinC (joinV a b) c (joinV_len ha hb) hc W
  have c12 := fun W => vjoinC a a ha ha W
  have c13 := fun W => vjoinC b a hb ha W
  rw [joinV_assoc ha hb hc] at c10
  rw [joinV_self] at c12
  rw [joinV_comm hb ha] at c13
  have HC9 := Lib.hid c9
  have HC10 := Lib.hid c10
  have HC11 := Lib.hid c11
  have HC12 := Lib.hid c12
  have HC13 := Lib.hid c13
  have s1 := up_left ha hb
  have s2 := up_right ha hb
  have s3 := down_left ha hb
  have s4 := down_right ha hb
  have s5 : decide (cmpV (joinV a b) c < 1) = (decide (cmpV a c < 1) && decide (cmpV b c < 1)) := by
    have := least ha hb hc
    by_cases h : cmpV (joinV a b) c < 1
    · obtain ⟨h1, h2⟩ := this.2 h
      simp [h, h1, h2]
    · rw [decide_eq_false h]
      by_cases h1 : cmpV a c < 1
      · have h2 : ¬ cmpV b c < 1 := fun h2 => h (this.1 ⟨h1, h2⟩)
        simp [h2]
      · simp [h1]
  have s8 : (cmpV a b == 0) = decide (a = b) := by
    by_cases h : a = b
    · rw [decide_eq_true h, cmpV_zero.2 h]; rfl
    · rw [decide_eq_false h]
      have : ¬ cmpV a b = 0 := fun e => h (cmpV_zero.1 e)
      simp [this]
  have q0 := fun W => eqlV ha hb W
  have q1 := fun W => eqlV (joinV_len (joinV_len ha hb) hc) (joinV_len (joinV_len ha hb) hc) W
  have q2 := fun W => eqlV ha ha W
  have q3 := fun W => eqlV (joinV_len ha hb) (joinV_len ha hb) W
  simp only [decide_true] at q1 q2 q3
  clear c9 c10 c11 c12 c13
  generalize joinV (joinV a b) c = x at *
  generalize joinV b c = k at *
  generalize cmpV a (joinV a b) = n1 at *
  generalize cmpV b (joinV a b) = n2 at *
  generalize cmpV (meetV a b) a = n3 at *
  generalize cmpV (meetV a b) b = n4 at *
  generalize cmpV (joinV a b) c = n7 at *
  generalize joinV a b = j at *
  generalize meetV a b = m at *
  generalize cmpV a c = n5 at *
  generalize cmpV b c = n6 at *
  generalize cmpV a b = n8 at *
  generalize decide (a = b) = t8 at *
  have d1 : decide (n1 < 1) = true := decide_eq_true s1
  have d2 : decide (n2 < 1) = true := decide_eq_true s2
  have d3 : decide (n3 < 1) = true := decide_eq_true s3
  have d4 : decide (n4 < 1) = true := decide_eq_true s4
  have HQ := Lib.hid (And.intro q0 (And.intro q1 (And.intro q2 q3)))
  have HD := Lib.hid (And.intro d1 (And.intro d2 (And.intro d3 d4)))
  have HS := Lib.hid (And.intro s5 s8)
  clear ha hb hc s1 s2 s3 s4 s5 s8 q0 q1 q2 q3 d1 d2 d3 d4
  go_enter Try.func6, Try.ntmps6
  go_upto_region 1 with fail
  change Code.wp _ _ _ _ (boxV (boxV (boxV w a) b) c)
  generalize boxV (boxV (boxV w a) b) c = w3 at hK0 ⊢
  have K0 : Hid (Kn w a b c w3.drew none none) := Lib.hid (hK0.below (Below.refl _ _).drew)
  clear hK0
  go_cut [7, 8] (fun p q W => ∃ g h : Nat, p = .pointer (some ⟨g, 0, none⟩) ∧ q = .pointer (some ⟨h, 0, none⟩) ∧ VRow W w.heap.size a ∧ VRow W (w.heap.size + 1) b ∧ VRow W (w.heap.size + 1 + 1) c ∧ VRow W g j ∧ VRow W h m ∧ Below w.heap.size w W)
  case first =>
    refine wp_region_held (S := fun W => Kn w a b c W none none) (by kernel_rfl) ?_
    change wpAnyH _ _ _ _ _ _ _ _ w3.drew
    refine wpAnyH_take (i := 0) rfl (by kernel_rfl) (by kernel_rfl) (by kernel_rfl) (fun _ _ _ h => h) (yield_load rfl (.tmp 3) rfl w.heap.size a rfl (fun _ h => h.ra) HLa.out) K0.out ?_
    refine wpAnyH_take (i := 1) rfl (by kernel_rfl) (by kernel_rfl) (by kernel_rfl) (fun _ _ _ h => h) (yield_load rfl (.tmp 4) rfl (w.heap.size + 1) b rfl (fun _ h => h.rb) HLb.out) K0.out ?_
    refine wpAnyH_take (i := 3) rfl (by kernel_rfl) (by kernel_rfl) (by kernel_rfl) (fun _ _ _ h => h) (yield_load rfl (.tmp 3) rfl w.heap.size a rfl (fun _ h => h.ra) HLa.out) K0.out ?_
    refine wpAnyH_take (i := 4) rfl (by kernel_rfl) (by kernel_rfl) (by kernel_rfl) (fun _ _ _ h => h) (yield_load rfl (.tmp 4) rfl (w.heap.size + 1) b rfl (fun _ h => h.rb) HLb.out) K0.out ?_
    simp only [Act.put, List.setIfInBounds_toArray]
    refine wpAnyH_ready (rs := [2, 6, 7]) (by kernel_rfl) (by simp) ?_
    refine AllReadyH.cons rfl (fun K hK => ?_) (AllReadyH.cons rfl (fun K hK => ?_) (AllReadyH.cons rfl (fun K hK => ?_) AllReadyH.nil))
    · go_simp
      refine (HCJ.out _).mono ?_
      rintro e v1 ⟨rfl, hb1⟩
      have k1 := Lib.hid (K0.out.below hb1)
      clear hb1
      refine hK.out _ _ k1.out.forget (fun _ => ?_)
      clear hK K
      refine wpAnyH_ready (rs := [5, 6, 7]) (by kernel_rfl) (by simp) ?_
      refine AllReadyH.cons rfl (fun K hK => ?_) (AllReadyH.cons rfl (fun K hK => ?_) (AllReadyH.cons rfl (fun K hK => ?_) AllReadyH.nil))
      · go_simp
        refine (HCM.out _).mono ?_
        rintro e v2 ⟨rfl, hb2⟩
        have k2 := Lib.hid (k1.out.below hb2)
        clear hb2
        refine hK.out _ _ k2.out.forget (fun _ => ?_)
        clear hK K
        refine wpAnyH_ready (rs := [6, 7]) (by kernel_rfl) (by simp) ?_
        refine AllReadyH.cons rfl (fun K hK => ?_) (AllReadyH.cons rfl (fun K hK => ?_) AllReadyH.nil)
        · go_simp
          have k3 := Lib.hid k2.out.newP
          refine hK.out _ _ k3.out.forget (fun _ => ?_)
          change wpAnyH _ _ _ _ _ _ _ _ (boxV v2 zV)
          clear hK K
          refine wpAnyH_ready (rs := [7]) (by kernel_rfl) (by simp) ?_
          refine AllReadyH.cons rfl (fun K hK => ?_) AllReadyH.nil
          go_simp
          have k4 := k3.out.newQ
          rw [boxV_size] at k4
          replace k4 := Lib.hid k4
          refine hK.out _ _ k4.out.forget (fun _ => ?_)
          change wpAnyH _ _ _ _ _ _ _ _ (boxV (boxV v2 zV) zV)
          clear hK K
          refine wpAnyH_ready (rs := [8]) (by kernel_rfl) (by simp) ?_
          refine AllReadyH.cons rfl (fun K hK => ?_) AllReadyH.nil
          refine draw_store rfl 39 (.tmp 7) (.tmp 13) rfl v2.heap.size rfl (ics j) rfl _ ((k4.out.fp _ rfl).1.store rfl HLj.out) (hK.out _ _ (k4.out.set (k4.out.fp _ rfl).2 _) (fun _ => ?_))
          refine wpAnyH_ready (rs := [9]) (by kernel_rfl) (by simp) ?_
          refine AllReadyH.cons rfl (fun K hK => ?_) AllReadyH.nil
          refine draw_store rfl 39 (.tmp 8) (.tmp 16) rfl (v2.heap.size + 1) rfl (ics m) rfl _ (((k4.out.fq _ rfl).1.of_set (fun e => k4.out.ne _ _ rfl rfl e.symm) _).store rfl HLm.out) (hK.out _ _ ((k4.out.set (k4.out.fp _ rfl).2 _).set (k4.out.fq _ rfl).2 _) (fun _ => ?_))
          refine wpAnyH_done (by kernel_rfl) ?_ _
          simp only [Act.put, List.setIfInBounds_toArray]
          go_wp2_with fail
          go_meet
          exact ⟨_, _, rfl, rfl, k4.out.put⟩
        · go_simp
          have k5 := Lib.hid k2.out.newQ
          refine hK.out _ _ k5.out.forget (fun _ => ?_)
          change wpAnyH _ _ _ _ _ _ _ _ (boxV v2 zV)
          clear hK K
          refine wpAnyH_ready (rs := [6]) (by kernel_rfl) (by simp) ?_
          refine AllReadyH.cons rfl (fun K hK => ?_) AllReadyH.nil
          go_simp
          have k6 := k5.out.newP
          rw [boxV_size] at k6
          replace k6 := Lib.hid k6
          refine hK.out _ _ k6.out.forget (fun _ => ?_)
          change wpAnyH _ _ _ _ _ _ _ _ (boxV (boxV v2 zV) zV)
          clear hK K
          refine wpAnyH_ready (rs := [8]) (by kernel_rfl) (by simp) ?_
          refine AllReadyH.cons rfl (fun K hK => ?_) AllReadyH.nil
          refine draw_store rfl 39 (.tmp 7) (.tmp 13) rfl (v2.heap.size + 1) rfl (ics j) rfl _ ((k6.out.fp _ rfl).1.store rfl HLj.out) (hK.out _ _ (k6.out.set (k6.out.fp _ rfl).2 _) (fun _ => ?_))
          refine wpAnyH_ready (rs := [9]) (by kernel_rfl) (by simp) ?_
          refine AllReadyH.cons rfl (fun K hK => ?_) AllReadyH.nil
          refine draw_store rfl 39 (.tmp 8) (.tmp 16) rfl v2.heap.size rfl (ics m) rfl _ (((k6.out.fq _ rfl).1.of_set (fun e => k6.out.ne _ _ rfl rfl e.symm) _).store rfl HLm.out) (hK.out _ _ ((k6.out.set (k6.out.fp _ rfl).2 _).set (k6.out.fq _ rfl).2 _) (fun _ => ?_))
          refine wpAnyH_done (by kernel_rfl) ?_ _
          simp only [Act.put, List.setIfInBounds_toArray]
          go_wp2_with fail
          go_meet
          exact ⟨_, _, rfl, rfl, k6.out.put⟩
      · go_simp
        have k7 := Lib.hid k1.out.newP
        refine hK.out _ _ k7.out.forget (fun _ => ?_)
        change wpAnyH _ _ _ _ _ _ _ _ (boxV v1 zV)
        clear hK K
        refine wpAnyH_ready (rs := [5, 7]) (by kernel_rfl) (by simp) ?_
        refine AllReadyH.cons rfl (fun K hK => ?_) (AllReadyH.cons rfl (fun K hK => ?_) AllReadyH.nil)
        · go_simp
          refine (HCM.out _).mono ?_
          rintro e v8 ⟨rfl, hb8⟩
          have k8 := Lib.hid (k7.out.below hb8)
          clear hb8
          refine hK.out _ _ k8.out.forget (fun _ => ?_)
          clear hK K
          refine wpAnyH_ready (rs := [7]) (by kernel_rfl) (by simp) ?_
          refine AllReadyH.cons rfl (fun K hK => ?_) AllReadyH.nil
          go_simp
          have k9 := Lib.hid k8.out.newQ
          refine hK.out _ _ k9.out.forget (fun _ => ?_)
          change wpAnyH _ _ _ _ _ _ _ _ (boxV v8 zV)
          clear hK K
          refine wpAnyH_ready (rs := [8]) (by kernel_rfl) (by simp) ?_
          refine AllReadyH.cons rfl (fun K hK => ?_) AllReadyH.nil
          refine draw_store rfl 39 (.tmp 7) (.tmp 13) rfl v1.heap.size rfl (ics j) rfl _ ((k9.out.fp _ rfl).1.store rfl HLj.out) (hK.out _ _ (k9.out.set (k9.out.fp _ rfl).2 _) (fun _ => ?_))
          refine wpAnyH_ready (rs := [9]) (by kernel_rfl) (by simp) ?_
          refine AllReadyH.cons rfl (fun K hK => ?_) AllReadyH.nil
          refine draw_store rfl 39 (.tmp 8) (.tmp 16) rfl v8.heap.size rfl (ics m) rfl _ (((k9.out.fq _ rfl).1.of_set (fun e => k9.out.ne _ _ rfl rfl e.symm) _).store rfl HLm.out) (hK.out _ _ ((k9.out.set (k9.out.fp _ rfl).2 _).set (k9.out.fq _ rfl).2 _) (fun _ => ?_))
          refine wpAnyH_done (by kernel_rfl) ?_ _
          simp only [Act.put, List.setIfInBounds_toArray]
          go_wp2_with fail
          go_meet
          exact ⟨_, _, rfl, rfl, k9.out.put⟩
        · go_simp
          have k10 := k7.out.newQ
          rw [boxV_size] at k10
          replace k10 := Lib.hid k10
          refine hK.out _ _ k10.out.forget (fun _ => ?_)
          change wpAnyH _ _ _ _ _ _ _ _ (boxV (boxV v1 zV) zV)
          clear hK K
          refine wpAnyH_ready (rs := [5]) (by kernel_rfl) (by simp) ?_
          refine AllReadyH.cons rfl (fun K hK => ?_) AllReadyH.nil
          go_simp
          refine (HCM.out _).mono ?_
          rintro e v11 ⟨rfl, hb11⟩
          have k11 := Lib.hid (k10.out.below hb11)
          clear hb11
          refine hK.out _ _ k11.out.forget (fun _ => ?_)
          clear hK K
          refine wpAnyH_ready (rs := [8]) (by kernel_rfl) (by simp) ?_
          refine AllReadyH.cons rfl (fun K hK => ?_) AllReadyH.nil
          refine draw_store rfl 39 (.tmp 7) (.tmp 13) rfl v1.heap.size rfl (ics j) rfl _ ((k11.out.fp _ rfl).1.store rfl HLj.out) (hK.out _ _ (k11.out.set (k11.out.fp _ rfl).2 _) (fun _ => ?_))
          refine wpAnyH_ready (rs := [9]) (by kernel_rfl) (by simp) ?_
          refine AllReadyH.cons rfl (fun K hK => ?_) AllReadyH.nil
          refine draw_store rfl 39 (.tmp 8) (.tmp 16) rfl (v1.heap.size + 1) rfl (ics m) rfl _ (((k11.out.fq _ rfl).1.of_set (fun e => k11.out.ne _ _ rfl rfl e.symm) _).store rfl HLm.out) (hK.out _ _ ((k11.out.set (k11.out.fp _ rfl).2 _).set (k11.out.fq _ rfl).2 _) (fun _ => ?_))
          refine wpAnyH_done (by kernel_rfl) ?_ _
          simp only [Act.put, List.setIfInBounds_toArray]
          go_wp2_with fail
          go_meet
          exact ⟨_, _, rfl, rfl, k11.out.put⟩
      · go_simp
        have k12 := Lib.hid k1.out.newQ
        refine hK.out _ _ k12.out.forget (fun _ => ?_)
        change wpAnyH _ _ _ _ _ _ _ _ (boxV v1 zV)
        clear hK K
        refine wpAnyH_ready (rs := [5, 6]) (by kernel_rfl) (by simp) ?_
        refine AllReadyH.cons rfl (fun K hK => ?_) (AllReadyH.cons rfl (fun K hK => ?_) AllReadyH.nil)
        · go_simp
          refine (HCM.out _).mono ?_
          rintro e v13 ⟨rfl, hb13⟩
          have k13 := Lib.hid (k12.out.below hb13)
          clear hb13
          refine hK.out _ _ k13.out.forget (fun _ => ?_)
          clear hK K
          refine wpAnyH_ready (rs := [6]) (by kernel_rfl) (by simp) ?_
          refine AllReadyH.cons rfl (fun K hK => ?_) AllReadyH.nil
          go_simp
          have k14 := Lib.hid k13.out.newP
          refine hK.out _ _ k14.out.forget (fun _ => ?_)
          change wpAnyH _ _ _ _ _ _ _ _ (boxV v13 zV)
          clear hK K
          refine wpAnyH_ready (rs := [8]) (by kernel_rfl) (by simp) ?_
          refine AllReadyH.cons rfl (fun K hK => ?_) AllReadyH.nil
          refine draw_store rfl 39 (.tmp 7) (.tmp 13) rfl v13.heap.size rfl (ics j) rfl _ ((k14.out.fp _ rfl).1.store rfl HLj.out) (hK.out _ _ (k14.out.set (k14.out.fp _ rfl).2 _) (fun _ => ?_))
          refine wpAnyH_ready (rs := [9]) (by kernel_rfl) (by simp) ?_
          refine AllReadyH.cons rfl (fun K hK => ?_) AllReadyH.nil
          refine draw_store rfl 39 (.tmp 8) (.tmp 16) rfl v1.heap.size rfl (ics m) rfl _ (((k14.out.fq _ rfl).1.of_set (fun e => k14.out.ne _ _ rfl rfl e.symm) _).store rfl HLm.out) (hK.out _ _ ((k14.out.set (k14.out.fp _ rfl).2 _).set (k14.out.fq _ rfl).2 _) (fun _ => ?_))
          refine wpAnyH_done (by kernel_rfl) ?_ _
          simp only [Act.put, List.setIfInBounds_toArray]
          go_wp2_with fail
          go_meet
          exact ⟨_, _, rfl, rfl, k14.out.put⟩
        · go_simp
          have k15 := k12.out.newP
          rw [boxV_size] at k15
          replace k15 := Lib.hid k15
          refine hK.out _ _ k15.out.forget (fun _ => ?_)
          change wpAnyH _ _ _ _ _ _ _ _ (boxV (boxV v1 zV) zV)
          clear hK K
          refine wpAnyH_ready (rs := [5]) (by kernel_rfl) (by simp) ?_
          refine AllReadyH.cons rfl (fun K hK => ?_) AllReadyH.nil
          go_simp
          refine (HCM.out _).mono ?_
          rintro e v16 ⟨rfl, hb16⟩
          have k16 := Lib.hid (k15.out.below hb16)
          clear hb16
          refine hK.out _ _ k16.out.forget (fun _ => ?_)
          clear hK K
          refine wpAnyH_ready (rs := [8]) (by kernel_rfl) (by simp) ?_
          refine AllReadyH.cons rfl (fun K hK => ?_) AllReadyH.nil
          refine draw_store rfl 39 (.tmp 7) (.tmp 13) rfl (v1.heap.size + 1) rfl (ics j) rfl _ ((k16.out.fp _ rfl).1.store rfl HLj.out) (hK.out _ _ (k16.out.set (k16.out.fp _ rfl).2 _) (fun _ => ?_))
          refine wpAnyH_ready (rs := [9]) (by kernel_rfl) (by simp) ?_
          refine AllReadyH.cons rfl (fun K hK => ?_) AllReadyH.nil
          refine draw_store rfl 39 (.tmp 8) (.tmp 16) rfl v1.heap.size rfl (ics m) rfl _ (((k16.out.fq _ rfl).1.of_set (fun e => k16.out.ne _ _ rfl rfl e.symm) _).store rfl HLm.out) (hK.out _ _ ((k16.out.set (k16.out.fp _ rfl).2 _).set (k16.out.fq _ rfl).2 _) (fun _ => ?_))
          refine wpAnyH_done (by kernel_rfl) ?_ _
          simp only [Act.put, List.setIfInBounds_toArray]
          go_wp2_with fail
          go_meet
          exact ⟨_, _, rfl, rfl, k16.out.put⟩
    · go_simp
      have k17 := Lib.hid K0.out.newP
      refine hK.out _ _ k17.out.forget (fun _ => ?_)
      change wpAnyH _ _ _ _ _ _ _ _ (boxV w3.drew zV)
      clear hK K
      refine wpAnyH_ready (rs := [2, 7]) (by kernel_rfl) (by simp) ?_
      refine AllReadyH.cons rfl (fun K hK => ?_) (AllReadyH.cons rfl (fun K hK => ?_) AllReadyH.nil)
      · go_simp
        refine (HCJ.out _).mono ?_
        rintro e v18 ⟨rfl, hb18⟩
        have k18 := Lib.hid (k17.out.below hb18)
        clear hb18
        refine hK.out _ _ k18.out.forget (fun _ => ?_)
        clear hK K
        refine wpAnyH_ready (rs := [5, 7]) (by kernel_rfl) (by simp) ?_
        refine AllReadyH.cons rfl (fun K hK => ?_) (AllReadyH.cons rfl (fun K hK => ?_) AllReadyH.nil)
        · go_simp
          refine (HCM.out _).mono ?_
          rintro e v19 ⟨rfl, hb19⟩
          have k19 := Lib.hid (k18.out.below hb19)
          clear hb19
          refine hK.out _ _ k19.out.forget (fun _ => ?_)
          clear hK K
          refine wpAnyH_ready (rs := [7]) (by kernel_rfl) (by simp) ?_
          refine AllReadyH.cons rfl (fun K hK => ?_) AllReadyH.nil
          go_simp
          have k20 := Lib.hid k19.out.newQ
          refine hK.out _ _ k20.out.forget (fun _ => ?_)
          change wpAnyH _ _ _ _ _ _ _ _ (boxV v19 zV)
          clear hK K
          refine wpAnyH_ready (rs := [8]) (by kernel_rfl) (by simp) ?_
          refine AllReadyH.cons rfl (fun K hK => ?_) AllReadyH.nil
          refine draw_store rfl 39 (.tmp 7) (.tmp 13) rfl w3.drew.heap.size rfl (ics j) rfl _ ((k20.out.fp _ rfl).1.store rfl HLj.out) (hK.out _ _ (k20.out.set (k20.out.fp _ rfl).2 _) (fun _ => ?_))
          refine wpAnyH_ready (rs := [9]) (by kernel_rfl) (by simp) ?_
          refine AllReadyH.cons rfl (fun K hK => ?_) AllReadyH.nil
          refine draw_store rfl 39 (.tmp 8) (.tmp 16) rfl v19.heap.size rfl (ics m) rfl _ (((k20.out.fq _ rfl).1.of_set (fun e => k20.out.ne _ _ rfl rfl e.symm) _).store rfl HLm.out) (hK.out _ _ ((k20.out.set (k20.out.fp _ rfl).2 _).set (k20.out.fq _ rfl).2 _) (fun _ => ?_))
          refine wpAnyH_done (by kernel_rfl) ?_ _
          simp only [Act.put, List.setIfInBounds_toArray]
          go_wp2_with fail
          go_meet
          exact ⟨_, _, rfl, rfl, k20.out.put⟩
        · go_simp
          have k21 := Lib.hid k18.out.newQ
          refine hK.out _ _ k21.out.forget (fun _ => ?_)
          change wpAnyH _ _ _ _ _ _ _ _ (boxV v18 zV)
          clear hK K
          refine wpAnyH_ready (rs := [5]) (by kernel_rfl) (by simp) ?_
          refine AllReadyH.cons rfl (fun K hK => ?_) AllReadyH.nil
          go_simp
          refine (HCM.out _).mono ?_
          rintro e v22 ⟨rfl, hb22⟩
          have k22 := Lib.hid (k21.out.below hb22)
          clear hb22
          refine hK.out _ _ k22.out.forget (fun _ => ?_)
          clear hK K
          refine wpAnyH_ready (rs := [8]) (by kernel_rfl) (by simp) ?_
          refine AllReadyH.cons rfl (fun K hK => ?_) AllReadyH.nil
          refine draw_store rfl 39 (.tmp 7) (.tmp 13) rfl w3.drew.heap.size rfl (ics j) rfl _ ((k22.out.fp _ rfl).1.store rfl HLj.out) (hK.out _ _ (k22.out.set (k22.out.fp _ rfl).2 _) (fun _ => ?_))
          refine wpAnyH_ready (rs := [9]) (by kernel_rfl) (by simp) ?_
          refine AllReadyH.cons rfl (fun K hK => ?_) AllReadyH.nil
          refine draw_store rfl 39 (.tmp 8) (.tmp 16) rfl v18.heap.size rfl (ics m) rfl _ (((k22.out.fq _ rfl).1.of_set (fun e => k22.out.ne _ _ rfl rfl e.symm) _).store rfl HLm.out) (hK.out _ _ ((k22.out.set (k22.out.fp _ rfl).2 _).set (k22.out.fq _ rfl).2 _) (fun _ => ?_))
          refine wpAnyH_done (by kernel_rfl) ?_ _
          simp only [Act.put, List.setIfInBounds_toArray]
          go_wp2_with fail
          go_meet
          exact ⟨_, _, rfl, rfl, k22.out.put⟩
      · go_simp
        have k23 := k17.out.newQ
        rw [boxV_size] at k23
        replace k23 := Lib.hid k23
        refine hK.out _ _ k23.out.forget (fun _ => ?_)
        change wpAnyH _ _ _ _ _ _ _ _ (boxV (boxV w3.drew zV) zV)
        clear hK K
        refine wpAnyH_ready (rs := [2]) (by kernel_rfl) (by simp) ?_
        refine AllReadyH.cons rfl (fun K hK => ?_) AllReadyH.nil
        go_simp
        refine (HCJ.out _).mono ?_
        rintro e v24 ⟨rfl, hb24⟩
        have k24 := Lib.hid (k23.out.below hb24)
        clear hb24
        refine hK.out _ _ k24.out.forget (fun _ => ?_)
        clear hK K
        refine wpAnyH_ready (rs := [5]) (by kernel_rfl) (by simp) ?_
        refine AllReadyH.cons rfl (fun K hK => ?_) AllReadyH.nil
        go_simp
        refine (HCM.out _).mono ?_
        rintro e v25 ⟨rfl, hb25⟩
        have k25 := Lib.hid (k24.out.below hb25)
        clear hb25
        refine hK.out _ _ k25.out.forget (fun _ => ?_)
        clear hK K
        refine wpAnyH_ready (rs := [8]) (by kernel_rfl) (by simp) ?_
        refine AllReadyH.cons rfl (fun K hK => ?_) AllReadyH.nil
        refine draw_store rfl 39 (.tmp 7) (.tmp 13) rfl w3.drew.heap.size rfl (ics j) rfl _ ((k25.out.fp _ rfl).1.store rfl HLj.out) (hK.out _ _ (k25.out.set (k25.out.fp _ rfl).2 _) (fun _ => ?_))
        refine wpAnyH_ready (rs := [9]) (by kernel_rfl) (by simp) ?_
        refine AllReadyH.cons rfl (fun K hK => ?_) AllReadyH.nil
        refine draw_store rfl 39 (.tmp 8) (.tmp 16) rfl (w3.drew.heap.size + 1) rfl (ics m) rfl _ (((k25.out.fq _ rfl).1.of_set (fun e => k25.out.ne _ _ rfl rfl e.symm) _).store rfl HLm.out) (hK.out _ _ ((k25.out.set (k25.out.fp _ rfl).2 _).set (k25.out.fq _ rfl).2 _) (fun _ => ?_))
        refine wpAnyH_done (by kernel_rfl) ?_ _
        simp only [Act.put, List.setIfInBounds_toArray]
        go_wp2_with fail
        go_meet
        exact ⟨_, _, rfl, rfl, k25.out.put⟩
    · go_simp
      have k26 := Lib.hid K0.out.newQ
      refine hK.out _ _ k26.out.forget (fun _ => ?_)
      change wpAnyH _ _ _ _ _ _ _ _ (boxV w3.drew zV)
      clear hK K
      refine wpAnyH_ready (rs := [2, 6]) (by kernel_rfl) (by simp) ?_
      refine AllReadyH.cons rfl (fun K hK => ?_) (AllReadyH.cons rfl (fun K hK => ?_) AllReadyH.nil)
      · go_simp
        refine (HCJ.out _).mono ?_
        rintro e v27 ⟨rfl, hb27⟩
        have k27 := Lib.hid (k26.out.below hb27)
        clear hb27
        refine hK.out _ _ k27.out.forget (fun _ => ?_)
        clear hK K
        refine wpAnyH_ready (rs := [5, 6]) (by kernel_rfl) (by simp) ?_
        refine AllReadyH.cons rfl (fun K hK => ?_) (AllReadyH.cons rfl (fun K hK => ?_) AllReadyH.nil)
        · go_simp
          refine (HCM.out _).mono ?_
          rintro e v28 ⟨rfl, hb28⟩
          have k28 := Lib.hid (k27.out.below hb28)
          clear hb28
          refine hK.out _ _ k28.out.forget (fun _ => ?_)
          clear hK K
          refine wpAnyH_ready (rs := [6]) (by kernel_rfl) (by simp) ?_
          refine AllReadyH.cons rfl (fun K hK => ?_) AllReadyH.nil
          go_simp
          have k29 := Lib.hid k28.out.newP
          refine hK.out _ _ k29.out.forget (fun _ => ?_)
          change wpAnyH _ _ _ _ _ _ _ _ (boxV v28 zV)
          clear hK K
          refine wpAnyH_ready (rs := [8]) (by kernel_rfl) (by simp) ?_
          refine AllReadyH.cons rfl (fun K hK => ?_) AllReadyH.nil
          refine draw_store rfl 39 (.tmp 7) (.tmp 13) rfl v28.heap.size rfl (ics j) rfl _ ((k29.out.fp _ rfl).1.store rfl HLj.out) (hK.out _ _ (k29.out.set (k29.out.fp _ rfl).2 _) (fun _ => ?_))
          refine wpAnyH_ready (rs := [9]) (by kernel_rfl) (by simp) ?_
          refine AllReadyH.cons rfl (fun K hK => ?_) AllReadyH.nil
          refine draw_store rfl 39 (.tmp 8) (.tmp 16) rfl w3.drew.heap.size rfl (ics m) rfl _ (((k29.out.fq _ rfl).1.of_set (fun e => k29.out.ne _ _ rfl rfl e.symm) _).store rfl HLm.out) (hK.out _ _ ((k29.out.set (k29.out.fp _ rfl).2 _).set (k29.out.fq _ rfl).2 _) (fun _ => ?_))
          refine wpAnyH_done (by kernel_rfl) ?_ _
          simp only [Act.put, List.setIfInBounds_toArray]
          go_wp2_with fail
          go_meet
          exact ⟨_, _, rfl, rfl, k29.out.put⟩
        · go_simp
          have k30 := Lib.hid k27.out.newP
          refine hK.out _ _ k30.out.forget (fun _ => ?_)
          change wpAnyH _ _ _ _ _ _ _ _ (boxV v27 zV)
          clear hK K
          refine wpAnyH_ready (rs := [5]) (by kernel_rfl) (by simp) ?_
          refine AllReadyH.cons rfl (fun K hK => ?_) AllReadyH.nil
          go_simp
          refine (HCM.out _).mono ?_
          rintro e v31 ⟨rfl, hb31⟩
          have k31 := Lib.hid (k30.out.below hb31)
          clear hb31
          refine hK.out _ _ k31.out.forget (fun _ => ?_)
          clear hK K
          refine wpAnyH_ready (rs := [8]) (by kernel_rfl) (by simp) ?_
          refine AllReadyH.cons rfl (fun K hK => ?_) AllReadyH.nil
          refine draw_store rfl 39 (.tmp 7) (.tmp 13) rfl v27.heap.size rfl (ics j) rfl _ ((k31.out.fp _ rfl).1.store rfl HLj.out) (hK.out _ _ (k31.out.set (k31.out.fp _ rfl).2 _) (fun _ => ?_))
          refine wpAnyH_ready (rs := [9]) (by kernel_rfl) (by simp) ?_
          refine AllReadyH.cons rfl (fun K hK => ?_) AllReadyH.nil
          refine draw_store rfl 39 (.tmp 8) (.tmp 16) rfl w3.drew.heap.size rfl (ics m) rfl _ (((k31.out.fq _ rfl).1.of_set (fun e => k31.out.ne _ _ rfl rfl e.symm) _).store rfl HLm.out) (hK.out _ _ ((k31.out.set (k31.out.fp _ rfl).2 _).set (k31.out.fq _ rfl).2 _) (fun _ => ?_))
          refine wpAnyH_done (by kernel_rfl) ?_ _
          simp only [Act.put, List.setIfInBounds_toArray]
          go_wp2_with fail
          go_meet
          exact ⟨_, _, rfl, rfl, k31.out.put⟩
      · go_simp
        have k32 := k26.out.newP
        rw [boxV_size] at k32
        replace k32 := Lib.hid k32
        refine hK.out _ _ k32.out.forget (fun _ => ?_)
        change wpAnyH _ _ _ _ _ _ _ _ (boxV (boxV w3.drew zV) zV)
        clear hK K
        refine wpAnyH_ready (rs := [2]) (by kernel_rfl) (by simp) ?_
        refine AllReadyH.cons rfl (fun K hK => ?_) AllReadyH.nil
        go_simp
        refine (HCJ.out _).mono ?_
        rintro e v33 ⟨rfl, hb33⟩
        have k33 := Lib.hid (k32.out.below hb33)
        clear hb33
        refine hK.out _ _ k33.out.forget (fun _ => ?_)
        clear hK K
        refine wpAnyH_ready (rs := [5]) (by kernel_rfl) (by simp) ?_
        refine AllReadyH.cons rfl (fun K hK => ?_) AllReadyH.nil
        go_simp
        refine (HCM.out _).mono ?_
        rintro e v34 ⟨rfl, hb34⟩
        have k34 := Lib.hid (k33.out.below hb34)
        clear hb34
        refine hK.out _ _ k34.out.forget (fun _ => ?_)
        clear hK K
        refine wpAnyH_ready (rs := [8]) (by kernel_rfl) (by simp) ?_
        refine AllReadyH.cons rfl (fun K hK => ?_) AllReadyH.nil
        refine draw_store rfl 39 (.tmp 7) (.tmp 13) rfl (w3.drew.heap.size + 1) rfl (ics j) rfl _ ((k34.out.fp _ rfl).1.store rfl HLj.out) (hK.out _ _ (k34.out.set (k34.out.fp _ rfl).2 _) (fun _ => ?_))
        refine wpAnyH_ready (rs := [9]) (by kernel_rfl) (by simp) ?_
        refine AllReadyH.cons rfl (fun K hK => ?_) AllReadyH.nil
        refine draw_store rfl 39 (.tmp 8) (.tmp 16) rfl w3.drew.heap.size rfl (ics m) rfl _ (((k34.out.fq _ rfl).1.of_set (fun e => k34.out.ne _ _ rfl rfl e.symm) _).store rfl HLm.out) (hK.out _ _ ((k34.out.set (k34.out.fp _ rfl).2 _).set (k34.out.fq _ rfl).2 _) (fun _ => ?_))
        refine wpAnyH_done (by kernel_rfl) ?_ _
        simp only [Act.put, List.setIfInBounds_toArray]
        go_wp2_with fail
        go_meet
        exact ⟨_, _, rfl, rfl, k34.out.put⟩
  case rest =>
    obtain ⟨g, h, rfl, rfl, ra, rb, rc, rj, rm, rB⟩ := hcut
    have H0 : Hid (Fv w a b c j m g h wc) := Lib.hid ⟨ra, rb, rc, rj, rm, rB⟩
    obtain ⟨d1, d2, d3, d4⟩ := HD.out
    clear ra rb rc rj rm rB K0 HD
    go_wp2_with (first
      | ((with_reducible refine vl_loadg ?_ (.tmp 3) ?_ w.heap.size a ?_ ?_ ?_ ?_); rfl; rfl; rfl; exact H0.out.ra; exact HLa.out)
      | ((with_reducible refine vl_loadg ?_ (.tmp 4) ?_ (w.heap.size + 1) b ?_ ?_ ?_ ?_); rfl; rfl; rfl; exact H0.out.rb; exact HLb.out)
      | ((with_reducible refine vl_loadg ?_ (.tmp 5) ?_ (w.heap.size + 1 + 1) c ?_ ?_ ?_ ?_); rfl; rfl; rfl; exact H0.out.rc; exact HLc.out)
      | ((with_reducible refine vl_loadg ?_ (.tmp 7) ?_ g j ?_ ?_ ?_ ?_); rfl; rfl; rfl; exact H0.out.rj; exact HLj.out)
      | ((with_reducible refine vl_loadg ?_ (.tmp 8) ?_ h m ?_ ?_ ?_ ?_); rfl; rfl; rfl; exact H0.out.rm; exact HLm.out))
    refine (HC1.out _).mono ?_
    rintro e x1 ⟨rfl, hb1⟩
    have H1 := Lib.hid (H0.out.keep hb1)
    clear hb1 H0
    go_wp2_with (first
      | ((with_reducible refine vl_loadg ?_ (.tmp 3) ?_ w.heap.size a ?_ ?_ ?_ ?_); rfl; rfl; rfl; exact H1.out.ra; exact HLa.out)
      | ((with_reducible refine vl_loadg ?_ (.tmp 4) ?_ (w.heap.size + 1) b ?_ ?_ ?_ ?_); rfl; rfl; rfl; exact H1.out.rb; exact HLb.out)
      | ((with_reducible refine vl_loadg ?_ (.tmp 5) ?_ (w.heap.size + 1 + 1) c ?_ ?_ ?_ ?_); rfl; rfl; rfl; exact H1.out.rc; exact HLc.out)
      | ((with_reducible refine vl_loadg ?_ (.tmp 7) ?_ g j ?_ ?_ ?_ ?_); rfl; rfl; rfl; exact H1.out.rj; exact HLj.out)
      | ((with_reducible refine vl_loadg ?_ (.tmp 8) ?_ h m ?_ ?_ ?_ ?_); rfl; rfl; rfl; exact H1.out.rm; exact HLm.out))
    refine (HC2.out _).mono ?_
    rintro e x2 ⟨rfl, hb2⟩
    have H2 := Lib.hid (H1.out.keep hb2)
    clear hb2 H1
    go_wp2_with (first
      | ((with_reducible refine vl_loadg ?_ (.tmp 3) ?_ w.heap.size a ?_ ?_ ?_ ?_); rfl; rfl; rfl; exact H2.out.ra; exact HLa.out)
      | ((with_reducible refine vl_loadg ?_ (.tmp 4) ?_ (w.heap.size + 1) b ?_ ?_ ?_ ?_); rfl; rfl; rfl; exact H2.out.rb; exact HLb.out)
      | ((with_reducible refine vl_loadg ?_ (.tmp 5) ?_ (w.heap.size + 1 + 1) c ?_ ?_ ?_ ?_); rfl; rfl; rfl; exact H2.out.rc; exact HLc.out)
      | ((with_reducible refine vl_loadg ?_ (.tmp 7) ?_ g j ?_ ?_ ?_ ?_); rfl; rfl; rfl; exact H2.out.rj; exact HLj.out)
      | ((with_reducible refine vl_loadg ?_ (.tmp 8) ?_ h m ?_ ?_ ?_ ?_); rfl; rfl; rfl; exact H2.out.rm; exact HLm.out))
    refine (HC3.out _).mono ?_
    rintro e x3 ⟨rfl, hb3⟩
    have H3 := Lib.hid (H2.out.keep hb3)
    clear hb3 H2
    go_wp2_with (first
      | ((with_reducible refine vl_loadg ?_ (.tmp 3) ?_ w.heap.size a ?_ ?_ ?_ ?_); rfl; rfl; rfl; exact H3.out.ra; exact HLa.out)
      | ((with_reducible refine vl_loadg ?_ (.tmp 4) ?_ (w.heap.size + 1) b ?_ ?_ ?_ ?_); rfl; rfl; rfl; exact H3.out.rb; exact HLb.out)
      | ((with_reducible refine vl_loadg ?_ (.tmp 5) ?_ (w.heap.size + 1 + 1) c ?_ ?_ ?_ ?_); rfl; rfl; rfl; exact H3.out.rc; exact HLc.out)
      | ((with_reducible refine vl_loadg ?_ (.tmp 7) ?_ g j ?_ ?_ ?_ ?_); rfl; rfl; rfl; exact H3.out.rj; exact HLj.out)
      | ((with_reducible refine vl_loadg ?_ (.tmp 8) ?_ h m ?_ ?_ ?_ ?_); rfl; rfl; rfl; exact H3.out.rm; exact HLm.out))
    refine (HC4.out _).mono ?_
    rintro e x4 ⟨rfl, hb4⟩
    have H4 := Lib.hid (H3.out.keep hb4)
    clear hb4 H3
    clear d1 d2 d3
    obtain ⟨s5, s8⟩ := HS.out
    go_upto_region 4 with fail
    clear d4 HS
    go_cut [52] (fun v W => v = .bool false ∧ Fv w a b c j m g h W)
    case first =>
      clear s8
      have K5 := Lib.hid (fun q os => Calls.regrown_of (HC5.out (grow (redrawn x4 q) os)))
      have K6 := Lib.hid (fun q os => Calls.regrown_of (HC6.out (grow (redrawn x4 q) os)))
      have K7 := Lib.hid (fun q os => Calls.regrown_of (HC7.out (grow (redrawn x4 q) os)))
      generalize h5 : decide (n5 < 1) = t5 at *
      generalize h6 : decide (n6 < 1) = t6 at *
      cases t5 <;> cases t6
      all_goals
        simp only [Bool.and_self, Bool.and_true, Bool.and_false] at s5
        refine wp_region_quiet_below (by kernel_rfl) (by kernel_rfl) ?_
        repeat (first
          | ((with_reducible refine vq_load ?_ (.tmp 3) ?_ w.heap.size a ?_ ?_ ?_ ?_); rfl; rfl; rfl; exact H4.out.ra.regrown; exact HLa.out; simp only [Act.put, List.setIfInBounds_toArray, List.set_cons_zero, List.set_cons_succ])
          | ((with_reducible refine vq_load ?_ (.tmp 4) ?_ (w.heap.size + 1) b ?_ ?_ ?_ ?_); rfl; rfl; rfl; exact H4.out.rb.regrown; exact HLb.out; simp only [Act.put, List.setIfInBounds_toArray, List.set_cons_zero, List.set_cons_succ])
          | ((with_reducible refine vq_load ?_ (.tmp 5) ?_ (w.heap.size + 1 + 1) c ?_ ?_ ?_ ?_); rfl; rfl; rfl; exact H4.out.rc.regrown; exact HLc.out; simp only [Act.put, List.setIfInBounds_toArray, List.set_cons_zero, List.set_cons_succ])
          | ((with_reducible refine vq_load ?_ (.tmp 7) ?_ g j ?_ ?_ ?_ ?_); rfl; rfl; rfl; exact H4.out.rj.regrown; exact HLj.out; simp only [Act.put, List.setIfInBounds_toArray, List.set_cons_zero, List.set_cons_succ])
          | ((with_reducible refine vq_load ?_ (.tmp 8) ?_ h m ?_ ?_ ?_ ?_); rfl; rfl; rfl; exact H4.out.rm.regrown; exact HLm.out; simp only [Act.put, List.setIfInBounds_toArray, List.set_cons_zero, List.set_cons_succ])
          | go_big_quiet_step ((first
            | (go_at_call 23; with_reducible exact K5.out _ _)
            | (go_at_call 23; with_reducible exact K6.out _ _)
            | (go_at_call 23; with_reducible exact K7.out _ _))))
        refine wpQuiet_nil ?_
        intro _ hw'
        obtain ⟨⟨dq, osq⟩, hw''⟩ := hw'
        subst hw''
        go_wp2_with fail
        go_meet
        exact ⟨rfl, H4.out.keep (below_regrown x4 dq osq)⟩
    case rest =>
      obtain ⟨rfl, hF⟩ := hcut
      have H5 := Lib.hid hF
      obtain ⟨q0, q1, q2, q3⟩ := HQ.out
      clear hF H4 s5
      go_upto_region 6 with fail
      have K8 := Lib.hid (fun q os => Calls.regrown_of (HC8.out (grow (redrawn wc q) os)))
      have K9 := Lib.hid (fun q os => Calls.regrown_of (HC9.out (grow (redrawn wc q) os)))
      have K10 := Lib.hid (fun q os => Calls.regrown_of (HC10.out (grow (redrawn wc q) os)))
      have K11 := Lib.hid (fun q os => Calls.regrown_of (HC11.out (grow (redrawn wc q) os)))
      have K12 := Lib.hid (fun q os => Calls.regrown_of (HC12.out (grow (redrawn wc q) os)))
      have K13 := Lib.hid (fun q os => Calls.regrown_of (HC13.out (grow (redrawn wc q) os)))
      have KA := Lib.hid (fun q os => Calls.regrown_of (vecAwake (grow (redrawn wc q) os)))
      cases t8
      all_goals
        refine wp_region_quiet_below (by kernel_rfl) (by kernel_rfl) ?_
        repeat (first
          | ((with_reducible refine vq_load ?_ (.tmp 3) ?_ w.heap.size a ?_ ?_ ?_ ?_); rfl; rfl; rfl; exact H5.out.ra.regrown; exact HLa.out; simp only [Act.put, List.setIfInBounds_toArray, List.set_cons_zero, List.set_cons_succ])
          | ((with_reducible refine vq_load ?_ (.tmp 4) ?_ (w.heap.size + 1) b ?_ ?_ ?_ ?_); rfl; rfl; rfl; exact H5.out.rb.regrown; exact HLb.out; simp only [Act.put, List.setIfInBounds_toArray, List.set_cons_zero, List.set_cons_succ])
          | ((with_reducible refine vq_load ?_ (.tmp 5) ?_ (w.heap.size + 1 + 1) c ?_ ?_ ?_ ?_); rfl; rfl; rfl; exact H5.out.rc.regrown; exact HLc.out; simp only [Act.put, List.setIfInBounds_toArray, List.set_cons_zero, List.set_cons_succ])
          | ((with_reducible refine vq_load ?_ (.tmp 7) ?_ g j ?_ ?_ ?_ ?_); rfl; rfl; rfl; exact H5.out.rj.regrown; exact HLj.out; simp only [Act.put, List.setIfInBounds_toArray, List.set_cons_zero, List.set_cons_succ])
          | ((with_reducible refine vq_load ?_ (.tmp 8) ?_ h m ?_ ?_ ?_ ?_); rfl; rfl; rfl; exact H5.out.rm.regrown; exact HLm.out; simp only [Act.put, List.setIfInBounds_toArray, List.set_cons_zero, List.set_cons_succ])
          | go_big_quiet_step ((first
            | (go_at_call 23; with_reducible exact K8.out _ _)
            | (go_at_call 19; with_reducible exact K9.out _ _)
            | (go_at_call 19; with_reducible exact K10.out _ _)
            | (go_at_call 19; with_reducible exact K11.out _ _)
            | (go_at_call 19; with_reducible exact K12.out _ _)
            | (go_at_call 19; with_reducible exact K13.out _ _)
            | (go_at_call 27; with_reducible exact KA.out _ _))))
        refine wpQuiet_nil ?_
        intro _ hw'
        obtain ⟨⟨dq, osq⟩, hw''⟩ := hw'
        subst hw''
        have HB9 := Lib.hid (H5.out.keep (below_regrown wc dq osq)).lo
        clear K8 K9 K10 K11 K12 K13 KA q0 q1 q2 q3 H5
        generalize grow (redrawn wc dq) osq = W at *
        go_wp2_with fail
        go_ret
        exact ⟨rfl, HB9.out⟩
end Go.Proofs.Ytoiafhbembhppaa
