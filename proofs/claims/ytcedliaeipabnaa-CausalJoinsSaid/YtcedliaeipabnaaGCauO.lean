/-
  Take, Read: the document's.
  Read, the document's.
-/
import Derived.Test.YtcedliaeipabnaaVecRd
import Derived.Test.YtcedliaeipabnaaGCauC
import Derived.RegionTactic
import Derived.BigRegion
import Derived.Test.YtcedliaeipabnaaDotRd
namespace Go.Proofs.Ytcedliaeipabnaa
set_option maxRecDepth 100000
open Go.RowKit

/-- whole rows in a region that draws: loaded, and stored -/
theorem draw_load {ops : Array Oper} {o : Oper} {a : Act} {w : World} {K : Act → World → Prop} {Q : Exit → Act → World → Prop} (hgd : o.guard = none) (ty : TypeId) (x : Operand) (ho : o.op = .load ty x)
    (g : Nat) (hx : a.eval x = .pointer (some ⟨g, 0, none⟩)) (cs : Array Value) (hl : (loadVar ty ⟨g, 0, none⟩).run Try.prog w = .ok (.agg cs) w) (h : K (a.put o.dst (.agg cs)) w) :
    if Region.wanted o (yielded ops a.tmps) = true then Oper.wp Try.prog o a w K Q else K (a.put o.dst undef) w := by
  simp only [Region.wanted, hgd, if_true]
  unfold Oper.wp execOp
  simp only [ho, hx, Instr.loadAt, Instr.sureAddr, Sem.run_bind, Sem.run_pure, Result.andThen_ok, hl]
  exact h
theorem draw_store {ops : Array Oper} {o : Oper} {a : Act} {w : World} {K : Act → World → Prop} {Q : Exit → Act → World → Prop} (hgd : o.guard = none) (ty : TypeId) (x y : Operand) (ho : o.op = .store ty x y)
    (g : Nat) (hx : a.eval x = .pointer (some ⟨g, 0, none⟩)) (cs : Array Value) (hy : a.eval y = .agg cs) (w' : World) (hl : (storeVar ty ⟨g, 0, none⟩ (.agg cs)).run Try.prog w = .ok () w') (h : K (a.put o.dst undef) w') :
    if Region.wanted o (yielded ops a.tmps) = true then Oper.wp Try.prog o a w K Q else K (a.put o.dst undef) w := by
  simp only [Region.wanted, hgd, if_true]
  unfold Oper.wp execOp
  simp only [ho, hx, hy, Instr.storeAt, Instr.sureAddr, Sem.run_bind, Sem.run_pure, Result.andThen_ok, hl]
  exact h

abbrev qcs (st : ByteArray × Int) : Array Value := #[.string st.1, .int .i64 st.2]
theorem infoQ (st : ByteArray × Int) : (Try.prog.info? 82).map (·.size) = some (qcs st).size := by kernel_rfl
theorem Qd.load {w : World} {b : Nat} {st : ByteArray × Int} (h : Qd b st w) : (loadVar 82 ⟨b, 0, none⟩).run Try.prog w = .ok (.agg (qcs st)) w :=
  run_loadVar_row w b 82 82 (qcs st) (0, 0) _ h Try.underlying82 rfl (infoQ st)
theorem Qd.store {w : World} {b : Nat} {st st' : ByteArray × Int} (h : Qd b st w) : (storeVar 82 ⟨b, 0, none⟩ (.agg (qcs st'))).run Try.prog w = .ok () (w.setRow b (qcs st')) :=
  run_storeVar_row w b 82 82 (qcs st) (qcs st') h (infoQ st') rfl (by simp [Value.oneCell'])
theorem Qd.of_put {w : World} {b : Nat} {st : ByteArray × Int} (h : Qd b st w) (st' : ByteArray × Int) : Qd b st' (w.setRow b (qcs st')) := setRow_heap _ _ _ _ _ _ h
theorem Qd.of_set {w : World} {b c : Nat} {st : ByteArray × Int} (h : Qd b st w) (hc : b ≠ c) (C : Array Value) : Qd b st (w.setRow c C) := by
  unfold Qd; rw [setRow_other _ _ _ _ hc]; exact h
theorem retQV {fn : Func} {p q : Tmp} (h : fn.results = #[.cell p 82, .cell q 23]) (tmps : Array Value) (w : World) (g k : Nat) (st : ByteArray × Int) (l : Vc)
    (hp : tmps.getD p undef = .pointer (some ⟨g, 0, none⟩)) (hq : tmps.getD q undef = .pointer (some ⟨k, 0, none⟩)) (hg : Qd g st w) (hk : VRow w k l) (hl : l.length = 16) :
    (results fn tmps).run Try.prog w = .ok (.tuple #[rv st, .agg (ics l)]) w := by
  have hp' : tmps[p]?.getD undef = .pointer (some ⟨g, 0, none⟩) := by simpa using hp
  have hq' : tmps[q]?.getD undef = .pointer (some ⟨k, 0, none⟩) := by simpa using hq
  simp only [results, h]
  simp [Sem.run_bind, hp', hq', asAddr, hg.load, hk.load hl]

theorem take_begin (w : World) (st : ByteArray × Int) :
    Qd w.heap.size st ((((w.alloc (.cells (qcs st) 82)).alloc (.cells (qcs (ByteArray.empty, 0)) 82)).alloc (.cells (ics zV) 23)).alloc (.cells (ics zV) 23)) ∧
    Qd (w.heap.size + 1) (ByteArray.empty, 0) ((((w.alloc (.cells (qcs st) 82)).alloc (.cells (qcs (ByteArray.empty, 0)) 82)).alloc (.cells (ics zV) 23)).alloc (.cells (ics zV) 23)) ∧
    VRow ((((w.alloc (.cells (qcs st) 82)).alloc (.cells (qcs (ByteArray.empty, 0)) 82)).alloc (.cells (ics zV) 23)).alloc (.cells (ics zV) 23)) (w.heap.size + 2) zV ∧
    VRow ((((w.alloc (.cells (qcs st) 82)).alloc (.cells (qcs (ByteArray.empty, 0)) 82)).alloc (.cells (ics zV) 23)).alloc (.cells (ics zV) 23)) (w.heap.size + 3) zV ∧
    Below w.heap.size w ((((w.alloc (.cells (qcs st) 82)).alloc (.cells (qcs (ByteArray.empty, 0)) 82)).alloc (.cells (ics zV) 23)).alloc (.cells (ics zV) 23)) := by
  have h0 := Qd.made st w
  have h1 := Qd.made (ByteArray.empty, 0) (w.alloc (.cells (qcs st) 82))
  have h2 := VRow.new ((w.alloc (.cells (qcs st) 82)).alloc (.cells (qcs (ByteArray.empty, 0)) 82)) zV
  have h3 := VRow.new (((w.alloc (.cells (qcs st) 82)).alloc (.cells (qcs (ByteArray.empty, 0)) 82)).alloc (.cells (ics zV) 23)) zV
  simp only [World.size_alloc] at h1 h2 h3
  exact ⟨((h0.alloc _).alloc _).alloc _, (h1.alloc _).alloc _, h2.alloc _, h3, (((((Below.refl _ _).alloc (Nat.le_refl _) _).alloc (by simp) _).alloc (by simp; omega) _).alloc (by simp; omega) _)⟩

set_option maxHeartbeats 4000000 in
set_option maxRecDepth 100000 in
theorem takeR (st : ByteArray × Int) (hs : st.1.size ≤ 9223372036854775807) (w : World) : Calls Try.prog 55 #[rv st] w fun e w' => e = .returned (.tuple #[rv (stN 16 st), .agg (ics (vecN 16 st))]) ∧ Below w.heap.size w w' := by
  obtain ⟨s, er⟩ := st
  have H0 := Lib.hid (take_begin w (s, er))
  go_enter Try.func55, Try.ntmps55
  go_wp2_with fail
  go_loopw [5] (fun i wr => ∃ k : Nat, i = .int .i64 k ∧ k ≤ 16 ∧ Qd w.heap.size (stN k (s, er)) wr ∧ Qd (w.heap.size + 1) (ByteArray.empty, 0) wr ∧ VRow wr (w.heap.size + 2) zV ∧ VRow wr (w.heap.size + 3) (vecN k (s, er)) ∧ Below w.heap.size w wr) (fun i _ => 16 - (intOf i).toNat)
  case atStart => exact ⟨0, rfl, by omega, H0.out.1, H0.out.2.1, H0.out.2.2.1, by rw [vecN_zero]; exact H0.out.2.2.2.1, H0.out.2.2.2.2⟩
  case round =>
    rename_i wr
    obtain ⟨k, rfl, hk, q0, q1, r2, r3, rB⟩ := hrel
    clear H0
    by_cases hlt : k < 16
    · have hsz : (stN k (s, er)).1.size ≤ 9223372036854775807 := Nat.le_trans (stN_size (s, er) k) hs
      have hz0 := q0.lt
      have c0 := q0.left
      have c1 := q0.err
      have HRN := Lib.hid (refR_num (stN k (s, er)).1 (stN k (s, er)).2 hsz wr)
      have HS := Lib.hid (vecN_succ k (s, er))
      have HNN := Lib.hid (show (sNum ((stN k (s, er)).1, (stN k (s, er)).2)).1 = numN k (s, er) from rfl)
      have HST := Lib.hid (show (sNum ((stN k (s, er)).1, (stN k (s, er)).2)).2 = stN (k + 1) (s, er) from rfl)
      have H3 := Lib.hid (And.intro q0 (And.intro q1 (And.intro r2 (And.intro r3 rB))))
      clear q0 q1 r2 r3 rB hsz
      go_wp2_with fail
      refine HRN.out.mono ?_
      rintro e w3 ⟨rfl, hb3⟩
      rw [HNN.out, HST.out]
      have H4 := Lib.hid (And.intro (H3.out.1.below hb3 H3.out.1.lt) (And.intro (H3.out.2.1.below hb3 H3.out.2.1.lt) (And.intro (H3.out.2.2.1.keep hb3) (And.intro (H3.out.2.2.2.1.keep hb3) (H3.out.2.2.2.2.trans (hb3.mono H3.out.2.2.2.2.size))))))
      clear hb3 HRN H3 c0 c1
      generalize hst' : stN (k + 1) (s, er) = st' at *
      have HST' := Lib.hid hst'
      clear hst'
      obtain ⟨s', e'⟩ := st'
      have hz3 : w.heap.size + 3 < w3.heap.size := H4.out.2.2.2.1.lt
      have hz30 : w.heap.size < w3.heap.size := by omega
      have f0 := H4.out.1.free 0
      have f1 := H4.out.1.free 1
      have d0 := H4.out.1.left
      have d1 := H4.out.1.err
      have hcell := H4.out.2.2.2.1.cell k (by rw [vecN_len]; exact hlt)
      have hfree := H4.out.2.2.2.1.free k
      go_wp2_with fail
      go_roundw
      case rel =>
        refine ⟨k + 1, by go_num, by omega, ?_, ?_, ?_, ?_, ?_⟩
        · rw [HST'.out]
          exact ((H4.out.1.set s' e').other (by omega) _).alloc _
        · exact (((H4.out.2.1.other (by omega) _).other (by omega) _).other (by omega) _).alloc _
        · exact (((H4.out.2.2.1.other (by omega) _ _).other (by omega) _ _).other (by omega) _ _).alloc _
        · rw [HS.out]
          exact (((H4.out.2.2.2.1.other (by omega) _ _).other (by omega) _ _).set k _).alloc _
        · exact (((H4.out.2.2.2.2.setCell (by simp) _).setCell (by simp) _).setCell (by simp; omega) _).alloc (by simp; omega) _
      case measure => simp [intOf]; omega
    · obtain rfl : k = 16 := by omega
      have hl := vecN_len 16 (s, er)
      generalize hst : stN 16 (s, er) = st at *
      generalize hvec : vecN 16 (s, er) = vec at *
      have HE := Lib.hid (And.intro hst hvec)
      have H3 := Lib.hid (And.intro q0 (And.intro q1 (And.intro r2 (And.intro r3 rB))))
      have HLV := Lib.hid hl
      have hd0 : Qd w.heap.size st wr.drew := q0
      have hd1 : Qd (w.heap.size + 1) (ByteArray.empty, 0) wr.drew := q1
      have hd2 : VRow wr.drew (w.heap.size + 2) zV := r2
      have hd3 : VRow wr.drew (w.heap.size + 3) vec := r3
      have L0 := Lib.hid hd0.load
      have L1 := Lib.hid (hd3.load hl)
      have L1' := Lib.hid ((hd3.of_set (c := w.heap.size + 1) (by omega) (qcs st)).load hl)
      have S2 := Lib.hid (hd1.store (st' := st))
      have S3 := Lib.hid ((hd2.of_set (c := w.heap.size + 1) (by omega) (qcs st)).store (m := vec) rfl hl)
      have E0 := Lib.hid ((hd1.of_put st).of_set (c := w.heap.size + 2) (by omega) (ics vec))
      have E1 := Lib.hid (VRow.of_put (hd2.of_set (c := w.heap.size + 1) (by omega) (qcs st)) vec)
      have EB := Lib.hid (belowRow (belowRow (belowN rB 1) (g := w.heap.size + 1) (by omega) (qcs st)) (g := w.heap.size + 2) (by omega) (ics vec))
      clear hst hvec hl q0 q1 r2 r3 rB hd0 hd1 hd2 hd3
      go_wp2_with fail
      refine wp_region_any (by kernel_rfl) ?_
      change wpAny _ _ _ _ _ _ _ wr.drew
      refine wpAny_ready (rs := [0, 1]) (by kernel_rfl) (by simp) ?_
      refine AllReady.cons rfl (fun K hK => ?_) (AllReady.cons rfl (fun K hK => ?_) AllReady.nil)
      · refine draw_load rfl 82 (.tmp 1) rfl w.heap.size rfl (qcs st) L0.out (hK _ _ ?_)
        refine wpAny_ready (rs := [1, 2]) (by kernel_rfl) (by simp) ?_
        refine AllReady.cons rfl (fun K hK => ?_) (AllReady.cons rfl (fun K hK => ?_) AllReady.nil)
        · refine draw_load rfl 23 (.tmp 4) rfl (w.heap.size + 3) rfl (ics vec) L1.out (hK _ _ ?_)
          refine wpAny_ready (rs := [2]) (by kernel_rfl) (by simp) ?_
          refine AllReady.cons rfl (fun K hK => ?_) AllReady.nil
          refine draw_store rfl 82 (.tmp 2) (.tmp 21) rfl (w.heap.size + 1) rfl (qcs st) rfl _ S2.out (hK _ _ ?_)
          refine wpAny_ready (rs := [3]) (by kernel_rfl) (by simp) ?_
          refine AllReady.cons rfl (fun K hK => ?_) AllReady.nil
          refine draw_store rfl 23 (.tmp 3) (.tmp 22) rfl (w.heap.size + 2) rfl (ics vec) rfl _ S3.out (hK _ _ ?_)
          refine wpAny_done (by kernel_rfl) ?_ _
          go_wp2_with fail
          exact bodyPost_ret (retQV rfl _ _ (w.heap.size + 1) (w.heap.size + 2) st vec rfl rfl E0.out E1.out HLV.out) rfl ⟨by rw [HE.out.1, HE.out.2], EB.out⟩
        · refine draw_store rfl 82 (.tmp 2) (.tmp 21) rfl (w.heap.size + 1) rfl (qcs st) rfl _ S2.out (hK _ _ ?_)
          refine wpAny_ready (rs := [1]) (by kernel_rfl) (by simp) ?_
          refine AllReady.cons rfl (fun K hK => ?_) AllReady.nil
          refine draw_load rfl 23 (.tmp 4) rfl (w.heap.size + 3) rfl (ics vec) L1'.out (hK _ _ ?_)
          refine wpAny_ready (rs := [3]) (by kernel_rfl) (by simp) ?_
          refine AllReady.cons rfl (fun K hK => ?_) AllReady.nil
          refine draw_store rfl 23 (.tmp 3) (.tmp 22) rfl (w.heap.size + 2) rfl (ics vec) rfl _ S3.out (hK _ _ ?_)
          refine wpAny_done (by kernel_rfl) ?_ _
          go_wp2_with fail
          exact bodyPost_ret (retQV rfl _ _ (w.heap.size + 1) (w.heap.size + 2) st vec rfl rfl E0.out E1.out HLV.out) rfl ⟨by rw [HE.out.1, HE.out.2], EB.out⟩
      · refine draw_load rfl 23 (.tmp 4) rfl (w.heap.size + 3) rfl (ics vec) L1.out (hK _ _ ?_)
        refine wpAny_ready (rs := [0]) (by kernel_rfl) (by simp) ?_
        refine AllReady.cons rfl (fun K hK => ?_) AllReady.nil
        refine draw_load rfl 82 (.tmp 1) rfl w.heap.size rfl (qcs st) L0.out (hK _ _ ?_)
        refine wpAny_ready (rs := [2]) (by kernel_rfl) (by simp) ?_
        refine AllReady.cons rfl (fun K hK => ?_) AllReady.nil
        refine draw_store rfl 82 (.tmp 2) (.tmp 21) rfl (w.heap.size + 1) rfl (qcs st) rfl _ S2.out (hK _ _ ?_)
        refine wpAny_ready (rs := [3]) (by kernel_rfl) (by simp) ?_
        refine AllReady.cons rfl (fun K hK => ?_) AllReady.nil
        refine draw_store rfl 23 (.tmp 3) (.tmp 22) rfl (w.heap.size + 2) rfl (ics vec) rfl _ S3.out (hK _ _ ?_)
        refine wpAny_done (by kernel_rfl) ?_ _
        go_wp2_with fail
        exact bodyPost_ret (retQV rfl _ _ (w.heap.size + 1) (w.heap.size + 2) st vec rfl rfl E0.out E1.out HLV.out) rfl ⟨by rw [HE.out.1, HE.out.2], EB.out⟩

end Go.Proofs.Ytcedliaeipabnaa

namespace Go.Proofs.Ytcedliaeipabnaa
set_option maxRecDepth 100000
open Go.RowKit

set_option maxHeartbeats 4000000 in
set_option maxRecDepth 100000 in
theorem readDR (s : ByteArray) (hs : s.size ≤ 9223372036854775807) (w : World) :
    Calls Try.prog 58 #[.string s] w fun e w' => ∃ v, e = .returned (.tuple #[v, .int .i64 (readD s).2]) ∧ OwnD w.heap.size v (readD s).1 w' ∧ Below w.heap.size w w' := by
  obtain ⟨i0, hi, hz0, hz1, hz2⟩ := info_parts dotInfo
  go_enter Try.func58, Try.ntmps58
  go_wp2_with fail
  refine (refR_num s 0 hs w).mono ?_
  rintro e w1 ⟨rfl, hb1⟩
  have z1 : (sNum (s, 0)).2.1.size ≤ s.size := sNum_size (s, 0)
  have hr : readD s = if 4096 < (sNum (s, 0)).1 then ([], 3) else if doneS (rdD s).2 ≠ 0 then ([], doneS (rdD s).2) else if chkL (rdD s).1 ≠ 0 then ([], chkL (rdD s).1) else ((rdD s).1, 0) := rfl
  have hst : sDots (sNum (s, 0)).1 (sNum (s, 0)).2 [] = rdD s := rfl
  have hnb : (sNum (s, 0)).2.2 ≠ 0 → (sNum (s, 0)).1 = 0 := fun h => by
    generalize hr : numR s.data.toList = r at *
    obtain ⟨m, k, e⟩ := r
    by_cases he : e = 0
    · exfalso; apply h; simp [sNum, hr, he]
    · simp [sNum, hr, he]
  have HB1 := Lib.hid hb1
  have hs1 := hb1.size
  have HQ1 := Lib.hid (Qd.made (sNum (s, 0)).2 w1)
  clear hb1
  generalize rdD s = T at hr hst
  generalize hn : sNum (s, 0) = nst at *
  obtain ⟨n, t1, e1⟩ := nst
  simp only at hr hst z1 hnb
  have HR := Lib.hid hr
  have HST := Lib.hid hst
  clear hr hst hn
  by_cases hbig : 4096 < n
  · have he1 : e1 = 0 := Classical.byContradiction fun h => by have := hnb h; omega
    subst he1
    have hbi : decide ((4096 : Int) < (n : Int)) = true := by simp; omega
    have hj := HR.out
    rw [if_pos hbig] at hj
    have HF := Lib.hid hj
    clear hj hnb HQ1
    go_wp2_with fail
    go_ret2
    rw [HF.out]
    exact ⟨_, rfl, ownD_nil _ _, HB1.out.alloc hs1 _⟩
  · have hbi : decide ((4096 : Int) < (n : Int)) = false := by simp; omega
    have hj := HR.out
    rw [if_neg hbig] at hj
    have HJ := Lib.hid hj
    clear hj HR
    have hgo : ∀ Q : Prop, ((e1 == 0) = true → Q) → ((e1 == 0) = false → Q) → Q := fun Q h1 h2 => by cases h : (e1 == 0) <;> simp_all
    refine hgo _ ?_ ?_
    all_goals
      intro he1
      clear hgo hnb
      go_wp2_with fail
      go_loopw [6, 7] (fun v i wr => ∃ (k : Nat) (acc : List Dt) (st : ByteArray × Int), i = .int .i64 k ∧ k ≤ n ∧ acc.length = k ∧ st.1.size ≤ s.size ∧ sDots (n - k) st acc = T ∧ OwnD (w1.heap.size + 1) v acc wr ∧ Qd w1.heap.size st wr ∧ Below w.heap.size w wr) (fun _ i _ => n - (intOf i).toNat)
      case atStart => exact ⟨0, [], (t1, e1), rfl, Nat.zero_le _, rfl, z1, by rw [Nat.sub_zero]; exact HST.out, ownD_nil _ _, HQ1.out, HB1.out.alloc hs1 _⟩
      case round =>
        clear he1 HQ1
        obtain ⟨k, acc, st, rfl, hk, hacc, hss, heq, hown, hrd, hb⟩ := hrel
        have HQ := Lib.hid heq
        have HC := Lib.hid hacc
        have H3 := Lib.hid (And.intro hown (And.intro hrd hb))
        have hlr := hrd.lt
        have q0 := hrd.left
        have q1 := hrd.err
        have qf0 := hrd.free 0
        have qf1 := hrd.free 1
        clear heq hacc hown hrd hb
        obtain ⟨t, er⟩ := st
        simp only at q0 q1 hss
        by_cases hlt : k < n
        · have hki : decide ((k : Int) < (n : Int)) = true := by simp; omega
          have hcut : n - k = (n - (k + 1)) + 1 := by omega
          have HU := Lib.hid hcut
          clear hcut
          by_cases h0 : er = 0
          · subst h0
            go_wp2_with fail
            refine (refR_num t 0 (by omega) wr).mono ?_
            rintro e w3 ⟨rfl, hb3⟩
            have z2 := sNum_size (t, 0)
            have hsz3 := hb3.size
            have hB3 := H3.out.2.2.trans (hb3.mono H3.out.2.2.size)
            have H4 := Lib.hid (And.intro (H3.out.1.below hb3 (Nat.le_refl _)) (And.intro (H3.out.2.1.below hb3 hlr) hB3))
            have hs4 := hB3.size
            have HN4 := Lib.hid (Qd.made (sNum (t, 0)).2 w3)
            simp only at z2
            clear hb3 H3 hB3 q0 q1 qf0 qf1
            go_wp2_with fail
            refine (refR_num (sNum (t, 0)).2.1 (sNum (t, 0)).2.2 (by omega) _).mono ?_
            rintro e w4 ⟨rfl, hb4⟩
            have z3 := sNum_size (sNum (t, 0)).2
            have hsz4 : w3.heap.size + 1 ≤ w4.heap.size := by have := hb4.size; simpa using this
            have hb4' : Below w3.heap.size w3 w4 := ((Below.refl _ _).alloc (Nat.le_refl _) _).trans (hb4.mono (by simp))
            have hnx : sDots (n - k) (t, 0) acc = sDots (n - (k + 1)) (sNum (sNum (t, 0)).2).2 (acc ++ [((((sNum (t, 0)).1 : Nat) : Int), (((sNum (sNum (t, 0)).2).1 : Nat) : Int))]) := by rw [HU.out]; rfl
            have HNX := Lib.hid hnx
            have hzz : (sNum (sNum (t, 0)).2).2.1.size ≤ s.size := by omega
            have hsame : sNum ((sNum (t, 0)).2.1, (sNum (t, 0)).2.2) = sNum (sNum (t, 0)).2 := rfl
            rw [hsame]
            have hB4 := H4.out.2.2.trans (hb4'.mono hs4)
            have H5 := Lib.hid (And.intro (H4.out.1.below hb4' (Nat.le_refl _)) (And.intro (H4.out.2.1.below hb4' H4.out.2.1.lt) hB4))
            have hs5 := hB4.size
            clear hb4 hb4' H4 hnx z2 z3 hsame HN4 hB4
            generalize (sNum (sNum (t, 0)).2).1 = q at *
            generalize (sNum (sNum (t, 0)).2).2 = st4 at *
            generalize (sNum (t, 0)).1 = r at *
            obtain ⟨t4, e4⟩ := st4
            simp only at hzz
            have g0 := H5.out.2.1.left
            have g1 := H5.out.2.1.err
            have gf0 := H5.out.2.1.free 0
            have gf1 := H5.out.2.1.free 1
            have gl := H5.out.2.1.lt
            simp only at g0 g1
            have hne : ∀ j, (u6 : Value).ownBlock = some j → w1.heap.size + 1 ≤ j := fun j hj => (World.ownsRow.lt H5.out.1 j hj).1
            have HNE := Lib.hid hne
            have HO5 := Lib.hid (((H5.out.1.set (b := w1.heap.size) (i := 0) (by omega) (.string t4)).set (b := w1.heap.size) (i := 1) (by omega) (.int .i64 e4)).alloc (.cells #[.string t4, .int .i64 e4] 82))
            have HQ5 := Lib.hid ((H5.out.2.1.set t4 e4).alloc (.cells #[.string t4, .int .i64 e4] 82))
            have HB5 := Lib.hid (((H5.out.2.2.setCell (p := ⟨w1.heap.size, 0, none⟩) hs1 (.string t4)).setCell (p := ⟨w1.heap.size, 1, none⟩) hs1 (.int .i64 e4)).alloc (by simpa using hs5) (.cells #[.string t4, .int .i64 e4] 82))
            clear hne
            go_wp2_with (at_builtin; refine wpList_append_own _ rfl _ _ 24 rfl (w1.heap.size + 1) 31 i0 (.agg #[.int .i64 0, .int .i64 0]) 2 16 Try.underlying24 hi hz0 hz1 hz2 rfl (by decide) _ _ _ rfl (World.ownsRow.alloc HO5.out _) ⟨w4.heap.size + 1, 0, none⟩ 1 1 [Value.int .i64 r, Value.int .i64 q] rfl rfl ?c1 ?c2 ?c3 ?c4 ?c5 ?_)
            case c1 =>
              intro j u hj
              match j, hj with
              | 0, hj => simp at hj; subst hj; simp [Addr.add, go_sem]
              | 1, hj => simp at hj; subst hj; simp [Addr.add, go_sem]
            case c2 => intro u hu; simp at hu; rcases hu with rfl | rfl <;> rfl
            case c3 => have := HC.out; unfold maxLen; omega
            case c4 => have := HC.out; omega
            case c5 => simp; omega
            intro v' w5 hown5 hg5 _
            have hrd5 : Qd w1.heap.size (t4, e4) w5 := (HQ5.out.alloc _).grown hg5 (fun j hj => by have := HNE.out j hj; omega)
            have hB5 : Below w.heap.size w w5 := (HB5.out.alloc HB5.out.size _).grown hg5 (by have := HB5.out.size; simp at this ⊢; omega) (fun j hj => by have := HNE.out j hj; omega)
            have hown6 : OwnD (w1.heap.size + 1) v' (acc ++ [((r : Int), (q : Int))]) w5 := by unfold OwnD; rw [List.length_append, rowD_append]; exact hown5
            have H6 := Lib.hid (And.intro hown6 (And.intro hrd5 hB5))
            clear hown5 hg5 hrd5 hB5 hown6 H5 HO5 HQ5 HB5 g0 g1 gf0 gf1
            go_wp2_with fail
            go_roundw
            case rel => exact ⟨k + 1, _, (t4, e4), by go_num, by omega, by rw [List.length_append, HC.out]; rfl, hzz, by rw [← HNX.out]; exact HQ.out, H6.out.1, H6.out.2.1, H6.out.2.2⟩
            case measure => simp [intOf]; omega
          · have hT : T.2 = (t, er) := by rw [← HQ.out]; exact sDots_bad _ _ _ h0
            have hD : doneS (t, er) = er := by unfold doneS; rw [if_pos h0]
            have hb0 : (er == 0) = false := by simp [h0]
            have hne : (er != 0) = true := by simp [h0]
            have hj := HJ.out
            rw [hT, hD, if_pos h0] at hj
            have HF := Lib.hid hj
            have HDE := Lib.hid hD
            clear hj HJ hT hD h0
            go_wp2_with fail
            refine (refR_done t er _).mono ?_
            rintro e w6 ⟨rfl, hw6⟩
            have HB6 := Lib.hid (show Below w.heap.size w w6 from by rw [← hw6]; exact H3.out.2.2.alloc H3.out.2.2.size _)
            clear hw6
            go_wp2_with (simp only [HDE.out])
            go_ret2
            rw [HF.out]
            exact ⟨_, rfl, ownD_nil _ _, HB6.out⟩
        · obtain rfl : k = n := by omega
          have hki : decide ((k : Int) < (k : Int)) = false := by simp
          have hT : T = (acc, (t, er)) := by rw [← HQ.out, Nat.sub_self]; rfl
          subst hT
          have hj := HJ.out
          simp only at hj
          have HJ2 := Lib.hid hj
          clear hj HJ
          by_cases hD : doneS (t, er) = 0
          · have hj := HJ2.out
            rw [if_neg (fun h => h hD)] at hj
            have HJ3 := Lib.hid hj
            have HDE := Lib.hid hD
            obtain ⟨da, dc, hv, hdin, hdl⟩ := H3.out.1.din
            rw [HC.out] at hv
            subst hv
            have HDI := Lib.hid hdin
            have hck := fun W (h : DIn W da acc) => chkLR acc da dc W h hdl
            rw [HC.out] at hck
            clear hj HJ2 hD hdin
            go_wp2_with fail
            refine (refR_done t er _).mono ?_
            rintro e w6 ⟨rfl, hw6⟩
            have hb6 : Below wr.heap.size wr w6 := by rw [← hw6]; exact (Below.refl _ _).alloc (Nat.le_refl _) _
            have HDI6 := Lib.hid (HDI.out.below hb6)
            have HO6 := Lib.hid (H3.out.1.below hb6 (Nat.le_refl _))
            have HB6 := Lib.hid (H3.out.2.2.trans (hb6.mono H3.out.2.2.size))
            clear hw6 hb6 HDI H3 q0 q1 qf0 qf1
            go_wp2_with (simp only [HDE.out])
            refine (hck _ HDI6.out).mono ?_
            rintro e w7 ⟨rfl, hb7⟩
            have HO7 := Lib.hid ((HO6.out.below hb7 (Nat.le_refl _)).mono (show w.heap.size ≤ w1.heap.size + 1 by omega))
            have HB7 := Lib.hid (HB6.out.trans (hb7.mono HB6.out.size))
            clear hb7 HO6 hck
            by_cases hE : chkL acc = 0
            · have hj := HJ3.out
              rw [if_neg (fun h => h hE)] at hj
              have HF := Lib.hid hj
              have HE := Lib.hid hE
              clear hj HJ3 hE
              go_wp2_with (simp only [HE.out])
              go_ret2
              rw [HF.out]
              exact ⟨_, rfl, HO7.out, HB7.out⟩
            · have hj := HJ3.out
              rw [if_pos hE] at hj
              have HF := Lib.hid hj
              have hne : (chkL acc != 0) = true := by simp [hE]
              clear hj HJ3 hE
              go_wp2_with fail
              go_ret2
              rw [HF.out]
              exact ⟨_, rfl, ownD_nil _ _, HB7.out⟩
          · have hj := HJ2.out
            rw [if_pos hD] at hj
            have HF := Lib.hid hj
            have hne : (doneS (t, er) != 0) = true := by simp [hD]
            clear hj HJ2 hD
            go_wp2_with fail
            refine (refR_done t er _).mono ?_
            rintro e w6 ⟨rfl, hw6⟩
            have HB6 := Lib.hid (show Below w.heap.size w w6 from by rw [← hw6]; exact H3.out.2.2.alloc H3.out.2.2.size _)
            clear hw6
            go_wp2_with fail
            go_ret2
            rw [HF.out]
            exact ⟨_, rfl, ownD_nil _ _, HB6.out⟩
end Go.Proofs.Ytcedliaeipabnaa
