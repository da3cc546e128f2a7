/-
  disk: the function of Append: what it does.
-/
import Derived.Test.YtjimgncefeldbaaGreatDoorGDiskD
import Derived.Deep.RegionHeld3
namespace Go.Proofs.YtjimgncefeldbaaGreatDoor
open Go.RowKit Go.Sort

set_option maxHeartbeats 4000000 in
set_option maxRecDepth 100000 in
theorem appendC_out {B : Nat} (m : MS) (n s : ByteArray) (b0 b1 b2 : Nat) (w : World) (h : Lies B m w) (hlen : m.l.length ≤ 1024) (hr : Rises m.l n) (ht : total m.l ≤ m.room) (hroom : m.room ≤ 4194304) (_hss : s.size ≤ 9223372036854775807)
    (h0 : Box m b0 (.string n) w) (h1 : Box m b1 (.pointer (some ⟨m.D, 0, none⟩)) w) (h2 : Box m b2 (.string s) w) (hn : isNm n = true) (hfull : fullB m n s.size = false) (a : Addr) (hp : Pow a w) (hf : m.fused = true) (hl : m.left = 0) :
    Calls Tryz.prog 34 #[.pointer (some ⟨b0, 0, none⟩), .pointer (some ⟨b1, 0, none⟩), .pointer (some ⟨b2, 0, none⟩)] w fun e w' => e = .panicked [{ v := powV a, recovered := false }] ∧ Below w.heap.size w w' := by
  have hisn := fun w => isName_yes n w hn
  have hfd := find_any m n w h hlen hr
  have c0 := h0.1
  have c1 := h1.1
  have HH := Lib.hid (And.intro h (And.intro h0 (And.intro h1 (And.intro h2 (And.intro hfull (And.intro hp (And.intro hf hl)))))))
  clear h hr h0 h1 h2 hfull hn hp hf hl
  obtain ⟨there, hth⟩ : ∃ t, fthere m.l n = t := ⟨_, rfl⟩
  rw [hth] at hfd
  have HTH := Lib.hid hth; clear hth
  obtain ⟨i, hi⟩ : ∃ i, fpos m.l n = i := ⟨_, rfl⟩
  rw [hi] at hfd
  have HI := Lib.hid hi
  clear hi
  go_enter Tryz.func34, Tryz.ntmps34
  go_wp2_with fail
  refine (hisn _).mono ?_
  rintro e w1 ⟨rfl, rfl⟩
  clear hisn
  go_wp2_with fail
  refine hfd.mono ?_
  rintro e w1 ⟨rfl, hb⟩
  obtain ⟨h, h0, h1, h2, hfull, hex⟩ := HH.out
  have k1 := (h1.below hb).1
  have k2 := (h2.below hb).1
  have kR := (h.below hb).cell 0
  have kF := (h.below hb).cell 1
  simp only [MS.head, List.getElem?_toArray, List.getElem?_cons_succ, List.getElem?_cons_zero] at kR kF
  have HB := Lib.hid hb
  clear hfd c0 c1 h h0 h1 h2 hfull hb hex
  go_wp2_with fail
  have hw1 : IntKind.i64.wrap ((m.room : Int) - (total m.l : Int)) = (m.room : Int) - (total m.l : Int) := by rw [IntKind.wrap_i64]; omega
  obtain ⟨p, c, hfv⟩ : ∃ p c, m.fv = .slice p m.l.length c := by
    rcases Joins.ownsRow_forms HH.out.1.row with ⟨hv, h0⟩ | ⟨F, cap, hv⟩
    · exact ⟨none, 0, by rw [h0]; exact hv⟩
    · exact ⟨_, _, hv⟩
  rw [hfv] at kF
  have HFV := Lib.hid hfv
  clear hfv
  have cU := fun d os => Calls.regrown_of (used_any m (grow (redrawn w1 d) os) ((HH.out.1.below HB.out).below (below_regrown w1 d os)) hlen (by omega))
  have HCU := Lib.hid cU; clear cU
  have r1 := fun d os => cell_regrown k1 d os
  have r2 := fun d os => cell_regrown k2 d os
  have rR := fun d os => cell_regrown kR d os
  have rF := fun d os => cell_regrown kF d os
  have hfull := HH.out.2.2.2.2.1
  rw [fullB, HTH.out] at hfull
  go_cut [36] (fun v wc => v = .bool false ∧ Below w1.heap.size w1 wc)
  case first =>
    clear hlen hroom k1 k2 kR kF ht HFV
    generalize total m.l = T at *
    generalize hn : m.l.length = N at *
    clear hn
    simp only [Bool.or_eq_false_iff] at hfull
    obtain ⟨hd, hfull⟩ := hfull
    cases there
    · have hl2 : ((N : Int) == 1024) = false := by simp at hfull ⊢; omega
      clear hfull
      refine wp_region_quiet_below (by kernel_rfl) (by kernel_rfl) ?_
      repeat (first | go_big_quiet_step ((go_at_call 37; with_reducible exact HCU.out _ _)) | quiet_step ((go_at_call 37; with_reducible exact HCU.out _ _)))
      refine wpQuiet_nil ?_
      intro _ hw'
      obtain ⟨⟨dq, osq⟩, hw''⟩ := hw'
      subst hw''
      clear HCU r1 r2 rR rF
      go_wp2_with fail
      go_meet
      exact ⟨rfl, below_regrown w1 dq osq⟩
    · clear hfull
      refine wp_region_quiet_below (by kernel_rfl) (by kernel_rfl) ?_
      repeat (first | go_big_quiet_step ((go_at_call 37; with_reducible exact HCU.out _ _)) | quiet_step ((go_at_call 37; with_reducible exact HCU.out _ _)))
      refine wpQuiet_nil ?_
      intro _ hw'
      obtain ⟨⟨dq, osq⟩, hw''⟩ := hw'
      subst hw''
      clear HCU r1 r2 rR rF
      go_wp2_with fail
      go_meet
      exact ⟨rfl, below_regrown w1 dq osq⟩
  case rest =>
    obtain ⟨rfl, hbc⟩ := hcut
    have HB2 := Lib.hid (HB.out.trans (hbc.mono HB.out.size))
    clear HCU r1 r2 rR rF k1 k2 kR kF hw1 hbc hfull
    obtain ⟨h, h0, h1, h2, _, hex⟩ := HH.out
    have k1 := (h1.below HB2.out).1
    obtain ⟨hp, hf, hl⟩ := hex
    have hs := spend_out m wc (h.below HB2.out) a (hp.below HB2.out hp.lt) hf hl
    clear h h0 h1 h2 hp hf hl
    go_wp2_with fail
    refine hs.mono ?_
    rintro e w2 ⟨rfl, rfl⟩
    go_wp2_with fail
    exact ⟨rfl, rfl, HB2.out⟩

/-- what Append leaves where there was such a file -/
def AppOld (B : Nat) (m : MS) (i : Nat) (f : FV) (s : ByteArray) (w : World) (e : Ending) (w' : World) : Prop :=
  ∃ v, e = .returned (.int .i64 0) ∧ Lies B { m.pay with l := m.l.set i { f with bv := v, body := f.body ++ s.data.toList } } w' ∧ Chg m { m.pay with l := m.l.set i { f with bv := v, body := f.body ++ s.data.toList } } w w'

set_option maxHeartbeats 4000000 in
set_option maxRecDepth 100000 in
theorem appendC_old {B : Nat} (m : MS) (n s : ByteArray) (b0 b1 b2 : Nat) (w : World) (h : Lies B m w) (hlen : m.l.length ≤ 1024) (hr : Rises m.l n) (ht : total m.l ≤ m.room) (hroom : m.room ≤ 4194304) (_hss : s.size ≤ 9223372036854775807)
    (h0 : Box m b0 (.string n) w) (h1 : Box m b1 (.pointer (some ⟨m.D, 0, none⟩)) w) (h2 : Box m b2 (.string s) w) (hn : isNm n = true) (hfull : fullB m n s.size = false) (f : FV) (hf : m.l[fpos m.l n]? = some f) (hc : cmpF n f = 0) (hm : m.left < 9223372036854775808) (hy : m.may) :
    Calls Tryz.prog 34 #[.pointer (some ⟨b0, 0, none⟩), .pointer (some ⟨b1, 0, none⟩), .pointer (some ⟨b2, 0, none⟩)] w (AppOld B m (fpos m.l n) f s w) := by
  have hisn := fun w => isName_yes n w hn
  have hfd := find_any m n w h hlen hr
  have c0 := h0.1
  have c1 := h1.1
  have hthere : fthere m.l n = true := by unfold fthere; rw [hf]; simp [hc]
  have HH := Lib.hid (And.intro h (And.intro h0 (And.intro h1 (And.intro h2 (And.intro hfull (And.intro hf (And.intro hm hy)))))))
  clear h hr h0 h1 h2 hfull hn hf hm hy hc
  have HTT := Lib.hid hthere; clear hthere
  obtain ⟨there, hth⟩ : ∃ t, fthere m.l n = t := ⟨_, rfl⟩
  rw [hth] at hfd
  have HTH := Lib.hid hth; clear hth
  obtain ⟨i, hi⟩ : ∃ i, fpos m.l n = i := ⟨_, rfl⟩
  rw [hi] at hfd
  have HI := Lib.hid hi
  clear hi
  go_enter Tryz.func34, Tryz.ntmps34
  go_wp2_with fail
  refine (hisn _).mono ?_
  rintro e w1 ⟨rfl, rfl⟩
  clear hisn
  go_wp2_with fail
  refine hfd.mono ?_
  rintro e w1 ⟨rfl, hb⟩
  obtain ⟨h, h0, h1, h2, hfull, hex⟩ := HH.out
  have k1 := (h1.below hb).1
  have k2 := (h2.below hb).1
  have kR := (h.below hb).cell 0
  have kF := (h.below hb).cell 1
  simp only [MS.head, List.getElem?_toArray, List.getElem?_cons_succ, List.getElem?_cons_zero] at kR kF
  have HB := Lib.hid hb
  clear hfd c0 c1 h h0 h1 h2 hfull hb hex
  go_wp2_with fail
  have hw1 : IntKind.i64.wrap ((m.room : Int) - (total m.l : Int)) = (m.room : Int) - (total m.l : Int) := by rw [IntKind.wrap_i64]; omega
  obtain ⟨p, c, hfv⟩ : ∃ p c, m.fv = .slice p m.l.length c := by
    rcases Joins.ownsRow_forms HH.out.1.row with ⟨hv, h0⟩ | ⟨F, cap, hv⟩
    · exact ⟨none, 0, by rw [h0]; exact hv⟩
    · exact ⟨_, _, hv⟩
  rw [hfv] at kF
  have HFV := Lib.hid hfv
  clear hfv
  have cU := fun d os => Calls.regrown_of (used_any m (grow (redrawn w1 d) os) ((HH.out.1.below HB.out).below (below_regrown w1 d os)) hlen (by omega))
  have HCU := Lib.hid cU; clear cU
  have r1 := fun d os => cell_regrown k1 d os
  have r2 := fun d os => cell_regrown k2 d os
  have rR := fun d os => cell_regrown kR d os
  have rF := fun d os => cell_regrown kF d os
  have hfull := HH.out.2.2.2.2.1
  rw [fullB, HTH.out] at hfull
  go_cut [36] (fun v wc => v = .bool false ∧ Below w1.heap.size w1 wc)
  case first =>
    clear hlen hroom k1 k2 kR kF ht HFV
    generalize total m.l = T at *
    generalize hn : m.l.length = N at *
    clear hn
    simp only [Bool.or_eq_false_iff] at hfull
    obtain ⟨hd, hfull⟩ := hfull
    cases there
    · have hl2 : ((N : Int) == 1024) = false := by simp at hfull ⊢; omega
      clear hfull
      refine wp_region_quiet_below (by kernel_rfl) (by kernel_rfl) ?_
      repeat (first | go_big_quiet_step ((go_at_call 37; with_reducible exact HCU.out _ _)) | quiet_step ((go_at_call 37; with_reducible exact HCU.out _ _)))
      refine wpQuiet_nil ?_
      intro _ hw'
      obtain ⟨⟨dq, osq⟩, hw''⟩ := hw'
      subst hw''
      clear HCU r1 r2 rR rF
      go_wp2_with fail
      go_meet
      exact ⟨rfl, below_regrown w1 dq osq⟩
    · clear hfull
      refine wp_region_quiet_below (by kernel_rfl) (by kernel_rfl) ?_
      repeat (first | go_big_quiet_step ((go_at_call 37; with_reducible exact HCU.out _ _)) | quiet_step ((go_at_call 37; with_reducible exact HCU.out _ _)))
      refine wpQuiet_nil ?_
      intro _ hw'
      obtain ⟨⟨dq, osq⟩, hw''⟩ := hw'
      subst hw''
      clear HCU r1 r2 rR rF
      go_wp2_with fail
      go_meet
      exact ⟨rfl, below_regrown w1 dq osq⟩
  case rest =>
    obtain ⟨rfl, hbc⟩ := hcut
    have HB2 := Lib.hid (HB.out.trans (hbc.mono HB.out.size))
    clear HCU r1 r2 rR rF k1 k2 kR kF hw1 hbc hfull
    obtain ⟨h, h0, h1, h2, _, hex⟩ := HH.out
    have k1 := (h1.below HB2.out).1
    obtain ⟨hf, hm, hy⟩ := hex
    obtain rfl : there = true := HTH.out.symm.trans HTT.out
    have hs := spend_ok m wc (h.below HB2.out) hm hy
    clear h h0 h1 h2 hf hm hy
    go_wp2_with fail
    refine hs.mono ?_
    rintro e w2 ⟨rfl, hl2, hc2⟩
    clear k1
    obtain ⟨h, h0, h1, h2, _, hf, hm, hy⟩ := HH.out
    rw [HI.out] at hf ⊢
    have hil : i < m.l.length := (List.getElem?_eq_some_iff.1 hf).1
    obtain ⟨F, cap, hv⟩ : ∃ F cap, m.pay.fv = .slice (some ⟨F, 0, none⟩) m.l.length cap := by
      rcases Joins.ownsRow_forms h.row with ⟨_, hl0⟩ | hv
      · omega
      · exact hv
    have K1 := (h1.below HB2.out).chg hc2
    have K2 := (h2.below HB2.out).chg hc2
    have kD := hl2.cell 1
    simp only [MS.head, List.getElem?_toArray, List.getElem?_cons_succ, List.getElem?_cons_zero, hv] at kD
    obtain ⟨-, hF, hFm, hrow⟩ := hl2.frow hv
    obtain ⟨-, kb, -⟩ := hrow i f hf
    obtain ⟨n1, n2, n3, n4⟩ := hl2.nodup
    have hfm : f ∈ m.pay.l := List.mem_of_getElem? hf
    obtain ⟨i0, hii, hz0, hz1, hz2⟩ := info_parts bytesInfo
    have hbl : f.body.length + s.size ≤ 4194304 := by
      have hfl := HH.out.2.2.2.2.1
      rw [fullB] at hfl
      simp only [Bool.or_eq_false_iff, decide_eq_false_iff_not] at hfl
      have h1 := total_succ hf
      have h2 := total_le m.l (i + 1)
      omega
    obtain ⟨v', W3, hap, hown3, hg3, hsf3, _⟩ := run_append_sf (P := Tryz.prog) w2.drew B 34 9 34 5 i0 (.int .u8 0) 1 1 Tryz.underlying34 hii hz0 hz1 hz2 rfl f.bv f.body.length (Lib.byteCells f.body) (hl2.drew.body f hfm)
      (.string s) s.size _ (Src.ofString w2.drew Tryz.underlying9 s) (by unfold maxLen; omega) (by omega) (Nat.le_trans (h.lt m.D (by simp [MS.blks])).1 (Nat.le_of_lt (hl2.lt m.D (by simp [MS.blks, MS.pay])).2))
    have hown3' : OwnB B v' (f.body ++ s.data.toList) W3 := by
      have e1 : Lib.byteCells (f.body ++ s.data.toList) = Lib.byteCells f.body ++ Go.byteCells s := by simp [Lib.byteCells, Go.byteCells]
      have e2 : (f.body ++ s.data.toList).length = f.body.length + s.size := by simp
      unfold OwnB; rw [e1, e2]; exact hown3
    have hput := hl2.drew.putBody hv hf v' _ hg3 hsf3 hown3'
    have HP := Lib.hid (show AppOld B m i f s w (.returned (.int .i64 0)) (W3.setCell ⟨F, i * 3 + 1, none⟩ v') from ⟨v', rfl, hput.1, ((Chg.of_below (m := m) HB2.out).trans hc2).trans ⟨hput.2.os, hput.2.tape, hput.2.output, hput.2.size, hput.2.block, hput.2.fresh⟩⟩)
    have hne : ∀ k, k < w2.heap.size → k ∉ bblks m.pay.l → W3.heap[k]? = w2.heap[k]? := fun k hk hn => hg3.block k hk (fun e => hn (mem_bblks.2 ⟨f, hfm, e.symm⟩))
    have hDm : m.D ∈ m.pay.blks := by simp [MS.blks, MS.pay]
    have hDn : m.D ∉ bblks m.pay.l := fun hk => n2 _ hk rfl
    have hFn : F ∉ bblks m.pay.l := fun hk => n4 _ hk (by rw [hv]; rfl)
    have k1 := K1.1
    have k2 := K2.1
    have j1 : W3.cell? ⟨b1, 0, none⟩ = some (.pointer (some ⟨m.D, 0, none⟩)) := (World.cell?_of_block (w := w2) (a := ⟨b1, 0, none⟩) (hne b1 K1.2.1 (fun hk => K1.2.2 (by simp [MS.blks, hk])))).trans k1
    have jD : W3.cell? ⟨m.D, 1, none⟩ = some (.slice (some ⟨F, 0, none⟩) m.l.length cap) := (World.cell?_of_block (w := w2) (a := ⟨m.D, 1, none⟩) (hne m.D (hl2.lt _ hDm).2 hDn)).trans kD
    have j2 : W3.cell? ⟨b2, 0, none⟩ = some (.string s) := (World.cell?_of_block (w := w2) (a := ⟨b2, 0, none⟩) (hne b2 K2.2.1 (fun hk => K2.2.2 (by simp [MS.blks, hk])))).trans k2
    have HNE : Hid (b1 ≠ F ∧ m.D ≠ F ∧ b2 ≠ F) := ⟨fun e => K1.2.2 (by rw [e]; exact hFm), fun e => n1 F (by rw [hv]; rfl) e.symm, fun e => K2.2.2 (by rw [e]; exact hFm)⟩
    have jb : W3.cell? ⟨F, i * 3 + 1, none⟩ = some f.bv := (World.cell?_of_block (w := w2) (a := ⟨F, i * 3 + 1, none⟩) (hne F hF hFn)).trans kb
    have jf : W3.frozen? ⟨F, i * 3 + 1, none⟩ = false := (World.frozen?_of_block (w := w2) (a := ⟨F, i * 3 + 1, none⟩) (hne F hF hFn)).trans (World.ownsRow.frozenAt (by have := hl2.row; rw [hv] at this; exact this) (i * 3 + 1))
    obtain ⟨pb, cb, hbv⟩ := hl2.forms (i := i) (f := f) hf
    rw [hbv] at kb jb hap
    have hDe : m.pay.D = m.D := rfl
    rw [hDe] at kD
    have hi0 : (0 : Int) ≤ (i : Int) := by omega
    have hi1 : (i : Int) < (m.l.length : Int) := by omega
    obtain ⟨pv, cv, hv'⟩ := OwnB.form hown3'
    rw [hv'] at hap HP
    clear hput hown3 hown3' hg3 hsf3 hne hDm hDn hFn K1 K2 hrow n1 n2 n3 n4 hfm hii hz0 hz1 hz2 hs hl2 hc2 h h0 h1 h2 hf hm hy hv hbv hDe hFm hv' HFV
    generalize hn : m.l.length = N at *
    clear hn
    generalize (f.body ++ s.data.toList).length = nb at *
    have q1 : (W3.setCell ⟨F, i * 3 + 1, none⟩ (.slice pv nb cv)).cell? ⟨b1, 0, none⟩ = some (.pointer (some ⟨m.D, 0, none⟩)) := (World.cell?_of_block (w := W3) (a := ⟨b1, 0, none⟩) (Below.heap_setCell _ _ _ _ HNE.out.1)).trans j1
    have qD : (W3.setCell ⟨F, i * 3 + 1, none⟩ (.slice pv nb cv)).cell? ⟨m.D, 1, none⟩ = some (.slice (some ⟨F, 0, none⟩) N cap) := (World.cell?_of_block (w := W3) (a := ⟨m.D, 1, none⟩) (Below.heap_setCell _ _ _ _ HNE.out.2.1)).trans jD
    have q2 : (W3.setCell ⟨F, i * 3 + 1, none⟩ (.slice pv nb cv)).cell? ⟨b2, 0, none⟩ = some (.string s) := (World.cell?_of_block (w := W3) (a := ⟨b2, 0, none⟩) (Below.heap_setCell _ _ _ _ HNE.out.2.2)).trans j2
    go_wp2_with fail
    refine wp_region_held_drew (S := fun W => W.cell? ⟨b1, 0, none⟩ = some (.pointer (some ⟨m.D, 0, none⟩)) ∧ W.cell? ⟨m.D, 1, none⟩ = some (.slice (some ⟨F, 0, none⟩) N cap) ∧ W.cell? ⟨b2, 0, none⟩ = some (.string s)) (by kernel_rfl) ⟨k1, kD, k2⟩ (fun _ => ?_)
    refine wpAnyH_take (i := 0) (v := ?_) rfl (by kernel_rfl) (by kernel_rfl) (by kernel_rfl) (fun _ _ _ h => h) (Or.inl ⟨by rfl, ?_⟩) ⟨k1, kD, k2⟩ ?_
    rotate_left
    · intro W hSw; obtain ⟨s1, s2, s3⟩ := hSw; go_simp <;> with_reducible rfl
    try simp only [Act.put, List.getElem_toArray, List.getElem_cons_zero, List.setIfInBounds_toArray, List.set_cons_zero, List.set_cons_succ]
    refine wpAnyH_take (i := 1) (v := ?_) rfl (by kernel_rfl) (by kernel_rfl) (by kernel_rfl) (fun _ _ _ h => h) (Or.inl ⟨by rfl, ?_⟩) ⟨k1, kD, k2⟩ ?_
    rotate_left
    · intro W hSw; obtain ⟨s1, s2, s3⟩ := hSw; go_simp <;> with_reducible rfl
    try simp only [Act.put, List.getElem_toArray, List.getElem_cons_zero, List.getElem_cons_succ, List.setIfInBounds_toArray, List.set_cons_zero, List.set_cons_succ]
    refine wpAnyH_take (i := 2) (v := ?_) rfl (by kernel_rfl) (by kernel_rfl) (by kernel_rfl) (fun _ _ _ h => h) (Or.inl ⟨by rfl, ?_⟩) ⟨k1, kD, k2⟩ ?_
    rotate_left
    · intro W hSw; obtain ⟨s1, s2, s3⟩ := hSw; go_simp <;> with_reducible rfl
    try simp only [Act.put, List.getElem_toArray, List.getElem_cons_zero, List.getElem_cons_succ, List.setIfInBounds_toArray, List.set_cons_zero, List.set_cons_succ]
    refine wpAnyH_take (i := 3) (v := ?_) rfl (by kernel_rfl) (by kernel_rfl) (by kernel_rfl) (fun _ _ _ h => h) (Or.inl ⟨by rfl, ?_⟩) ⟨k1, kD, k2⟩ ?_
    rotate_left
    · intro W hSw; obtain ⟨s1, s2, s3⟩ := hSw; go_simp <;> with_reducible rfl
    try simp only [Act.put, List.getElem_toArray, List.getElem_cons_zero, List.getElem_cons_succ, List.setIfInBounds_toArray, List.set_cons_zero, List.set_cons_succ]
    refine wpAnyH_take (i := 4) (v := ?_) rfl (by kernel_rfl) (by kernel_rfl) (by kernel_rfl) (fun _ _ _ h => h) (Or.inl ⟨by rfl, ?_⟩) ⟨k1, kD, k2⟩ ?_
    rotate_left
    · intro W hSw; obtain ⟨s1, s2, s3⟩ := hSw; go_simp <;> with_reducible rfl
    try simp only [Act.put, List.getElem_toArray, List.getElem_cons_zero, List.getElem_cons_succ, List.setIfInBounds_toArray, List.set_cons_zero, List.set_cons_succ]
    refine wpAnyH_take (i := 5) (v := ?_) rfl (by kernel_rfl) (by kernel_rfl) (by kernel_rfl) (fun _ _ _ h => h) (Or.inl ⟨by rfl, ?_⟩) ⟨k1, kD, k2⟩ ?_
    rotate_left
    · intro W hSw; obtain ⟨s1, s2, s3⟩ := hSw; go_simp <;> with_reducible rfl
    try simp only [Act.put, List.getElem_toArray, List.getElem_cons_zero, List.getElem_cons_succ, List.setIfInBounds_toArray, List.set_cons_zero, List.set_cons_succ]
    refine wpAnyH_take (i := 6) (v := ?_) rfl (by kernel_rfl) (by kernel_rfl) (by kernel_rfl) (fun _ _ _ h => h) (Or.inl ⟨by rfl, ?_⟩) ⟨k1, kD, k2⟩ ?_
    rotate_left
    · intro W hSw; obtain ⟨s1, s2, s3⟩ := hSw; go_simp <;> with_reducible rfl
    try simp only [Act.put, List.getElem_toArray, List.getElem_cons_zero, List.getElem_cons_succ, List.setIfInBounds_toArray, List.set_cons_zero, List.set_cons_succ]
    refine wpAnyH_take (i := 7) (v := ?_) rfl (by kernel_rfl) (by kernel_rfl) (by kernel_rfl) (fun _ _ _ h => h) (Or.inl ⟨by rfl, ?_⟩) ⟨k1, kD, k2⟩ ?_
    rotate_left
    · intro W hSw; obtain ⟨s1, s2, s3⟩ := hSw; go_simp <;> with_reducible rfl
    try simp only [Act.put, List.getElem_toArray, List.getElem_cons_zero, List.getElem_cons_succ, List.setIfInBounds_toArray, List.set_cons_zero, List.set_cons_succ]
    refine wpAnyH_take (i := 8) (v := ?_) rfl (by kernel_rfl) (by kernel_rfl) (by kernel_rfl) (fun _ _ _ h => h) (Or.inl ⟨by rfl, ?_⟩) ⟨k1, kD, k2⟩ ?_
    rotate_left
    · intro W hSw; obtain ⟨s1, s2, s3⟩ := hSw; go_simp <;> with_reducible rfl
    try simp only [Act.put, List.getElem_toArray, List.getElem_cons_zero, List.getElem_cons_succ, List.setIfInBounds_toArray, List.set_cons_zero, List.set_cons_succ]
    refine wpAnyH_take (i := 9) (v := ?_) rfl (by kernel_rfl) (by kernel_rfl) (by kernel_rfl) (fun _ _ _ h => h) (Or.inl ⟨by rfl, ?_⟩) ⟨k1, kD, k2⟩ ?_
    rotate_left
    · intro W hSw; obtain ⟨s1, s2, s3⟩ := hSw; go_simp <;> with_reducible rfl
    try simp only [Act.put, List.getElem_toArray, List.getElem_cons_zero, List.getElem_cons_succ, List.setIfInBounds_toArray, List.set_cons_zero, List.set_cons_succ]
    refine wpAnyH_take (i := 10) (v := ?_) rfl (by kernel_rfl) (by kernel_rfl) (by kernel_rfl) (fun _ _ _ h => h) (Or.inl ⟨by rfl, ?_⟩) ⟨k1, kD, k2⟩ ?_
    rotate_left
    · intro W hSw; obtain ⟨s1, s2, s3⟩ := hSw; go_simp <;> with_reducible rfl
    try simp only [Act.put, List.getElem_toArray, List.getElem_cons_zero, List.getElem_cons_succ, List.setIfInBounds_toArray, List.set_cons_zero, List.set_cons_succ]
    refine wpAnyH_take (i := 11) (v := ?_) rfl (by kernel_rfl) (by kernel_rfl) (by kernel_rfl) (fun _ _ _ h => h) (Or.inl ⟨by rfl, ?_⟩) ⟨k1, kD, k2⟩ ?_
    rotate_left
    · intro W hSw; obtain ⟨s1, s2, s3⟩ := hSw; go_simp <;> with_reducible rfl
    try simp only [Act.put, List.getElem_toArray, List.getElem_cons_zero, List.getElem_cons_succ, List.setIfInBounds_toArray, List.set_cons_zero, List.set_cons_succ]
    refine wpAnyH_take (i := 13) (v := ?_) rfl (by kernel_rfl) (by kernel_rfl) (by kernel_rfl) (fun _ _ _ h => h) (Or.inl ⟨by rfl, ?_⟩) ⟨k1, kD, k2⟩ ?_
    rotate_left
    · intro W hSw; obtain ⟨s1, s2, s3⟩ := hSw; go_simp <;> with_reducible rfl
    try simp only [Act.put, List.getElem_toArray, List.getElem_cons_zero, List.getElem_cons_succ, List.setIfInBounds_toArray, List.set_cons_zero, List.set_cons_succ]
    refine wpAnyH_ready (rs := [12]) (by kernel_rfl) (by simp) ?_
    refine AllReadyH.cons rfl (fun K hK => ?_) AllReadyH.nil
    go_simp
    refine hK.out _ _ ⟨k1, kD, k2⟩ (fun _ => ?_)
    clear hK K
    try simp only [Act.put, List.getElem_toArray, List.getElem_cons_zero, List.getElem_cons_succ, List.setIfInBounds_toArray, List.set_cons_zero, List.set_cons_succ]
    refine wpAnyH_ready (rs := [14]) (by kernel_rfl) (by simp) ?_
    refine AllReadyH.cons rfl (fun K hK => ?_) AllReadyH.nil
    refine step_append_run rfl (.tmp 65) (.tmp 66) 34 9 rfl (.slice pb f.body.length cb) (.string s) (.slice pv nb cv) W3 rfl rfl hap ?_
    refine hK.out _ _ ⟨j1, jD, j2⟩ (fun _ => ?_)
    clear hK K
    try simp only [Act.put, List.getElem_toArray, List.getElem_cons_zero, List.getElem_cons_succ, List.setIfInBounds_toArray, List.set_cons_zero, List.set_cons_succ]
    refine wpAnyH_take (i := 15) (v := ?_) rfl (by kernel_rfl) (by kernel_rfl) (by kernel_rfl) (fun _ _ _ h => h) (Or.inl ⟨by rfl, ?_⟩) ⟨j1, jD, j2⟩ ?_
    rotate_left
    · intro W hSw; obtain ⟨s1, s2, s3⟩ := hSw; go_simp <;> with_reducible rfl
    try simp only [Act.put, List.getElem_toArray, List.getElem_cons_zero, List.getElem_cons_succ, List.setIfInBounds_toArray, List.set_cons_zero, List.set_cons_succ]
    refine wpAnyH_take (i := 16) (v := ?_) rfl (by kernel_rfl) (by kernel_rfl) (by kernel_rfl) (fun _ _ _ h => h) (Or.inl ⟨by rfl, ?_⟩) ⟨j1, jD, j2⟩ ?_
    rotate_left
    · intro W hSw; obtain ⟨s1, s2, s3⟩ := hSw; go_simp <;> with_reducible rfl
    try simp only [Act.put, List.getElem_toArray, List.getElem_cons_zero, List.getElem_cons_succ, List.setIfInBounds_toArray, List.set_cons_zero, List.set_cons_succ]
    refine wpAnyH_ready (rs := [17]) (by kernel_rfl) (by simp) ?_
    refine AllReadyH.cons rfl (fun K hK => ?_) AllReadyH.nil
    go_simp
    refine hK.out _ _ ⟨q1, qD, q2⟩ (fun _ => ?_)
    clear hK K
    try simp only [Act.put, List.getElem_toArray, List.getElem_cons_zero, List.getElem_cons_succ, List.setIfInBounds_toArray, List.set_cons_zero, List.set_cons_succ]
    refine wpAnyH_done (by kernel_rfl) ?_ _
    go_wp2_with fail
    go_ret
    rw [HI.out]
    exact HP.out

/-- a new file -/
def newFV (n : ByteArray) : FV := ⟨n, .slice none 0 0, [], 0⟩

theorem set_mid (l : List FV) (i : Nat) (hi : i ≤ l.length) (x y : FV) : (l.take i ++ x :: l.drop i)[i]? = some x ∧ (l.take i ++ x :: l.drop i).set i y = l.take i ++ y :: l.drop i := by
  have hl : (l.take i).length = i := by simp; omega
  refine ⟨by rw [List.getElem?_append_right (by omega), hl]; simp, ?_⟩
  rw [List.set_append_right _ _ (by omega), hl]; simp

/-- what is there when a new file has been laid into the row -/
def NewMid (B : Nat) (m : MS) (i : Nat) (n : ByteArray) (w w' : World) : Prop :=
  ∃ v, Lies B { m.pay with fv := v, l := m.l.take i ++ newFV n :: m.l.drop i } w' ∧ Chg m { m.pay with fv := v, l := m.l.take i ++ newFV n :: m.l.drop i } w w'

/-- what Append leaves where there was no such file -/
def AppNew (B : Nat) (m : MS) (i : Nat) (n s : ByteArray) (w : World) (e : Ending) (w' : World) : Prop :=
  ∃ v v', e = .returned (.int .i64 0) ∧ Lies B { m.pay with fv := v, l := m.l.take i ++ { newFV n with bv := v', body := s.data.toList } :: m.l.drop i } w' ∧ Chg m { m.pay with fv := v, l := m.l.take i ++ { newFV n with bv := v', body := s.data.toList } :: m.l.drop i } w w'

theorem fpos_le (l : List FV) (n : ByteArray) : fpos l n ≤ l.length := List.findIdx_le_length

/-- a row that Insert has made, laid into the head -/
theorem newMid_of {B : Nat} {m : MS} {i : Nat} {n : ByteArray} {w w2 wa w3 : World} (hi : i ≤ m.l.length) (hl2 : Lies B m.pay w2) (hc2 : Chg m m.pay w w2) (hga : w2.grownBy wa none) {v : Value}
    (ho : OwnF B v (m.l.length + 1) ((fcells m.l).take (i * 3) ++ ((newFV n).cells ++ (fcells m.l).drop (i * 3))) w3) (hg : wa.grownBy w3 m.pay.fv.ownBlock) (hsf : SF wa m.pay.fv v) :
    NewMid B m i n w (w3.setCell ⟨m.D, 1, none⟩ v) := by
  obtain ⟨n1, n2, n3, n4⟩ := hl2.nodup
  have hg2 : w2.grownBy w3 m.pay.fv.ownBlock := ⟨hg.os.trans hga.os, hg.tape.trans hga.tape, hg.output.trans hga.output, Nat.le_trans hga.size hg.size, fun k hk hne => (hg.block k (Nat.lt_of_lt_of_le hk hga.size) hne).trans (hga.block k hk (by simp))⟩
  have hsf2 : SF w2 m.pay.fv v := by
    rcases hsf with h | ⟨g, hgv, hge⟩
    · exact .inl h
    · exact .inr ⟨g, hgv, Nat.le_trans hga.size hge⟩
  have hlen : (m.l.take i ++ newFV n :: m.l.drop i).length = m.l.length + 1 := by simp; omega
  have hbk : bblks (m.l.take i ++ newFV n :: m.l.drop i) = bblks m.l := by
    rw [bblks_append, bblks_cons, show (newFV n).bv.ownBlock.toList = [] from rfl, List.nil_append, ← bblks_append, List.take_append_drop]
  rw [← fcells_ins, ← hlen] at ho
  have hr := hl2.refile v (m.l.take i ++ newFV n :: m.l.drop i) hg2 ho hsf2
    (fun f hf => by
      simp only [List.mem_append, List.mem_cons] at hf
      have hold : f ∈ m.l → OwnB B f.bv f.body w2 ∧ ∀ k, f.bv.ownBlock = some k → k ≠ m.pay.D ∧ m.pay.fv.ownBlock ≠ some k := fun hm =>
        ⟨hl2.body f hm, fun k hk => ⟨n2 k (mem_bblks.2 ⟨f, hm, hk⟩), n4 k (mem_bblks.2 ⟨f, hm, hk⟩)⟩⟩
      rcases hf with hf | rfl | hf
      · exact hold (List.mem_of_mem_take hf)
      · exact ⟨World.ownsRow_nil _ _ _ _, fun k hk => by simp [newFV, Value.ownBlock] at hk⟩
      · exact hold (List.mem_of_mem_drop hf))
    (by rw [hbk]; exact n3)
  refine ⟨v, hr.1, hc2.trans ⟨hg2.os, hg2.tape, hg2.output, by simpa using hg2.size, fun k hk hn => ?_, ?_⟩⟩
  · simp only [MS.blks, List.mem_cons, List.mem_append, Option.mem_toList, not_or] at hn
    exact hr.2 k hk hn.1 hn.2.1
  · exact blks_fresh (w := w2) rfl hsf2 (fun k hk => .inl (by rw [hbk] at hk; exact hk))

set_option maxHeartbeats 4000000 in
set_option maxRecDepth 100000 in
theorem appendC_new {B : Nat} (m : MS) (n s : ByteArray) (b0 b1 b2 : Nat) (w : World) (h : Lies B m w) (hlen : m.l.length ≤ 1024) (hr : Rises m.l n) (ht : total m.l ≤ m.room) (hroom : m.room ≤ 4194304) (_hss : s.size ≤ 9223372036854775807)
    (h0 : Box m b0 (.string n) w) (h1 : Box m b1 (.pointer (some ⟨m.D, 0, none⟩)) w) (h2 : Box m b2 (.string s) w) (hn : isNm n = true) (hfull : fullB m n s.size = false) (ht0 : fthere m.l n = false) (hm : m.left < 9223372036854775808) (hy : m.may) :
    Calls Tryz.prog 34 #[.pointer (some ⟨b0, 0, none⟩), .pointer (some ⟨b1, 0, none⟩), .pointer (some ⟨b2, 0, none⟩)] w (AppNew B m (fpos m.l n) n s w) := by
  have hisn := fun w => isName_yes n w hn
  have hfd := find_any m n w h hlen hr
  have c0 := h0.1
  have c1 := h1.1
  have HTT := Lib.hid ht0
  have HH := Lib.hid (And.intro h (And.intro h0 (And.intro h1 (And.intro h2 (And.intro hfull (And.intro ht0 (And.intro hm hy)))))))
  clear h hr h0 h1 h2 hfull hn hm hy ht0
  obtain ⟨there, hth⟩ : ∃ t, fthere m.l n = t := ⟨_, rfl⟩
  rw [hth] at hfd
  have HTH := Lib.hid hth; clear hth
  obtain ⟨i, hi⟩ : ∃ i, fpos m.l n = i := ⟨_, rfl⟩
  rw [hi] at hfd
  have HI := Lib.hid hi
  clear hi
  go_enter Tryz.func34, Tryz.ntmps34
  go_wp2_with fail
  refine (hisn _).mono ?_
  rintro e w1 ⟨rfl, rfl⟩
  clear hisn
  go_wp2_with fail
  refine hfd.mono ?_
  rintro e w1 ⟨rfl, hb⟩
  obtain ⟨h, h0, h1, h2, hfull, hex⟩ := HH.out
  have k1 := (h1.below hb).1
  have k2 := (h2.below hb).1
  have kR := (h.below hb).cell 0
  have kF := (h.below hb).cell 1
  simp only [MS.head, List.getElem?_toArray, List.getElem?_cons_succ, List.getElem?_cons_zero] at kR kF
  have HB := Lib.hid hb
  clear hfd c0 c1 h h0 h1 h2 hfull hb hex
  go_wp2_with fail
  have hw1 : IntKind.i64.wrap ((m.room : Int) - (total m.l : Int)) = (m.room : Int) - (total m.l : Int) := by rw [IntKind.wrap_i64]; omega
  obtain ⟨p, c, hfv⟩ : ∃ p c, m.fv = .slice p m.l.length c := by
    rcases Joins.ownsRow_forms HH.out.1.row with ⟨hv, h0⟩ | ⟨F, cap, hv⟩
    · exact ⟨none, 0, by rw [h0]; exact hv⟩
    · exact ⟨_, _, hv⟩
  rw [hfv] at kF
  have HFV := Lib.hid hfv
  clear hfv
  have cU := fun d os => Calls.regrown_of (used_any m (grow (redrawn w1 d) os) ((HH.out.1.below HB.out).below (below_regrown w1 d os)) hlen (by omega))
  have HCU := Lib.hid cU; clear cU
  have r1 := fun d os => cell_regrown k1 d os
  have r2 := fun d os => cell_regrown k2 d os
  have rR := fun d os => cell_regrown kR d os
  have rF := fun d os => cell_regrown kF d os
  have hfull := HH.out.2.2.2.2.1
  rw [fullB, HTH.out] at hfull
  go_cut [36] (fun v wc => v = .bool false ∧ Below w1.heap.size w1 wc)
  case first =>
    clear hlen hroom k1 k2 kR kF ht HFV
    generalize total m.l = T at *
    generalize hn : m.l.length = N at *
    clear hn
    simp only [Bool.or_eq_false_iff] at hfull
    obtain ⟨hd, hfull⟩ := hfull
    cases there
    · have hl2 : ((N : Int) == 1024) = false := by simp at hfull ⊢; omega
      clear hfull
      refine wp_region_quiet_below (by kernel_rfl) (by kernel_rfl) ?_
      repeat (first | go_big_quiet_step ((go_at_call 37; with_reducible exact HCU.out _ _)) | quiet_step ((go_at_call 37; with_reducible exact HCU.out _ _)))
      refine wpQuiet_nil ?_
      intro _ hw'
      obtain ⟨⟨dq, osq⟩, hw''⟩ := hw'
      subst hw''
      clear HCU r1 r2 rR rF
      go_wp2_with fail
      go_meet
      exact ⟨rfl, below_regrown w1 dq osq⟩
    · clear hfull
      refine wp_region_quiet_below (by kernel_rfl) (by kernel_rfl) ?_
      repeat (first | go_big_quiet_step ((go_at_call 37; with_reducible exact HCU.out _ _)) | quiet_step ((go_at_call 37; with_reducible exact HCU.out _ _)))
      refine wpQuiet_nil ?_
      intro _ hw'
      obtain ⟨⟨dq, osq⟩, hw''⟩ := hw'
      subst hw''
      clear HCU r1 r2 rR rF
      go_wp2_with fail
      go_meet
      exact ⟨rfl, below_regrown w1 dq osq⟩
  case rest =>
    obtain ⟨rfl, hbc⟩ := hcut
    have HB2 := Lib.hid (HB.out.trans (hbc.mono HB.out.size))
    clear HCU r1 r2 rR rF k1 k2 kR kF hw1 hbc hfull
    obtain ⟨h, h0, h1, h2, _, hex⟩ := HH.out
    have k1 := (h1.below HB2.out).1
    obtain ⟨_, hm, hy⟩ := hex
    obtain rfl : there = false := HTH.out.symm.trans HTT.out
    have hs := spend_ok m wc (h.below HB2.out) hm hy
    clear h h0 h1 h2 hm hy
    go_wp2_with fail
    refine hs.mono ?_
    rintro e w2 ⟨rfl, hl2, hc2⟩
    clear k1
    obtain ⟨h, h0, h1, h2, hfull, _, hm, hy⟩ := HH.out
    have hil : i ≤ m.l.length := by rw [← HI.out]; exact fpos_le _ _
    have hN : m.l.length ≤ 1023 := by
      rw [fullB, HTT.out] at hfull
      simp at hfull
      omega
    have K0 := (h0.below HB2.out).chg hc2
    have K1 := (h1.below HB2.out).chg hc2
    have K2 := (h2.below HB2.out).chg hc2
    have hBw : B ≤ w2.heap.size := Nat.le_trans (h.lt m.D (by simp [MS.blks])).1 (Nat.le_of_lt (hl2.lt m.D (by simp [MS.blks, MS.pay])).2)
    have kD := hl2.cell 1
    simp only [MS.head, List.getElem?_toArray, List.getElem?_cons_succ, List.getElem?_cons_zero] at kD
    have hDe : m.pay.D = m.D := rfl
    rw [hDe, show m.pay.fv = .slice p m.l.length c from HFV.out] at kD
    have hDm : m.D ∈ m.pay.blks := by simp [MS.blks, MS.pay]
    have hDlt := (hl2.lt _ hDm).2
    have hins := insert_any B (.slice p m.l.length c) m.l.length i (fcells m.l) (.string n) (.slice none 0 0) (.int .i64 0) w2.heap.size ((w2.alloc (.cells #[.string n, .slice none 0 0, .int .i64 0] 70)).drew)
      (by have := hl2.row; rw [show m.pay.fv = .slice p m.l.length c from HFV.out] at this; exact (World.ownsRow.alloc this _)) hN hil (by simp; omega) (fun e => by
        have hf := HFV.out
        have := (World.ownsRow.lt hl2.row w2.heap.size (by rw [show m.pay.fv = .slice p m.l.length c from hf]; exact e)).2
        omega) (heap_alloc_new w2 _) (by simp [Value.oneCell']) (one_cells (m := m.pay) hl2)
    have HMID := Lib.hid (fun (w3 : World) (v : Value) => newMid_of (n := n) (wa := (w2.alloc (.cells #[.string n, .slice none 0 0, .int .i64 0] 70)).drew) (w3 := w3) (v := v) hil hl2 (((Chg.of_below (m := m) HB2.out).trans hc2)) ⟨rfl, rfl, rfl, by simp, fun k hk _ => Below.heap_alloc w2 _ k hk⟩)
    have HINS := Lib.hid hins
    have hz := hl2.free 1
    rw [hDe] at hz
    have k0 := K0.1
    have k1 := K1.1
    have z0 := K0.2.1
    have z1 := K1.2.1
    have HBD := Lib.hid (show b0 ≠ m.D ∧ b1 ≠ m.D from ⟨fun e => K0.2.2 (by rw [e]; exact hDm), fun e => K1.2.2 (by rw [e]; exact hDm)⟩)
    have HNB := Lib.hid (show (m.pay.fv.ownBlock ≠ some m.D) ∧ (m.pay.fv.ownBlock ≠ some b0) ∧ (m.pay.fv.ownBlock ≠ some b1) from ⟨fun e => hl2.nodup.1 m.D e rfl, fun e => K0.2.2 (by simp [MS.blks, e]), fun e => K1.2.2 (by simp [MS.blks, e])⟩)
    clear hins hDe hDm hl2 hc2 hs h h0 h1 h2 hfull hm hy K0 K1 K2 hBw
    have a0 : ((w2.alloc (.cells #[.string n, .slice none 0 0, .int .i64 0] 70)).drew).cell? ⟨b0, 0, none⟩ = some (.string n) := (World.cell?_alloc_past _ _ _ z0).trans k0
    have a1 : ((w2.alloc (.cells #[.string n, .slice none 0 0, .int .i64 0] 70)).drew).cell? ⟨b1, 0, none⟩ = some (.pointer (some ⟨m.D, 0, none⟩)) := (World.cell?_alloc_past _ _ _ z1).trans k1
    go_wp2_with fail
    go_cut [] (fun wd => NewMid B m i n w wd)
    case first =>
      refine wp_region_held_drew (S := fun W => W.cell? ⟨b1, 0, none⟩ = some (.pointer (some ⟨m.D, 0, none⟩)) ∧ W.cell? ⟨b0, 0, none⟩ = some (.string n)) (by kernel_rfl) ⟨k1, k0⟩ (fun _ => ?_)
      refine wpAnyH_take (i := 0) (v := ?_) rfl (by kernel_rfl) (by kernel_rfl) (by kernel_rfl) (fun _ _ _ h => h) (Or.inl ⟨by rfl, ?_⟩) ⟨k1, k0⟩ ?_
      rotate_left
      · intro W hSw; obtain ⟨s1, s2⟩ := hSw; go_simp <;> with_reducible rfl
      try simp only [Act.put, List.getElem_toArray, List.getElem_cons_zero, List.setIfInBounds_toArray, List.set_cons_zero, List.set_cons_succ]
      refine wpAnyH_take (i := 1) (v := ?_) rfl (by kernel_rfl) (by kernel_rfl) (by kernel_rfl) (fun _ _ _ h => h) (Or.inl ⟨by rfl, ?_⟩) ⟨k1, k0⟩ ?_
      rotate_left
      · intro W hSw; obtain ⟨s1, s2⟩ := hSw; go_simp <;> with_reducible rfl
      try simp only [Act.put, List.getElem_toArray, List.getElem_cons_zero, List.getElem_cons_succ, List.setIfInBounds_toArray, List.set_cons_zero, List.set_cons_succ]
      refine wpAnyH_take (i := 2) (v := ?_) rfl (by kernel_rfl) (by kernel_rfl) (by kernel_rfl) (fun _ _ _ h => h) (Or.inl ⟨by rfl, ?_⟩) ⟨k1, k0⟩ ?_
      rotate_left
      · intro W hSw; obtain ⟨s1, s2⟩ := hSw; go_simp <;> with_reducible rfl
      try simp only [Act.put, List.getElem_toArray, List.getElem_cons_zero, List.getElem_cons_succ, List.setIfInBounds_toArray, List.set_cons_zero, List.set_cons_succ]
      refine wpAnyH_take (i := 3) (v := ?_) rfl (by kernel_rfl) (by kernel_rfl) (by kernel_rfl) (fun _ _ _ h => h) (Or.inl ⟨by rfl, ?_⟩) ⟨k1, k0⟩ ?_
      rotate_left
      · intro W hSw; obtain ⟨s1, s2⟩ := hSw; go_simp <;> with_reducible rfl
      try simp only [Act.put, List.getElem_toArray, List.getElem_cons_zero, List.getElem_cons_succ, List.setIfInBounds_toArray, List.set_cons_zero, List.set_cons_succ]
      refine wpAnyH_take (i := 5) (v := ?_) rfl (by kernel_rfl) (by kernel_rfl) (by kernel_rfl) (fun _ _ _ h => h) (Or.inl ⟨by rfl, ?_⟩) ⟨k1, k0⟩ ?_
      rotate_left
      · intro W hSw; obtain ⟨s1, s2⟩ := hSw; go_simp <;> with_reducible rfl
      try simp only [Act.put, List.getElem_toArray, List.getElem_cons_zero, List.getElem_cons_succ, List.setIfInBounds_toArray, List.set_cons_zero, List.set_cons_succ]
      refine wpAnyH_take (i := 6) (v := ?_) rfl (by kernel_rfl) (by kernel_rfl) (by kernel_rfl) (fun _ _ _ h => h) (Or.inl ⟨by rfl, ?_⟩) ⟨k1, k0⟩ ?_
      rotate_left
      · intro W hSw; obtain ⟨s1, s2⟩ := hSw; go_simp <;> with_reducible rfl
      try simp only [Act.put, List.getElem_toArray, List.getElem_cons_zero, List.getElem_cons_succ, List.setIfInBounds_toArray, List.set_cons_zero, List.set_cons_succ]
      refine wpAnyH_take (i := 7) (v := ?_) rfl (by kernel_rfl) (by kernel_rfl) (by kernel_rfl) (fun _ _ _ h => h) (Or.inl ⟨by rfl, ?_⟩) ⟨k1, k0⟩ ?_
      rotate_left
      · intro W hSw; obtain ⟨s1, s2⟩ := hSw; go_simp <;> with_reducible rfl
      try simp only [Act.put, List.getElem_toArray, List.getElem_cons_zero, List.getElem_cons_succ, List.setIfInBounds_toArray, List.set_cons_zero, List.set_cons_succ]
      refine wpAnyH_ready (rs := [4, 8]) (by kernel_rfl) (by simp) ?_
      refine AllReadyH.cons rfl (fun K hK => ?_) (AllReadyH.cons rfl (fun K hK => ?_) AllReadyH.nil)
      · go_simp
        refine hK.out _ _ ⟨k1, k0⟩ (fun _ => ?_)
        clear hK K
        try simp only [Act.put, List.getElem_toArray, List.getElem_cons_zero, List.getElem_cons_succ, List.setIfInBounds_toArray, List.set_cons_zero, List.set_cons_succ]
        refine wpAnyH_ready (rs := [8]) (by kernel_rfl) (by simp) ?_
        refine AllReadyH.cons rfl (fun K hK => ?_) AllReadyH.nil
        go_simp
        refine hK.out _ _ ⟨a1, a0⟩ (fun _ => ?_)
        clear hK K
        try simp only [Act.put, List.getElem_toArray, List.getElem_cons_zero, List.getElem_cons_succ, List.setIfInBounds_toArray, List.set_cons_zero, List.set_cons_succ]
        refine wpAnyH_ready (rs := [9]) (by kernel_rfl) (by simp) ?_
        refine AllReadyH.cons rfl (fun K hK => ?_) AllReadyH.nil
        go_simp
        refine HINS.out.mono ?_
        rintro e w3 ⟨v3, rfl, ho, hg, hsf⟩
        obtain ⟨F3, c3, rfl⟩ := Joins.ownsRow_form ho (by omega)
        have hkp : ∀ k, k < w2.heap.size → m.pay.fv.ownBlock ≠ some k → w3.heap[k]? = w2.heap[k]? := fun k hk hne => (hg.block k (by simp; omega) (fun e => hne (by rw [show m.pay.fv = .slice p m.l.length c from HFV.out]; exact e.symm))).trans (Below.heap_alloc w2 _ k hk)
        have l0 : w3.cell? ⟨b0, 0, none⟩ = some (.string n) := (World.cell?_of_block (w := w2) (a := ⟨b0, 0, none⟩) (hkp b0 z0 HNB.out.2.1)).trans k0
        have l1 : w3.cell? ⟨b1, 0, none⟩ = some (.pointer (some ⟨m.D, 0, none⟩)) := (World.cell?_of_block (w := w2) (a := ⟨b1, 0, none⟩) (hkp b1 z1 HNB.out.2.2)).trans k1
        have lD : w3.cell? ⟨m.D, 1, none⟩ = some (.slice p m.l.length c) := (World.cell?_of_block (w := w2) (a := ⟨m.D, 1, none⟩) (hkp m.D hDlt HNB.out.1)).trans kD
        have lz : w3.frozen? ⟨m.D, 1, none⟩ = false := (World.frozen?_of_block (w := w2) (a := ⟨m.D, 1, none⟩) (hkp m.D hDlt HNB.out.1)).trans hz
        have HM3 := Lib.hid (HMID.out w3 _ ho (by rw [show m.pay.fv = .slice p m.l.length c from HFV.out]; exact hg) (by rw [show m.pay.fv = .slice p m.l.length c from HFV.out]; exact hsf))
        clear ho hg hsf hkp
        go_wp2_with fail
        refine hK.out _ _ ⟨l1, l0⟩ (fun _ => ?_)
        clear hK K
        try simp only [Act.put, List.getElem_toArray, List.getElem_cons_zero, List.getElem_cons_succ, List.setIfInBounds_toArray, List.set_cons_zero, List.set_cons_succ]
        refine wpAnyH_take (i := 10) (v := ?_) rfl (by kernel_rfl) (by kernel_rfl) (by kernel_rfl) (fun _ _ _ h => h) (Or.inl ⟨by rfl, ?_⟩) ⟨l1, l0⟩ ?_
        rotate_left
        · intro W hSw; obtain ⟨s1, s2⟩ := hSw; go_simp <;> with_reducible rfl
        try simp only [Act.put, List.getElem_toArray, List.getElem_cons_zero, List.getElem_cons_succ, List.setIfInBounds_toArray, List.set_cons_zero, List.set_cons_succ]
        refine wpAnyH_take (i := 11) (v := ?_) rfl (by kernel_rfl) (by kernel_rfl) (by kernel_rfl) (fun _ _ _ h => h) (Or.inl ⟨by rfl, ?_⟩) ⟨l1, l0⟩ ?_
        rotate_left
        · intro W hSw; obtain ⟨s1, s2⟩ := hSw; go_simp <;> with_reducible rfl
        try simp only [Act.put, List.getElem_toArray, List.getElem_cons_zero, List.getElem_cons_succ, List.setIfInBounds_toArray, List.set_cons_zero, List.set_cons_succ]
        have l0' : (w3.setCell ⟨m.D, 1, none⟩ (.slice (some ⟨F3, 0, none⟩) (m.l.length + 1) c3)).cell? ⟨b0, 0, none⟩ = some (.string n) := (World.cell?_of_block (w := w3) (a := ⟨b0, 0, none⟩) (Below.heap_setCell _ _ _ _ HBD.out.1)).trans l0
        have l1' : (w3.setCell ⟨m.D, 1, none⟩ (.slice (some ⟨F3, 0, none⟩) (m.l.length + 1) c3)).cell? ⟨b1, 0, none⟩ = some (.pointer (some ⟨m.D, 0, none⟩)) := (World.cell?_of_block (w := w3) (a := ⟨b1, 0, none⟩) (Below.heap_setCell _ _ _ _ HBD.out.2)).trans l1
        refine wpAnyH_ready (rs := [12]) (by kernel_rfl) (by simp) ?_
        refine AllReadyH.cons rfl (fun K hK => ?_) AllReadyH.nil
        go_simp
        refine hK.out _ _ ⟨l1', l0'⟩ (fun _ => ?_)
        clear hK K
        try simp only [Act.put, List.getElem_toArray, List.getElem_cons_zero, List.getElem_cons_succ, List.setIfInBounds_toArray, List.set_cons_zero, List.set_cons_succ]
        refine wpAnyH_done (by kernel_rfl) ?_ _
        go_wp2_with fail
        go_meet
        exact HM3.out
      · go_simp
        refine hK.out _ _ ⟨a1, a0⟩ (fun _ => ?_)
        clear hK K
        try simp only [Act.put, List.getElem_toArray, List.getElem_cons_zero, List.getElem_cons_succ, List.setIfInBounds_toArray, List.set_cons_zero, List.set_cons_succ]
        refine wpAnyH_ready (rs := [4]) (by kernel_rfl) (by simp) ?_
        refine AllReadyH.cons rfl (fun K hK => ?_) AllReadyH.nil
        go_simp
        refine hK.out _ _ ⟨a1, a0⟩ (fun _ => ?_)
        clear hK K
        try simp only [Act.put, List.getElem_toArray, List.getElem_cons_zero, List.getElem_cons_succ, List.setIfInBounds_toArray, List.set_cons_zero, List.set_cons_succ]
        refine wpAnyH_ready (rs := [9]) (by kernel_rfl) (by simp) ?_
        refine AllReadyH.cons rfl (fun K hK => ?_) AllReadyH.nil
        go_simp
        refine HINS.out.mono ?_
        rintro e w3 ⟨v3, rfl, ho, hg, hsf⟩
        obtain ⟨F3, c3, rfl⟩ := Joins.ownsRow_form ho (by omega)
        have hkp : ∀ k, k < w2.heap.size → m.pay.fv.ownBlock ≠ some k → w3.heap[k]? = w2.heap[k]? := fun k hk hne => (hg.block k (by simp; omega) (fun e => hne (by rw [show m.pay.fv = .slice p m.l.length c from HFV.out]; exact e.symm))).trans (Below.heap_alloc w2 _ k hk)
        have l0 : w3.cell? ⟨b0, 0, none⟩ = some (.string n) := (World.cell?_of_block (w := w2) (a := ⟨b0, 0, none⟩) (hkp b0 z0 HNB.out.2.1)).trans k0
        have l1 : w3.cell? ⟨b1, 0, none⟩ = some (.pointer (some ⟨m.D, 0, none⟩)) := (World.cell?_of_block (w := w2) (a := ⟨b1, 0, none⟩) (hkp b1 z1 HNB.out.2.2)).trans k1
        have lD : w3.cell? ⟨m.D, 1, none⟩ = some (.slice p m.l.length c) := (World.cell?_of_block (w := w2) (a := ⟨m.D, 1, none⟩) (hkp m.D hDlt HNB.out.1)).trans kD
        have lz : w3.frozen? ⟨m.D, 1, none⟩ = false := (World.frozen?_of_block (w := w2) (a := ⟨m.D, 1, none⟩) (hkp m.D hDlt HNB.out.1)).trans hz
        have HM3 := Lib.hid (HMID.out w3 _ ho (by rw [show m.pay.fv = .slice p m.l.length c from HFV.out]; exact hg) (by rw [show m.pay.fv = .slice p m.l.length c from HFV.out]; exact hsf))
        clear ho hg hsf hkp
        go_wp2_with fail
        refine hK.out _ _ ⟨l1, l0⟩ (fun _ => ?_)
        clear hK K
        try simp only [Act.put, List.getElem_toArray, List.getElem_cons_zero, List.getElem_cons_succ, List.setIfInBounds_toArray, List.set_cons_zero, List.set_cons_succ]
        refine wpAnyH_take (i := 10) (v := ?_) rfl (by kernel_rfl) (by kernel_rfl) (by kernel_rfl) (fun _ _ _ h => h) (Or.inl ⟨by rfl, ?_⟩) ⟨l1, l0⟩ ?_
        rotate_left
        · intro W hSw; obtain ⟨s1, s2⟩ := hSw; go_simp <;> with_reducible rfl
        try simp only [Act.put, List.getElem_toArray, List.getElem_cons_zero, List.getElem_cons_succ, List.setIfInBounds_toArray, List.set_cons_zero, List.set_cons_succ]
        refine wpAnyH_take (i := 11) (v := ?_) rfl (by kernel_rfl) (by kernel_rfl) (by kernel_rfl) (fun _ _ _ h => h) (Or.inl ⟨by rfl, ?_⟩) ⟨l1, l0⟩ ?_
        rotate_left
        · intro W hSw; obtain ⟨s1, s2⟩ := hSw; go_simp <;> with_reducible rfl
        try simp only [Act.put, List.getElem_toArray, List.getElem_cons_zero, List.getElem_cons_succ, List.setIfInBounds_toArray, List.set_cons_zero, List.set_cons_succ]
        have l0' : (w3.setCell ⟨m.D, 1, none⟩ (.slice (some ⟨F3, 0, none⟩) (m.l.length + 1) c3)).cell? ⟨b0, 0, none⟩ = some (.string n) := (World.cell?_of_block (w := w3) (a := ⟨b0, 0, none⟩) (Below.heap_setCell _ _ _ _ HBD.out.1)).trans l0
        have l1' : (w3.setCell ⟨m.D, 1, none⟩ (.slice (some ⟨F3, 0, none⟩) (m.l.length + 1) c3)).cell? ⟨b1, 0, none⟩ = some (.pointer (some ⟨m.D, 0, none⟩)) := (World.cell?_of_block (w := w3) (a := ⟨b1, 0, none⟩) (Below.heap_setCell _ _ _ _ HBD.out.2)).trans l1
        refine wpAnyH_ready (rs := [12]) (by kernel_rfl) (by simp) ?_
        refine AllReadyH.cons rfl (fun K hK => ?_) AllReadyH.nil
        go_simp
        refine hK.out _ _ ⟨l1', l0'⟩ (fun _ => ?_)
        clear hK K
        try simp only [Act.put, List.getElem_toArray, List.getElem_cons_zero, List.getElem_cons_succ, List.setIfInBounds_toArray, List.set_cons_zero, List.set_cons_succ]
        refine wpAnyH_done (by kernel_rfl) ?_ _
        go_wp2_with fail
        go_meet
        exact HM3.out
    case rest =>
      obtain ⟨v, hl3, hc3⟩ := hcut
      obtain ⟨h, h0, h1, h2, hfull, _, hm, hy⟩ := HH.out
      have hMl : (m.l.take i ++ newFV n :: m.l.drop i).length = m.l.length + 1 := by simp; omega
      obtain ⟨F, cap, rfl⟩ : ∃ F cap, v = .slice (some ⟨F, 0, none⟩) (m.l.length + 1) cap := by
        have := Joins.ownsRow_form hl3.row (by show 0 < (m.l.take i ++ newFV n :: m.l.drop i).length; omega)
        rw [show ({ m.pay with fv := v, l := m.l.take i ++ newFV n :: m.l.drop i } : MS).l.length = m.l.length + 1 from hMl] at this
        exact this
      obtain ⟨hf, hset⟩ := set_mid m.l i hil (newFV n) { newFV n with bv := .slice none 0 0 }
      have K1 := h1.chg hc3
      have K2 := h2.chg hc3
      have kD := hl3.cell 1
      simp only [MS.head, List.getElem?_toArray, List.getElem?_cons_succ, List.getElem?_cons_zero] at kD
      obtain ⟨-, hF, hFm, hrow⟩ := hl3.frow rfl
      obtain ⟨-, kb, -⟩ := hrow i (newFV n) hf
      obtain ⟨n1, n2, n3, n4⟩ := hl3.nodup
      obtain ⟨i0, hii, hz0, hz1, hz2⟩ := info_parts bytesInfo
      have hbl : s.size ≤ 4194304 := by
        rw [fullB] at hfull
        simp only [Bool.or_eq_false_iff, decide_eq_false_iff_not] at hfull
        omega
      have hBw : B ≤ wc.heap.size := Nat.le_trans (h.lt m.D (by simp [MS.blks])).1 (Nat.le_of_lt (hl3.lt m.D (by simp [MS.blks, MS.pay])).2)
      obtain ⟨v', W3, hap, hown3, hg3, hsf3, _⟩ := run_append_sf (P := Tryz.prog) wc.drew B 34 9 34 5 i0 (.int .u8 0) 1 1 Tryz.underlying34 hii hz0 hz1 hz2 rfl (.slice none 0 0) 0 [] (World.ownsRow_nil _ _ _ _)
        (.string s) s.size _ (Src.ofString wc.drew Tryz.underlying9 s) (by unfold maxLen; omega) (by omega) hBw
      have hown3' : OwnB B v' s.data.toList W3 := by
        have e1 : Lib.byteCells s.data.toList = [] ++ Go.byteCells s := by simp [Lib.byteCells, Go.byteCells]
        have e2 : s.data.toList.length = 0 + s.size := by simp
        unfold OwnB; rw [e1, e2]; exact hown3
      have hput := hl3.drew.putBody rfl hf v' s.data.toList hg3 hsf3 hown3'
      rw [(set_mid m.l i hil (newFV n) { newFV n with bv := v', body := s.data.toList }).2] at hput
      have HP := Lib.hid (show AppNew B m i n s w (.returned (.int .i64 0)) (W3.setCell ⟨F, i * 3 + 1, none⟩ v') from ⟨_, v', rfl, hput.1, hc3.trans ⟨hput.2.os, hput.2.tape, hput.2.output, hput.2.size, hput.2.block, hput.2.fresh⟩⟩)
      have hne : ∀ k, k < wc.heap.size → W3.heap[k]? = wc.heap[k]? := fun k hk => hg3.block k hk (fun e => by simp [Value.ownBlock] at e)
      have k1 := K1.1
      have k2 := K2.1
      have hDm : m.D ∈ ({ m.pay with fv := .slice (some ⟨F, 0, none⟩) (m.l.length + 1) cap, l := m.l.take i ++ newFV n :: m.l.drop i } : MS).blks := by simp [MS.blks, MS.pay]
      have hDlt := (hl3.lt _ hDm).2
      have hDe : ({ m.pay with fv := .slice (some ⟨F, 0, none⟩) (m.l.length + 1) cap, l := m.l.take i ++ newFV n :: m.l.drop i } : MS).D = m.D := rfl
      have kD : wc.cell? ⟨m.D, 1, none⟩ = some (.slice (some ⟨F, 0, none⟩) (m.l.length + 1) cap) := kD
      have kb : wc.cell? ⟨F, i * 3 + 1, none⟩ = some (.slice none 0 0) := kb
      have j1 : W3.cell? ⟨b1, 0, none⟩ = some (.pointer (some ⟨m.D, 0, none⟩)) := (World.cell?_of_block (w := wc) (a := ⟨b1, 0, none⟩) (hne b1 K1.2.1)).trans k1
      have jD : W3.cell? ⟨m.D, 1, none⟩ = some (.slice (some ⟨F, 0, none⟩) (m.l.length + 1) cap) := (World.cell?_of_block (w := wc) (a := ⟨m.D, 1, none⟩) (hne m.D hDlt)).trans kD
      have j2 : W3.cell? ⟨b2, 0, none⟩ = some (.string s) := (World.cell?_of_block (w := wc) (a := ⟨b2, 0, none⟩) (hne b2 K2.2.1)).trans k2
      have HNE : Hid (b1 ≠ F ∧ m.D ≠ F ∧ b2 ≠ F) := ⟨fun e => K1.2.2 (by rw [e]; exact hFm), fun e => n1 F rfl e.symm, fun e => K2.2.2 (by rw [e]; exact hFm)⟩
      have hr3 : wc.ownsRow B 70 3 (.slice (some ⟨F, 0, none⟩) (m.l.length + 1) cap) (m.l.take i ++ newFV n :: m.l.drop i).length (fcells (m.l.take i ++ newFV n :: m.l.drop i)) := hl3.row
      rw [hMl] at hr3
      have jb : W3.cell? ⟨F, i * 3 + 1, none⟩ = some (.slice none 0 0) := (World.cell?_of_block (w := wc) (a := ⟨F, i * 3 + 1, none⟩) (hne F hF)).trans kb
      have jf : W3.frozen? ⟨F, i * 3 + 1, none⟩ = false := (World.frozen?_of_block (w := wc) (a := ⟨F, i * 3 + 1, none⟩) (hne F hF)).trans (World.ownsRow.frozenAt hr3 (i * 3 + 1))
      have hi0 : (0 : Int) ≤ (i : Int) := by omega
      have hi1 : (i : Int) < (m.l.length : Int) + 1 := by omega
      have hi2 : i < m.l.length + 1 := by omega
      obtain ⟨pv, cv, hv'⟩ := OwnB.form hown3'
      rw [hv'] at hap HP
      clear hput hown3 hown3' hg3 hsf3 hne hDm hDe K1 K2 hrow n1 n2 n3 n4 hii hz0 hz1 hz2 hl3 hc3 h h0 h1 h2 hm hy hFm hv' HFV hf hset hMl hfull HMID HINS HNB HBD hBw hr3 a0 a1 k0 z0 z1 hz
      generalize s.data.toList.length = nb at *
      have q1 : (W3.setCell ⟨F, i * 3 + 1, none⟩ (.slice pv nb cv)).cell? ⟨b1, 0, none⟩ = some (.pointer (some ⟨m.D, 0, none⟩)) := (World.cell?_of_block (w := W3) (a := ⟨b1, 0, none⟩) (Below.heap_setCell _ _ _ _ HNE.out.1)).trans j1
      have qD : (W3.setCell ⟨F, i * 3 + 1, none⟩ (.slice pv nb cv)).cell? ⟨m.D, 1, none⟩ = some (.slice (some ⟨F, 0, none⟩) (m.l.length + 1) cap) := (World.cell?_of_block (w := W3) (a := ⟨m.D, 1, none⟩) (Below.heap_setCell _ _ _ _ HNE.out.2.1)).trans jD
      have q2 : (W3.setCell ⟨F, i * 3 + 1, none⟩ (.slice pv nb cv)).cell? ⟨b2, 0, none⟩ = some (.string s) := (World.cell?_of_block (w := W3) (a := ⟨b2, 0, none⟩) (Below.heap_setCell _ _ _ _ HNE.out.2.2)).trans j2
      go_wp2_with fail
      refine wp_region_held_drew (S := fun W => W.cell? ⟨b1, 0, none⟩ = some (.pointer (some ⟨m.D, 0, none⟩)) ∧ W.cell? ⟨m.D, 1, none⟩ = some (.slice (some ⟨F, 0, none⟩) (m.l.length + 1) cap) ∧ W.cell? ⟨b2, 0, none⟩ = some (.string s)) (by kernel_rfl) ⟨k1, kD, k2⟩ (fun _ => ?_)
      refine wpAnyH_take (i := 0) (v := ?_) rfl (by kernel_rfl) (by kernel_rfl) (by kernel_rfl) (fun _ _ _ h => h) (Or.inl ⟨by rfl, ?_⟩) ⟨k1, kD, k2⟩ ?_
      rotate_left
      · intro W hSw; obtain ⟨s1, s2, s3⟩ := hSw; go_simp <;> with_reducible rfl
      try simp only [Act.put, List.getElem_toArray, List.getElem_cons_zero, List.setIfInBounds_toArray, List.set_cons_zero, List.set_cons_succ]
      refine wpAnyH_take (i := 1) (v := ?_) rfl (by kernel_rfl) (by kernel_rfl) (by kernel_rfl) (fun _ _ _ h => h) (Or.inl ⟨by rfl, ?_⟩) ⟨k1, kD, k2⟩ ?_
      rotate_left
      · intro W hSw; obtain ⟨s1, s2, s3⟩ := hSw; go_simp <;> with_reducible rfl
      try simp only [Act.put, List.getElem_toArray, List.getElem_cons_zero, List.getElem_cons_succ, List.setIfInBounds_toArray, List.set_cons_zero, List.set_cons_succ]
      refine wpAnyH_take (i := 2) (v := ?_) rfl (by kernel_rfl) (by kernel_rfl) (by kernel_rfl) (fun _ _ _ h => h) (Or.inl ⟨by rfl, ?_⟩) ⟨k1, kD, k2⟩ ?_
      rotate_left
      · intro W hSw; obtain ⟨s1, s2, s3⟩ := hSw; go_simp <;> with_reducible rfl
      try simp only [Act.put, List.getElem_toArray, List.getElem_cons_zero, List.getElem_cons_succ, List.setIfInBounds_toArray, List.set_cons_zero, List.set_cons_succ]
      refine wpAnyH_take (i := 3) (v := ?_) rfl (by kernel_rfl) (by kernel_rfl) (by kernel_rfl) (fun _ _ _ h => h) (Or.inl ⟨by rfl, ?_⟩) ⟨k1, kD, k2⟩ ?_
      rotate_left
      · intro W hSw; obtain ⟨s1, s2, s3⟩ := hSw; go_simp <;> with_reducible rfl
      try simp only [Act.put, List.getElem_toArray, List.getElem_cons_zero, List.getElem_cons_succ, List.setIfInBounds_toArray, List.set_cons_zero, List.set_cons_succ]
      refine wpAnyH_take (i := 4) (v := ?_) rfl (by kernel_rfl) (by kernel_rfl) (by kernel_rfl) (fun _ _ _ h => h) (Or.inl ⟨by rfl, ?_⟩) ⟨k1, kD, k2⟩ ?_
      rotate_left
      · intro W hSw; obtain ⟨s1, s2, s3⟩ := hSw; go_simp <;> with_reducible rfl
      try simp only [Act.put, List.getElem_toArray, List.getElem_cons_zero, List.getElem_cons_succ, List.setIfInBounds_toArray, List.set_cons_zero, List.set_cons_succ]
      refine wpAnyH_take (i := 5) (v := ?_) rfl (by kernel_rfl) (by kernel_rfl) (by kernel_rfl) (fun _ _ _ h => h) (Or.inl ⟨by rfl, ?_⟩) ⟨k1, kD, k2⟩ ?_
      rotate_left
      · intro W hSw; obtain ⟨s1, s2, s3⟩ := hSw; go_simp <;> with_reducible rfl
      try simp only [Act.put, List.getElem_toArray, List.getElem_cons_zero, List.getElem_cons_succ, List.setIfInBounds_toArray, List.set_cons_zero, List.set_cons_succ]
      refine wpAnyH_take (i := 6) (v := ?_) rfl (by kernel_rfl) (by kernel_rfl) (by kernel_rfl) (fun _ _ _ h => h) (Or.inl ⟨by rfl, ?_⟩) ⟨k1, kD, k2⟩ ?_
      rotate_left
      · intro W hSw; obtain ⟨s1, s2, s3⟩ := hSw; go_simp <;> with_reducible rfl
      try simp only [Act.put, List.getElem_toArray, List.getElem_cons_zero, List.getElem_cons_succ, List.setIfInBounds_toArray, List.set_cons_zero, List.set_cons_succ]
      refine wpAnyH_take (i := 7) (v := ?_) rfl (by kernel_rfl) (by kernel_rfl) (by kernel_rfl) (fun _ _ _ h => h) (Or.inl ⟨by rfl, ?_⟩) ⟨k1, kD, k2⟩ ?_
      rotate_left
      · intro W hSw; obtain ⟨s1, s2, s3⟩ := hSw; go_simp <;> with_reducible rfl
      try simp only [Act.put, List.getElem_toArray, List.getElem_cons_zero, List.getElem_cons_succ, List.setIfInBounds_toArray, List.set_cons_zero, List.set_cons_succ]
      refine wpAnyH_take (i := 8) (v := ?_) rfl (by kernel_rfl) (by kernel_rfl) (by kernel_rfl) (fun _ _ _ h => h) (Or.inl ⟨by rfl, ?_⟩) ⟨k1, kD, k2⟩ ?_
      rotate_left
      · intro W hSw; obtain ⟨s1, s2, s3⟩ := hSw; go_simp <;> with_reducible rfl
      try simp only [Act.put, List.getElem_toArray, List.getElem_cons_zero, List.getElem_cons_succ, List.setIfInBounds_toArray, List.set_cons_zero, List.set_cons_succ]
      refine wpAnyH_take (i := 9) (v := ?_) rfl (by kernel_rfl) (by kernel_rfl) (by kernel_rfl) (fun _ _ _ h => h) (Or.inl ⟨by rfl, ?_⟩) ⟨k1, kD, k2⟩ ?_
      rotate_left
      · intro W hSw; obtain ⟨s1, s2, s3⟩ := hSw; go_simp <;> with_reducible rfl
      try simp only [Act.put, List.getElem_toArray, List.getElem_cons_zero, List.getElem_cons_succ, List.setIfInBounds_toArray, List.set_cons_zero, List.set_cons_succ]
      refine wpAnyH_take (i := 10) (v := ?_) rfl (by kernel_rfl) (by kernel_rfl) (by kernel_rfl) (fun _ _ _ h => h) (Or.inl ⟨by rfl, ?_⟩) ⟨k1, kD, k2⟩ ?_
      rotate_left
      · intro W hSw; obtain ⟨s1, s2, s3⟩ := hSw; go_simp <;> with_reducible rfl
      try simp only [Act.put, List.getElem_toArray, List.getElem_cons_zero, List.getElem_cons_succ, List.setIfInBounds_toArray, List.set_cons_zero, List.set_cons_succ]
      refine wpAnyH_take (i := 11) (v := ?_) rfl (by kernel_rfl) (by kernel_rfl) (by kernel_rfl) (fun _ _ _ h => h) (Or.inl ⟨by rfl, ?_⟩) ⟨k1, kD, k2⟩ ?_
      rotate_left
      · intro W hSw; obtain ⟨s1, s2, s3⟩ := hSw; go_simp <;> with_reducible rfl
      try simp only [Act.put, List.getElem_toArray, List.getElem_cons_zero, List.getElem_cons_succ, List.setIfInBounds_toArray, List.set_cons_zero, List.set_cons_succ]
      refine wpAnyH_take (i := 13) (v := ?_) rfl (by kernel_rfl) (by kernel_rfl) (by kernel_rfl) (fun _ _ _ h => h) (Or.inl ⟨by rfl, ?_⟩) ⟨k1, kD, k2⟩ ?_
      rotate_left
      · intro W hSw; obtain ⟨s1, s2, s3⟩ := hSw; go_simp <;> with_reducible rfl
      try simp only [Act.put, List.getElem_toArray, List.getElem_cons_zero, List.getElem_cons_succ, List.setIfInBounds_toArray, List.set_cons_zero, List.set_cons_succ]
      refine wpAnyH_ready (rs := [12]) (by kernel_rfl) (by simp) ?_
      refine AllReadyH.cons rfl (fun K hK => ?_) AllReadyH.nil
      go_simp
      refine hK.out _ _ ⟨k1, kD, k2⟩ (fun _ => ?_)
      clear hK K
      try simp only [Act.put, List.getElem_toArray, List.getElem_cons_zero, List.getElem_cons_succ, List.setIfInBounds_toArray, List.set_cons_zero, List.set_cons_succ]
      refine wpAnyH_ready (rs := [14]) (by kernel_rfl) (by simp) ?_
      refine AllReadyH.cons rfl (fun K hK => ?_) AllReadyH.nil
      refine step_append_run rfl (.tmp 65) (.tmp 66) 34 9 rfl (.slice none 0 0) (.string s) (.slice pv nb cv) W3 rfl rfl hap ?_
      refine hK.out _ _ ⟨j1, jD, j2⟩ (fun _ => ?_)
      clear hK K
      try simp only [Act.put, List.getElem_toArray, List.getElem_cons_zero, List.getElem_cons_succ, List.setIfInBounds_toArray, List.set_cons_zero, List.set_cons_succ]
      refine wpAnyH_take (i := 15) (v := ?_) rfl (by kernel_rfl) (by kernel_rfl) (by kernel_rfl) (fun _ _ _ h => h) (Or.inl ⟨by rfl, ?_⟩) ⟨j1, jD, j2⟩ ?_
      rotate_left
      · intro W hSw; obtain ⟨s1, s2, s3⟩ := hSw; go_simp <;> with_reducible rfl
      try simp only [Act.put, List.getElem_toArray, List.getElem_cons_zero, List.getElem_cons_succ, List.setIfInBounds_toArray, List.set_cons_zero, List.set_cons_succ]
      refine wpAnyH_take (i := 16) (v := ?_) rfl (by kernel_rfl) (by kernel_rfl) (by kernel_rfl) (fun _ _ _ h => h) (Or.inl ⟨by rfl, ?_⟩) ⟨j1, jD, j2⟩ ?_
      rotate_left
      · intro W hSw; obtain ⟨s1, s2, s3⟩ := hSw; go_simp <;> with_reducible rfl
      try simp only [Act.put, List.getElem_toArray, List.getElem_cons_zero, List.getElem_cons_succ, List.setIfInBounds_toArray, List.set_cons_zero, List.set_cons_succ]
      refine wpAnyH_ready (rs := [17]) (by kernel_rfl) (by simp) ?_
      refine AllReadyH.cons rfl (fun K hK => ?_) AllReadyH.nil
      go_simp
      refine hK.out _ _ ⟨q1, qD, q2⟩ (fun _ => ?_)
      clear hK K
      try simp only [Act.put, List.getElem_toArray, List.getElem_cons_zero, List.getElem_cons_succ, List.setIfInBounds_toArray, List.set_cons_zero, List.set_cons_succ]
      refine wpAnyH_done (by kernel_rfl) ?_ _
      go_wp2_with fail
      go_ret
      rw [HI.out]
      exact HP.out
end Go.Proofs.YtjimgncefeldbaaGreatDoor
