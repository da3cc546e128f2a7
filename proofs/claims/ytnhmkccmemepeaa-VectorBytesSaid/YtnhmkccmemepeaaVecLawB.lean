/-
  almonrylaw12: the walk of VectorBytes.
-/
import Derived.Test.YtnhmkccmemepeaaVecAwake
namespace Go.Proofs.Ytnhmkccmemepeaa
open Go.RowKit Go.Sort

theorem putV_small {l : Vc} (hl : l.length = 16) : (putV l).1.size ≤ 160 := by
  unfold putV
  split
  · rename_i h
    have h1 := encN_len (natV l) (natV_small h)
    rw [natV_len, hl] at h1
    exact h1
  · exact Nat.zero_le _
/-- what the statement holds in memory -/
structure Fb (w0 : World) (v c z : Vc) (b9 b11 b13 : Nat) (W : World) : Prop where
  rv : VRow W w0.heap.size v
  rc : VRow W b9 c
  rd : VRow W b11 c
  rw : VRow W b13 z
  lo : Below w0.heap.size w0 W
theorem Fb.keep {w0 : World} {v c z : Vc} {b9 b11 b13 : Nat} {W W' : World} (k : Fb w0 v c z b9 b11 b13 W) (hb : Below W.heap.size W W') : Fb w0 v c z b9 b11 b13 W' :=
  ⟨k.rv.keep hb, k.rc.keep hb, k.rd.keep hb, k.rw.keep hb, k.lo.trans (hb.mono k.lo.size)⟩

set_option maxHeartbeats 8000000 in
set_option maxRecDepth 100000 in
theorem bytes_row (v : Vc) (s : ByteArray) (w : World) (hv : v.length = 16) (hs : s.size ≤ maxLen) :
    Calls Try.prog 4 #[.agg (ics v), .string s] w fun e w' => e = .returned (.bool true) ∧ Below w.heap.size w w' := by
  unfold maxLen at hs
  have H0 := Lib.hid (And.intro (VRow.new w v) (boxV_below w v))
  by_cases hbig : 500 < s.size
  · have hbi : (500 : Int) < (s.size : Int) := by omega
    go_enter Try.func4, Try.ntmps4
    go_wp2_with fail
    refine (vecAwake _).mono ?_
    rintro e w1 ⟨rfl, hb1⟩
    have H1 := Lib.hid (H0.out.2.trans (hb1.mono H0.out.2.size))
    clear hb1
    go_wp2_with fail
    go_ret
    exact ⟨rfl, H1.out⟩
  have hbi : ¬ (500 : Int) < (s.size : Int) := by omega
  have HLv := Lib.hid hv
  have HLc := Lib.hid (readV_len s)
  have HLz := Lib.hid (readV_len (putV v).1)
  have HC1 := Lib.hid (fun W => vputC v hv W)
  have HC2 := Lib.hid (fun W => vputR v hv W)
  have HC3 := Lib.hid (fun W => vreadC s (by omega) W)
  have HC4 := Lib.hid (fun W => vreadR s (by omega) W)
  have HC5 := Lib.hid (fun W => vreadC (putV v).1 (by have := putV_small hv; omega) W)
  have HC6 := Lib.hid (fun W => vputC (readV s).1 (readV_len s) W)
  have hA : ∀ p : ByteArray, putV v = (p, 0) → readV p = (v, 0) := fun p h => read_putV hv h
  have hB : ∀ c : Vc, readV s = (c, 0) → putV c = (s, 0) := fun c h => put_readV h
  generalize putV v = P at *
  obtain ⟨p, e1⟩ := P
  simp only at HLz HC1 HC2 HC5 hA
  generalize readV s = R at *
  obtain ⟨c, e2⟩ := R
  simp only at HLc HC3 HC4 HC6 hB
  have hA' : e1 = 0 → readV p = (v, 0) := fun h => hA p (by rw [h])
  have hB' : e2 = 0 → putV c = (s, 0) := fun h => hB c (by rw [h])
  generalize readV p = Z at *
  obtain ⟨z, e3⟩ := Z
  generalize putV c = T at *
  obtain ⟨y, e4⟩ := T
  simp only at HLz HC5 HC6
  clear hA hB hv
  have q1 := fun W => eqlV HLc.out HLc.out W
  have q2 := fun W => eqlV HLv.out HLv.out W
  simp only [decide_true] at q1 q2
  have HQ := Lib.hid (And.intro q1 q2)
  have HA := Lib.hid (And.intro hA' hB')
  clear q1 q2 hA' hB'
  go_enter Try.func4, Try.ntmps4
  go_wp2_with ((with_reducible refine vl_loadg ?_ (.tmp 2) ?_ w.heap.size v ?_ ?_ ?_ ?_); rfl; rfl; rfl; exact H0.out.1; exact HLv.out)
  refine (HC1.out _).mono ?_
  rintro e w1 ⟨rfl, hb⟩
  have H1 := Lib.hid (And.intro (H0.out.1.keep hb) (H0.out.2.trans (hb.mono H0.out.2.size)))
  clear hb H0 HC1
  go_wp2_with ((with_reducible refine vl_loadg ?_ (.tmp 2) ?_ w.heap.size v ?_ ?_ ?_ ?_); rfl; rfl; rfl; exact H1.out.1; exact HLv.out)
  refine (HC2.out _).mono ?_
  rintro e w2 ⟨rfl, hb⟩
  have H2 := Lib.hid (And.intro (H1.out.1.keep hb) (H1.out.2.trans (hb.mono H1.out.2.size)))
  clear hb H1 HC2
  go_wp2_with fail
  refine (HC3.out _).mono ?_
  rintro e wa ⟨rfl, hb⟩
  obtain ⟨w3, hw3⟩ : ∃ x, boxV wa c = x := ⟨_, rfl⟩
  have hbx : Below w2.heap.size w2 w3 := by rw [← hw3]; exact hb.trans ((boxV_below wa c).mono hb.size)
  have hnx : VRow w3 wa.heap.size c := by rw [← hw3]; exact VRow.new wa c
  have HW3 := Lib.hid hw3
  have H3 := Lib.hid (And.intro (H2.out.1.keep hbx) (And.intro hnx (H2.out.2.trans (hbx.mono H2.out.2.size))))
  clear hb hbx hnx hw3 H2 HC3
  go_wp2_with (
      (with_reducible refine vl_store ?_ (.tmp 9) (.tmp 34) ?_ wa.heap.size c ?_ ?_ ?_ ?_ ?_)
      rfl
      rfl
      rfl
      rfl
      exact ⟨zV, VRow.new wa zV, HLc.out.symm⟩
      exact HLc.out
      show wpList _ _ _ _ _ ((wa.alloc (.cells (ics zV) 23)).setRow wa.heap.size (ics c))
      rw [vec_new, HW3.out])
  clear HW3
  generalize wa.heap.size = b9 at *
  refine (HC4.out _).mono ?_
  rintro e wb ⟨rfl, hb⟩
  obtain ⟨w4, hw4⟩ : ∃ x, boxV wb c = x := ⟨_, rfl⟩
  have hbx : Below w3.heap.size w3 w4 := by rw [← hw4]; exact hb.trans ((boxV_below wb c).mono hb.size)
  have hnx : VRow w4 wb.heap.size c := by rw [← hw4]; exact VRow.new wb c
  have HW4 := Lib.hid hw4
  have H4 := Lib.hid (And.intro (H3.out.1.keep hbx) (And.intro (H3.out.2.1.keep hbx) (And.intro hnx (H3.out.2.2.trans (hbx.mono H3.out.2.2.size)))))
  clear hb hbx hnx hw4 H3 HC4
  go_wp2_with (
      (with_reducible refine vl_store ?_ (.tmp 11) (.tmp 39) ?_ wb.heap.size c ?_ ?_ ?_ ?_ ?_)
      rfl
      rfl
      rfl
      rfl
      exact ⟨zV, VRow.new wb zV, HLc.out.symm⟩
      exact HLc.out
      show wpList _ _ _ _ _ ((wb.alloc (.cells (ics zV) 23)).setRow wb.heap.size (ics c))
      rw [vec_new, HW4.out])
  clear HW4
  generalize wb.heap.size = b11 at *
  refine (HC5.out _).mono ?_
  rintro e wc ⟨rfl, hb⟩
  obtain ⟨w5, hw5⟩ : ∃ x, boxV wc z = x := ⟨_, rfl⟩
  have hbx : Below w4.heap.size w4 w5 := by rw [← hw5]; exact hb.trans ((boxV_below wc z).mono hb.size)
  have hnx : VRow w5 wc.heap.size z := by rw [← hw5]; exact VRow.new wc z
  have HW5 := Lib.hid hw5
  have H5 := Lib.hid (Fb.mk (H4.out.1.keep hbx) (H4.out.2.1.keep hbx) (H4.out.2.2.1.keep hbx) hnx (H4.out.2.2.2.trans (hbx.mono H4.out.2.2.2.size)))
  clear hb hbx hnx hw5 H4 HC5
  go_wp2_with (first
    | (
      (with_reducible refine vl_store ?_ (.tmp 13) (.tmp 44) ?_ wc.heap.size z ?_ ?_ ?_ ?_ ?_)
      rfl
      rfl
      rfl
      rfl
      exact ⟨zV, VRow.new wc zV, HLz.out.symm⟩
      exact HLz.out
      show wpList _ _ _ _ _ ((wc.alloc (.cells (ics zV) 23)).setRow wc.heap.size (ics z))
      rw [vec_new, HW5.out])
    | ((with_reducible refine vl_loadg ?_ (.tmp 9) ?_ b9 c ?_ ?_ ?_ ?_); rfl; rfl; rfl; exact H5.out.rc; exact HLc.out))
  clear HW5
  generalize wc.heap.size = b13 at *
  refine (HC6.out _).mono ?_
  rintro e w6 ⟨rfl, hb⟩
  have H6 := Lib.hid (H5.out.keep hb)
  clear hb H5 HC6
  obtain ⟨q1, q2⟩ := HQ.out
  obtain ⟨hA, hB⟩ := HA.out
  have x1 : (e1 == e1) = true := by simp
  have x2 : (e2 == e2) = true := by simp
  clear HQ HA
  by_cases h1 : e1 = 0
  · obtain ⟨hz, he⟩ := Prod.mk.inj (hA h1)
    replace hz := hz.symm
    subst hz he
    subst h1
    clear hA
    by_cases h2 : e2 = 0
    · obtain ⟨hy, he4⟩ := Prod.mk.inj (hB h2)
      replace hy := hy.symm
      subst hy he4
      subst h2
      clear hB
      go_wp2_with (first
        | ((with_reducible refine vl_loadg ?_ (.tmp 2) ?_ w.heap.size v ?_ ?_ ?_ ?_); rfl; rfl; rfl; exact H6.out.rv; exact HLv.out)
        | ((with_reducible refine vl_loadg ?_ (.tmp 9) ?_ b9 c ?_ ?_ ?_ ?_); rfl; rfl; rfl; exact H6.out.rc; exact HLc.out)
        | ((with_reducible refine vl_loadg ?_ (.tmp 11) ?_ b11 c ?_ ?_ ?_ ?_); rfl; rfl; rfl; exact H6.out.rd; exact HLc.out)
        | ((with_reducible refine vl_loadg ?_ (.tmp 13) ?_ b13 v ?_ ?_ ?_ ?_); rfl; rfl; rfl; exact H6.out.rw; exact HLv.out))
      refine (vecAwake _).mono ?_
      rintro e w7 ⟨rfl, hb⟩
      have H7 := Lib.hid (H6.out.keep hb).lo
      clear hb
      go_wp2_with fail
      go_ret
      exact ⟨rfl, H7.out⟩
    · have y2 : (e2 != 0) = true := by simp [h2]
      clear hB h2
      go_wp2_with (first
        | ((with_reducible refine vl_loadg ?_ (.tmp 2) ?_ w.heap.size v ?_ ?_ ?_ ?_); rfl; rfl; rfl; exact H6.out.rv; exact HLv.out)
        | ((with_reducible refine vl_loadg ?_ (.tmp 9) ?_ b9 c ?_ ?_ ?_ ?_); rfl; rfl; rfl; exact H6.out.rc; exact HLc.out)
        | ((with_reducible refine vl_loadg ?_ (.tmp 11) ?_ b11 c ?_ ?_ ?_ ?_); rfl; rfl; rfl; exact H6.out.rd; exact HLc.out)
        | ((with_reducible refine vl_loadg ?_ (.tmp 13) ?_ b13 v ?_ ?_ ?_ ?_); rfl; rfl; rfl; exact H6.out.rw; exact HLv.out))
      refine (vecAwake _).mono ?_
      rintro e w7 ⟨rfl, hb⟩
      have H7 := Lib.hid (H6.out.keep hb).lo
      clear hb
      go_wp2_with fail
      go_ret
      exact ⟨rfl, H7.out⟩
  · have y1 : (e1 != 0) = true := by simp [h1]
    clear hA h1
    by_cases h2 : e2 = 0
    · obtain ⟨hy, he4⟩ := Prod.mk.inj (hB h2)
      replace hy := hy.symm
      subst hy he4
      subst h2
      clear hB
      go_wp2_with (first
        | ((with_reducible refine vl_loadg ?_ (.tmp 2) ?_ w.heap.size v ?_ ?_ ?_ ?_); rfl; rfl; rfl; exact H6.out.rv; exact HLv.out)
        | ((with_reducible refine vl_loadg ?_ (.tmp 9) ?_ b9 c ?_ ?_ ?_ ?_); rfl; rfl; rfl; exact H6.out.rc; exact HLc.out)
        | ((with_reducible refine vl_loadg ?_ (.tmp 11) ?_ b11 c ?_ ?_ ?_ ?_); rfl; rfl; rfl; exact H6.out.rd; exact HLc.out)
        | ((with_reducible refine vl_loadg ?_ (.tmp 13) ?_ b13 z ?_ ?_ ?_ ?_); rfl; rfl; rfl; exact H6.out.rw; exact HLz.out))
      refine (vecAwake _).mono ?_
      rintro e w7 ⟨rfl, hb⟩
      have H7 := Lib.hid (H6.out.keep hb).lo
      clear hb
      go_wp2_with fail
      go_ret
      exact ⟨rfl, H7.out⟩
    · have y2 : (e2 != 0) = true := by simp [h2]
      clear hB h2
      go_wp2_with (first
        | ((with_reducible refine vl_loadg ?_ (.tmp 2) ?_ w.heap.size v ?_ ?_ ?_ ?_); rfl; rfl; rfl; exact H6.out.rv; exact HLv.out)
        | ((with_reducible refine vl_loadg ?_ (.tmp 9) ?_ b9 c ?_ ?_ ?_ ?_); rfl; rfl; rfl; exact H6.out.rc; exact HLc.out)
        | ((with_reducible refine vl_loadg ?_ (.tmp 11) ?_ b11 c ?_ ?_ ?_ ?_); rfl; rfl; rfl; exact H6.out.rd; exact HLc.out)
        | ((with_reducible refine vl_loadg ?_ (.tmp 13) ?_ b13 z ?_ ?_ ?_ ?_); rfl; rfl; rfl; exact H6.out.rw; exact HLz.out))
      refine (vecAwake _).mono ?_
      rintro e w7 ⟨rfl, hb⟩
      have H7 := Lib.hid (H6.out.keep hb).lo
      clear hb
      go_wp2_with fail
      go_ret
      exact ⟨rfl, H7.out⟩
end Go.Proofs.Ytnhmkccmemepeaa
