/-
  almonrylaw13: the walk of CausalBytes.
-/
import Derived.Test.YtcedliaeipabnaaCauLawG
import Derived.Test.YtcedliaeipabnaaCauPut
import Derived.Test.YtcedliaeipabnaaCauRd
import Derived.Test.YtcedliaeipabnaaCauRRd
import Derived.Test.YtcedliaeipabnaaCauRHas
namespace Go.Proofs.Ytcedliaeipabnaa
set_option maxRecDepth 100000
open Go.RowKit Go.Sort

theorem putC_small (c : Cx) : (putC c).1.size ≤ 70000 := by
  unfold putC
  split
  · exact Nat.zero_le _
  · rename_i hc
    split
    · exact Nat.zero_le _
    · rename_i hl
      have hcl := chkC_ok (Classical.byContradiction hc)
      have h1 := encN_len (natV c.v) (natV_small hcl.vec)
      rw [natV_len, hcl.len] at h1
      have h2 := encT_size hcl.list (by omega)
      have h3 := Lib.uvarint_length64 (x := (encT c.l).size) (by omega)
      show (encC c).length ≤ 70000
      unfold encC
      have h4 : (encT c.l).data.toList.length ≤ 65536 := h2
      have h5 : (encN (natV c.v) ++ (Lib.uvarint (encT c.l).size ++ (encT c.l).data.toList)).length = (encN (natV c.v)).length + ((Lib.uvarint (encT c.l).size).length + (encT c.l).data.toList.length) := by rw [List.length_append, List.length_append]
      omega
/-- what the statement holds in memory -/
structure Fc (w0 : World) (x c d z : Cx) (la p9 p11 p13 : Option Addr) (sx s9 s11 s13 : Value) (g9 g11 g13 : Nat) (W : World) : Prop where
  rx : CRow W w0.heap.size x.v sx
  ix : CIn W x la
  rc : CRow W g9 c.v s9
  ic : CIn W c p9
  rd : CRow W g11 d.v s11
  id : CIn W d p11
  rz : CRow W g13 z.v s13
  iz : CIn W z p13
  lo : Go.RowKit.Below w0.heap.size w0 W
theorem Fc.keep {w0 : World} {x c d z : Cx} {la p9 p11 p13 : Option Addr} {sx s9 s11 s13 : Value} {g9 g11 g13 : Nat} {W W' : World} (k : Fc w0 x c d z la p9 p11 p13 sx s9 s11 s13 g9 g11 g13 W) (hb : Go.RowKit.Below W.heap.size W W') : Fc w0 x c d z la p9 p11 p13 sx s9 s11 s13 g9 g11 g13 W' :=
  ⟨k.rx.keep hb, k.ix.below hb, k.rc.keep hb, k.ic.below hb, k.rd.keep hb, k.id.below hb, k.rz.keep hb, k.iz.below hb, k.lo.trans (hb.mono k.lo.size)⟩

set_option maxHeartbeats 8000000 in
theorem bytes_row (x : Cx) (la : Option Addr) (ca : Nat) (s : ByteArray) (w : World) (hc : CtxArg w x la) (hs : s.size ≤ maxLen) :
    Calls Try.prog 4 #[.agg (ccs x.v (.slice la x.l.length ca)), .string s] w fun e w' => e = .returned (.bool true) ∧ Go.RowKit.Below w.heap.size w w' := by
  unfold maxLen at hs
  have HV := Lib.hid hc.v16
  have HC := Lib.hid hc
  have H0 := Lib.hid (And.intro (CRow.new w x.v (.slice la x.l.length ca)) (boxC_below w x.v (.slice la x.l.length ca)))
  unfold boxC at H0
  clear hc
  go_enter Try.func4, Try.ntmps4
  go_upto_region 1 with fail
  generalize w.alloc (.cells (ccs x.v (.slice la x.l.length ca)) 26) = W0 at *
  have hfew := fewC x la ca W0 HV.out HC.out.len
  rcases Nat.lt_or_ge 40 x.l.length with hs1 | hs1
  · rw [decide_eq_false (by omega)] at hfew
    clear hs1
    go_wp2_with ((with_reducible refine cl_load ?_ (.tmp 2) ?_ w.heap.size x.v (.slice la x.l.length ca) ?_ ?_ ?_ ?_); rfl; rfl; rfl; exact H0.out.1; exact HV.out)
    refine hfew.mono ?_
    rintro e w1 ⟨rfl, hb⟩
    have H1 := Lib.hid (H0.out.2.trans (hb.mono H0.out.2.size))
    clear hb hfew
    go_wp2_with fail
    refine (causalAwake _).mono ?_
    rintro e wz ⟨rfl, hb⟩
    have HZ := Lib.hid (H1.out.trans (hb.mono H1.out.size))
    clear hb
    go_wp2_with fail
    go_ret
    exact ⟨rfl, HZ.out⟩
  rw [decide_eq_true hs1] at hfew
  rcases Nat.lt_or_ge 1000 s.size with hs2 | hs2
  · have hbi : (1000 : Int) < (s.size : Int) := by omega
    clear hs1
    go_wp2_with ((with_reducible refine cl_load ?_ (.tmp 2) ?_ w.heap.size x.v (.slice la x.l.length ca) ?_ ?_ ?_ ?_); rfl; rfl; rfl; exact H0.out.1; exact HV.out)
    refine hfew.mono ?_
    rintro e w1 ⟨rfl, hb⟩
    have H1 := Lib.hid (H0.out.2.trans (hb.mono H0.out.2.size))
    clear hb hfew
    go_wp2_with fail
    refine (causalAwake _).mono ?_
    rintro e wz ⟨rfl, hb⟩
    have HZ := Lib.hid (H1.out.trans (hb.mono H1.out.size))
    clear hb
    go_wp2_with fail
    go_ret
    exact ⟨rfl, HZ.out⟩
  have hbi : ¬ (1000 : Int) < (s.size : Int) := by omega
  have HS := Lib.hid hs1
  have HCX : Hid (∀ W, Go.RowKit.Below w.heap.size w W → CIn W x la) := Lib.hid (fun W hb => (HC.out.cin HS.out).below hb)
  clear hs1
  go_wp2_with ((with_reducible refine cl_load ?_ (.tmp 2) ?_ w.heap.size x.v (.slice la x.l.length ca) ?_ ?_ ?_ ?_); rfl; rfl; rfl; exact H0.out.1; exact HV.out)
  refine hfew.mono ?_
  rintro e w1 ⟨rfl, hb⟩
  have H1 := Lib.hid (And.intro (H0.out.1.keep hb) (H0.out.2.trans (hb.mono H0.out.2.size)))
  clear hb hfew H0
  have HC1 := Lib.hid (fun W h => putCC x la ca W h)
  have HC2 := Lib.hid (fun W h => putRC x la ca W h)
  have HC3 := Lib.hid (fun W => readCC s (by omega) W)
  have HC4 := Lib.hid (fun W => readRC s (by omega) W)
  have HC5 := Lib.hid (fun W => readCC (putC x).1 (by have := putC_small x; omega) W)
  have HC6 := Lib.hid (fun p k W h => putCC (readC s).1 p k W h)
  have hA : ∀ p : ByteArray, putC x = (p, 0) → readC p = (x, 0) := fun p h => read_putC h
  have hB : ∀ c : Cx, readC s = (c, 0) → putC c = (s, 0) := fun c h => put_readC h
  generalize putC x = P at *
  obtain ⟨p, e1⟩ := P
  simp only at HC1 HC2 HC5 hA
  generalize readC s = R at *
  obtain ⟨c, e2⟩ := R
  simp only at HC3 HC4 HC6 hB
  have hA' : e1 = 0 → readC p = (x, 0) := fun h => hA p (by rw [h])
  have hB' : e2 = 0 → putC c = (s, 0) := fun h => hB c (by rw [h])
  generalize readC p = Z at *
  obtain ⟨z, e3⟩ := Z
  generalize putC c = T at *
  obtain ⟨y, e4⟩ := T
  simp only at HC5 HC6
  clear hA hB
  have HA := Lib.hid (And.intro hA' hB')
  clear hA' hB'
  go_wp2_with ((with_reducible refine cl_load ?_ (.tmp 2) ?_ w.heap.size x.v (.slice la x.l.length ca) ?_ ?_ ?_ ?_); rfl; rfl; rfl; exact H1.out.1; exact HV.out)
  refine (HC1.out _ (HCX.out _ H1.out.2)).mono ?_
  rintro e w2 ⟨rfl, hb⟩
  have H2 := Lib.hid (And.intro (H1.out.1.keep hb) (H1.out.2.trans (hb.mono H1.out.2.size)))
  clear hb H1 HC1
  go_wp2_with ((with_reducible refine cl_load ?_ (.tmp 2) ?_ w.heap.size x.v (.slice la x.l.length ca) ?_ ?_ ?_ ?_); rfl; rfl; rfl; exact H2.out.1; exact HV.out)
  refine (HC2.out _ (HCX.out _ H2.out.2)).mono ?_
  rintro e w3 ⟨rfl, hb⟩
  have H3 := Lib.hid (And.intro (H2.out.1.keep hb) (H2.out.2.trans (hb.mono H2.out.2.size)))
  clear hb H2 HC2
  go_wp2_with fail
  refine (HC3.out _).mono ?_
  rintro e wa ⟨⟨p9, k9, rfl, hm⟩, hb⟩
  have hn := new_ctx wa c.v (.slice p9 c.l.length k9)
  have hb2 := hb.trans (hn.2.mono hb.size)
  have HVC := Lib.hid hm.v16
  have H4 := Lib.hid (And.intro (H3.out.1.keep hb2) (And.intro (H3.out.2.trans (hb2.mono H3.out.2.size)) (And.intro hn.1 (hm.cin.below hn.2))))
  clear hb hb2 hn hm H3 HC3
  go_upto_region 6 with ((with_reducible refine cl_store ?_ (.tmp 9) (.tmp 39) ?_ wa.heap.size c.v p9 c.l.length k9 ?_ ?_ ?_ ?_ ?_); rfl; rfl; rfl; rfl; exact ⟨_, _, CRow.new wa zV nilS, rfl⟩; exact HVC.out)
  change Code.wp _ _ _ _ ((wa.alloc (.cells (ccs zV nilS) 26)).setRow wa.heap.size (ccs c.v (.slice p9 c.l.length k9)))
  generalize (wa.alloc (.cells (ccs zV nilS) 26)).setRow wa.heap.size (ccs c.v (.slice p9 c.l.length k9)) = w4 at *
  generalize wa.heap.size = g9 at *
  go_wp2_with fail
  refine (HC4.out _).mono ?_
  rintro e wb ⟨⟨p11, k11, rfl, hm⟩, hb⟩
  have hn := new_ctx wb c.v (.slice p11 c.l.length k11)
  have hb2 := hb.trans (hn.2.mono hb.size)
  have H5 := Lib.hid (And.intro (H4.out.1.keep hb2) (And.intro (H4.out.2.1.trans (hb2.mono H4.out.2.1.size)) (And.intro (And.intro (H4.out.2.2.1.keep hb2) (H4.out.2.2.2.below hb2)) (And.intro hn.1 (hm.cin.below hn.2)))))
  clear hb hb2 hn hm H4 HC4
  go_upto_region 7 with ((with_reducible refine cl_store ?_ (.tmp 11) (.tmp 44) ?_ wb.heap.size c.v p11 c.l.length k11 ?_ ?_ ?_ ?_ ?_); rfl; rfl; rfl; rfl; exact ⟨_, _, CRow.new wb zV nilS, rfl⟩; exact HVC.out)
  change Code.wp _ _ _ _ ((wb.alloc (.cells (ccs zV nilS) 26)).setRow wb.heap.size (ccs c.v (.slice p11 c.l.length k11)))
  generalize (wb.alloc (.cells (ccs zV nilS) 26)).setRow wb.heap.size (ccs c.v (.slice p11 c.l.length k11)) = w5 at *
  generalize wb.heap.size = g11 at *
  go_wp2_with fail
  refine (HC5.out _).mono ?_
  rintro e wc ⟨⟨p13, k13, rfl, hm⟩, hb⟩
  have hn := new_ctx wc z.v (.slice p13 z.l.length k13)
  have hb2 := hb.trans (hn.2.mono hb.size)
  have HVZ := Lib.hid hm.v16
  have H6 := Lib.hid (Fc.mk (H5.out.1.keep hb2) (HCX.out _ (H5.out.2.1.trans (hb2.mono H5.out.2.1.size))) (H5.out.2.2.1.1.keep hb2) (H5.out.2.2.1.2.below hb2) (H5.out.2.2.2.1.keep hb2) (H5.out.2.2.2.2.below hb2) hn.1 (hm.cin.below hn.2) (H5.out.2.1.trans (hb2.mono H5.out.2.1.size)))
  clear hb hb2 hn hm H5 HC5
  go_upto_region 8 with ((with_reducible refine cl_store ?_ (.tmp 13) (.tmp 49) ?_ wc.heap.size z.v p13 z.l.length k13 ?_ ?_ ?_ ?_ ?_); rfl; rfl; rfl; rfl; exact ⟨_, _, CRow.new wc zV nilS, rfl⟩; exact HVZ.out)
  change Code.wp _ _ _ _ ((wc.alloc (.cells (ccs zV nilS) 26)).setRow wc.heap.size (ccs z.v (.slice p13 z.l.length k13)))
  generalize (wc.alloc (.cells (ccs zV nilS) 26)).setRow wc.heap.size (ccs z.v (.slice p13 z.l.length k13)) = w6 at *
  generalize wc.heap.size = g13 at *
  go_wp2_with ((with_reducible refine cl_load ?_ (.tmp 9) ?_ g9 c.v (.slice p9 c.l.length k9) ?_ ?_ ?_ ?_); rfl; rfl; rfl; exact H6.out.rc; exact HVC.out)
  refine (HC6.out p9 k9 _ H6.out.ic).mono ?_
  rintro e w7 ⟨rfl, hb⟩
  have H7 := Lib.hid (H6.out.keep hb)
  clear hb H6 HC6
  obtain ⟨hA, hB⟩ := HA.out
  have x1 : (e1 == e1) = true := by simp
  have x2 : (e2 == e2) = true := by simp
  have hq := sameRC c c p9 p11 k9 k11 w7 H7.out.ic H7.out.id
  rw [decide_eq_true (show c = c from rfl)] at hq
  clear HA
  by_cases h1 : e1 = 0
  · obtain ⟨hz, he⟩ := Prod.mk.inj (hA h1)
    replace hz := hz.symm
    subst hz he
    subst h1
    clear hA
    by_cases h2 : e2 = 0
    · obtain ⟨hy, he4⟩ := Prod.mk.inj (hB h2)
      replace hy := hy.symm
      subst hy he4
      subst h2
      clear hB
      go_wp2_with (first
        | ((with_reducible refine cl_load ?_ (.tmp 2) ?_ w.heap.size x.v (.slice la x.l.length ca) ?_ ?_ ?_ ?_); rfl; rfl; rfl; exact H7.out.rx; exact HV.out)
        | ((with_reducible refine cl_load ?_ (.tmp 9) ?_ g9 c.v (.slice p9 c.l.length k9) ?_ ?_ ?_ ?_); rfl; rfl; rfl; exact H7.out.rc; exact HVC.out)
        | ((with_reducible refine cl_load ?_ (.tmp 11) ?_ g11 c.v (.slice p11 c.l.length k11) ?_ ?_ ?_ ?_); rfl; rfl; rfl; exact H7.out.rd; exact HVC.out)
        | ((with_reducible refine cl_load ?_ (.tmp 13) ?_ g13 x.v (.slice p13 x.l.length k13) ?_ ?_ ?_ ?_); rfl; rfl; rfl; exact H7.out.rz; exact HV.out))
      refine hq.mono ?_
      rintro e w8 ⟨rfl, hb⟩
      have H8 := Lib.hid (H7.out.keep hb)
      clear hb hq H7
      have hq2 := sameRC x x p13 la k13 ca w8 H8.out.iz H8.out.ix
      rw [decide_eq_true (show x = x from rfl)] at hq2
      go_wp2_with (first
        | ((with_reducible refine cl_load ?_ (.tmp 2) ?_ w.heap.size x.v (.slice la x.l.length ca) ?_ ?_ ?_ ?_); rfl; rfl; rfl; exact H8.out.rx; exact HV.out)
        | ((with_reducible refine cl_load ?_ (.tmp 9) ?_ g9 c.v (.slice p9 c.l.length k9) ?_ ?_ ?_ ?_); rfl; rfl; rfl; exact H8.out.rc; exact HVC.out)
        | ((with_reducible refine cl_load ?_ (.tmp 11) ?_ g11 c.v (.slice p11 c.l.length k11) ?_ ?_ ?_ ?_); rfl; rfl; rfl; exact H8.out.rd; exact HVC.out)
        | ((with_reducible refine cl_load ?_ (.tmp 13) ?_ g13 x.v (.slice p13 x.l.length k13) ?_ ?_ ?_ ?_); rfl; rfl; rfl; exact H8.out.rz; exact HV.out))
      refine hq2.mono ?_
      rintro e w9 ⟨rfl, hb⟩
      have H9 := Lib.hid (H8.out.keep hb).lo
      clear hb hq2 H8
      go_wp2_with fail
      refine (causalAwake _).mono ?_
      rintro e wz ⟨rfl, hb⟩
      have HZ := Lib.hid (H9.out.trans (hb.mono H9.out.size))
      clear hb
      go_wp2_with fail
      go_ret
      exact ⟨rfl, HZ.out⟩
    · have y2 : (e2 != 0) = true := by simp [h2]
      clear hB h2
      go_wp2_with (first
        | ((with_reducible refine cl_load ?_ (.tmp 2) ?_ w.heap.size x.v (.slice la x.l.length ca) ?_ ?_ ?_ ?_); rfl; rfl; rfl; exact H7.out.rx; exact HV.out)
        | ((with_reducible refine cl_load ?_ (.tmp 9) ?_ g9 c.v (.slice p9 c.l.length k9) ?_ ?_ ?_ ?_); rfl; rfl; rfl; exact H7.out.rc; exact HVC.out)
        | ((with_reducible refine cl_load ?_ (.tmp 11) ?_ g11 c.v (.slice p11 c.l.length k11) ?_ ?_ ?_ ?_); rfl; rfl; rfl; exact H7.out.rd; exact HVC.out)
        | ((with_reducible refine cl_load ?_ (.tmp 13) ?_ g13 x.v (.slice p13 x.l.length k13) ?_ ?_ ?_ ?_); rfl; rfl; rfl; exact H7.out.rz; exact HV.out))
      refine hq.mono ?_
      rintro e w8 ⟨rfl, hb⟩
      have H8 := Lib.hid (H7.out.keep hb)
      clear hb hq H7
      have hq2 := sameRC x x p13 la k13 ca w8 H8.out.iz H8.out.ix
      rw [decide_eq_true (show x = x from rfl)] at hq2
      go_wp2_with (first
        | ((with_reducible refine cl_load ?_ (.tmp 2) ?_ w.heap.size x.v (.slice la x.l.length ca) ?_ ?_ ?_ ?_); rfl; rfl; rfl; exact H8.out.rx; exact HV.out)
        | ((with_reducible refine cl_load ?_ (.tmp 9) ?_ g9 c.v (.slice p9 c.l.length k9) ?_ ?_ ?_ ?_); rfl; rfl; rfl; exact H8.out.rc; exact HVC.out)
        | ((with_reducible refine cl_load ?_ (.tmp 11) ?_ g11 c.v (.slice p11 c.l.length k11) ?_ ?_ ?_ ?_); rfl; rfl; rfl; exact H8.out.rd; exact HVC.out)
        | ((with_reducible refine cl_load ?_ (.tmp 13) ?_ g13 x.v (.slice p13 x.l.length k13) ?_ ?_ ?_ ?_); rfl; rfl; rfl; exact H8.out.rz; exact HV.out))
      refine hq2.mono ?_
      rintro e w9 ⟨rfl, hb⟩
      have H9 := Lib.hid (H8.out.keep hb).lo
      clear hb hq2 H8
      go_wp2_with fail
      refine (causalAwake _).mono ?_
      rintro e wz ⟨rfl, hb⟩
      have HZ := Lib.hid (H9.out.trans (hb.mono H9.out.size))
      clear hb
      go_wp2_with fail
      go_ret
      exact ⟨rfl, HZ.out⟩
  · have y1 : (e1 != 0) = true := by simp [h1]
    clear hA h1
    by_cases h2 : e2 = 0
    · obtain ⟨hy, he4⟩ := Prod.mk.inj (hB h2)
      replace hy := hy.symm
      subst hy he4
      subst h2
      clear hB
      go_wp2_with (first
        | ((with_reducible refine cl_load ?_ (.tmp 2) ?_ w.heap.size x.v (.slice la x.l.length ca) ?_ ?_ ?_ ?_); rfl; rfl; rfl; exact H7.out.rx; exact HV.out)
        | ((with_reducible refine cl_load ?_ (.tmp 9) ?_ g9 c.v (.slice p9 c.l.length k9) ?_ ?_ ?_ ?_); rfl; rfl; rfl; exact H7.out.rc; exact HVC.out)
        | ((with_reducible refine cl_load ?_ (.tmp 11) ?_ g11 c.v (.slice p11 c.l.length k11) ?_ ?_ ?_ ?_); rfl; rfl; rfl; exact H7.out.rd; exact HVC.out)
        | ((with_reducible refine cl_load ?_ (.tmp 13) ?_ g13 z.v (.slice p13 z.l.length k13) ?_ ?_ ?_ ?_); rfl; rfl; rfl; exact H7.out.rz; exact HVZ.out))
      refine hq.mono ?_
      rintro e w8 ⟨rfl, hb⟩
      have H8 := Lib.hid (H7.out.keep hb)
      clear hb hq H7
      go_wp2_with (first
        | ((with_reducible refine cl_load ?_ (.tmp 2) ?_ w.heap.size x.v (.slice la x.l.length ca) ?_ ?_ ?_ ?_); rfl; rfl; rfl; exact H8.out.rx; exact HV.out)
        | ((with_reducible refine cl_load ?_ (.tmp 9) ?_ g9 c.v (.slice p9 c.l.length k9) ?_ ?_ ?_ ?_); rfl; rfl; rfl; exact H8.out.rc; exact HVC.out)
        | ((with_reducible refine cl_load ?_ (.tmp 11) ?_ g11 c.v (.slice p11 c.l.length k11) ?_ ?_ ?_ ?_); rfl; rfl; rfl; exact H8.out.rd; exact HVC.out)
        | ((with_reducible refine cl_load ?_ (.tmp 13) ?_ g13 z.v (.slice p13 z.l.length k13) ?_ ?_ ?_ ?_); rfl; rfl; rfl; exact H8.out.rz; exact HVZ.out))
      refine (causalAwake _).mono ?_
      rintro e wz ⟨rfl, hb⟩
      have HZ := Lib.hid (H8.out.lo.trans (hb.mono H8.out.lo.size))
      clear hb
      go_wp2_with fail
      go_ret
      exact ⟨rfl, HZ.out⟩
    · have y2 : (e2 != 0) = true := by simp [h2]
      clear hB h2
      go_wp2_with (first
        | ((with_reducible refine cl_load ?_ (.tmp 2) ?_ w.heap.size x.v (.slice la x.l.length ca) ?_ ?_ ?_ ?_); rfl; rfl; rfl; exact H7.out.rx; exact HV.out)
        | ((with_reducible refine cl_load ?_ (.tmp 9) ?_ g9 c.v (.slice p9 c.l.length k9) ?_ ?_ ?_ ?_); rfl; rfl; rfl; exact H7.out.rc; exact HVC.out)
        | ((with_reducible refine cl_load ?_ (.tmp 11) ?_ g11 c.v (.slice p11 c.l.length k11) ?_ ?_ ?_ ?_); rfl; rfl; rfl; exact H7.out.rd; exact HVC.out)
        | ((with_reducible refine cl_load ?_ (.tmp 13) ?_ g13 z.v (.slice p13 z.l.length k13) ?_ ?_ ?_ ?_); rfl; rfl; rfl; exact H7.out.rz; exact HVZ.out))
      refine hq.mono ?_
      rintro e w8 ⟨rfl, hb⟩
      have H8 := Lib.hid (H7.out.keep hb)
      clear hb hq H7
      go_wp2_with (first
        | ((with_reducible refine cl_load ?_ (.tmp 2) ?_ w.heap.size x.v (.slice la x.l.length ca) ?_ ?_ ?_ ?_); rfl; rfl; rfl; exact H8.out.rx; exact HV.out)
        | ((with_reducible refine cl_load ?_ (.tmp 9) ?_ g9 c.v (.slice p9 c.l.length k9) ?_ ?_ ?_ ?_); rfl; rfl; rfl; exact H8.out.rc; exact HVC.out)
        | ((with_reducible refine cl_load ?_ (.tmp 11) ?_ g11 c.v (.slice p11 c.l.length k11) ?_ ?_ ?_ ?_); rfl; rfl; rfl; exact H8.out.rd; exact HVC.out)
        | ((with_reducible refine cl_load ?_ (.tmp 13) ?_ g13 z.v (.slice p13 z.l.length k13) ?_ ?_ ?_ ?_); rfl; rfl; rfl; exact H8.out.rz; exact HVZ.out))
      refine (causalAwake _).mono ?_
      rintro e wz ⟨rfl, hb⟩
      have HZ := Lib.hid (H8.out.lo.trans (hb.mono H8.out.lo.size))
      clear hb
      go_wp2_with fail
      go_ret
      exact ⟨rfl, HZ.out⟩
end Go.Proofs.Ytcedliaeipabnaa
