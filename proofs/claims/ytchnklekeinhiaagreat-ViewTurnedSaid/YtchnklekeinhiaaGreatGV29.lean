/-
  view, the program's: dots.
  view, the program's: Entry.
-/
import Derived.Test.YtchnklekeinhiaaGreatDotComp
import Derived.Test.YtchnklekeinhiaaGreatGV23
import Derived.Test.YtchnklekeinhiaaGreatViewKind
import Derived.Test.YtchnklekeinhiaaGreatGV24
import Derived.Test.YtchnklekeinhiaaGreatGV28
namespace Go.Proofs.YtchnklekeinhiaaGreat
set_option linter.unusedSimpArgs false
set_option linter.unusedVariables false
set_option maxRecDepth 100000
open Go.RowKit Go.Sort

/-- of one name and kind, sorted facts have names of updates that do not fall -/
theorem dots_weak {l : List Ft} {k : Int} {n : ByteArray} (h : ∀ f ∈ l, f.k = k ∧ f.n = n) : ((sortF l).map (·.d)).Pairwise (fun a b => ltD b a = false) := by
  rw [List.pairwise_map]
  have hr : (sortF l).Pairwise (fun a b => ltF a b = true) := riseF_sortF l
  refine List.Pairwise.imp_of_mem (fun {a b} ha hb hab => ?_) hr
  obtain ⟨a1, a2⟩ := h a (mem_sortF.1 ha)
  obtain ⟨b1, b2⟩ := h b (mem_sortF.1 hb)
  rw [ltF_if, if_neg (by rw [a2, b2]; simp), if_neg (by rw [a1, b1]; simp)] at hab
  by_cases e : a.d = b.d
  · rw [e]; exact ltD_irr _
  · rw [if_pos e] at hab; exact ltD_asym hab
theorem OwnD.fin2 {B : Nat} {v : Value} {l : List Dt} {w : World} (h : OwnD B v l w) : ∃ a cap, v = .slice a l.length cap ∧ DFrom w B a l ∧ l.length ≤ cap ∧ cap ≤ maxLen := h.from

set_option maxHeartbeats 4000000 in
theorem dotsC (l : List Ft) (n : Nat) (hn : l.length = n) (k : Int) (nm : ByteArray) (hk : ∀ f ∈ l, f.k = k ∧ f.n = nm) (a : Option Addr) (cap : Nat) (w : World) (hf : FIn w a l) (hl : n ≤ 40) :
    Calls Tryz.prog 27 #[.slice a n cap] w fun e w' => ∃ b c, e = .returned (.slice b (sortD (l.map (·.d))).length c) ∧ DFrom w' w.heap.size b (sortD (l.map (·.d))) ∧ Go.RowKit.Below w.heap.size w w' := by
  subst hn
  have HS := Lib.hid (sortFCn l a cap w hf (by omega))
  have hsl := sortF_len l
  have HW := Lib.hid (dots_weak hk)
  have HM := Lib.hid (show ∀ z, z ∈ (sortF l).map (·.d) ↔ z ∈ l.map (·.d) from fun z => by
    rw [List.mem_map, List.mem_map]
    constructor
    · rintro ⟨f, h1, h2⟩; exact ⟨f, mem_sortF.1 h1, h2⟩
    · rintro ⟨f, h1, h2⟩; exact ⟨f, mem_sortF.2 h1, h2⟩)
  clear hf hk
  generalize sortF l = m at *
  generalize l.length = lc at *
  go_enter Tryz.func27, Tryz.ntmps27
  go_wp2_with fail
  refine HS.out.mono ?_
  rintro e w1 ⟨ma, mc, rfl, hff, hb1⟩
  have HIN := Lib.hid hff.fin
  have HB1 := Lib.hid hb1
  clear hff hb1 HS
  go_wp2_with fail
  go_loopw [3, 9] (fun v i wr => ∃ j : Nat, j ≤ m.length ∧ i = .int .i64 j ∧ OwnD w1.heap.size v ((m.take j).map (·.d)) wr ∧ Hid (Go.RowKit.Below w1.heap.size w1 wr)) (fun _ i _ => m.length - (intOf i).toNat)
  case atStart => exact ⟨0, Nat.zero_le _, rfl, by rw [List.take_zero]; exact ownD_nil _ _, Lib.hid (Below.refl _ _)⟩
  case round =>
    obtain ⟨j, hj, rfl, hown, HB⟩ := hrel
    have HOW := Lib.hid hown
    obtain ⟨xa, xc, rfl, -, hxc, hxm⟩ := hown.from
    have hml : ((m.take j).map (·.d)).length = j := by rw [List.length_map, List.length_take]; omega
    clear hown
    by_cases hlt : j < m.length
    · obtain ⟨f, hfk⟩ : ∃ f, m[j]? = some f := ⟨_, List.getElem?_eq_getElem hlt⟩
      obtain ⟨b, off, rfl, hbl, c0⟩ := (HIN.out.below HB.out).at hfk
      have hi1 : (j : Int) < (m.length : Int) := by omega
      have HNX := Lib.hid (show (m.take (j + 1)).map (·.d) = (m.take j).map (·.d) ++ [f.d] by
        obtain ⟨e1, e2⟩ := List.getElem?_eq_some_iff.1 hfk
        rw [List.take_succ_eq_append_getElem hlt, e2, List.map_append]; rfl)
      have HML := Lib.hid hml
      generalize (m.take j).map (·.d) = xs at *
      clear hml
      have CL := Lib.hid c0
      have CL1 := Lib.hid (range_below c0 ((Below.refl _ wr).alloc (Nat.le_refl _) (.cells zcs 48)) hbl)
      have HB1r := Lib.hid (HB.out.trans ((boxZ_below wr f).mono HB.out.size))
      have HR1 := Lib.hid (boxZ_row wr f)
      have HO1 := Lib.hid (OwnD.below HOW.out (boxZ_below wr f) (Nat.le_refl _))
      clear hfk c0 hbl HOW
      go_upto_region 5 with (first
        | ((with_reducible refine fl_load ?_ (.tmp 11) ?_ b (off + j * 8) f ?_ ?_ ?_); rfl; rfl; rfl; (first | exact CL.out | exact CL1.out); simp only [Act.put, List.setIfInBounds_toArray, List.set_cons_zero, List.set_cons_succ])
        | ((with_reducible refine fl_store ?_ (.tmp 5) (.tmp 12) ?_ wr.heap.size f ?_ ?_ ?_ ?_); rfl; rfl; rfl; rfl; exact boxZ_old wr))
      change Code.wp _ _ _ _ (boxZ wr f)
      generalize boxZ wr f = W at *
      have c6 := HR1.out.range 0 (.int .i64 f.d.1) rfl
      have c7 := HR1.out.range 1 (.int .i64 f.d.2) rfl
      rw [Nat.zero_add] at c6 c7
      have hone := din_new W f.d
      obtain ⟨q2, d2, w3, hr2, ho2, hb3⟩ := appD (c := 1) (HO1.out.alloc (.cells #[.int .i64 f.d.1, .int .i64 f.d.2] 44)) hone (by have := HB1r.out.size; simp; omega) (xs.length + 1) (by simp) (by have := HML.out; omega)
      have hr2' : (Builtin.append_ #[29, 29] 29 #[.slice xa xs.length xc, .slice (some ⟨W.heap.size, 0, none⟩) 1 1]).run Tryz.prog (W.alloc (.cells #[.int .i64 f.d.1, .int .i64 f.d.2] 44)) = .ok (.slice q2 (xs.length + 1) d2) w3 := hr2
      have HO3 := Lib.hid (show OwnD w1.heap.size (.slice q2 (xs.length + 1) d2) ((m.take (j + 1)).map (·.d)) w3 by rw [HNX.out]; exact ho2)
      have HB3 := Lib.hid ((HB1r.out.alloc HB1r.out.size _).trans hb3)
      clear ho2 hb3 hr2 hone
      go_wp2_with (at_builtin; refine wpList_append_run rfl _ _ 29 29 rfl (.slice xa xs.length xc) (.slice (some ⟨W.heap.size, 0, none⟩) 1 1) _ w3 rfl rfl hr2' ?_)
      go_wp2_with fail
      go_roundw
      case rel => exact ⟨j + 1, by omega, by go_num, HO3.out, HB3⟩
      case measure => simp [intOf]; omega
    · obtain rfl : j = m.length := by omega
      have hi1 : ¬ (m.length : Int) < (m.length : Int) := by omega
      rw [List.take_length] at HOW hml hxc
      rw [List.take_length]
      have HBz := Lib.hid (HB1.out.trans (HB.out.mono HB1.out.size))
      generalize m.map (·.d) = ds at *
      have HML := Lib.hid hml
      have hdl : ds.length ≤ 40 := by omega
      by_cases h0 : ds = []
      · have hz : True := trivial
        have hsd : sortD (l.map (·.d)) = [] := by
          refine List.eq_nil_iff_forall_not_mem.2 fun z hz => ?_
          have := (HM.out z).2 (mem_sortD.1 hz)
          rw [h0] at this; simp at this
        have HSD := Lib.hid hsd
        have hnil : Calls Tryz.prog 57 #[.slice xa 0 xc] wr fun e w' => e = .returned (.slice xa 0 xc) ∧ wr = w' := by
          clear HOW HBz HB HM HW HIN HB1
          go_enter Tryz.func57, Tryz.ntmps57
          go_wp2_with fail
          go_ret
          exact ⟨rfl, rfl⟩
        have HNI := Lib.hid hnil
        subst h0
        clear hnil HOW HM HW hsd hxc hml HML hdl hz
        simp only [List.length_nil] at *
        go_wp2_with fail
        refine HNI.out.mono ?_
        rintro e w4 ⟨rfl, rfl⟩
        go_wp2_with fail
        go_ret
        exact ⟨xa, xc, by rw [HSD.out]; rfl, .inl HSD.out, HBz.out⟩
      · obtain ⟨g, rfl⟩ : ∃ g, xa = some ⟨g, 0, none⟩ := by
          rcases HOW.out.2 with ⟨e, h1⟩ | ⟨g, c2, cur, e, -⟩
          · exact absurd (List.length_eq_zero_iff.1 h1) h0
          · injection e with e1 e2 e3; exact ⟨g, e1⟩
        obtain ⟨hdh, hBg⟩ := HOW.out.dh h0
        have hcc := compactDC ds g xc w1.heap.size wr hdh (by omega) hxc HW.out hBg
        have HC := Lib.hid hcc
        have HLO := Lib.hid (Nat.le_trans HB1.out.size hBg)
        clear HOW hdh hBg hcc h0 hxc hml HML hdl
        go_wp2_with fail
        refine HC.out.mono ?_
        rintro e w4 ⟨out, rfl, hkp, hdin, hb4⟩
        obtain rfl : out = sortD (l.map (·.d)) := hkp.all (Nat.le_refl _) HM.out
        have HF := Lib.hid (And.intro (show DFrom w4 w.heap.size (some ⟨g, 0, none⟩) (sortD (l.map (·.d))) from by
          rcases hdin with h | ⟨b, off, e, h1, h2⟩
          · exact .inl h
          · have e2 := Option.some.inj e
            injection e2 with e3 e4
            subst e3
            exact .inr ⟨_, off, e, HLO.out, h1, h2⟩) (HBz.out.trans (hb4.mono HB1.out.size)))
        clear hkp hdin hb4 HC
        go_wp2_with fail
        go_ret
        exact ⟨_, xc, rfl, HF.out.1, HF.out.2⟩
end Go.Proofs.YtchnklekeinhiaaGreat

namespace Go.Proofs.YtchnklekeinhiaaGreat
set_option linter.unusedSimpArgs false
set_option linter.unusedVariables false
set_option maxRecDepth 100000
open Go.RowKit Go.Sort

theorem lastV_small {l : List Ft} {v : ByteArray} (h : LastV l v) {n : Nat} (hv : ∀ f ∈ l, f.v.size ≤ n) : v.size ≤ n := by
  rcases lastV_top h with ⟨-, rfl⟩ | ⟨m, m1, rfl, -⟩
  · exact Nat.zero_le _
  · exact hv m m1
theorem lastQ (l : List Ft) (n : Nat) (hn : l.length = n) (a : Option Addr) (cap : Nat) (w : World) (h : FIn w a l) (hl : n ≤ 40) :
    Calls Tryz.prog 23 #[.slice a n cap] w fun e w' => ∃ v b, e = .returned (.tuple #[.string v, .bool b]) ∧ LastV l v ∧ Below w.heap.size w w' := by
  subst hn
  exact (lastC l a cap w h (by omega)).mono fun e w' ⟨r, he, ha, hb⟩ => ⟨r.1, r.2, he, ha.lastV, hb⟩
theorem elemQ (l : List Ft) (n : Nat) (hn : l.length = n) (a : Option Addr) (cap : Nat) (w : World) (h : FIn w a l) (hl : n ≤ 40) :
    Calls Tryz.prog 25 #[.slice a n cap] w fun e w' => ∃ b c out, e = .returned (.slice b (List.length out) c) ∧ XFrom w' w.heap.size b out ∧ ElemsR l out ∧ Below w.heap.size w w' := by
  subst hn
  refine (elemsCn l a cap w h (by omega)).mono ?_
  rintro e w' ⟨out, he, hrow, hel, hol, hb⟩
  refine ⟨_, _, out, he, ?_, hel, hb⟩
  rcases hrow with hr | ⟨b, off, e1, e2, e3⟩
  · exact .inl hr
  · have e4 := Option.some.inj e1
    injection e4 with e5 e6
    subst e5 e6
    exact .inr ⟨_, _, rfl, Nat.le_refl _, e2, e3⟩
theorem manQ (s : ByteArray) (hs : s.size ≤ 5000) (M : Man) (hM : (readM s).1 = M) (w : World) :
    Calls Tryz.prog 24 #[.string s] w fun e w' => ∃ a c, e = .returned (.agg #[.int .i64 M.size, .int .i64 M.chunk, .slice a M.ids.length c]) ∧ XFrom w' w.heap.size a M.ids ∧ Below w.heap.size w w' := by
  subst hM
  exact (manifestC s hs w).mono fun e w' ⟨a, c, he, hx, _, _, hb⟩ => ⟨a, c, he, hx, hb⟩
theorem dotsQ (l : List Ft) (n : Nat) (hn : l.length = n) (k : Int) (nm : ByteArray) (hk : ∀ f ∈ l, f.k = k ∧ f.n = nm) (D : List Dt) (hD : sortD (l.map (·.d)) = D) (a : Option Addr) (cap : Nat) (w : World) (hf : FIn w a l) (hl : n ≤ 40) :
    Calls Tryz.prog 27 #[.slice a n cap] w fun e w' => ∃ b c, e = .returned (.slice b D.length c) ∧ DFrom w' w.heap.size b D ∧ Go.RowKit.Below w.heap.size w w' := by
  subst hD
  exact dotsC l n hn k nm hk a cap w hf hl
theorem builtEn (r : ER) : Tryz.prog.built 31 [(0, .string r.e.n), (1, .agg #[.int .i64 r.e.m.size, .int .i64 r.e.m.chunk, .slice r.ia r.e.m.ids.length r.ic]), (2, .string r.e.lb), (3, .slice r.ta r.e.tg.length r.tc), (4, .slice r.ka r.e.kp.length r.kc), (5, .slice r.da r.e.ds.length r.dc)] = some (ecs r).toArray := by
  kernel_rfl
theorem yield_BEn {ops : Array Oper} {S : World → Prop} {o : Oper} {a : Act} (hw : Region.wanted o (yielded ops a.tmps) = true) (x0 x1 x2 x3 x4 x5 : Operand) (ho : o.op = .build 31 #[(0, x0), (1, x1), (2, x2), (3, x3), (4, x4), (5, x5)]) (r : ER)
    (h0 : a.eval x0 = .string r.e.n) (h1 : a.eval x1 = .agg #[.int .i64 r.e.m.size, .int .i64 r.e.m.chunk, .slice r.ia r.e.m.ids.length r.ic]) (h2 : a.eval x2 = .string r.e.lb) (h3 : a.eval x3 = .slice r.ta r.e.tg.length r.tc) (h4 : a.eval x4 = .slice r.ka r.e.kp.length r.kc) (h5 : a.eval x5 = .slice r.da r.e.ds.length r.dc) : YieldsIf Tryz.prog ops S o (.agg (ecs r).toArray) a := by
  refine .inl ⟨hw, fun w _ => ?_⟩
  have h := run_build (P := Tryz.prog) w 31 #[(0, .string r.e.n), (1, .agg #[.int .i64 r.e.m.size, .int .i64 r.e.m.chunk, .slice r.ia r.e.m.ids.length r.ic]), (2, .string r.e.lb), (3, .slice r.ta r.e.tg.length r.tc), (4, .slice r.ka r.e.kp.length r.kc), (5, .slice r.da r.e.ds.length r.dc)] _ (builtEn r)
  unfold execOp
  simp only [ho, List.map_toArray, List.map_cons, List.map_nil, h0, h1, h2, h3, h4, h5, Sem.run_bind, Sem.run_pure, Result.andThen_ok, h]

set_option maxHeartbeats 32000000 in
theorem viewEntryN (l : List Ft) (ln : Nat) (hln : l.length = ln) (a : Option Addr) (cap : Nat) (n : ByteArray) (w : World) (hf : FIn w a l) (hl : ln ≤ 40) (hv : ∀ f ∈ l, f.v.size ≤ 5000) :
    Calls Tryz.prog 7 #[.slice a ln cap, .string n] w fun v w' => (∃ r, v = .returned (.tuple #[.agg (ecs r).toArray, .int .i64 (entE l n)]) ∧ EnMem w' w.heap.size r ∧ EntA l n r.e) ∧ Go.RowKit.Below w.heap.size w w' := by
  subst hln
  have HOF := Lib.hid (fun W (h : Go.RowKit.Below w.heap.size w W) => ofC l 0 n a cap W (hf.below h) (by omega))
  have HK1 := Lib.hid (kindR_of 1 (by decide) n l)
  have HK2 := Lib.hid (kindR_of 2 (by decide) n l)
  have HK3 := Lib.hid (kindR_of 3 (by decide) n l)
  have HK4 := Lib.hid (kindR_of 4 (by decide) n l)
  have HLE := Lib.hid (fun k => Nat.le_trans (ofR_len k n l) hl)
  have HVV := Lib.hid (fun k f (h : f ∈ ofR k n l) => hv f (mem_ofR.1 h).1)
  have HDK := Lib.hid (show ∀ f ∈ ofR 1 n l, f.k = 1 ∧ f.n = n from fun f hf => ((mem_ofR' (by decide)).1 hf).2)
  have HB0 := Lib.hid (lowA w (.cells (ecs zER).toArray 31))
  have HZ0 := Lib.hid (show EBlk (w.alloc (.cells (ecs zER).toArray 31)) w.heap.size zER from Blk.new w 31 (ecs zER).toArray)
  have HS0 := Lib.hid (show (w.alloc (.cells (ecs zER).toArray 31)).heap.size = w.heap.size + 1 by simp)
  have HAN := Lib.hid (show ∀ e, EntR l n e → ofR 1 n l ≠ [] → EntA l n e from fun e h h0 => .inr ⟨h0, h⟩)
  have HAZ := Lib.hid (show ofR 1 n l = [] → EntA l n zEn from fun h0 => .inl ⟨h0, rfl⟩)
  have HEE := Lib.hid (show ofR 1 n l ≠ [] → entE l n = 0 from fun h0 => if_neg h0)
  have HEZ := Lib.hid (show ofR 1 n l = [] → entE l n = 7 from fun h0 => if_pos h0)
  clear hf hv
  generalize l.length = lc at *
  go_enter Tryz.func7, Tryz.ntmps7
  go_upto_region 1 with fail
  change Code.wp _ _ _ _ (w.alloc (.cells (ecs zER).toArray 31))
  generalize w.alloc (.cells (ecs zER).toArray 31) = W0 at *
  go_wp2_with fail
  refine (HOF.out W0 HB0.out).mono ?_
  rintro v w1 ⟨v1, rfl, hown, hb1⟩
  obtain ⟨oa, oc, rfl, hin, -⟩ := hown.fin
  have HKC := Lib.hid (byKindC (ofR 0 n l) oa oc w1 hin (by have := HLE.out 0; omega))
  have HB1 := Lib.hid (HB0.out.trans (hb1.mono HB0.out.size))
  have HZ1 := Lib.hid (HZ0.out.keep hb1)
  have HS1 := Lib.hid (show w.heap.size + 1 ≤ w1.heap.size by have h1 := hb1.size; have h2 := HS0.out; omega)
  have HOL := Lib.hid (HLE.out 0)
  clear hown hin hb1 HOF HB0 HZ0 HS0
  generalize (ofR 0 n l).length = oc0 at *
  go_wp2_with fail
  refine HKC.out.mono ?_
  rintro v w2 ⟨vs, rfl, hrows, hb2⟩
  have hr1 := hrows.at 1 (by decide) (by decide)
  have hr2 := hrows.at 2 (by decide) (by decide)
  have hr3 := hrows.at 3 (by decide) (by decide)
  have hr4 := hrows.at 4 (by decide) (by decide)
  simp only [Int.cast_ofNat_Int] at hr1 hr2 hr3 hr4
  rw [HK1.out] at hr1
  rw [HK2.out] at hr2
  rw [HK3.out] at hr3
  rw [HK4.out] at hr4
  have HB2 := Lib.hid (HB1.out.trans (hb2.mono HB1.out.size))
  have HZ2 := Lib.hid (HZ1.out.keep hb2)
  have HS2 := Lib.hid (show w.heap.size + 1 ≤ w2.heap.size by have h1 := hb2.size; have h2 := HS1.out; omega)
  have HON := Lib.hid hrows.one
  have HL1 := Lib.hid (HLE.out 1)
  have HL2 := Lib.hid (HLE.out 2)
  have HL3 := Lib.hid (HLE.out 3)
  have HL4 := Lib.hid (HLE.out 4)
  have HV1 := Lib.hid (HVV.out 1)
  have HV4 := Lib.hid (HVV.out 4)
  have HER := Lib.hid (show ∀ e : Ent, e.n = n → (∃ v, LastV (ofR 1 n l) v ∧ e.m = (readM v).1) → LastV (ofR 2 n l) e.lb → ElemsR (ofR 3 n l) e.tg → (∃ el, ElemsR (ofR 4 n l) el ∧ IsSort (numsV el) e.kp) → e.ds = sortD ((ofR 1 n l).map (·.d)) → EntR l n e from fun e h1 h2 h3 h4 h5 h6 => ⟨h1, h2, h3, h4, h5, h6⟩)
  clear hrows hb2 HKC HLE HVV HK1 HK2 HK3 HK4 HB1 HZ1
  obtain ⟨a1, c1, hv1, hf1⟩ := hr1
  obtain ⟨a2, c2, hv2, hf2⟩ := hr2
  obtain ⟨a3, c3, hv3, hf3⟩ := hr3
  obtain ⟨a4, c4, hv4, hf4⟩ := hr4
  have HF1 := Lib.hid hf1.fin
  have HF2 := Lib.hid hf2.fin
  have HF3 := Lib.hid hf3.fin
  have HF4 := Lib.hid hf4.fin
  clear hf1 hf2 hf3 hf4
  generalize ofR 1 n l = B1 at *
  generalize ofR 2 n l = B2 at *
  generalize ofR 3 n l = B3 at *
  generalize ofR 4 n l = B4 at *
  generalize hn1 : B1.length = n1 at *
  generalize hn2 : B2.length = n2 at *
  generalize hn3 : B3.length = n3 at *
  generalize hn4 : B4.length = n4 at *
  have HN1 := Lib.hid hn1
  have HN2 := Lib.hid hn2
  have HN3 := Lib.hid hn3
  have HN4 := Lib.hid hn4
  have HNE := Lib.hid (show n1 = 0 ↔ B1 = [] by rw [← hn1]; exact List.length_eq_zero_iff)
  clear hn1 hn2 hn3 hn4
  have KB := Lib.hid (show KBlk ((w2.alloc (.cells (k5 (fun _ => .slice none 0 0)) 57)).setRow w2.heap.size (k5 vs)) w2.heap.size vs from (Blk.new w2 57 (k5 (fun _ => .slice none 0 0))).put (k5 vs))
  have HBK := Lib.hid (belowRow' (lowA w2 (.cells (k5 (fun _ => .slice none 0 0)) 57)) (Nat.le_refl _) (k5 vs))
  go_upto_region 2 with (with_reducible refine bl_store ?_ 57 (.tmp 6) (.tmp 15) ?_ w2.heap.size (k5 vs) ?_ ?_ ?_ ?_ ?_ ?_
                         rfl; rfl; rfl; rfl; exact ⟨k5 (fun _ => .slice none 0 0), Blk.new w2 57 (k5 (fun _ => .slice none 0 0)), rfl⟩; exact infoK _; exact HON.out)
  change Code.wp _ _ _ _ ((w2.alloc (.cells (k5 (fun _ => .slice none 0 0)) 57)).setRow w2.heap.size (k5 vs))
  generalize (w2.alloc (.cells (k5 (fun _ => .slice none 0 0)) 57)).setRow w2.heap.size (k5 vs) = W3 at *
  have HB3 := Lib.hid (HB2.out.trans (HBK.out.mono HB2.out.size))
  have HZ3 := Lib.hid (HZ2.out.keep HBK.out)
  have HG1 := Lib.hid (HF1.out.below HBK.out)
  have HG2 := Lib.hid (HF2.out.below HBK.out)
  have HG3 := Lib.hid (HF3.out.below HBK.out)
  have HG4 := Lib.hid (HF4.out.below HBK.out)
  have hgb : w.heap.size + 1 ≤ w2.heap.size := HS2.out
  clear HF1 HF2 HF3 HF4 HBK HB2 HZ2 HS1 HS2
  generalize w2.heap.size = g at *
  have k1 : W3.cell? ⟨g, 1, none⟩ = some (.slice a1 n1 c1) := by rw [← hv1]; exact KB.out.cell (k5_at vs 1 (by decide))
  have k2 : W3.cell? ⟨g, 2, none⟩ = some (.slice a2 n2 c2) := by rw [← hv2]; exact KB.out.cell (k5_at vs 2 (by decide))
  clear HON
  by_cases h0 : n1 = 0
  · subst h0
    have hB1 : B1 = [] := HNE.out.1 rfl
    have HE7 := Lib.hid (HEZ.out hB1)
    have HAZ2 := Lib.hid (HAZ.out hB1)
    clear HEZ HAZ HEE HAN HNE hB1
    have HP := Lib.hid (Blk.put HZ3.out (ecs zER).toArray)
    have HBP := Lib.hid (belowRow' HB3.out (Nat.le_refl _) (ecs zER).toArray)
    go_wp2_with ((with_reducible refine bl_store ?_ 31 (.tmp 4) (.tmp 21) ?_ w.heap.size (ecs zER).toArray ?_ ?_ ?_ ?_ ?_ ?_); rfl; rfl; rfl; rfl; exact ⟨_, HZ3.out, rfl⟩; exact infoEn _; exact en_one _)
    refine bodyPost_ret (retEn rfl _ _ w.heap.size zER _ rfl rfl HP.out) rfl ?_
    exact ⟨⟨zER, by rw [HE7.out]; rfl, enMem_zero _ _, HAZ2.out⟩, HBP.out⟩
  · have HB1N := Lib.hid (show B1 ≠ [] from fun e => h0 (HNE.out.2 e))
    have hi0 : ((n1 : Int) == 0) = false := by rw [beq_eq_false_iff_ne]; omega
    have HE0 := Lib.hid (HEE.out HB1N.out)
    have HLQ := Lib.hid (lastQ B1 n1 HN1.out a1 c1 W3 HG1.out HL1.out)
    clear HEZ HAZ HEE HNE h0
    go_wp2_with fail
    refine HLQ.out.mono ?_
    rintro v w4 ⟨lv, lb1, rfl, hlv, hb4⟩
    have HLV := Lib.hid hlv
    have HB4 := Lib.hid hb4
    have k2 : w4.cell? ⟨g, 2, none⟩ = some (.slice a2 n2 c2) := by rw [hb4.cell (p := ⟨g, 2, none⟩) KB.out.lt]; exact k2
    have HLQ2 := Lib.hid (lastQ B2 n2 HN2.out a2 c2 w4 (HG2.out.below hb4) HL2.out)
    clear hlv hb4 HLQ
    go_wp2_with fail
    refine HLQ2.out.mono ?_
    rintro v w5 ⟨lbl, lb2, rfl, hlv, hb5⟩
    have HLB := Lib.hid hlv
    have HB5 := Lib.hid (HB4.out.trans (hb5.mono HB4.out.size))
    clear hlv hb5 HLQ2 HB4
    have HLS := Lib.hid (lastV_small HLV.out HV1.out)
    generalize hM : (readM lv).1 = M at *
    obtain ⟨mz, mch, mi⟩ := M
    have HMQ := Lib.hid (manQ lv HLS.out ⟨mz, mch, mi⟩ hM w5.drew)
    have HMV := Lib.hid hM
    have HKD := Lib.hid (KB.out.keep (HB5.out.trans ((Below.refl _ w5).drew.mono HB5.out.size)))
    have HBD := Lib.hid (HB5.out.trans ((Below.refl _ w5).drew.mono HB5.out.size))
    generalize hD : sortD (B1.map (·.d)) = D at *
    have HDD := Lib.hid hD
    have HEL := Lib.hid (fun U (h : Go.RowKit.Below W3.heap.size W3 U) => elemQ B3 n3 HN3.out a3 c3 U (HG3.out.below h) HL3.out)
    have HKE := Lib.hid (fun U (h : Go.RowKit.Below W3.heap.size W3 U) => keepsC B4 n4 HN4.out a4 c4 U (HG4.out.below h) HL4.out HV4.out)
    have HDO := Lib.hid (fun U (h : Go.RowKit.Below W3.heap.size W3 U) => dotsQ B1 n1 HN1.out 1 n HDK.out D hD a1 c1 U (HG1.out.below h) HL1.out)
    have hg3 : g < W3.heap.size := KB.out.lt
    clear hM hD HB5
    go_upto_region 7 with fail
    refine wp_region_held (S := (fun U => KBlk U g vs)) (by kernel_rfl) ?_
    change wpAnyH _ _ _ _ _ _ _ _ w5.drew
    have K0 : ((fun U => KBlk U g vs)) w5.drew := HKD.out
    refine wpAnyH_take (i := 0) (oi := { dst := some 33, op := _, type := _, pos := _, after := _, guard := _ }) (v := ?v1) rfl (by kernel_rfl) (by kernel_rfl) (by kernel_rfl) (fun _ _ _ h => h) (Or.inl ⟨by rfl, ?hy1⟩) K0 ?rest1
    case hy1 => (intro w hSw; (try dsimp only at hSw); first | (go_simp; done) | (go_simp; with_reducible rfl))
    try simp only [Act.put, List.setIfInBounds_toArray, List.set_cons_zero, List.set_cons_succ]
    refine wpAnyH_take (i := 1) (oi := { dst := some 34, op := _, type := _, pos := _, after := _, guard := _ }) (v := ?v2) rfl (by kernel_rfl) (by kernel_rfl) (by kernel_rfl) (fun _ _ _ h => h) (Or.inl ⟨by rfl, ?hy2⟩) K0 ?rest2
    case hy2 => (intro w hSw; (try dsimp only at hSw); first | (go_simp; done) | (go_simp; with_reducible rfl))
    try simp only [Act.put, List.setIfInBounds_toArray, List.set_cons_zero, List.set_cons_succ]
    refine wpAnyH_take (i := 3) (oi := { dst := some 36, op := _, type := _, pos := _, after := _, guard := _ }) (v := ?v3) rfl (by kernel_rfl) (by kernel_rfl) (by kernel_rfl) (fun _ _ _ h => h) (Or.inl ⟨by rfl, ?hy3⟩) K0 ?rest3
    case hy3 => (intro w hSw; (try dsimp only at hSw); first | (go_simp; done) | (go_simp; with_reducible rfl))
    try simp only [Act.put, List.setIfInBounds_toArray, List.set_cons_zero, List.set_cons_succ]
    refine wpAnyH_take (i := 4) (oi := { dst := some 37, op := _, type := _, pos := _, after := _, guard := _ }) (v := ?v4) rfl (by kernel_rfl) (by kernel_rfl) (by kernel_rfl) (fun _ _ _ h => h) (Or.inl ⟨by rfl, ?hy4⟩) K0 ?rest4
    case hy4 => (intro w hSw; (try dsimp only at hSw); first | (go_simp; done) | (go_simp; with_reducible rfl))
    try simp only [Act.put, List.setIfInBounds_toArray, List.set_cons_zero, List.set_cons_succ]
    refine wpAnyH_take (i := 5) (oi := { dst := some 38, op := _, type := _, pos := _, after := _, guard := _ }) rfl (by kernel_rfl) (by kernel_rfl) (by kernel_rfl) (fun _ _ _ h => h) (c_yield (by rfl) 22 (.tmp 37) rfl ⟨g, 3, none⟩ (.slice a3 n3 c3) rfl (fun U hU => run_loadS _ _ _ (by rw [← hv3]; exact Blk.cell hU (k5_at vs 3 (by decide))))) K0 ?_
    try simp only [Act.put, List.setIfInBounds_toArray, List.set_cons_zero, List.set_cons_succ]
    refine wpAnyH_take (i := 7) (oi := { dst := some 40, op := _, type := _, pos := _, after := _, guard := _ }) (v := ?v6) rfl (by kernel_rfl) (by kernel_rfl) (by kernel_rfl) (fun _ _ _ h => h) (Or.inl ⟨by rfl, ?hy6⟩) K0 ?rest6
    case hy6 => (intro w hSw; (try dsimp only at hSw); first | (go_simp; done) | (go_simp; with_reducible rfl))
    try simp only [Act.put, List.setIfInBounds_toArray, List.set_cons_zero, List.set_cons_succ]
    refine wpAnyH_take (i := 8) (oi := { dst := some 41, op := _, type := _, pos := _, after := _, guard := _ }) rfl (by kernel_rfl) (by kernel_rfl) (by kernel_rfl) (fun _ _ _ h => h) (c_yield (by rfl) 22 (.tmp 40) rfl ⟨g, 4, none⟩ (.slice a4 n4 c4) rfl (fun U hU => run_loadS _ _ _ (by rw [← hv4]; exact Blk.cell hU (k5_at vs 4 (by decide))))) K0 ?_
    try simp only [Act.put, List.setIfInBounds_toArray, List.set_cons_zero, List.set_cons_succ]
    refine wpAnyH_take (i := 10) (oi := { dst := some 43, op := _, type := _, pos := _, after := _, guard := _ }) (v := ?v8) rfl (by kernel_rfl) (by kernel_rfl) (by kernel_rfl) (fun _ _ _ h => h) (Or.inl ⟨by rfl, ?hy8⟩) K0 ?rest8
    case hy8 => (intro w hSw; (try dsimp only at hSw); first | (go_simp; done) | (go_simp; with_reducible rfl))
    try simp only [Act.put, List.setIfInBounds_toArray, List.set_cons_zero, List.set_cons_succ]
    refine wpAnyH_ready (rs := [2]) (by kernel_rfl) (by simp) ?_
    refine AllReadyH.cons (o := { dst := some 35, op := _, type := _, pos := _, after := _, guard := _ }) rfl (fun K hK => ?_) AllReadyH.nil
    go_simp
    refine HMQ.out.mono ?_
    rintro e w6 ⟨ia, ic, rfl, hx6, hb6⟩
    have K2 : ((fun U => KBlk U g vs)) w6 := Blk.keep K0 hb6
    have HX6 := Lib.hid (hx6.mono (show w.heap.size + 1 ≤ w5.drew.heap.size by have := HBD.out.size; omega))
    have HB6 := Lib.hid (HBD.out.trans (hb6.mono HBD.out.size))
    clear hx6 hb6 HMQ HBD
    refine hK.out _ _ K2 (fun _ => ?_)
    clear hK K
    try simp only [Act.put, List.setIfInBounds_toArray, List.set_cons_zero, List.set_cons_succ]
    refine wpAnyH_ready (rs := [6]) (by kernel_rfl) (by simp) ?_
    refine AllReadyH.cons (o := { dst := some 39, op := _, type := _, pos := _, after := _, guard := _ }) rfl (fun K hK => ?_) AllReadyH.nil
    go_simp
    refine (HEL.out w6 HB6.out).mono ?_
    rintro e w7 ⟨ta, tc, tg, rfl, hx7, hel, hb7⟩
    have K6 : ((fun U => KBlk U g vs)) w7 := Blk.keep K2 hb7
    have HX7 := Lib.hid (HX6.out.below hb7)
    have HT7 := Lib.hid (hx7.mono (show w.heap.size + 1 ≤ w6.heap.size by have := HB6.out.size; omega))
    have HTG := Lib.hid hel
    have HB7 := Lib.hid (HB6.out.trans (hb7.mono HB6.out.size))
    clear hx7 hel hb7 HEL HB6 HX6
    refine hK.out _ _ K6 (fun _ => ?_)
    clear hK K
    try simp only [Act.put, List.setIfInBounds_toArray, List.set_cons_zero, List.set_cons_succ]
    refine wpAnyH_ready (rs := [9]) (by kernel_rfl) (by simp) ?_
    refine AllReadyH.cons (o := { dst := some 42, op := _, type := _, pos := _, after := _, guard := _ }) rfl (fun K hK => ?_) AllReadyH.nil
    go_simp
    refine (HKE.out w7 HB7.out).mono ?_
    rintro e w8 ⟨ka, kc, kp, rfl, hkp, hff, hb8⟩
    have K9 : ((fun U => KBlk U g vs)) w8 := Blk.keep K6 hb8
    have HX8 := Lib.hid (HX7.out.below hb8)
    have HT8 := Lib.hid (HT7.out.below hb8)
    have HK8 := Lib.hid (hff.mono (show w.heap.size + 1 ≤ w7.heap.size by have := HB7.out.size; omega))
    have HKP := Lib.hid hkp
    have HB8 := Lib.hid (HB7.out.trans (hb8.mono HB7.out.size))
    clear hkp hff hb8 HKE HB7 HX7 HT7
    refine hK.out _ _ K9 (fun _ => ?_)
    clear hK K
    try simp only [Act.put, List.setIfInBounds_toArray, List.set_cons_zero, List.set_cons_succ]
    refine wpAnyH_ready (rs := [11]) (by kernel_rfl) (by simp) ?_
    refine AllReadyH.cons (o := { dst := some 44, op := _, type := _, pos := _, after := _, guard := _ }) rfl (fun K hK => ?_) AllReadyH.nil
    go_simp
    refine (HDO.out w8 HB8.out).mono ?_
    rintro e w9 ⟨da, dc, rfl, hdf, hb9⟩
    have K11 : ((fun U => KBlk U g vs)) w9 := Blk.keep K9 hb9
    have HMEM := Lib.hid (show EnMem w9 (w.heap.size + 1) ⟨⟨n, ⟨mz, mch, mi⟩, lbl, tg, kp, D⟩, ia, ic, ta, tc, ka, kc, da, dc⟩ from ⟨HX8.out.below hb9, HT8.out.below hb9, HK8.out.below hb9, hdf.mono (show w.heap.size + 1 ≤ w8.heap.size by have := HB8.out.size; omega)⟩)
    have HB9 := Lib.hid (HB8.out.trans (hb9.mono HB8.out.size))
    clear hdf hb9 HDO HB8 HX8 HT8 HK8
    have HZ9 := Lib.hid (HZ3.out.below HB9.out (by omega))
    refine hK.out _ _ K11 (fun _ => ?_)
    clear hK K
    try simp only [Act.put, List.setIfInBounds_toArray, List.set_cons_zero, List.set_cons_succ]
    refine wpAnyH_take (i := 12) (oi := { dst := some 45, op := _, type := _, pos := _, after := _, guard := _ }) rfl (by kernel_rfl) (by kernel_rfl) (by kernel_rfl) (fun _ _ _ h => h) (yield_BEn (by rfl) (.tmp 33) (.tmp 35) (.tmp 36) (.tmp 39) (.tmp 42) (.tmp 44) rfl ⟨⟨n, ⟨mz, mch, mi⟩, lbl, tg, kp, D⟩, ia, ic, ta, tc, ka, kc, da, dc⟩ rfl rfl rfl rfl rfl rfl) K11 ?_
    try simp only [Act.put, List.setIfInBounds_toArray, List.set_cons_zero, List.set_cons_succ]
    refine wpAnyH_ready (rs := [13]) (by kernel_rfl) (by simp) ?_
    refine AllReadyH.cons (o := { dst := none, op := _, type := _, pos := _, after := _, guard := _ }) rfl (fun K hK => ?_) AllReadyH.nil
    refine draw_storeB rfl 31 (.tmp 4) (.tmp 45) rfl w.heap.size (ecs ⟨⟨n, ⟨mz, mch, mi⟩, lbl, tg, kp, D⟩, ia, ic, ta, tc, ka, kc, da, dc⟩).toArray rfl rfl (infoEn _) (en_one _) ⟨_, HZ9.out, rfl⟩ ?_
    have K13 : ((fun U => KBlk U g vs)) (w9.setRow w.heap.size (ecs ⟨⟨n, ⟨mz, mch, mi⟩, lbl, tg, kp, D⟩, ia, ic, ta, tc, ka, kc, da, dc⟩).toArray) := Blk.other K11 (by omega) _
    refine hK.out _ _ K13 (fun _ => ?_)
    clear hK K
    try simp only [Act.put, List.setIfInBounds_toArray, List.set_cons_zero, List.set_cons_succ]
    refine wpAnyH_take (i := 14) (oi := { dst := some 5, op := _, type := _, pos := _, after := _, guard := _ }) (v := ?v10) rfl (by kernel_rfl) (by kernel_rfl) (by kernel_rfl) (fun _ _ _ h => h) (Or.inl ⟨by rfl, ?hy10⟩) K13 ?rest10
    case hy10 => (intro w hSw; (try dsimp only at hSw); first | (go_simp; done) | (go_simp; with_reducible rfl))
    try simp only [Act.put, List.setIfInBounds_toArray, List.set_cons_zero, List.set_cons_succ]
    refine wpAnyH_done (by kernel_rfl) ?_ _
    try simp only [Act.put, List.setIfInBounds_toArray, List.set_cons_zero, List.set_cons_succ]
    have HRE := Lib.hid (HER.out ⟨n, ⟨mz, mch, mi⟩, lbl, tg, kp, D⟩ rfl ⟨lv, HLV.out, HMV.out.symm⟩ HLB.out HTG.out HKP.out rfl)
    have HP := Lib.hid (Blk.put HZ9.out (ecs ⟨⟨n, ⟨mz, mch, mi⟩, lbl, tg, kp, D⟩, ia, ic, ta, tc, ka, kc, da, dc⟩).toArray)
    have HBP := Lib.hid (belowRow' (HB3.out.trans (HB9.out.mono HB3.out.size)) (Nat.le_refl _) (ecs ⟨⟨n, ⟨mz, mch, mi⟩, lbl, tg, kp, D⟩, ia, ic, ta, tc, ka, kc, da, dc⟩).toArray)
    have HME := Lib.hid ((HMEM.out.setRow (Nat.lt_succ_self w.heap.size) (ecs ⟨⟨n, ⟨mz, mch, mi⟩, lbl, tg, kp, D⟩, ia, ic, ta, tc, ka, kc, da, dc⟩).toArray).mono (Nat.le_succ w.heap.size))
    generalize w9.setRow w.heap.size (ecs ⟨⟨n, ⟨mz, mch, mi⟩, lbl, tg, kp, D⟩, ia, ic, ta, tc, ka, kc, da, dc⟩).toArray = W9 at *
    go_wp2_with fail
    refine bodyPost_ret (retEn rfl _ _ w.heap.size ⟨⟨n, ⟨mz, mch, mi⟩, lbl, tg, kp, D⟩, ia, ic, ta, tc, ka, kc, da, dc⟩ _ rfl rfl HP.out) rfl ?_
    exact ⟨⟨_, by rw [HE0.out]; rfl, HME.out, HAN.out _ HRE.out HB1N.out⟩, HBP.out⟩
end Go.Proofs.YtchnklekeinhiaaGreat
