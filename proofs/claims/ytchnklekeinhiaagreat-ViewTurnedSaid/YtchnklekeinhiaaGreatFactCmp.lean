/-
  slices.Compact of facts that stand in their order; Sort.
-/
import Derived.Test.YtchnklekeinhiaaGreatGV19
import Derived.Test.YtchnklekeinhiaaGreatGV23
import Derived.Deep.Cut
import Derived.Deep.DeepCutAuto
namespace Go.Proofs.YtchnklekeinhiaaGreat
set_option maxRecDepth 100000
open Go.RowKit Go.Shelf Go.Sort

theorem below_setCells {B : Nat} : ∀ (vs : List Value) (o : Nat) {a w : World} {g : Nat}, Below B a w → B ≤ g → Below B a (w.setCells g o vs)
  | [], _, _, _, _, h, _ => h
  | v :: r, o, a, w, g, h, hg => by
    rw [World.setCells]
    exact below_setCells r (o + 1) (h.setCell (p := ⟨g, o, none⟩) hg v) hg
theorem FH.below {w w' : World} {g : Nat} {l : List Ft} (h : FH w g l) (hb : Below w.heap.size w w') : FH w' g l := by
  have hc : ∀ o, w'.cell? ⟨g, o, none⟩ = w.cell? ⟨g, o, none⟩ := fun o => hb.cell (p := ⟨g, o, none⟩) h.lt
  refine ⟨Nat.lt_of_lt_of_le h.lt hb.size, fun j f hj => range_below (h.at' j f hj) hb h.lt, fun j hj => ⟨by rw [hc]; exact (h.free j hj).1, ?_⟩⟩
  have := (h.free j hj).2
  unfold World.frozen? at *
  rw [hb.block _ h.lt]
  exact this
theorem FH.there {w : World} {g : Nat} {l : List Ft} (h : FH w g l) (k n : Nat) (hn : k * 8 + n ≤ l.length * 8) : w.there g (k * 8) n := fun j hj => by
  have := h.free (k * 8 + j) (by omega)
  rwa [Nat.zero_add] at this
theorem size_setC (b : Nat) (vs : List Value) (o : Nat) (w : World) : (w.setCells b o vs).heap.size = w.heap.size := size_setCells b vs o w
theorem FH.set {w : World} {g : Nat} {l : List Ft} (h : FH w g l) {k : Nat} (hk : k < l.length) (f : Ft) : FH (w.setCells g (k * 8) (fcs f)) g (l.set k f) := by
  refine ⟨by rw [size_setC]; exact h.lt, fun j x hj => ?_, ?_⟩
  · by_cases e : j = k
    · subst e
      rw [List.getElem?_set_self hk] at hj
      obtain rfl := Option.some.inj hj
      exact World.rangeAt_setCells_same _ _ _ _ (h.there j _ (by rw [fcs_len]; omega))
    · rw [List.getElem?_set_ne (fun e2 => e e2.symm)] at hj
      exact World.rangeAt_setCells_apart (h.at' j x hj) _ _ _ (.inr (by rw [fcs_len, fcs_len]; omega))
  · rw [List.length_set]
    exact World.there_setCells h.free _ _ _
theorem FH.fin {w : World} {g : Nat} {l : List Ft} (h : FH w g l) (q : Nat) : FIn w (some ⟨g, 0, none⟩) (l.take q) :=
  .inr ⟨g, 0, rfl, h.lt, fun j f hj => by
    rw [List.getElem?_take] at hj
    split at hj
    · rw [Nat.zero_add]; exact h.at' j f hj
    · cases hj⟩

theorem zeros_len (n : Nat) : (Builtin.zeroCells zcs n).toList.length = n * 8 := by
  rw [Array.length_toList, size_zeroCells]; rfl
theorem zeros_one (n : Nat) : ∀ v ∈ (Builtin.zeroCells zcs n).toList, v.oneCell' = true := by
  intro v hv
  simp only [Builtin.zeroCells, Array.toList_map, List.mem_map] at hv
  obtain ⟨i, _, rfl⟩ := hv
  have h : i % zcs.size < 8 := Nat.mod_lt _ (by decide)
  have hz : ∀ j, j < 8 → (zcs.getD j default).oneCell' = true := by decide
  simpa using hz _ h
theorem run_clearF (w : World) (ty : TypeId) (g o n cap : Nat) (hn : 0 < n) (ht : w.there g o (n * 8)) :
    (Builtin.clear_ #[22] ty #[.slice (some ⟨g, o, none⟩) n cap]).run Tryz.prog w = .ok (.tuple #[]) (w.setCells g o (Builtin.zeroCells zcs n).toList) := by
  obtain ⟨i0, hi, hz0, hz1, hz2⟩ := info_parts factInfo
  have hst := run_storeCells_cells (P := Tryz.prog) g o (Builtin.zeroCells zcs n).toList 0 w (fun j hj => by rw [zeros_len] at hj; exact (ht j hj).1) (fun j hj => by rw [zeros_len] at hj; exact (ht j hj).2) (zeros_one n)
  simp only [Nat.add_zero] at hst
  obtain ⟨m, rfl⟩ : ∃ m, n = m + 1 := ⟨n - 1, by omega⟩
  have hc : zeroF.cells = zcs := rfl
  simp [Builtin.clear_, run_underlying (P := Tryz.prog) Tryz.underlying22, zeroValue, typeInfo, hi, hz0, hc, hst]

/-- a fact stored at its place -/
theorem fm_store {ops : Array Oper} {rest : List Oper} {o : Oper} {a : Act} {w : World} {Q : Exit → Act → World → Prop} (hgd : o.guard = none) (x y : Operand) (ho : o.op = .store 48 x y) (g off : Nat) (f : Ft)
    (hx : a.eval x = .pointer (some ⟨g, off, none⟩)) (hy : a.eval y = .agg (fcs f).toArray) (ht : w.there g off 8)
    (h : wpList Tryz.prog ops Q rest (a.put o.dst undef) (w.setCells g off (fcs f))) : wpList Tryz.prog ops Q (o :: rest) a w :=
  wpList_store_mid hgd 48 x y ho g off (fcs f).toArray hx hy ht factSize (by simp [fcs, Value.oneCell']) h

theorem take_set_succ {t : List Ft} {q : Nat} (hq : q < t.length) (x : Ft) : (t.set q x).take (q + 1) = t.take q ++ [x] := by
  rw [List.take_succ_eq_append_getElem (by rw [List.length_set]; exact hq), List.getElem_set_self, List.take_set_of_le (Nat.le_refl q)]
theorem kept_one {s : List Ft} (hs : s.Pairwise (fun a b => ltF b a = false)) (h : s.length < 2) : KeptF s s.length s := by
  match s, h with
  | [], _ => exact KeptF.start _
  | [x], _ => exact (KeptF.start [x]).more hs (by simp) (fun j hj => by omega)

/-- where Compact stands behind the first that stands twice -/
structure Cm (s : List Ft) (g : Nat) (c q : Nat) (t : List Ft) (w : World) : Prop where
  kept : KeptF s c (t.take q)
  len : t.length = s.length
  rest : ∀ j, c ≤ j + 1 → t[j]? = s[j]?
  fh : FH w g t

set_option maxHeartbeats 8000000 in
theorem compactFC (s : List Ft) (g cap B : Nat) (w : World) (hH : FH w g s) (hl : s.length ≤ 65536) (hcap : s.length ≤ cap) (hs : s.Pairwise (fun a b => ltF b a = false)) (hB : B ≤ g) :
    Calls Tryz.prog 71 #[.slice (some ⟨g, 0, none⟩) s.length cap] w fun e w' => ∃ out : List Ft, e = .returned (.slice (some ⟨g, 0, none⟩) out.length cap) ∧ KeptF s s.length out ∧ FIn w' (some ⟨g, 0, none⟩) out ∧ Below B w w' := by
  have hBw : B ≤ w.heap.size := by have := hH.lt; omega
  by_cases h2 : s.length < 2
  · have hf := hH.fin s.length
    rw [List.take_length] at hf
    have HK := Lib.hid (And.intro (kept_one hs h2) hf)
    have hi2 : decide ((s.length : Int) < 2) = true := by simp; omega
    clear hs hH h2 hf
    go_enter Tryz.func71, Tryz.ntmps71
    go_wp2_with fail
    go_ret
    exact ⟨s, rfl, HK.out.1, HK.out.2, Below.refl _ _⟩
  · have hi2 : decide ((s.length : Int) < 2) = false := by simp; omega
    have HS := Lib.hid hs
    have HH := Lib.hid hH
    have k0 : KeptF s 1 (s.take 1) := by
      have h0 : 0 < s.length := by omega
      have := (KeptF.start s).more hs h0 (fun j hj => by omega)
      rwa [show [] ++ [s[0]] = s.take 1 from by rw [List.take_succ_eq_append_getElem h0]; rfl] at this
    have K0 := Lib.hid k0
    clear hs hH k0
    go_enter Tryz.func71, Tryz.ntmps71
    go_wp2_with fail
    go_loopw [3] (fun i wr => ∃ m : Nat, i = .int .i64 ((m : Int) + 1) ∧ m + 1 ≤ s.length ∧ Hid (KeptF s (m + 1) (s.take (m + 1))) ∧ Hid (FH wr g s) ∧ Hid (Below B w wr)) (fun i _ => s.length + 1 - (intOf i).toNat)
    case atStart => exact ⟨0, by simp, by omega, K0, HH, Lib.hid (Below.refl _ _)⟩
    case round =>
      clear K0 HH hi2
      obtain ⟨m, rfl, hm, HK, HH, HB⟩ := hrel
      have hgl := HH.out.lt
      by_cases hlt : m + 1 < s.length
      · obtain ⟨x, hx⟩ : ∃ x, s[m + 1]? = some x := ⟨_, List.getElem?_eq_getElem hlt⟩
        obtain ⟨y, hy⟩ : ∃ y, s[m]? = some y := ⟨_, List.getElem?_eq_getElem (by omega)⟩
        have hxe : s[m + 1] = x := by rw [List.getElem?_eq_getElem hlt] at hx; exact Option.some.inj hx
        have hye : s[m]'(by omega) = y := by rw [List.getElem?_eq_getElem (by omega)] at hy; exact Option.some.inj hy
        have HXE := Lib.hid hxe
        have HYE := Lib.hid hye
        have HRX := Lib.hid (range_regrown (HH.out.at' (m + 1) x hx) hgl)
        have HRY := Lib.hid (range_regrown (HH.out.at' m y hy) hgl)
        have hi0 : (0 : Int) ≤ (m : Int) := by omega
        have hi1 : (m : Int) < (s.length : Int) := by omega
        have hi2 : (m : Int) + 1 < (s.length : Int) := by omega
        have hi3 : IntKind.i64.wrap (m : Int) = m := by simp [IntKind.wrap, IntKind.bits, IntKind.signed]; omega
        have hi4 : (0 : Int) ≤ (m : Int) + 1 := by omega
        clear hx hy hxe hye
        by_cases he : x = y
        case neg =>
          have hq := fun W => eqlF x y W
          rw [decide_eq_false he] at hq
          have hk2 : KeptF s (m + 1 + 1) (s.take (m + 1 + 1)) := by
            have := HK.out.more HS.out hlt (fun j hj => by
              obtain rfl : j = m := by omega
              rw [HXE.out, HYE.out]; exact he)
            rwa [← List.take_succ_eq_append_getElem hlt] at this
          have HK2 := Lib.hid hk2
          clear hk2 he HK
          go_upto_region 6 with fail
          refine wp_region_quiet_below (by kernel_rfl) (by kernel_rfl) ?_
          repeat (first
            | ((with_reducible refine fq_load ?_ (.tmp 18) ?_ g ((m + 1) * 8) x ?_ ?_ ?_); rfl; rfl; rfl; exact HRX.out; simp only [Act.put, List.setIfInBounds_toArray, List.set_cons_zero, List.set_cons_succ])
            | ((with_reducible refine fq_load ?_ (.tmp 23) ?_ g (m * 8) y ?_ ?_ ?_); rfl; rfl; rfl; exact HRY.out; simp only [Act.put, List.setIfInBounds_toArray, List.set_cons_zero, List.set_cons_succ])
            | go_big_quiet_step (fail) | quiet_step (fail))
          refine wpQuiet_nil ?_
          intro _ hw'
          obtain ⟨⟨dq, osq⟩, hw''⟩ := hw'
          subst hw''
          have hb9 := below_regrown wr dq osq
          have HB9 := Lib.hid (HB.out.trans (hb9.mono (by omega)))
          have HH9 := Lib.hid (HH.out.below hb9)
          clear hb9 HRX HRY hq HB HH
          generalize grow (redrawn wr dq) osq = W at *
          go_wp2_with fail
          go_roundw
          case rel => exact ⟨m + 1, by go_num, by omega, HK2, HH9, HB9⟩
          case measure => simp [intOf]; omega
        case pos =>
          have hq := fun W => eqlF x y W
          rw [decide_eq_true he] at hq
          have hk2 : KeptF s (m + 1 + 1) (s.take (m + 1)) := HK.out.same hlt (by rw [HXE.out, HYE.out, he])
          have HK2 := Lib.hid hk2
          clear hk2 he HK
          go_upto_region 6 with fail
          refine wp_region_quiet_below (by kernel_rfl) (by kernel_rfl) ?_
          repeat (first
            | ((with_reducible refine fq_load ?_ (.tmp 18) ?_ g ((m + 1) * 8) x ?_ ?_ ?_); rfl; rfl; rfl; exact HRX.out; simp only [Act.put, List.setIfInBounds_toArray, List.set_cons_zero, List.set_cons_succ])
            | ((with_reducible refine fq_load ?_ (.tmp 23) ?_ g (m * 8) y ?_ ?_ ?_); rfl; rfl; rfl; exact HRY.out; simp only [Act.put, List.setIfInBounds_toArray, List.set_cons_zero, List.set_cons_succ])
            | go_big_quiet_step (fail) | quiet_step (fail))
          refine wpQuiet_nil ?_
          intro _ hw'
          obtain ⟨⟨dq, osq⟩, hw''⟩ := hw'
          subst hw''
          have hb9 := below_regrown wr dq osq
          have HB9 := Lib.hid (HB.out.trans (hb9.mono (by omega)))
          have HH9 := Lib.hid (HH.out.below hb9)
          clear hb9 HRX HRY hq HB HH HXE HYE
          generalize grow (redrawn wr dq) osq = W at *
          have hic : (s.length : Int) ≤ (cap : Int) := by omega
          have hid1 : (m : Int) + 1 ≤ (s.length : Int) := by omega
          have HM0 := Lib.hid (show Cm s g (m + 1 + 1) (m + 1) s W from ⟨HK2.out, rfl, fun _ _ => rfl, HH9.out⟩)
          clear HK2 HH9
          go_wp2_with fail
          go_loopw [3, 5] (fun a b wk => ∃ (q p : Nat) (t : List Ft), a = .int .i64 (q : Int) ∧ b = .int .i64 ((p : Int) + 1) ∧ m + 1 + p + 1 ≤ s.length ∧ q ≤ m + 1 + p ∧ Hid (Cm s g (m + 1 + p + 1) q t wk) ∧ Hid (Below B w wk)) (fun _ b _ => s.length + 1 - (intOf b).toNat)
          case atStart => exact ⟨m + 1, 0, s, by simp, by simp, by omega, by omega, HM0, HB9⟩
          case round =>
            clear HM0 HB9 hi0 hi1 hi2 hi3 hi4
            obtain ⟨q, p, t, rfl, rfl, hp, hqp, HM, HB⟩ := hrel
            have hgk := HM.out.fh.lt
            by_cases hlt2 : m + 1 + (p + 1) < s.length
            · obtain ⟨u, hu⟩ : ∃ x, s[m + 1 + p + 1]? = some x := ⟨_, List.getElem?_eq_getElem (by omega)⟩
              obtain ⟨v, hv⟩ : ∃ x, s[m + 1 + p]? = some x := ⟨_, List.getElem?_eq_getElem (by omega)⟩
              have hue : s[m + 1 + p + 1]'(by omega) = u := by rw [List.getElem?_eq_getElem (by omega)] at hu; exact Option.some.inj hu
              have hve : s[m + 1 + p]'(by omega) = v := by rw [List.getElem?_eq_getElem (by omega)] at hv; exact Option.some.inj hv
              have hru := HM.out.fh.at' (m + 1 + p + 1) u (by rw [HM.out.rest _ (by omega)]; exact hu)
              have hrv := HM.out.fh.at' (m + 1 + p) v (by rw [HM.out.rest _ (by omega)]; exact hv)
              rw [show (m + 1 + p + 1) * 8 = (m + 1) * 8 + (p + 1) * 8 by omega] at hru
              rw [show (m + 1 + p) * 8 = (m + 1) * 8 + p * 8 by omega] at hrv
              have HRX := Lib.hid (range_regrown hru hgk)
              have HRY := Lib.hid (range_regrown hrv hgk)
              have HUE := Lib.hid hue
              have HVE := Lib.hid hve
              have HU := Lib.hid hu
              have j0 : (0 : Int) ≤ (p : Int) := by omega
              have j1 : (p : Int) < ((s.length - (m + 1) : Nat) : Int) := by omega
              have j2 : (p : Int) + 1 < ((s.length - (m + 1) : Nat) : Int) := by omega
              have j3 : IntKind.i64.wrap (p : Int) = p := by simp [IntKind.wrap, IntKind.bits, IntKind.signed]; omega
              have j4 : (0 : Int) ≤ (p : Int) + 1 := by omega
              have j5 : (0 : Int) ≤ (q : Int) := by omega
              have j6 : (q : Int) < (s.length : Int) := by omega
              clear hu hv hue hve hru hrv
              by_cases he : u = v
              case pos =>
                have hq := fun W => neqF u v W
                rw [decide_eq_true he] at hq
                have hk2 : KeptF s (m + 1 + p + 1 + 1) (t.take q) := HM.out.kept.same (by omega) (by rw [HUE.out, HVE.out, he])
                have HK2 := Lib.hid hk2
                clear hk2 he
                go_upto_region 11 with fail
                refine wp_region_quiet_below (by kernel_rfl) (by kernel_rfl) ?_
                repeat (first
                  | ((with_reducible refine fq_load ?_ (.tmp 37) ?_ g ((m + 1) * 8 + (p + 1) * 8) u ?_ ?_ ?_); rfl; rfl; rfl; exact HRX.out; simp only [Act.put, List.setIfInBounds_toArray, List.set_cons_zero, List.set_cons_succ])
                  | ((with_reducible refine fq_load ?_ (.tmp 42) ?_ g ((m + 1) * 8 + p * 8) v ?_ ?_ ?_); rfl; rfl; rfl; exact HRY.out; simp only [Act.put, List.setIfInBounds_toArray, List.set_cons_zero, List.set_cons_succ])
                  | go_big_quiet_step (fail) | quiet_step (fail))
                refine wpQuiet_nil ?_
                intro _ hw'
                obtain ⟨⟨dq, osq⟩, hw''⟩ := hw'
                subst hw''
                have hb9 := below_regrown wr dq osq
                have HB9 := Lib.hid (HB.out.trans (hb9.mono (by omega)))
                have HM9 := Lib.hid (show Cm s g (m + 1 + (p + 1) + 1) q t (grow (redrawn wr dq) osq) from ⟨HK2.out, HM.out.len, fun j hj => HM.out.rest j (by omega), HM.out.fh.below hb9⟩)
                clear hb9 HRX HRY hq HB HM
                generalize grow (redrawn wr dq) osq = W2 at *
                go_wp2_with fail
                go_roundw
                case rel => exact ⟨q, p + 1, t, rfl, by go_num, by omega, by omega, HM9, HB9⟩
                case measure => simp [intOf]; omega
              case neg =>
                have hq := fun W => neqF u v W
                rw [decide_eq_false he] at hq
                have hk2 : KeptF s (m + 1 + p + 1 + 1) (t.take q ++ [u]) := by
                  have := HM.out.kept.more HS.out (show m + 1 + p + 1 < s.length by omega) (fun j hj => by
                    obtain rfl : j = m + 1 + p := by omega
                    rw [HUE.out, HVE.out]; exact he)
                  rwa [HUE.out] at this
                have HK2 := Lib.hid hk2
                have HRU := Lib.hid (HRX.out)
                clear hk2 he
                go_upto_region 11 with fail
                refine wp_region_quiet_below (by kernel_rfl) (by kernel_rfl) ?_
                repeat (first
                  | ((with_reducible refine fq_load ?_ (.tmp 37) ?_ g ((m + 1) * 8 + (p + 1) * 8) u ?_ ?_ ?_); rfl; rfl; rfl; exact HRX.out; simp only [Act.put, List.setIfInBounds_toArray, List.set_cons_zero, List.set_cons_succ])
                  | ((with_reducible refine fq_load ?_ (.tmp 42) ?_ g ((m + 1) * 8 + p * 8) v ?_ ?_ ?_); rfl; rfl; rfl; exact HRY.out; simp only [Act.put, List.setIfInBounds_toArray, List.set_cons_zero, List.set_cons_succ])
                  | go_big_quiet_step (fail) | quiet_step (fail))
                refine wpQuiet_nil ?_
                intro _ hw'
                obtain ⟨⟨dq, osq⟩, hw''⟩ := hw'
                subst hw''
                have hb9 := below_regrown wr dq osq
                have HB9 := Lib.hid (HB.out.trans (hb9.mono (by omega)))
                have hfh := HM.out.fh.below hb9
                have hql : q < t.length := by rw [HM.out.len]; omega
                have HLU := Lib.hid (HRU.out _ ⟨⟨dq, osq⟩, rfl⟩)
                have HTH := Lib.hid (hfh.there q 8 (by omega))
                have HM9 := Lib.hid (show Cm s g (m + 1 + (p + 1) + 1) (q + 1) (t.set q u) ((grow (redrawn wr dq) osq).setCells g (q * 8) (fcs u)) from
                  ⟨by rw [take_set_succ hql]; exact HK2.out, by rw [List.length_set]; exact HM.out.len, fun j hj => by rw [List.getElem?_set_ne (by omega)]; exact HM.out.rest j (by omega), hfh.set hql u⟩)
                have HBS := Lib.hid (below_setCells (fcs u) (q * 8) HB9.out hB)
                clear hb9 HRX HRY HRU hq HB HM hfh hql HK2 HB9
                generalize grow (redrawn wr dq) osq = W2 at *
                go_wp2_with (first
                  | ((with_reducible refine fl_load ?_ (.tmp 49) ?_ g ((m + 1) * 8 + (p + 1) * 8) u ?_ ?_ ?_); rfl; rfl; rfl; exact HLU.out)
                  | ((with_reducible refine fm_store ?_ (.tmp 51) (.tmp 50) ?_ g (q * 8) u ?_ ?_ ?_ ?_); rfl; rfl; rfl; rfl; exact HTH.out))
                generalize W2.setCells g (q * 8) (fcs u) = W3 at *
                go_wp2_with fail
                go_roundw
                case rel => exact ⟨q + 1, p + 1, t.set q u, by go_num, by go_num, by omega, by omega, HM9, HBS⟩
                case measure => simp [intOf]; omega
            · have hcn : m + 1 + p + 1 = s.length := by omega
              have hq1 : q < s.length := by omega
              have j1 : ¬ (p : Int) + 1 < ((s.length - (m + 1) : Nat) : Int) := by omega
              have j5 : (0 : Int) ≤ (q : Int) := by omega
              have j6 : (q : Int) ≤ (s.length : Int) := by omega
              have j7 : (q : Int) ≤ (cap : Int) := by omega
              have hth := HM.out.fh.there q ((s.length - q) * 8) (by rw [HM.out.len]; omega)
              have hcl := run_clearF wr 0 g (q * 8) (s.length - q) (cap - q) (by omega) hth
              have hkp := HM.out.kept
              rw [hcn] at hkp
              have htl : (t.take q).length = q := by rw [List.length_take, HM.out.len]; omega
              have hfi : FIn (wr.setCells g (q * 8) (Builtin.zeroCells zcs (s.length - q)).toList) (some ⟨g, 0, none⟩) (t.take q) :=
                .inr ⟨g, 0, rfl, by rw [size_setC]; exact hgk, fun j f hj => by
                  rw [List.getElem?_take] at hj
                  split at hj
                  · rename_i hjq
                    rw [Nat.zero_add]
                    exact World.rangeAt_setCells_apart (HM.out.fh.at' j f hj) _ _ _ (.inr (.inl (by rw [fcs_len]; omega)))
                  · cases hj⟩
              have HF := Lib.hid (And.intro hkp (And.intro hfi (below_setCells (Builtin.zeroCells zcs (s.length - q)).toList (q * 8) HB.out hB)))
              have HTL := Lib.hid htl
              clear hth hkp htl hfi
              generalize wr.setCells g (q * 8) (Builtin.zeroCells zcs (s.length - q)).toList = W4 at *
              go_wp2_with fail
              go_ret
              exact ⟨t.take q, by rw [HTL.out]; rfl, HF.out.1, HF.out.2.1, HF.out.2.2⟩
      · have hf := HH.out.fin s.length
        rw [List.take_length] at hf
        have hk : KeptF s s.length s := by
          have := HK.out
          rw [show m + 1 = s.length by omega, List.take_length] at this
          exact this
        have HF := Lib.hid (And.intro hk hf)
        have hi5 : ¬ (m : Int) + 1 < (s.length : Int) := by omega
        clear hf hk
        go_wp2_with fail
        go_ret
        exact ⟨s, rfl, HF.out.1, HF.out.2, HB.out⟩

set_option maxHeartbeats 1000000 in
/-- Sort, the program's -/
theorem sortFCn (l : List Ft) (a : Option Addr) (cap : Nat) (w : World) (h : FIn w a l) (hl : l.length ≤ 65536) :
    Calls Tryz.prog 35 #[.slice a l.length cap] w fun e w' => ∃ a' cap', e = .returned (.slice a' (sortF l).length cap') ∧ FFrom w' w.heap.size a' (sortF l) ∧ Below w.heap.size w w' := by
  have H := Lib.hid h
  clear h
  go_enter Tryz.func35, Tryz.ntmps35
  go_wp2_with fail
  refine (cloneF l a cap w H.out hl).mono ?_
  rintro e w1 ⟨v1, rfl, hown1, hb1⟩
  have hs1 := hb1.size
  have HO1 := Lib.hid hown1
  have HB1 := Lib.hid hb1
  clear hown1 hb1
  go_wp2_with fail
  refine (sortCallF l v1 w.heap.size w1 hl HO1.out hs1).mono ?_
  rintro e w2 ⟨rfl, h⟩
  rcases h with ⟨rfl, rfl, rfl⟩ | ⟨s, g, sc, rfl, hsc, hBg, hsl, hperm, hsort, hfh, hb2⟩
  · have hnil : Calls Tryz.prog 71 #[.slice none 0 0] w2 fun e w' => e = .returned (.slice none 0 0) ∧ w2 = w' := by
      clear HO1 HB1 H
      go_enter Tryz.func71, Tryz.ntmps71
      go_wp2_with fail
      go_ret
      exact ⟨rfl, rfl⟩
    clear HO1 H
    go_wp2_with fail
    refine hnil.mono ?_
    rintro e w3 ⟨rfl, rfl⟩
    go_wp2_with fail
    go_ret
    exact ⟨none, 0, rfl, .inl rfl, HB1.out⟩
  · have hc := compactFC s g sc w.heap.size w2 hfh (by omega) hsc hsort hBg
    have HP := Lib.hid hperm
    have HB2 := Lib.hid (HB1.out.trans hb2)
    have HC := Lib.hid hc
    clear hc hperm hfh hb2 HB1 HO1 H hsort hsl
    go_wp2_with fail
    refine HC.out.mono ?_
    rintro e w3 ⟨out, rfl, hk, hin, hb3⟩
    obtain rfl : out = sortF l := hk.all (Nat.le_refl _) (fun z => HP.out.mem_iff)
    have HF := Lib.hid (And.intro (FFrom.of hin hBg) (HB2.out.trans hb3))
    clear hk hin hb3
    go_wp2_with fail
    go_ret
    exact ⟨_, sc, rfl, HF.out.1, HF.out.2⟩
end Go.Proofs.YtchnklekeinhiaaGreat
