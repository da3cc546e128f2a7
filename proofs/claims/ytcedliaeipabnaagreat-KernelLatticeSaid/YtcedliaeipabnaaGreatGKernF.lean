/-
  slices.Compact of facts that stand in their order; Sort.
  Numbers' bytes, one behind the other; nothing of the program.
  Vectors as lists of sixteen numbers: whether they may be, the greater and the smaller ones, which is less, their bytes.
-/
import Derived.Test.YtcedliaeipabnaaGreatGKernE
import Derived.Deep.Cut
import Derived.Deep.DeepCutAuto
import Derived.Test.YtcedliaeipabnaaGreatGKernB
namespace Go.Proofs.YtcedliaeipabnaaGreat
set_option maxRecDepth 100000
open Go.RowKit Go.Shelf Go.Sort

theorem below_setCells {B : Nat} : ∀ (vs : List Value) (o : Nat) {a w : World} {g : Nat}, Below B a w → B ≤ g → Below B a (w.setCells g o vs)
  | [], _, _, _, _, h, _ => h
  | v :: r, o, a, w, g, h, hg => by
    rw [World.setCells]
    exact below_setCells r (o + 1) (h.setCell (p := ⟨g, o, none⟩) hg v) hg
theorem FH.below {w w' : World} {g : Nat} {l : List Ft} (h : FH w g l) (hb : Below w.heap.size w w') : FH w' g l := by
  have hc : ∀ o, w'.cell? ⟨g, o, none⟩ = w.cell? ⟨g, o, none⟩ := fun o => hb.cell (p := ⟨g, o, none⟩) h.lt
  refine ⟨Nat.lt_of_lt_of_le h.lt hb.size, fun j f hj => range_below (h.at' j f hj) hb h.lt, fun j hj => ⟨by rw [hc]; exact (h.free j hj).1, ?_⟩⟩
  have := (h.free j hj).2
  unfold World.frozen? at *
  rw [hb.block _ h.lt]
  exact this
theorem FH.there {w : World} {g : Nat} {l : List Ft} (h : FH w g l) (k n : Nat) (hn : k * 8 + n ≤ l.length * 8) : w.there g (k * 8) n := fun j hj => by
  have := h.free (k * 8 + j) (by omega)
  rwa [Nat.zero_add] at this
theorem size_setC (b : Nat) (vs : List Value) (o : Nat) (w : World) : (w.setCells b o vs).heap.size = w.heap.size := size_setCells b vs o w
theorem FH.set {w : World} {g : Nat} {l : List Ft} (h : FH w g l) {k : Nat} (hk : k < l.length) (f : Ft) : FH (w.setCells g (k * 8) (fcs f)) g (l.set k f) := by
  refine ⟨by rw [size_setC]; exact h.lt, fun j x hj => ?_, ?_⟩
  · by_cases e : j = k
    · subst e
      rw [List.getElem?_set_self hk] at hj
      obtain rfl := Option.some.inj hj
      exact World.rangeAt_setCells_same _ _ _ _ (h.there j _ (by rw [fcs_len]; omega))
    · rw [List.getElem?_set_ne (fun e2 => e e2.symm)] at hj
      exact World.rangeAt_setCells_apart (h.at' j x hj) _ _ _ (.inr (by rw [fcs_len, fcs_len]; omega))
  · rw [List.length_set]
    exact World.there_setCells h.free _ _ _
theorem FH.fin {w : World} {g : Nat} {l : List Ft} (h : FH w g l) (q : Nat) : FIn w (some ⟨g, 0, none⟩) (l.take q) :=
  .inr ⟨g, 0, rfl, h.lt, fun j f hj => by
    rw [List.getElem?_take] at hj
    split at hj
    · rw [Nat.zero_add]; exact h.at' j f hj
    · cases hj⟩

theorem zeros_len (n : Nat) : (Builtin.zeroCells zcs n).toList.length = n * 8 := by
  rw [Array.length_toList, size_zeroCells]; rfl
theorem zeros_one (n : Nat) : ∀ v ∈ (Builtin.zeroCells zcs n).toList, v.oneCell' = true := by
  intro v hv
  simp only [Builtin.zeroCells, Array.toList_map, List.mem_map] at hv
  obtain ⟨i, _, rfl⟩ := hv
  have h : i % zcs.size < 8 := Nat.mod_lt _ (by decide)
  have hz : ∀ j, j < 8 → (zcs.getD j default).oneCell' = true := by decide
  simpa using hz _ h
theorem run_clearF (w : World) (ty : TypeId) (g o n cap : Nat) (hn : 0 < n) (ht : w.there g o (n * 8)) :
    (Builtin.clear_ #[22] ty #[.slice (some ⟨g, o, none⟩) n cap]).run Tryz.prog w = .ok (.tuple #[]) (w.setCells g o (Builtin.zeroCells zcs n).toList) := by
  obtain ⟨i0, hi, hz0, hz1, hz2⟩ := info_parts factInfo
  have hst := run_storeCells_cells (P := Tryz.prog) g o (Builtin.zeroCells zcs n).toList 0 w (fun j hj => by rw [zeros_len] at hj; exact (ht j hj).1) (fun j hj => by rw [zeros_len] at hj; exact (ht j hj).2) (zeros_one n)
  simp only [Nat.add_zero] at hst
  obtain ⟨m, rfl⟩ : ∃ m, n = m + 1 := ⟨n - 1, by omega⟩
  have hc : zeroF.cells = zcs := rfl
  simp [Builtin.clear_, run_underlying (P := Tryz.prog) Tryz.underlying22, zeroValue, typeInfo, hi, hz0, hc, hst]

/-- a fact stored at its place -/
theorem fm_store {ops : Array Oper} {rest : List Oper} {o : Oper} {a : Act} {w : World} {Q : Exit → Act → World → Prop} (hgd : o.guard = none) (x y : Operand) (ho : o.op = .store 61 x y) (g off : Nat) (f : Ft)
    (hx : a.eval x = .pointer (some ⟨g, off, none⟩)) (hy : a.eval y = .agg (fcs f).toArray) (ht : w.there g off 8)
    (h : wpList Tryz.prog ops Q rest (a.put o.dst undef) (w.setCells g off (fcs f))) : wpList Tryz.prog ops Q (o :: rest) a w :=
  wpList_store_mid hgd 61 x y ho g off (fcs f).toArray hx hy ht factSize (by simp [fcs, Value.oneCell']) h

theorem take_set_succ {t : List Ft} {q : Nat} (hq : q < t.length) (x : Ft) : (t.set q x).take (q + 1) = t.take q ++ [x] := by
  rw [List.take_succ_eq_append_getElem (by rw [List.length_set]; exact hq), List.getElem_set_self, List.take_set_of_le (Nat.le_refl q)]
theorem kept_one {s : List Ft} (hs : s.Pairwise (fun a b => ltF b a = false)) (h : s.length < 2) : KeptF s s.length s := by
  match s, h with
  | [], _ => exact KeptF.start _
  | [x], _ => exact (KeptF.start [x]).more hs (by simp) (fun j hj => by omega)

/-- where Compact stands behind the first that stands twice -/
structure Cm (s : List Ft) (g : Nat) (c q : Nat) (t : List Ft) (w : World) : Prop where
  kept : KeptF s c (t.take q)
  len : t.length = s.length
  rest : ∀ j, c ≤ j + 1 → t[j]? = s[j]?
  fh : FH w g t

set_option maxHeartbeats 8000000 in
theorem compactFC (s : List Ft) (g cap B : Nat) (w : World) (hH : FH w g s) (hl : s.length ≤ 65536) (hcap : s.length ≤ cap) (hs : s.Pairwise (fun a b => ltF b a = false)) (hB : B ≤ g) :
    Calls Tryz.prog 51 #[.slice (some ⟨g, 0, none⟩) s.length cap] w fun e w' => ∃ out : List Ft, e = .returned (.slice (some ⟨g, 0, none⟩) out.length cap) ∧ KeptF s s.length out ∧ FIn w' (some ⟨g, 0, none⟩) out ∧ Below B w w' := by
  have hBw : B ≤ w.heap.size := by have := hH.lt; omega
  by_cases h2 : s.length < 2
  · have hf := hH.fin s.length
    rw [List.take_length] at hf
    have HK := Lib.hid (And.intro (kept_one hs h2) hf)
    have hi2 : decide ((s.length : Int) < 2) = true := by simp; omega
    clear hs hH h2 hf
    go_enter Tryz.func51, Tryz.ntmps51
    go_wp2_with fail
    go_ret
    exact ⟨s, rfl, HK.out.1, HK.out.2, Below.refl _ _⟩
  · have hi2 : decide ((s.length : Int) < 2) = false := by simp; omega
    have HS := Lib.hid hs
    have HH := Lib.hid hH
    have k0 : KeptF s 1 (s.take 1) := by
      have h0 : 0 < s.length := by omega
      have := (KeptF.start s).more hs h0 (fun j hj => by omega)
      rwa [show [] ++ [s[0]] = s.take 1 from by rw [List.take_succ_eq_append_getElem h0]; rfl] at this
    have K0 := Lib.hid k0
    clear hs hH k0
    go_enter Tryz.func51, Tryz.ntmps51
    go_wp2_with fail
    go_loopw [3] (fun i wr => ∃ m : Nat, i = .int .i64 ((m : Int) + 1) ∧ m + 1 ≤ s.length ∧ Hid (KeptF s (m + 1) (s.take (m + 1))) ∧ Hid (FH wr g s) ∧ Hid (Below B w wr)) (fun i _ => s.length + 1 - (intOf i).toNat)
    case atStart => exact ⟨0, by simp, by omega, K0, HH, Lib.hid (Below.refl _ _)⟩
    case round =>
      clear K0 HH hi2
      obtain ⟨m, rfl, hm, HK, HH, HB⟩ := hrel
      have hgl := HH.out.lt
      by_cases hlt : m + 1 < s.length
      · obtain ⟨x, hx⟩ : ∃ x, s[m + 1]? = some x := ⟨_, List.getElem?_eq_getElem hlt⟩
        obtain ⟨y, hy⟩ : ∃ y, s[m]? = some y := ⟨_, List.getElem?_eq_getElem (by omega)⟩
        have hxe : s[m + 1] = x := by rw [List.getElem?_eq_getElem hlt] at hx; exact Option.some.inj hx
        have hye : s[m]'(by omega) = y := by rw [List.getElem?_eq_getElem (by omega)] at hy; exact Option.some.inj hy
        have HXE := Lib.hid hxe
        have HYE := Lib.hid hye
        have HRX := Lib.hid (range_regrown (HH.out.at' (m + 1) x hx) hgl)
        have HRY := Lib.hid (range_regrown (HH.out.at' m y hy) hgl)
        have hi0 : (0 : Int) ≤ (m : Int) := by omega
        have hi1 : (m : Int) < (s.length : Int) := by omega
        have hi2 : (m : Int) + 1 < (s.length : Int) := by omega
        have hi3 : IntKind.i64.wrap (m : Int) = m := by simp [IntKind.wrap, IntKind.bits, IntKind.signed]; omega
        have hi4 : (0 : Int) ≤ (m : Int) + 1 := by omega
        clear hx hy hxe hye
        by_cases he : x = y
        case neg =>
          have hq := fun W => eqlF x y W
          rw [decide_eq_false he] at hq
          have hk2 : KeptF s (m + 1 + 1) (s.take (m + 1 + 1)) := by
            have := HK.out.more HS.out hlt (fun j hj => by
              obtain rfl : j = m := by omega
              rw [HXE.out, HYE.out]; exact he)
            rwa [← List.take_succ_eq_append_getElem hlt] at this
          have HK2 := Lib.hid hk2
          clear hk2 he HK
          go_upto_region 6 with fail
          refine wp_region_quiet_below (by kernel_rfl) (by kernel_rfl) ?_
          repeat (first
            | ((with_reducible refine fq_load ?_ (.tmp 18) ?_ g ((m + 1) * 8) x ?_ ?_ ?_); rfl; rfl; rfl; exact HRX.out; simp only [Act.put, List.setIfInBounds_toArray, List.set_cons_zero, List.set_cons_succ])
            | ((with_reducible refine fq_load ?_ (.tmp 23) ?_ g (m * 8) y ?_ ?_ ?_); rfl; rfl; rfl; exact HRY.out; simp only [Act.put, List.setIfInBounds_toArray, List.set_cons_zero, List.set_cons_succ])
            | go_big_quiet_step (fail) | quiet_step (fail))
          refine wpQuiet_nil ?_
          intro _ hw'
          obtain ⟨⟨dq, osq⟩, hw''⟩ := hw'
          subst hw''
          have hb9 := below_regrown wr dq osq
          have HB9 := Lib.hid (HB.out.trans (hb9.mono (by omega)))
          have HH9 := Lib.hid (HH.out.below hb9)
          clear hb9 HRX HRY hq HB HH
          generalize grow (redrawn wr dq) osq = W at *
          go_wp2_with fail
          go_roundw
          case rel => exact ⟨m + 1, by go_num, by omega, HK2, HH9, HB9⟩
          case measure => simp [intOf]; omega
        case pos =>
          have hq := fun W => eqlF x y W
          rw [decide_eq_true he] at hq
          have hk2 : KeptF s (m + 1 + 1) (s.take (m + 1)) := HK.out.same hlt (by rw [HXE.out, HYE.out, he])
          have HK2 := Lib.hid hk2
          clear hk2 he HK
          go_upto_region 6 with fail
          refine wp_region_quiet_below (by kernel_rfl) (by kernel_rfl) ?_
          repeat (first
            | ((with_reducible refine fq_load ?_ (.tmp 18) ?_ g ((m + 1) * 8) x ?_ ?_ ?_); rfl; rfl; rfl; exact HRX.out; simp only [Act.put, List.setIfInBounds_toArray, List.set_cons_zero, List.set_cons_succ])
            | ((with_reducible refine fq_load ?_ (.tmp 23) ?_ g (m * 8) y ?_ ?_ ?_); rfl; rfl; rfl; exact HRY.out; simp only [Act.put, List.setIfInBounds_toArray, List.set_cons_zero, List.set_cons_succ])
            | go_big_quiet_step (fail) | quiet_step (fail))
          refine wpQuiet_nil ?_
          intro _ hw'
          obtain ⟨⟨dq, osq⟩, hw''⟩ := hw'
          subst hw''
          have hb9 := below_regrown wr dq osq
          have HB9 := Lib.hid (HB.out.trans (hb9.mono (by omega)))
          have HH9 := Lib.hid (HH.out.below hb9)
          clear hb9 HRX HRY hq HB HH HXE HYE
          generalize grow (redrawn wr dq) osq = W at *
          have hic : (s.length : Int) ≤ (cap : Int) := by omega
          have hid1 : (m : Int) + 1 ≤ (s.length : Int) := by omega
          have HM0 := Lib.hid (show Cm s g (m + 1 + 1) (m + 1) s W from ⟨HK2.out, rfl, fun _ _ => rfl, HH9.out⟩)
          clear HK2 HH9
          go_wp2_with fail
          go_loopw [3, 5] (fun a b wk => ∃ (q p : Nat) (t : List Ft), a = .int .i64 (q : Int) ∧ b = .int .i64 ((p : Int) + 1) ∧ m + 1 + p + 1 ≤ s.length ∧ q ≤ m + 1 + p ∧ Hid (Cm s g (m + 1 + p + 1) q t wk) ∧ Hid (Below B w wk)) (fun _ b _ => s.length + 1 - (intOf b).toNat)
          case atStart => exact ⟨m + 1, 0, s, by simp, by simp, by omega, by omega, HM0, HB9⟩
          case round =>
            clear HM0 HB9 hi0 hi1 hi2 hi3 hi4
            obtain ⟨q, p, t, rfl, rfl, hp, hqp, HM, HB⟩ := hrel
            have hgk := HM.out.fh.lt
            by_cases hlt2 : m + 1 + (p + 1) < s.length
            · obtain ⟨u, hu⟩ : ∃ x, s[m + 1 + p + 1]? = some x := ⟨_, List.getElem?_eq_getElem (by omega)⟩
              obtain ⟨v, hv⟩ : ∃ x, s[m + 1 + p]? = some x := ⟨_, List.getElem?_eq_getElem (by omega)⟩
              have hue : s[m + 1 + p + 1]'(by omega) = u := by rw [List.getElem?_eq_getElem (by omega)] at hu; exact Option.some.inj hu
              have hve : s[m + 1 + p]'(by omega) = v := by rw [List.getElem?_eq_getElem (by omega)] at hv; exact Option.some.inj hv
              have hru := HM.out.fh.at' (m + 1 + p + 1) u (by rw [HM.out.rest _ (by omega)]; exact hu)
              have hrv := HM.out.fh.at' (m + 1 + p) v (by rw [HM.out.rest _ (by omega)]; exact hv)
              rw [show (m + 1 + p + 1) * 8 = (m + 1) * 8 + (p + 1) * 8 by omega] at hru
              rw [show (m + 1 + p) * 8 = (m + 1) * 8 + p * 8 by omega] at hrv
              have HRX := Lib.hid (range_regrown hru hgk)
              have HRY := Lib.hid (range_regrown hrv hgk)
              have HUE := Lib.hid hue
              have HVE := Lib.hid hve
              have HU := Lib.hid hu
              have j0 : (0 : Int) ≤ (p : Int) := by omega
              have j1 : (p : Int) < ((s.length - (m + 1) : Nat) : Int) := by omega
              have j2 : (p : Int) + 1 < ((s.length - (m + 1) : Nat) : Int) := by omega
              have j3 : IntKind.i64.wrap (p : Int) = p := by simp [IntKind.wrap, IntKind.bits, IntKind.signed]; omega
              have j4 : (0 : Int) ≤ (p : Int) + 1 := by omega
              have j5 : (0 : Int) ≤ (q : Int) := by omega
              have j6 : (q : Int) < (s.length : Int) := by omega
              clear hu hv hue hve hru hrv
              by_cases he : u = v
              case pos =>
                have hq := fun W => neqF u v W
                rw [decide_eq_true he] at hq
                have hk2 : KeptF s (m + 1 + p + 1 + 1) (t.take q) := HM.out.kept.same (by omega) (by rw [HUE.out, HVE.out, he])
                have HK2 := Lib.hid hk2
                clear hk2 he
                go_upto_region 11 with fail
                refine wp_region_quiet_below (by kernel_rfl) (by kernel_rfl) ?_
                repeat (first
                  | ((with_reducible refine fq_load ?_ (.tmp 37) ?_ g ((m + 1) * 8 + (p + 1) * 8) u ?_ ?_ ?_); rfl; rfl; rfl; exact HRX.out; simp only [Act.put, List.setIfInBounds_toArray, List.set_cons_zero, List.set_cons_succ])
                  | ((with_reducible refine fq_load ?_ (.tmp 42) ?_ g ((m + 1) * 8 + p * 8) v ?_ ?_ ?_); rfl; rfl; rfl; exact HRY.out; simp only [Act.put, List.setIfInBounds_toArray, List.set_cons_zero, List.set_cons_succ])
                  | go_big_quiet_step (fail) | quiet_step (fail))
                refine wpQuiet_nil ?_
                intro _ hw'
                obtain ⟨⟨dq, osq⟩, hw''⟩ := hw'
                subst hw''
                have hb9 := below_regrown wr dq osq
                have HB9 := Lib.hid (HB.out.trans (hb9.mono (by omega)))
                have HM9 := Lib.hid (show Cm s g (m + 1 + (p + 1) + 1) q t (grow (redrawn wr dq) osq) from ⟨HK2.out, HM.out.len, fun j hj => HM.out.rest j (by omega), HM.out.fh.below hb9⟩)
                clear hb9 HRX HRY hq HB HM
                generalize grow (redrawn wr dq) osq = W2 at *
                go_wp2_with fail
                go_roundw
                case rel => exact ⟨q, p + 1, t, rfl, by go_num, by omega, by omega, HM9, HB9⟩
                case measure => simp [intOf]; omega
              case neg =>
                have hq := fun W => neqF u v W
                rw [decide_eq_false he] at hq
                have hk2 : KeptF s (m + 1 + p + 1 + 1) (t.take q ++ [u]) := by
                  have := HM.out.kept.more HS.out (show m + 1 + p + 1 < s.length by omega) (fun j hj => by
                    obtain rfl : j = m + 1 + p := by omega
                    rw [HUE.out, HVE.out]; exact he)
                  rwa [HUE.out] at this
                have HK2 := Lib.hid hk2
                have HRU := Lib.hid (HRX.out)
                clear hk2 he
                go_upto_region 11 with fail
                refine wp_region_quiet_below (by kernel_rfl) (by kernel_rfl) ?_
                repeat (first
                  | ((with_reducible refine fq_load ?_ (.tmp 37) ?_ g ((m + 1) * 8 + (p + 1) * 8) u ?_ ?_ ?_); rfl; rfl; rfl; exact HRX.out; simp only [Act.put, List.setIfInBounds_toArray, List.set_cons_zero, List.set_cons_succ])
                  | ((with_reducible refine fq_load ?_ (.tmp 42) ?_ g ((m + 1) * 8 + p * 8) v ?_ ?_ ?_); rfl; rfl; rfl; exact HRY.out; simp only [Act.put, List.setIfInBounds_toArray, List.set_cons_zero, List.set_cons_succ])
                  | go_big_quiet_step (fail) | quiet_step (fail))
                refine wpQuiet_nil ?_
                intro _ hw'
                obtain ⟨⟨dq, osq⟩, hw''⟩ := hw'
                subst hw''
                have hb9 := below_regrown wr dq osq
                have HB9 := Lib.hid (HB.out.trans (hb9.mono (by omega)))
                have hfh := HM.out.fh.below hb9
                have hql : q < t.length := by rw [HM.out.len]; omega
                have HLU := Lib.hid (HRU.out _ ⟨⟨dq, osq⟩, rfl⟩)
                have HTH := Lib.hid (hfh.there q 8 (by omega))
                have HM9 := Lib.hid (show Cm s g (m + 1 + (p + 1) + 1) (q + 1) (t.set q u) ((grow (redrawn wr dq) osq).setCells g (q * 8) (fcs u)) from
                  ⟨by rw [take_set_succ hql]; exact HK2.out, by rw [List.length_set]; exact HM.out.len, fun j hj => by rw [List.getElem?_set_ne (by omega)]; exact HM.out.rest j (by omega), hfh.set hql u⟩)
                have HBS := Lib.hid (below_setCells (fcs u) (q * 8) HB9.out hB)
                clear hb9 HRX HRY HRU hq HB HM hfh hql HK2 HB9
                generalize grow (redrawn wr dq) osq = W2 at *
                go_wp2_with (first
                  | ((with_reducible refine fl_load ?_ (.tmp 49) ?_ g ((m + 1) * 8 + (p + 1) * 8) u ?_ ?_ ?_); rfl; rfl; rfl; exact HLU.out)
                  | ((with_reducible refine fm_store ?_ (.tmp 51) (.tmp 50) ?_ g (q * 8) u ?_ ?_ ?_ ?_); rfl; rfl; rfl; rfl; exact HTH.out))
                generalize W2.setCells g (q * 8) (fcs u) = W3 at *
                go_wp2_with fail
                go_roundw
                case rel => exact ⟨q + 1, p + 1, t.set q u, by go_num, by go_num, by omega, by omega, HM9, HBS⟩
                case measure => simp [intOf]; omega
            · have hcn : m + 1 + p + 1 = s.length := by omega
              have hq1 : q < s.length := by omega
              have j1 : ¬ (p : Int) + 1 < ((s.length - (m + 1) : Nat) : Int) := by omega
              have j5 : (0 : Int) ≤ (q : Int) := by omega
              have j6 : (q : Int) ≤ (s.length : Int) := by omega
              have j7 : (q : Int) ≤ (cap : Int) := by omega
              have hth := HM.out.fh.there q ((s.length - q) * 8) (by rw [HM.out.len]; omega)
              have hcl := run_clearF wr 0 g (q * 8) (s.length - q) (cap - q) (by omega) hth
              have hkp := HM.out.kept
              rw [hcn] at hkp
              have htl : (t.take q).length = q := by rw [List.length_take, HM.out.len]; omega
              have hfi : FIn (wr.setCells g (q * 8) (Builtin.zeroCells zcs (s.length - q)).toList) (some ⟨g, 0, none⟩) (t.take q) :=
                .inr ⟨g, 0, rfl, by rw [size_setC]; exact hgk, fun j f hj => by
                  rw [List.getElem?_take] at hj
                  split at hj
                  · rename_i hjq
                    rw [Nat.zero_add]
                    exact World.rangeAt_setCells_apart (HM.out.fh.at' j f hj) _ _ _ (.inr (.inl (by rw [fcs_len]; omega)))
                  · cases hj⟩
              have HF := Lib.hid (And.intro hkp (And.intro hfi (below_setCells (Builtin.zeroCells zcs (s.length - q)).toList (q * 8) HB.out hB)))
              have HTL := Lib.hid htl
              clear hth hkp htl hfi
              generalize wr.setCells g (q * 8) (Builtin.zeroCells zcs (s.length - q)).toList = W4 at *
              go_wp2_with fail
              go_ret
              exact ⟨t.take q, by rw [HTL.out]; rfl, HF.out.1, HF.out.2.1, HF.out.2.2⟩
      · have hf := HH.out.fin s.length
        rw [List.take_length] at hf
        have hk : KeptF s s.length s := by
          have := HK.out
          rw [show m + 1 = s.length by omega, List.take_length] at this
          exact this
        have HF := Lib.hid (And.intro hk hf)
        have hi5 : ¬ (m : Int) + 1 < (s.length : Int) := by omega
        clear hf hk
        go_wp2_with fail
        go_ret
        exact ⟨s, rfl, HF.out.1, HF.out.2, HB.out⟩

/-- facts that are new -/
def FFrom (w : World) (lo : Nat) (a : Option Addr) (l : List Ft) : Prop :=
  l = [] ∨ ∃ b off, a = some ⟨b, off, none⟩ ∧ lo ≤ b ∧ b < w.heap.size ∧ ∀ j f, l[j]? = some f → w.rangeAt b (off + j * 8) (fcs f)
theorem FFrom.fin {w : World} {lo : Nat} {a : Option Addr} {l : List Ft} (h : FFrom w lo a l) : FIn w a l := by
  rcases h with h | ⟨b, off, e, -, h1, h2⟩
  · exact .inl h
  · exact .inr ⟨b, off, e, h1, h2⟩
theorem FFrom.of {w : World} {lo g o : Nat} {l : List Ft} (h : FIn w (some ⟨g, o, none⟩) l) (hg : lo ≤ g) : FFrom w lo (some ⟨g, o, none⟩) l := by
  rcases h with h | ⟨b, off, e, h1, h2⟩
  · exact .inl h
  · have e2 := Option.some.inj e
    injection e2 with e3 e4
    subst e3
    exact .inr ⟨_, off, e, hg, h1, h2⟩
theorem FFrom.below {w w' : World} {lo : Nat} {a : Option Addr} {l : List Ft} (h : FFrom w lo a l) (hb : Below w.heap.size w w') : FFrom w' lo a l := by
  rcases h with h | ⟨b, off, rfl, hlo, hlt, hc⟩
  · exact .inl h
  · exact .inr ⟨b, off, rfl, hlo, Nat.lt_of_lt_of_le hlt hb.size, fun j f hj => range_below (hc j f hj) hb hlt⟩
theorem FFrom.mono {w : World} {lo lo' : Nat} {a : Option Addr} {l : List Ft} (h : FFrom w lo a l) (hl : lo' ≤ lo) : FFrom w lo' a l := by
  rcases h with h | ⟨b, off, e, hlo, h⟩
  · exact .inl h
  · exact .inr ⟨b, off, e, Nat.le_trans hl hlo, h⟩
theorem FFrom.setRow {w : World} {lo : Nat} {a : Option Addr} {l : List Ft} (h : FFrom w lo a l) {g : Nat} (hg : g < lo) (C : Array Value) : FFrom (w.setRow g C) lo a l := by
  rcases h with h | ⟨b, off, rfl, hlo, hlt, hc⟩
  · exact .inl h
  · refine .inr ⟨b, off, rfl, hlo, by simpa using hlt, fun j f hj i v hv => ?_⟩
    have h1 := hc j f hj i v hv
    unfold World.cell? at h1 ⊢
    rw [setRow_other _ _ _ _ (show b ≠ g by omega)]
    exact h1
set_option maxHeartbeats 1000000 in
/-- Sort, the program's -/
theorem sortFCn (l : List Ft) (a : Option Addr) (cap : Nat) (w : World) (h : FIn w a l) (hl : l.length ≤ 65536) :
    Calls Tryz.prog 27 #[.slice a l.length cap] w fun e w' => ∃ a' cap', e = .returned (.slice a' (sortF l).length cap') ∧ FFrom w' w.heap.size a' (sortF l) ∧ Below w.heap.size w w' := by
  have H := Lib.hid h
  clear h
  go_enter Tryz.func27, Tryz.ntmps27
  go_wp2_with fail
  refine (cloneF l a cap w H.out hl).mono ?_
  rintro e w1 ⟨v1, rfl, hown1, hb1⟩
  have hs1 := hb1.size
  have HO1 := Lib.hid hown1
  have HB1 := Lib.hid hb1
  clear hown1 hb1
  go_wp2_with fail
  refine (sortCallF l v1 w.heap.size w1 hl HO1.out hs1).mono ?_
  rintro e w2 ⟨rfl, h⟩
  rcases h with ⟨rfl, rfl, rfl⟩ | ⟨s, g, sc, rfl, hsc, hBg, hsl, hperm, hsort, hfh, hb2⟩
  · have hnil : Calls Tryz.prog 51 #[.slice none 0 0] w2 fun e w' => e = .returned (.slice none 0 0) ∧ w2 = w' := by
      clear HO1 HB1 H
      go_enter Tryz.func51, Tryz.ntmps51
      go_wp2_with fail
      go_ret
      exact ⟨rfl, rfl⟩
    clear HO1 H
    go_wp2_with fail
    refine hnil.mono ?_
    rintro e w3 ⟨rfl, rfl⟩
    go_wp2_with fail
    go_ret
    exact ⟨none, 0, rfl, .inl rfl, HB1.out⟩
  · have hc := compactFC s g sc w.heap.size w2 hfh (by omega) hsc hsort hBg
    have HP := Lib.hid hperm
    have HB2 := Lib.hid (HB1.out.trans hb2)
    have HC := Lib.hid hc
    clear hc hperm hfh hb2 HB1 HO1 H hsort hsl
    go_wp2_with fail
    refine HC.out.mono ?_
    rintro e w3 ⟨out, rfl, hk, hin, hb3⟩
    obtain rfl : out = sortF l := hk.all (Nat.le_refl _) (fun z => HP.out.mem_iff)
    have HF := Lib.hid (And.intro (FFrom.of hin hBg) (HB2.out.trans hb3))
    clear hk hin hb3
    go_wp2_with fail
    go_ret
    exact ⟨_, sc, rfl, HF.out.1, HF.out.2⟩
theorem sortFC (l : List Ft) (a : Option Addr) (cap : Nat) (w : World) (h : FIn w a l) (hl : l.length ≤ 65536) :
    Calls Tryz.prog 27 #[.slice a l.length cap] w fun e w' => ∃ a' cap', e = .returned (.slice a' (sortF l).length cap') ∧ FIn w' a' (sortF l) ∧ Below w.heap.size w w' :=
  (sortFCn l a cap w h hl).mono fun _ _ ⟨a', c', he, hf, hb⟩ => ⟨a', c', he, hf.fin, hb⟩
end Go.Proofs.YtcedliaeipabnaaGreat

namespace Go.Proofs.YtcedliaeipabnaaGreat

theorem ba_len (s : ByteArray) : s.data.toList.length = s.size := by simp
/-- numbers' bytes, one behind the other -/
def encN : List Nat → List UInt8
  | [] => []
  | n :: r => Lib.uvarint n ++ encN r
theorem encN_append : ∀ (a b : List Nat), encN (a ++ b) = encN a ++ encN b := by
  intro a b
  induction a with
  | nil => rfl
  | cons x r ih => simp [encN, ih]
theorem encN_snoc (ns : List Nat) {k : Nat} (hk : k < ns.length) : encN (ns.take (k + 1)) = encN (ns.take k) ++ Lib.uvarint (ns.getD k 0) := by
  rw [List.take_succ_eq_append_getElem hk, encN_append, List.getD_eq_getElem?_getD, List.getElem?_eq_getElem hk]; simp [encN]
theorem encN_len : ∀ (ns : List Nat), (∀ n ∈ ns, n ≤ 9007199254740992) → (encN ns).length ≤ ns.length * 10 := by
  intro ns
  induction ns with
  | nil => intro _; simp [encN]
  | cons n r ih =>
    intro h
    have h1 := ih (fun x hx => h x (by simp [hx]))
    have h2 := Lib.uvarint_length64 (x := n) (by have := h n (by simp); omega)
    simp only [encN, List.length_append, List.length_cons]
    omega
end Go.Proofs.YtcedliaeipabnaaGreat

namespace Go.Proofs.YtcedliaeipabnaaGreat

abbrev Vc := List Int
abbrev zV : Vc := List.replicate 16 0
def okN (x : Int) : Prop := 0 ≤ x ∧ x ≤ 1099511627776
instance (x : Int) : Decidable (okN x) := inferInstanceAs (Decidable (_ ∧ _))
def chkV (l : Vc) : Int := if ∀ x ∈ l, okN x then 0 else 2
def joinV (a b : Vc) : Vc := List.zipWith max a b
def meetV (a b : Vc) : Vc := List.zipWith min a b
def cmpV (a b : Vc) : Int := if a = b then 0 else if joinV a b = b then -1 else if joinV a b = a then 1 else 2
def hasV (v : Vc) (d : Dt) : Bool := decide (chkD d = 0) && decide (d.2 ≤ v.getD d.1.toNat 0)

theorem chkV_cases (l : Vc) : chkV l = 0 ∨ chkV l = 2 := by unfold chkV; split <;> simp
theorem chkV_ok {l : Vc} (h : chkV l = 0) : ∀ x ∈ l, okN x := by
  unfold chkV at h
  split at h
  · assumption
  · cases h
theorem chkV_good {l : Vc} (h : ∀ x ∈ l, okN x) : chkV l = 0 := by unfold chkV; rw [if_pos h]
theorem chkV_bad {l : Vc} {k : Nat} (hk : k < l.length) (h : ¬ okN (l.getD k 0)) : chkV l = 2 := by
  unfold chkV
  rw [if_neg]
  intro hc
  refine h (hc _ ?_)
  rw [List.getD_eq_getElem?_getD, List.getElem?_eq_getElem hk]
  exact List.getElem_mem _
theorem chkV_all {l : Vc} (h : ∀ j, j < l.length → okN (l.getD j 0)) : chkV l = 0 := chkV_good fun x hx => by
  obtain ⟨i, hi, rfl⟩ := List.mem_iff_getElem.1 hx
  have := h i hi
  rwa [List.getD_eq_getElem?_getD, List.getElem?_eq_getElem hi] at this

theorem joinV_len {a b : Vc} {n : Nat} (ha : a.length = n) (hb : b.length = n) : (joinV a b).length = n := by simp [joinV, ha, hb]
theorem meetV_len {a b : Vc} {n : Nat} (ha : a.length = n) (hb : b.length = n) : (meetV a b).length = n := by simp [meetV, ha, hb]

theorem vec_ext {a b : Vc} {n : Nat} (ha : a.length = n) (hb : b.length = n) (h : ∀ i, i < n → a.getD i 0 = b.getD i 0) : a = b := by
  apply List.ext_getElem (by omega)
  intro i h1 h2
  have := h i (by omega)
  rwa [List.getD_eq_getElem?_getD, List.getElem?_eq_getElem h1, List.getD_eq_getElem?_getD, List.getElem?_eq_getElem h2] at this
theorem joinV_get {a b : Vc} {n i : Nat} (ha : a.length = n) (hb : b.length = n) (hi : i < n) : (joinV a b).getD i 0 = max (a.getD i 0) (b.getD i 0) := by
  simp only [joinV, List.getD_eq_getElem?_getD, List.getElem?_zipWith, List.getElem?_eq_getElem (show i < a.length by omega), List.getElem?_eq_getElem (show i < b.length by omega)]
  rfl
theorem meetV_get {a b : Vc} {n i : Nat} (ha : a.length = n) (hb : b.length = n) (hi : i < n) : (meetV a b).getD i 0 = min (a.getD i 0) (b.getD i 0) := by
  simp only [meetV, List.getD_eq_getElem?_getD, List.getElem?_zipWith, List.getElem?_eq_getElem (show i < a.length by omega), List.getElem?_eq_getElem (show i < b.length by omega)]
  rfl
theorem joinV_iff {a b : Vc} {n : Nat} (ha : a.length = n) (hb : b.length = n) : joinV a b = b ↔ ∀ i, i < n → a.getD i 0 ≤ b.getD i 0 := by
  constructor
  · intro h i hi
    have := joinV_get ha hb hi
    rw [h] at this
    omega
  · intro h
    exact vec_ext (joinV_len ha hb) hb fun i hi => by rw [joinV_get ha hb hi]; have := h i hi; omega
theorem joinV_comm {a b : Vc} {n : Nat} (ha : a.length = n) (hb : b.length = n) : joinV a b = joinV b a :=
  vec_ext (joinV_len ha hb) (joinV_len hb ha) fun i hi => by rw [joinV_get ha hb hi, joinV_get hb ha hi]; omega
theorem joinV_self (a : Vc) : joinV a a = a := vec_ext (joinV_len rfl rfl) rfl fun i hi => by rw [joinV_get rfl rfl hi]; omega
theorem joinV_assoc {a b c : Vc} {n : Nat} (ha : a.length = n) (hb : b.length = n) (hc : c.length = n) : joinV a (joinV b c) = joinV (joinV a b) c :=
  vec_ext (joinV_len ha (joinV_len hb hc)) (joinV_len (joinV_len ha hb) hc) fun i hi => by
    rw [joinV_get ha (joinV_len hb hc) hi, joinV_get hb hc hi, joinV_get (joinV_len ha hb) hc hi, joinV_get ha hb hi]; omega

theorem cmpV_lt {a b : Vc} : cmpV a b < 1 ↔ joinV a b = b := by
  unfold cmpV
  constructor
  · intro h
    split at h
    · rename_i e; subst e; exact joinV_self a
    · split at h
      · assumption
      · split at h <;> simp at h
  · intro h
    rw [if_pos h]
    split <;> decide
theorem cmpV_zero {a b : Vc} : cmpV a b = 0 ↔ a = b := by
  unfold cmpV
  constructor
  · intro h
    split at h
    · assumption
    · split at h
      · simp at h
      · split at h <;> simp at h
  · intro h; rw [if_pos h]
theorem up_left {a b : Vc} {n : Nat} (ha : a.length = n) (hb : b.length = n) : cmpV a (joinV a b) < 1 := by
  rw [cmpV_lt, joinV_assoc ha ha hb, joinV_self]
theorem up_right {a b : Vc} {n : Nat} (ha : a.length = n) (hb : b.length = n) : cmpV b (joinV a b) < 1 := by
  rw [joinV_comm ha hb]; exact up_left hb ha
theorem down_left {a b : Vc} {n : Nat} (ha : a.length = n) (hb : b.length = n) : cmpV (meetV a b) a < 1 := by
  rw [cmpV_lt, joinV_iff (meetV_len ha hb) ha]
  intro i hi
  rw [meetV_get ha hb hi]; omega
theorem down_right {a b : Vc} {n : Nat} (ha : a.length = n) (hb : b.length = n) : cmpV (meetV a b) b < 1 := by
  rw [cmpV_lt, joinV_iff (meetV_len ha hb) hb]
  intro i hi
  rw [meetV_get ha hb hi]; omega
theorem least {a b c : Vc} {n : Nat} (ha : a.length = n) (hb : b.length = n) (hc : c.length = n) : (cmpV a c < 1 ∧ cmpV b c < 1) ↔ cmpV (joinV a b) c < 1 := by
  rw [cmpV_lt, cmpV_lt, cmpV_lt, joinV_iff ha hc, joinV_iff hb hc, joinV_iff (joinV_len ha hb) hc]
  constructor
  · rintro ⟨h1, h2⟩ i hi
    rw [joinV_get ha hb hi]
    have := h1 i hi
    have := h2 i hi
    omega
  · intro h
    refine ⟨fun i hi => ?_, fun i hi => ?_⟩ <;>
    · have := h i hi
      rw [joinV_get ha hb hi] at this
      omega

/-! the document's Compare -/
def lessN (a b : Vc) : Nat → Bool
  | 0 => false
  | k + 1 => lessN a b k || decide (a.getD k 0 < b.getD k 0)
theorem lessN_iff (a b : Vc) : ∀ k, lessN a b k = false ↔ ∀ i, i < k → b.getD i 0 ≤ a.getD i 0 := by
  intro k
  induction k with
  | zero => simp [lessN]
  | succ k ih =>
    unfold lessN
    rw [Bool.or_eq_false_iff, ih, decide_eq_false_iff_not]
    constructor
    · rintro ⟨h1, h2⟩ i hi
      by_cases e : i = k
      · subst e; omega
      · exact h1 i (by omega)
    · intro h
      exact ⟨fun i hi => h i (by omega), by have := h k (by omega); omega⟩
theorem cmpV_ref {a b : Vc} {n : Nat} (ha : a.length = n) (hb : b.length = n) :
    cmpV a b = if lessN a b n = true then (if lessN b a n = true then 2 else -1) else if lessN b a n = true then 1 else 0 := by
  have h1 : lessN a b n = false ↔ joinV b a = a := by rw [lessN_iff, joinV_iff hb ha]
  have h2 : lessN b a n = false ↔ joinV a b = b := by rw [lessN_iff, joinV_iff ha hb]
  rw [joinV_comm hb ha] at h1
  have hall : joinV a b = a → joinV a b = b → a = b := fun h3 h4 => h3.symm.trans h4
  unfold cmpV
  cases e1 : lessN a b n with
  | false =>
    have e3 := h1.1 e1
    cases e2 : lessN b a n with
    | false => rw [if_pos (hall e3 (h2.1 e2))]; simp
    | true =>
      have e4 : ¬ joinV a b = b := fun h => by rw [h2.2 h] at e2; cases e2
      have e5 : a ≠ b := fun h => e4 (by rw [← h, joinV_self])
      rw [if_neg e5, if_neg e4, if_pos e3]; simp
  | true =>
    have e3 : ¬ joinV a b = a := fun h => by rw [h1.2 h] at e1; cases e1
    have e5 : a ≠ b := fun h => e3 (by rw [← h, joinV_self])
    cases e2 : lessN b a n with
    | false => rw [if_neg e5, if_pos (h2.1 e2)]; simp
    | true =>
      have e4 : ¬ joinV a b = b := fun h => by rw [h2.2 h] at e2; cases e2
      rw [if_neg e5, if_neg e4, if_neg e3]; simp

/-- the greater ones of the first k places -/
def mixJ (a b : Vc) (k : Nat) : Vc := joinV (a.take k) (b.take k) ++ a.drop k
def mixM (a b : Vc) (k : Nat) : Vc := meetV (a.take k) (b.take k) ++ a.drop k
theorem mixJ_zero (a b : Vc) : mixJ a b 0 = a := by simp [mixJ, joinV]
theorem mixM_zero (a b : Vc) : mixM a b 0 = a := by simp [mixM, meetV]
theorem mixJ_len {a b : Vc} {n : Nat} (ha : a.length = n) (hb : b.length = n) (k : Nat) : (mixJ a b k).length = n := by simp [mixJ, joinV, ha, hb]; omega
theorem mixM_len {a b : Vc} {n : Nat} (ha : a.length = n) (hb : b.length = n) (k : Nat) : (mixM a b k).length = n := by simp [mixM, meetV, ha, hb]; omega
theorem mixJ_all {a b : Vc} {n : Nat} (ha : a.length = n) (hb : b.length = n) : mixJ a b n = joinV a b := by
  unfold mixJ
  rw [List.take_of_length_le (by omega), List.take_of_length_le (by omega), List.drop_of_length_le (by omega), List.append_nil]
theorem mixM_all {a b : Vc} {n : Nat} (ha : a.length = n) (hb : b.length = n) : mixM a b n = meetV a b := by
  unfold mixM
  rw [List.take_of_length_le (by omega), List.take_of_length_le (by omega), List.drop_of_length_le (by omega), List.append_nil]
theorem mix_at {f : Int → Int → Int} {a b : Vc} {n k : Nat} (ha : a.length = n) (hb : b.length = n) (hk : k < n) : (List.zipWith f (a.take k) (b.take k) ++ a.drop k).getD k 0 = a.getD k 0 := by
  have h1 : (List.zipWith f (a.take k) (b.take k)).length = k := by simp; omega
  rw [List.getD_eq_getElem?_getD, List.getD_eq_getElem?_getD, List.getElem?_append_right (by omega), h1, Nat.sub_self, List.getElem?_drop, Nat.add_zero]
theorem mix_succ {f : Int → Int → Int} {a b : Vc} {n k : Nat} (ha : a.length = n) (hb : b.length = n) (hk : k < n) :
    List.zipWith f (a.take (k + 1)) (b.take (k + 1)) ++ a.drop (k + 1) = (List.zipWith f (a.take k) (b.take k) ++ a.drop k).set k (f (a.getD k 0) (b.getD k 0)) := by
  have h1 : (List.zipWith f (a.take k) (b.take k)).length = k := by simp; omega
  rw [List.set_append_right _ _ (by omega), h1, Nat.sub_self, List.drop_eq_getElem_cons (show k < a.length by omega), List.set_cons_zero,
    List.take_succ_eq_append_getElem (show k < a.length by omega), List.take_succ_eq_append_getElem (show k < b.length by omega), List.zipWith_append (by simp; omega)]
  simp [List.getD_eq_getElem?_getD, List.getElem?_eq_getElem (show k < a.length by omega), List.getElem?_eq_getElem (show k < b.length by omega)]
theorem mixJ_at {a b : Vc} {n k : Nat} (ha : a.length = n) (hb : b.length = n) (hk : k < n) : (mixJ a b k).getD k 0 = a.getD k 0 := mix_at ha hb hk
theorem mixM_at {a b : Vc} {n k : Nat} (ha : a.length = n) (hb : b.length = n) (hk : k < n) : (mixM a b k).getD k 0 = a.getD k 0 := mix_at ha hb hk
theorem mixJ_succ {a b : Vc} {n k : Nat} (ha : a.length = n) (hb : b.length = n) (hk : k < n) : mixJ a b (k + 1) = (mixJ a b k).set k (max (a.getD k 0) (b.getD k 0)) := mix_succ ha hb hk
theorem mixM_succ {a b : Vc} {n k : Nat} (ha : a.length = n) (hb : b.length = n) (hk : k < n) : mixM a b (k + 1) = (mixM a b k).set k (min (a.getD k 0) (b.getD k 0)) := mix_succ ha hb hk

/-! bytes -/
def natV (l : Vc) : List Nat := l.map Int.toNat
theorem natV_len (l : Vc) : (natV l).length = l.length := by simp [natV]
def putV (l : Vc) : ByteArray × Int := if chkV l = 0 then (⟨(encN (natV l)).toArray⟩, 0) else (⟨#[]⟩, 2)
/-- the state behind n numbers, and the next number -/
def stN : Nat → ByteArray × Int → ByteArray × Int
  | 0, st => st
  | n + 1, st => (sNum (stN n st)).2
def numN (n : Nat) (st : ByteArray × Int) : Nat := (sNum (stN n st)).1
theorem stN_succ (n : Nat) (st : ByteArray × Int) : stN (n + 1) st = (sNum (stN n st)).2 := rfl
theorem stN_size (st : ByteArray × Int) : ∀ n, (stN n st).1.size ≤ st.1.size := by
  intro n
  induction n with
  | zero => exact Nat.le_refl _
  | succ n ih => exact Nat.le_trans (sNum_size _) ih
/-- the first k numbers of sixteen -/
def vecN (k : Nat) (st : ByteArray × Int) : Vc := (List.range 16).map fun i => if i < k then ((numN i st : Nat) : Int) else 0
theorem vecN_len (k : Nat) (st : ByteArray × Int) : (vecN k st).length = 16 := by simp [vecN]
theorem vecN_zero (st : ByteArray × Int) : vecN 0 st = zV := by
  apply List.ext_getElem (by simp [vecN])
  intro i h1 h2
  simp [vecN]
theorem vecN_succ (k : Nat) (st : ByteArray × Int) : vecN (k + 1) st = (vecN k st).set k ((numN k st : Nat) : Int) := by
  apply List.ext_getElem (by simp [vecN])
  intro i h1 h2
  rw [List.getElem_set]
  simp only [vecN, List.getElem_map, List.getElem_range]
  by_cases e : k = i
  · subst e; rw [if_pos (by omega), if_pos rfl]
  · rw [if_neg e]
    by_cases h : i < k
    · rw [if_pos h, if_pos (by omega)]
    · rw [if_neg h, if_neg (by omega)]
def readV (s : ByteArray) : Vc × Int :=
  if doneS (stN 16 (s, 0)) ≠ 0 then (zV, doneS (stN 16 (s, 0))) else if chkV (vecN 16 (s, 0)) ≠ 0 then (zV, 2) else (vecN 16 (s, 0), 0)
theorem readV_len (s : ByteArray) : (readV s).1.length = 16 := by
  unfold readV
  split
  · rfl
  · split
    · rfl
    · exact vecN_len _ _

theorem stN_enc {ns : List Nat} (h : ∀ n ∈ ns, n ≤ 9007199254740992) (r : List UInt8) : ∀ k, k ≤ ns.length → stN k (⟨(encN ns ++ r).toArray⟩, 0) = (⟨(encN (ns.drop k) ++ r).toArray⟩, 0) := by
  intro k
  induction k with
  | zero => intro _; rfl
  | succ k ih =>
    intro hk
    have h1 := ih (by omega)
    rw [stN_succ, h1, List.drop_eq_getElem_cons (show k < ns.length by omega)]
    have := sNum_uv ns[k] (h _ (List.getElem_mem _)) (encN (ns.drop (k + 1)) ++ r)
    simp only [encN, List.append_assoc]
    rw [this]
theorem numN_enc {ns : List Nat} (h : ∀ n ∈ ns, n ≤ 9007199254740992) (r : List UInt8) (k : Nat) (hk : k < ns.length) : numN k (⟨(encN ns ++ r).toArray⟩, 0) = ns[k] := by
  unfold numN
  rw [stN_enc h r k (by omega), List.drop_eq_getElem_cons hk]
  have := sNum_uv ns[k] (h _ (List.getElem_mem _)) (encN (ns.drop (k + 1)) ++ r)
  simp only [encN, List.append_assoc]
  rw [this]
theorem natV_small {l : Vc} (h : chkV l = 0) : ∀ n ∈ natV l, n ≤ 9007199254740992 := by
  intro n hn
  obtain ⟨x, hx, rfl⟩ := List.mem_map.1 hn
  have := (chkV_ok h x hx).2
  omega
theorem vecN_enc {l : Vc} (hl : l.length = 16) (h : chkV l = 0) (r : List UInt8) : vecN 16 (⟨(encN (natV l) ++ r).toArray⟩, 0) = l := by
  apply List.ext_getElem (by simp [vecN, hl])
  intro i h1 h2
  have hi : i < 16 := by omega
  simp only [vecN, List.getElem_map, List.getElem_range]
  rw [if_pos hi, numN_enc (natV_small h) r i (by rw [natV_len]; omega)]
  have := (chkV_ok h l[i] (List.getElem_mem _)).1
  simp only [natV, List.getElem_map]
  omega
theorem read_putV {l : Vc} {c : ByteArray} (hl : l.length = 16) (h : putV l = (c, 0)) : readV c = (l, 0) := by
  unfold putV at h
  split at h
  · rename_i hc
    cases h
    have e1 := stN_enc (natV_small hc) [] 16 (by rw [natV_len]; omega)
    have e2 := vecN_enc hl hc []
    rw [List.drop_of_length_le (by rw [natV_len]; omega)] at e1
    rw [List.append_nil] at e1 e2
    unfold readV
    rw [e1, e2, if_neg (by simp [doneS, encN, ByteArray.size]), if_neg (by rw [hc]; simp)]
  · exact absurd (Prod.ext_iff.1 h).2 (by simp)
theorem stN_put : ∀ (n : Nat) (st : ByteArray × Int) (s1 : ByteArray), stN n st = (s1, 0) → st.2 = 0 ∧ st.1.data.toList = encN ((List.range n).map fun i => numN i st) ++ s1.data.toList := by
  intro n
  induction n with
  | zero => intro st s1 h; simp only [stN] at h; subst h; simp [encN]
  | succ n ih =>
    intro st s1 h
    rw [stN_succ] at h
    obtain ⟨h1, h2⟩ := sNum_put (st := stN n st) (n := numN n st) (s1 := s1) (Prod.ext rfl h)
    obtain ⟨h3, h4⟩ := ih st (stN n st).1 (Prod.ext rfl h1)
    refine ⟨h3, ?_⟩
    rw [h4, h2, List.range_succ, List.map_append, encN_append]
    simp [encN]
theorem vecN_nat (st : ByteArray × Int) : natV (vecN 16 st) = (List.range 16).map fun i => numN i st := by
  apply List.ext_getElem (by simp [natV, vecN])
  intro i h1 h2
  have hi : i < 16 := by simpa using h2
  simp only [natV, vecN, List.getElem_map, List.getElem_range]
  rw [if_pos hi]
  omega
theorem put_readV {s : ByteArray} {l : Vc} (h : readV s = (l, 0)) : putV l = (s, 0) := by
  unfold readV at h
  split at h
  · rename_i hd; exact absurd (Prod.ext_iff.1 h).2 hd
  · rename_i hd
    split at h
    · exact absurd (Prod.ext_iff.1 h).2 (by simp)
    · rename_i hc
      have hd' := done_ok (by simpa using hd)
      have hc' : chkV (vecN 16 (s, 0)) = 0 := by simpa using hc
      obtain ⟨rfl, -⟩ := Prod.ext_iff.1 h
      simp only
      obtain ⟨-, h2⟩ := stN_put 16 (s, 0) ⟨#[]⟩ hd'
      unfold putV
      rw [if_pos hc', vecN_nat]
      simp only [List.append_nil] at h2
      rw [← h2]
theorem putV_form (l : Vc) : (putV l).2 = chkV l := by
  unfold putV
  split
  · rename_i h; exact h.symm
  · rename_i h
    rcases chkV_cases l with h1 | h1
    · exact absurd h1 h
    · exact h1.symm
end Go.Proofs.YtcedliaeipabnaaGreat
