/-
  slices.Compact of names that stand in their order.
-/
import Derived.Test.YtchnklekeinhiaaGreatFactCmp
import Derived.Test.YtchnklekeinhiaaGreatGV16
namespace Go.Proofs.YtchnklekeinhiaaGreat
set_option linter.unusedSimpArgs false
set_option linter.unusedVariables false
set_option maxRecDepth 100000
open Go.RowKit Go.Shelf Go.Sort

theorem dcs_len (d : Dt) : (dcs d).length = 2 := rfl
abbrev zdc : Array Value := #[.int .i64 0, .int .i64 0]
abbrev zeroDt : Value := .agg #[.int .i64 0, .int .i64 0]
/-- names in a block that may be written -/
structure DH (w : World) (g : Nat) (l : List Dt) : Prop where
  lt : g < w.heap.size
  at' : ∀ j f, l[j]? = some f → w.rangeAt g (j * 2) (dcs f)
  free : w.there g 0 (l.length * 2)
theorem loadD {w : World} {b o : Nat} {f : Dt} (h : w.rangeAt b o (dcs f)) : (Instr.loadAt 44 (.pointer (some ⟨b, o, none⟩))).run Tryz.prog w = .ok (.agg #[.int .i64 f.1, .int .i64 f.2]) w :=
  run_loadAt_mid w b o 44 (dcs f) _ h Tryz.underlying44 rfl dotSize
theorem dlo_load {ops : Array Oper} {rest : List Oper} {o : Oper} {a : Act} {w : World} {Q : Exit → Act → World → Prop} (hgd : o.guard = none) (x : Operand) (ho : o.op = .load 44 x) (g off : Nat) (f : Dt)
    (hx : a.eval x = .pointer (some ⟨g, off, none⟩)) (hg : w.rangeAt g off (dcs f)) (h : wpList Tryz.prog ops Q rest (a.put o.dst (.agg #[.int .i64 f.1, .int .i64 f.2])) w) : wpList Tryz.prog ops Q (o :: rest) a w :=
  wpList_load_mid hgd 44 x ho g off hx (dcs f) _ hg Tryz.underlying44 rfl dotSize h
theorem dq_load {ops : Array Oper} {C : World → Prop} {Q : Act → Prop} {rest : List Oper} {o : Oper} {a : Act} (hw : Region.wanted o (yielded ops a.tmps) = true) (x : Operand) (ho : o.op = .load 44 x) (g off : Nat) (f : Dt)
    (hx : a.eval x = .pointer (some ⟨g, off, none⟩)) (hg : ∀ w, C w → w.rangeAt g off (dcs f))
    (h : wpQuiet Tryz.prog ops C Q rest (a.put o.dst (.agg #[.int .i64 f.1, .int .i64 f.2]))) : wpQuiet Tryz.prog ops C Q (o :: rest) a := by
  refine wpQuiet_step fun K hK => ?_
  rw [if_pos hw]
  refine ⟨_, fun w hC => ?_, hK _ h⟩
  unfold Oper.quietAt execOp
  simp only [ho, hx, Sem.run_bind, Sem.run_pure, Result.andThen_ok, loadD (hg w hC)]
  exact ⟨rfl, rfl⟩
theorem din_of_range {w : World} {b o : Nat} {d : Dt} (h : w.rangeAt b o (dcs d)) : w.cell? ⟨b, o, none⟩ = some (.int .i64 d.1) ∧ w.cell? ⟨b, o + 1, none⟩ = some (.int .i64 d.2) := ⟨h 0 _ rfl, h 1 _ rfl⟩
theorem OwnD.dh {w : World} {B g cap : Nat} {l : List Dt} (h : OwnD B (.slice (some ⟨g, 0, none⟩) l.length cap) l w) (h0 : l ≠ []) : DH w g l ∧ B ≤ g := by
  have hlt := World.ownsRow.lt h g rfl
  refine ⟨⟨hlt.2, fun j f hj i u hu => ?_, fun t ht => ?_⟩, hlt.1⟩
  · have hjl : j < l.length := (List.getElem?_eq_some_iff.1 hj).1
    have hi : i < 2 := by have := (List.getElem?_eq_some_iff.1 hu).1; rwa [dcs_len] at this
    have hc := World.ownsRow.cellAt h (j * 2 + i) (by omega)
    rw [hc]
    obtain ⟨h1, h2⟩ := rowD_at l j f hj
    match i, hi with
    | 0, _ => rw [Nat.add_zero, h1]; exact hu
    | 1, _ => rw [h2]; exact hu
  · rw [Nat.zero_add]
    refine ⟨?_, World.ownsRow.frozenAt h _⟩
    rw [World.ownsRow.cellAt h t (by omega), List.getElem?_eq_getElem (by rw [rowD_len]; omega)]
    rfl
theorem DH.below {w w' : World} {g : Nat} {l : List Dt} (h : DH w g l) (hb : Below w.heap.size w w') : DH w' g l := by
  have hc : ∀ o, w'.cell? ⟨g, o, none⟩ = w.cell? ⟨g, o, none⟩ := fun o => hb.cell (p := ⟨g, o, none⟩) h.lt
  refine ⟨Nat.lt_of_lt_of_le h.lt hb.size, fun j f hj => range_below (h.at' j f hj) hb h.lt, fun j hj => ⟨by rw [hc]; exact (h.free j hj).1, ?_⟩⟩
  have := (h.free j hj).2
  unfold World.frozen? at *
  rw [hb.block _ h.lt]
  exact this
theorem DH.there {w : World} {g : Nat} {l : List Dt} (h : DH w g l) (k n : Nat) (hn : k * 2 + n ≤ l.length * 2) : w.there g (k * 2) n := fun j hj => by
  have := h.free (k * 2 + j) (by omega)
  rwa [Nat.zero_add] at this
theorem DH.set {w : World} {g : Nat} {l : List Dt} (h : DH w g l) {k : Nat} (hk : k < l.length) (f : Dt) : DH (w.setCells g (k * 2) (dcs f)) g (l.set k f) := by
  refine ⟨by rw [size_setC]; exact h.lt, fun j x hj => ?_, ?_⟩
  · by_cases e : j = k
    · subst e
      rw [List.getElem?_set_self hk] at hj
      obtain rfl := Option.some.inj hj
      exact World.rangeAt_setCells_same _ _ _ _ (h.there j _ (by rw [dcs_len]; omega))
    · rw [List.getElem?_set_ne (fun e2 => e e2.symm)] at hj
      exact World.rangeAt_setCells_apart (h.at' j x hj) _ _ _ (.inr (by rw [dcs_len, dcs_len]; omega))
  · rw [List.length_set]
    exact World.there_setCells h.free _ _ _
theorem DH.fin {w : World} {g : Nat} {l : List Dt} (h : DH w g l) (q : Nat) : DIn w (some ⟨g, 0, none⟩) (l.take q) :=
  .inr ⟨g, 0, rfl, h.lt, fun j f hj => by
    rw [List.getElem?_take] at hj
    split at hj
    · rw [Nat.zero_add]; exact din_of_range (h.at' j f hj)
    · cases hj⟩

theorem zeros_lenD (n : Nat) : (Builtin.zeroCells zdc n).toList.length = n * 2 := by
  rw [Array.length_toList, size_zeroCells]; rfl
theorem zeros_oneD (n : Nat) : ∀ v ∈ (Builtin.zeroCells zdc n).toList, v.oneCell' = true := by
  intro v hv
  simp only [Builtin.zeroCells, Array.toList_map, List.mem_map] at hv
  obtain ⟨i, _, rfl⟩ := hv
  have h : i % zdc.size < 2 := Nat.mod_lt _ (by decide)
  have hz : ∀ j, j < 2 → (zdc.getD j default).oneCell' = true := by decide
  simpa using hz _ h
theorem run_clearD (w : World) (ty : TypeId) (g o n cap : Nat) (hn : 0 < n) (ht : w.there g o (n * 2)) :
    (Builtin.clear_ #[29] ty #[.slice (some ⟨g, o, none⟩) n cap]).run Tryz.prog w = .ok (.tuple #[]) (w.setCells g o (Builtin.zeroCells zdc n).toList) := by
  obtain ⟨i0, hi, hz0, hz1, hz2⟩ := info_parts dotInfo
  have hst := run_storeCells_cells (P := Tryz.prog) g o (Builtin.zeroCells zdc n).toList 0 w (fun j hj => by rw [zeros_lenD] at hj; exact (ht j hj).1) (fun j hj => by rw [zeros_lenD] at hj; exact (ht j hj).2) (zeros_oneD n)
  simp only [Nat.add_zero] at hst
  obtain ⟨m, rfl⟩ : ∃ m, n = m + 1 := ⟨n - 1, by omega⟩
  have hc : zeroDt.cells = zdc := rfl
  simp [Builtin.clear_, run_underlying (P := Tryz.prog) Tryz.underlying29, zeroValue, typeInfo, hi, hz0, hc, hst]

/-- a fact stored at its place -/
theorem dm_store {ops : Array Oper} {rest : List Oper} {o : Oper} {a : Act} {w : World} {Q : Exit → Act → World → Prop} (hgd : o.guard = none) (x y : Operand) (ho : o.op = .store 44 x y) (g off : Nat) (f : Dt)
    (hx : a.eval x = .pointer (some ⟨g, off, none⟩)) (hy : a.eval y = .agg #[.int .i64 f.1, .int .i64 f.2]) (ht : w.there g off 2)
    (h : wpList Tryz.prog ops Q rest (a.put o.dst undef) (w.setCells g off (dcs f))) : wpList Tryz.prog ops Q (o :: rest) a w :=
  wpList_store_mid hgd 44 x y ho g off (dcs f).toArray hx hy ht dotSize (by simp [dcs, Value.oneCell']) h

theorem take_set_succD {t : List Dt} {q : Nat} (hq : q < t.length) (x : Dt) : (t.set q x).take (q + 1) = t.take q ++ [x] := by
  rw [List.take_succ_eq_append_getElem (by rw [List.length_set]; exact hq), List.getElem_set_self, List.take_set_of_le (Nat.le_refl q)]
theorem kept_oneD {s : List Dt} (hs : s.Pairwise (fun a b => ltD b a = false)) (h : s.length < 2) : Kept s s.length s := by
  match s, h with
  | [], _ => exact Kept.start _
  | [x], _ => exact (Kept.start [x]).more hs (by simp) (fun j hj => by omega)

/-- where Compact stands behind the first that stands twice -/
structure CmD (s : List Dt) (g : Nat) (c q : Nat) (t : List Dt) (w : World) : Prop where
  kept : Kept s c (t.take q)
  len : t.length = s.length
  rest : ∀ j, c ≤ j + 1 → t[j]? = s[j]?
  fh : DH w g t

set_option maxHeartbeats 8000000 in
theorem compactDC (s : List Dt) (g cap B : Nat) (w : World) (hH : DH w g s) (hl : s.length ≤ 65536) (hcap : s.length ≤ cap) (hs : s.Pairwise (fun a b => ltD b a = false)) (hB : B ≤ g) :
    Calls Tryz.prog 57 #[.slice (some ⟨g, 0, none⟩) s.length cap] w fun e w' => ∃ out : List Dt, e = .returned (.slice (some ⟨g, 0, none⟩) out.length cap) ∧ Kept s s.length out ∧ DIn w' (some ⟨g, 0, none⟩) out ∧ Below B w w' := by
  have hBw : B ≤ w.heap.size := by have := hH.lt; omega
  by_cases h2 : s.length < 2
  · have hf := hH.fin s.length
    rw [List.take_length] at hf
    have HK := Lib.hid (And.intro (kept_oneD hs h2) hf)
    have hi2 : decide ((s.length : Int) < 2) = true := by simp; omega
    clear hs hH h2 hf
    go_enter Tryz.func57, Tryz.ntmps57
    go_wp2_with fail
    go_ret
    exact ⟨s, rfl, HK.out.1, HK.out.2, Below.refl _ _⟩
  · have hi2 : decide ((s.length : Int) < 2) = false := by simp; omega
    have HS := Lib.hid hs
    have HH := Lib.hid hH
    have k0 : Kept s 1 (s.take 1) := by
      have h0 : 0 < s.length := by omega
      have := (Kept.start s).more hs h0 (fun j hj => by omega)
      rwa [show [] ++ [s[0]] = s.take 1 from by rw [List.take_succ_eq_append_getElem h0]; rfl] at this
    have K0 := Lib.hid k0
    clear hs hH k0
    go_enter Tryz.func57, Tryz.ntmps57
    go_wp2_with fail
    go_loopw [3] (fun i wr => ∃ m : Nat, i = .int .i64 ((m : Int) + 1) ∧ m + 1 ≤ s.length ∧ Hid (Kept s (m + 1) (s.take (m + 1))) ∧ Hid (DH wr g s) ∧ Hid (Below B w wr)) (fun i _ => s.length + 1 - (intOf i).toNat)
    case atStart => exact ⟨0, by simp, by omega, K0, HH, Lib.hid (Below.refl _ _)⟩
    case round =>
      clear K0 HH hi2
      obtain ⟨m, rfl, hm, HK, HH, HB⟩ := hrel
      have hgl := HH.out.lt
      by_cases hlt : m + 1 < s.length
      · obtain ⟨x, hx⟩ : ∃ x, s[m + 1]? = some x := ⟨_, List.getElem?_eq_getElem hlt⟩
        obtain ⟨y, hy⟩ : ∃ y, s[m]? = some y := ⟨_, List.getElem?_eq_getElem (by omega)⟩
        have hxe : s[m + 1] = x := by rw [List.getElem?_eq_getElem hlt] at hx; exact Option.some.inj hx
        have hye : s[m]'(by omega) = y := by rw [List.getElem?_eq_getElem (by omega)] at hy; exact Option.some.inj hy
        have HXE := Lib.hid hxe
        have HYE := Lib.hid hye
        have HRX := Lib.hid (range_regrown (HH.out.at' (m + 1) x hx) hgl)
        have HRY := Lib.hid (range_regrown (HH.out.at' m y hy) hgl)
        have hi0 : (0 : Int) ≤ (m : Int) := by omega
        have hi1 : (m : Int) < (s.length : Int) := by omega
        have hi2 : (m : Int) + 1 < (s.length : Int) := by omega
        have hi3 : IntKind.i64.wrap (m : Int) = m := by simp [IntKind.wrap, IntKind.bits, IntKind.signed]; omega
        have hi4 : (0 : Int) ≤ (m : Int) + 1 := by omega
        clear hx hy hxe hye
        by_cases he : x = y
        case neg =>
          have hq := fun W => eqlD x y W
          rw [decide_eq_false he] at hq
          have hk2 : Kept s (m + 1 + 1) (s.take (m + 1 + 1)) := by
            have := HK.out.more HS.out hlt (fun j hj => by
              obtain rfl : j = m := by omega
              rw [HXE.out, HYE.out]; exact he)
            rwa [← List.take_succ_eq_append_getElem hlt] at this
          have HK2 := Lib.hid hk2
          clear hk2 he HK
          go_upto_region 6 with fail
          refine wp_region_quiet_below (by kernel_rfl) (by kernel_rfl) ?_
          repeat (first
            | ((with_reducible refine dq_load ?_ (.tmp 18) ?_ g ((m + 1) * 2) x ?_ ?_ ?_); rfl; rfl; rfl; exact HRX.out; simp only [Act.put, List.setIfInBounds_toArray, List.set_cons_zero, List.set_cons_succ])
            | ((with_reducible refine dq_load ?_ (.tmp 23) ?_ g (m * 2) y ?_ ?_ ?_); rfl; rfl; rfl; exact HRY.out; simp only [Act.put, List.setIfInBounds_toArray, List.set_cons_zero, List.set_cons_succ])
            | go_big_quiet_step (fail) | quiet_step (fail))
          refine wpQuiet_nil ?_
          intro _ hw'
          obtain ⟨⟨dq, osq⟩, hw''⟩ := hw'
          subst hw''
          have hb9 := below_regrown wr dq osq
          have HB9 := Lib.hid (HB.out.trans (hb9.mono (by omega)))
          have HH9 := Lib.hid (HH.out.below hb9)
          clear hb9 HRX HRY hq HB HH
          generalize grow (redrawn wr dq) osq = W at *
          go_wp2_with fail
          go_roundw
          case rel => exact ⟨m + 1, by go_num, by omega, HK2, HH9, HB9⟩
          case measure => simp [intOf]; omega
        case pos =>
          have hq := fun W => eqlD x y W
          rw [decide_eq_true he] at hq
          have hk2 : Kept s (m + 1 + 1) (s.take (m + 1)) := HK.out.same hlt (by rw [HXE.out, HYE.out, he])
          have HK2 := Lib.hid hk2
          clear hk2 he HK
          go_upto_region 6 with fail
          refine wp_region_quiet_below (by kernel_rfl) (by kernel_rfl) ?_
          repeat (first
            | ((with_reducible refine dq_load ?_ (.tmp 18) ?_ g ((m + 1) * 2) x ?_ ?_ ?_); rfl; rfl; rfl; exact HRX.out; simp only [Act.put, List.setIfInBounds_toArray, List.set_cons_zero, List.set_cons_succ])
            | ((with_reducible refine dq_load ?_ (.tmp 23) ?_ g (m * 2) y ?_ ?_ ?_); rfl; rfl; rfl; exact HRY.out; simp only [Act.put, List.setIfInBounds_toArray, List.set_cons_zero, List.set_cons_succ])
            | go_big_quiet_step (fail) | quiet_step (fail))
          refine wpQuiet_nil ?_
          intro _ hw'
          obtain ⟨⟨dq, osq⟩, hw''⟩ := hw'
          subst hw''
          have hb9 := below_regrown wr dq osq
          have HB9 := Lib.hid (HB.out.trans (hb9.mono (by omega)))
          have HH9 := Lib.hid (HH.out.below hb9)
          clear hb9 HRX HRY hq HB HH HXE HYE
          generalize grow (redrawn wr dq) osq = W at *
          have hic : (s.length : Int) ≤ (cap : Int) := by omega
          have hid1 : (m : Int) + 1 ≤ (s.length : Int) := by omega
          have HM0 := Lib.hid (show CmD s g (m + 1 + 1) (m + 1) s W from ⟨HK2.out, rfl, fun _ _ => rfl, HH9.out⟩)
          clear HK2 HH9
          go_wp2_with fail
          go_loopw [3, 5] (fun a b wk => ∃ (q p : Nat) (t : List Dt), a = .int .i64 (q : Int) ∧ b = .int .i64 ((p : Int) + 1) ∧ m + 1 + p + 1 ≤ s.length ∧ q ≤ m + 1 + p ∧ Hid (CmD s g (m + 1 + p + 1) q t wk) ∧ Hid (Below B w wk)) (fun _ b _ => s.length + 1 - (intOf b).toNat)
          case atStart => exact ⟨m + 1, 0, s, by simp, by simp, by omega, by omega, HM0, HB9⟩
          case round =>
            clear HM0 HB9 hi0 hi1 hi2 hi3 hi4
            obtain ⟨q, p, t, rfl, rfl, hp, hqp, HM, HB⟩ := hrel
            have hgk := HM.out.fh.lt
            by_cases hlt2 : m + 1 + (p + 1) < s.length
            · obtain ⟨u, hu⟩ : ∃ x, s[m + 1 + p + 1]? = some x := ⟨_, List.getElem?_eq_getElem (by omega)⟩
              obtain ⟨v, hv⟩ : ∃ x, s[m + 1 + p]? = some x := ⟨_, List.getElem?_eq_getElem (by omega)⟩
              have hue : s[m + 1 + p + 1]'(by omega) = u := by rw [List.getElem?_eq_getElem (by omega)] at hu; exact Option.some.inj hu
              have hve : s[m + 1 + p]'(by omega) = v := by rw [List.getElem?_eq_getElem (by omega)] at hv; exact Option.some.inj hv
              have hru := HM.out.fh.at' (m + 1 + p + 1) u (by rw [HM.out.rest _ (by omega)]; exact hu)
              have hrv := HM.out.fh.at' (m + 1 + p) v (by rw [HM.out.rest _ (by omega)]; exact hv)
              rw [show (m + 1 + p + 1) * 2 = (m + 1) * 2 + (p + 1) * 2 by omega] at hru
              rw [show (m + 1 + p) * 2 = (m + 1) * 2 + p * 2 by omega] at hrv
              have HRX := Lib.hid (range_regrown hru hgk)
              have HRY := Lib.hid (range_regrown hrv hgk)
              have HUE := Lib.hid hue
              have HVE := Lib.hid hve
              have HU := Lib.hid hu
              have j0 : (0 : Int) ≤ (p : Int) := by omega
              have j1 : (p : Int) < ((s.length - (m + 1) : Nat) : Int) := by omega
              have j2 : (p : Int) + 1 < ((s.length - (m + 1) : Nat) : Int) := by omega
              have j3 : IntKind.i64.wrap (p : Int) = p := by simp [IntKind.wrap, IntKind.bits, IntKind.signed]; omega
              have j4 : (0 : Int) ≤ (p : Int) + 1 := by omega
              have j5 : (0 : Int) ≤ (q : Int) := by omega
              have j6 : (q : Int) < (s.length : Int) := by omega
              clear hu hv hue hve hru hrv
              by_cases he : u = v
              case pos =>
                have hq := fun W => neqD u v W
                rw [decide_eq_true he] at hq
                have hk2 : Kept s (m + 1 + p + 1 + 1) (t.take q) := HM.out.kept.same (by omega) (by rw [HUE.out, HVE.out, he])
                have HK2 := Lib.hid hk2
                clear hk2 he
                go_upto_region 11 with fail
                refine wp_region_quiet_below (by kernel_rfl) (by kernel_rfl) ?_
                repeat (first
                  | ((with_reducible refine dq_load ?_ (.tmp 37) ?_ g ((m + 1) * 2 + (p + 1) * 2) u ?_ ?_ ?_); rfl; rfl; rfl; exact HRX.out; simp only [Act.put, List.setIfInBounds_toArray, List.set_cons_zero, List.set_cons_succ])
                  | ((with_reducible refine dq_load ?_ (.tmp 42) ?_ g ((m + 1) * 2 + p * 2) v ?_ ?_ ?_); rfl; rfl; rfl; exact HRY.out; simp only [Act.put, List.setIfInBounds_toArray, List.set_cons_zero, List.set_cons_succ])
                  | go_big_quiet_step (fail) | quiet_step (fail))
                refine wpQuiet_nil ?_
                intro _ hw'
                obtain ⟨⟨dq, osq⟩, hw''⟩ := hw'
                subst hw''
                have hb9 := below_regrown wr dq osq
                have HB9 := Lib.hid (HB.out.trans (hb9.mono (by omega)))
                have HM9 := Lib.hid (show CmD s g (m + 1 + (p + 1) + 1) q t (grow (redrawn wr dq) osq) from ⟨HK2.out, HM.out.len, fun j hj => HM.out.rest j (by omega), HM.out.fh.below hb9⟩)
                clear hb9 HRX HRY hq HB HM
                generalize grow (redrawn wr dq) osq = W2 at *
                go_wp2_with fail
                go_roundw
                case rel => exact ⟨q, p + 1, t, rfl, by go_num, by omega, by omega, HM9, HB9⟩
                case measure => simp [intOf]; omega
              case neg =>
                have hq := fun W => neqD u v W
                rw [decide_eq_false he] at hq
                have hk2 : Kept s (m + 1 + p + 1 + 1) (t.take q ++ [u]) := by
                  have := HM.out.kept.more HS.out (show m + 1 + p + 1 < s.length by omega) (fun j hj => by
                    obtain rfl : j = m + 1 + p := by omega
                    rw [HUE.out, HVE.out]; exact he)
                  rwa [HUE.out] at this
                have HK2 := Lib.hid hk2
                have HRU := Lib.hid (HRX.out)
                clear hk2 he
                go_upto_region 11 with fail
                refine wp_region_quiet_below (by kernel_rfl) (by kernel_rfl) ?_
                repeat (first
                  | ((with_reducible refine dq_load ?_ (.tmp 37) ?_ g ((m + 1) * 2 + (p + 1) * 2) u ?_ ?_ ?_); rfl; rfl; rfl; exact HRX.out; simp only [Act.put, List.setIfInBounds_toArray, List.set_cons_zero, List.set_cons_succ])
                  | ((with_reducible refine dq_load ?_ (.tmp 42) ?_ g ((m + 1) * 2 + p * 2) v ?_ ?_ ?_); rfl; rfl; rfl; exact HRY.out; simp only [Act.put, List.setIfInBounds_toArray, List.set_cons_zero, List.set_cons_succ])
                  | go_big_quiet_step (fail) | quiet_step (fail))
                refine wpQuiet_nil ?_
                intro _ hw'
                obtain ⟨⟨dq, osq⟩, hw''⟩ := hw'
                subst hw''
                have hb9 := below_regrown wr dq osq
                have HB9 := Lib.hid (HB.out.trans (hb9.mono (by omega)))
                have hfh := HM.out.fh.below hb9
                have hql : q < t.length := by rw [HM.out.len]; omega
                have HLU := Lib.hid (HRU.out _ ⟨⟨dq, osq⟩, rfl⟩)
                have HTH := Lib.hid (hfh.there q 2 (by omega))
                have HM9 := Lib.hid (show CmD s g (m + 1 + (p + 1) + 1) (q + 1) (t.set q u) ((grow (redrawn wr dq) osq).setCells g (q * 2) (dcs u)) from
                  ⟨by rw [take_set_succD hql]; exact HK2.out, by rw [List.length_set]; exact HM.out.len, fun j hj => by rw [List.getElem?_set_ne (by omega)]; exact HM.out.rest j (by omega), hfh.set hql u⟩)
                have HBS := Lib.hid (below_setCells (dcs u) (q * 2) HB9.out hB)
                clear hb9 HRX HRY HRU hq HB HM hfh hql HK2 HB9
                generalize grow (redrawn wr dq) osq = W2 at *
                go_wp2_with (first
                  | ((with_reducible refine dlo_load ?_ (.tmp 49) ?_ g ((m + 1) * 2 + (p + 1) * 2) u ?_ ?_ ?_); rfl; rfl; rfl; exact HLU.out)
                  | ((with_reducible refine dm_store ?_ (.tmp 51) (.tmp 50) ?_ g (q * 2) u ?_ ?_ ?_ ?_); rfl; rfl; rfl; rfl; exact HTH.out))
                generalize W2.setCells g (q * 2) (dcs u) = W3 at *
                go_wp2_with fail
                go_roundw
                case rel => exact ⟨q + 1, p + 1, t.set q u, by go_num, by go_num, by omega, by omega, HM9, HBS⟩
                case measure => simp [intOf]; omega
            · have hcn : m + 1 + p + 1 = s.length := by omega
              have hq1 : q < s.length := by omega
              have j1 : ¬ (p : Int) + 1 < ((s.length - (m + 1) : Nat) : Int) := by omega
              have j5 : (0 : Int) ≤ (q : Int) := by omega
              have j6 : (q : Int) ≤ (s.length : Int) := by omega
              have j7 : (q : Int) ≤ (cap : Int) := by omega
              have hth := HM.out.fh.there q ((s.length - q) * 2) (by rw [HM.out.len]; omega)
              have hcl := run_clearD wr 0 g (q * 2) (s.length - q) (cap - q) (by omega) hth
              have hkp := HM.out.kept
              rw [hcn] at hkp
              have htl : (t.take q).length = q := by rw [List.length_take, HM.out.len]; omega
              have hfi : DIn (wr.setCells g (q * 2) (Builtin.zeroCells zdc (s.length - q)).toList) (some ⟨g, 0, none⟩) (t.take q) :=
                .inr ⟨g, 0, rfl, by rw [size_setC]; exact hgk, fun j f hj => by
                  rw [List.getElem?_take] at hj
                  split at hj
                  · rename_i hjq
                    rw [Nat.zero_add]
                    exact din_of_range (World.rangeAt_setCells_apart (HM.out.fh.at' j f hj) _ _ _ (.inr (.inl (by rw [dcs_len]; omega))))
                  · cases hj⟩
              have HF := Lib.hid (And.intro hkp (And.intro hfi (below_setCells (Builtin.zeroCells zdc (s.length - q)).toList (q * 2) HB.out hB)))
              have HTL := Lib.hid htl
              clear hth hkp htl hfi
              generalize wr.setCells g (q * 2) (Builtin.zeroCells zdc (s.length - q)).toList = W4 at *
              go_wp2_with fail
              go_ret
              exact ⟨t.take q, by rw [HTL.out]; rfl, HF.out.1, HF.out.2.1, HF.out.2.2⟩
      · have hf := HH.out.fin s.length
        rw [List.take_length] at hf
        have hk : Kept s s.length s := by
          have := HK.out
          rw [show m + 1 = s.length by omega, List.take_length] at this
          exact this
        have HF := Lib.hid (And.intro hk hf)
        have hi5 : ¬ (m : Int) + 1 < (s.length : Int) := by omega
        clear hf hk
        go_wp2_with fail
        go_ret
        exact ⟨s, rfl, HF.out.1, HF.out.2, HB.out⟩

end Go.Proofs.YtchnklekeinhiaaGreat
