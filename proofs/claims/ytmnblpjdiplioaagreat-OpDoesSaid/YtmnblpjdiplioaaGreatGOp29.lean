/-
  almonrylaw15: Few; a fact loaded where a guard stands.
  op, the program's: takesBack, gone, says.
-/
import Derived.Test.YtmnblpjdiplioaaGreatGOp28
import Derived.Test.YtmnblpjdiplioaaGreatGOp14
import Derived.Test.YtmnblpjdiplioaaGreatOpMakeR
namespace Go.Proofs.YtmnblpjdiplioaaGreat
open Go.RowKit Go.Sort
set_option maxRecDepth 100000

theorem fl_loadg {ops : Array Oper} {rest : List Oper} {o : Oper} {a : Act} {w : World} {Q : Exit → Act → World → Prop} (hw : Region.wanted o (yielded ops a.tmps) = true) (x : Operand) (ho : o.op = .load 63 x) (g off : Nat) (f : Ft)
    (hx : a.eval x = .pointer (some ⟨g, off, none⟩)) (hg : w.rangeAt g off (fcs f)) (h : wpList Tryz.prog ops Q rest (a.put o.dst (.agg (fcs f).toArray)) w) : wpList Tryz.prog ops Q (o :: rest) a w := by
  unfold wpList
  rw [if_pos hw]
  exact .inl (wp_load_mid 63 x ho g off hx (fcs f) _ hg Tryz.underlying63 rfl factSize h)

def fewOk (f : Ft) : Prop := f.n.size ≤ 100 ∧ f.v.size ≤ 1000
instance (f : Ft) : Decidable (fewOk f) := inferInstanceAs (Decidable (_ ∧ _))
def fewP (l : List Ft) : Bool := decide (l.length ≤ 30 ∧ ∀ f ∈ l, fewOk f)
theorem fewP_ok {l : List Ft} (h : fewP l = true) : l.length ≤ 30 ∧ ∀ f ∈ l, fewOk f := of_decide_eq_true h
theorem fewP_v {l : List Ft} (h : fewP l = true) : ∀ f ∈ l, f.v.size ≤ 5000 := fun f hf => by have := ((fewP_ok h).2 f hf).2; omega

set_option maxHeartbeats 2000000 in
theorem ffewC (l : List Ft) (a : Option Addr) (cap : Nat) (w : World) (h : FIn w a l) (hl : l.length ≤ maxLen) (hs : ∀ f ∈ l, f.n.size ≤ maxLen ∧ f.v.size ≤ maxLen) :
    Calls Tryz.prog 7 #[.slice a l.length cap] w fun e w' => e = .returned (.bool (fewP l)) ∧ w = w' := by
  unfold maxLen at hl
  by_cases hbig : 30 < l.length
  · have hbi : (30 : Int) < (l.length : Int) := by omega
    rw [show fewP l = false from decide_eq_false (fun k => by omega)]
    clear h hs hbig
    go_enter Tryz.func7, Tryz.ntmps7
    go_wp2_with fail
    go_ret
    exact ⟨rfl, rfl⟩
  · have hbi : ¬ (30 : Int) < (l.length : Int) := by omega
    have H := Lib.hid h
    have HS := Lib.hid hs
    clear h hs
    go_enter Tryz.func7, Tryz.ntmps7
    go_wp2_with fail
    go_loopw [3] (fun i wr => ∃ k : Nat, k ≤ l.length ∧ i = .int .i64 k ∧ Hid (∀ j d, j < k → l[j]? = some d → fewOk d) ∧ w = wr) (fun i _ => l.length - (intOf i).toNat)
    case atStart => exact ⟨0, Nat.zero_le _, rfl, Lib.hid (fun j d hj => by omega), rfl⟩
    case round =>
      obtain ⟨k, hk, rfl, HK, rfl⟩ := hrel
      by_cases hlt : k < l.length
      · obtain ⟨d, hd⟩ : ∃ d, l[k]? = some d := ⟨_, List.getElem?_eq_getElem hlt⟩
        obtain ⟨b, off, rfl, hbl, c0⟩ := H.out.at hd
        have hi1 : (k : Int) < (l.length : Int) := by omega
        have hm : d ∈ l := List.mem_of_getElem? hd
        have c6 := c0 6 _ rfl
        have c7 := c0 7 _ rfl
        have hz := HS.out d hm
        unfold maxLen at hz
        have HD := Lib.hid hd
        have HM := Lib.hid hm
        clear c0 hd hm
        by_cases hn : 100 < d.n.size
        · have g1 : decide ((100 : Int) < (d.n.size : Int)) = true := by simp; omega
          have HF := Lib.hid (show fewP l = false from decide_eq_false (fun k => by have := (k.2 d HM.out).1; omega))
          clear hn
          go_wp2_with fail
          go_ret
          exact ⟨by rw [HF.out]; rfl, rfl⟩
        · have g1 : decide ((100 : Int) < (d.n.size : Int)) = false := by simp; omega
          by_cases hv : 1000 < d.v.size
          · have g2 : decide ((1000 : Int) < (d.v.size : Int)) = true := by simp; omega
            have HF := Lib.hid (show fewP l = false from decide_eq_false (fun k => by have := (k.2 d HM.out).2; omega))
            clear hn hv
            go_wp2_with fail
            go_ret
            exact ⟨by rw [HF.out]; rfl, rfl⟩
          · have g2 : decide ((1000 : Int) < (d.v.size : Int)) = false := by simp; omega
            have HK2 := Lib.hid (show ∀ j x, j < k + 1 → l[j]? = some x → fewOk x from fun j x hj hx => by
              rcases Nat.lt_or_ge j k with h1 | h1
              · exact HK.out j x h1 hx
              · obtain rfl : j = k := by omega
                rw [HD.out] at hx
                obtain rfl := Option.some.inj hx
                exact ⟨by omega, by omega⟩)
            clear hn hv HK
            go_wp2_with fail
            exact ⟨⟨k + 1, by omega, by go_num, HK2, trivial⟩, by simp [intOf]; omega⟩
      · have hi1 : ¬ (k : Int) < (l.length : Int) := by omega
        have HF := Lib.hid (show fewP l = true from decide_eq_true ⟨by omega, fun f hf => by
          obtain ⟨j, hj, hjf⟩ := List.mem_iff_getElem.1 hf
          exact HK.out j f (by omega) (by rw [List.getElem?_eq_getElem hj, hjf])⟩)
        go_wp2_with fail
        go_ret
        exact ⟨by rw [HF.out]; rfl, rfl⟩
end Go.Proofs.YtmnblpjdiplioaaGreat

namespace Go.Proofs.YtmnblpjdiplioaaGreat
set_option linter.unusedSimpArgs false
set_option linter.unusedVariables false
set_option maxRecDepth 100000
open Go.RowKit Go.Sort

theorem twoBelow (w : World) (A B : Array Value) : Go.RowKit.Below w.heap.size w ((w.alloc (.cells A 25)).alloc (.cells B 63)) := (lowA w _).alloc (by rw [World.size_alloc]; omega) _

set_option maxHeartbeats 8000000 in
theorem takesC (o : Opp) (f : Ft) (h1 : 1 ≤ o.k) (h6 : o.k ≤ 6) (w : World) :
    Calls Tryz.prog 54 #[.agg (opc o), .agg (fcs f).toArray] w fun v w' => v = .returned (.bool (backB o f)) ∧ Go.RowKit.Below w.heap.size w w' := by
  have HV := Lib.hid (show backB o f = (decide (f.n = o.n) && (if o.k = 2 ∨ o.k = 3 then decide (f.k = 3) && decide (f.v = o.v) else if o.k = 4 then decide (f.k = 2) else if o.k = 5 then decide (f.k = 4) else decide (o.k = 6))) from rfl)
  generalize backB o f = V at *
  obtain ⟨⟨d1, d2⟩, ⟨st, sc, sr⟩, fk, fn, fv⟩ := f
  obtain ⟨k, n, v, p, b⟩ := o
  simp only at h1 h6 HV
  have hx := ostr_eq fn n
  have hy := ostr_eq fv v
  have hk := kinds6 h1 h6
  unfold fcs opc
  simp only [List.toArray]
  clear h1 h6
  by_cases hn : fn = n
  case neg =>
    rw [decide_eq_false hn] at hx
    have HV2 := Lib.hid (show V = false by rw [HV.out, decide_eq_false hn]; rfl)
    clear HV hn hk
    go_enter Tryz.func54, Tryz.ntmps54
    go_wp2_with fail
    go_ret
    exact ⟨by rw [HV2.out] <;> rfl, twoBelow _ _ _⟩
  case pos =>
  rw [decide_eq_true hn] at hx
  have HV2 := Lib.hid (show V = (if k = 2 ∨ k = 3 then decide (fk = 3) && decide (fv = v) else if k = 4 then decide (fk = 2) else if k = 5 then decide (fk = 4) else decide (k = 6)) by rw [HV.out, decide_eq_true hn]; rfl)
  clear HV hn
  generalize decide (fv = v) = bv at *
  rcases hk with rfl | rfl | rfl | rfl | rfl | rfl
  · have HV3 := Lib.hid (show V = false by rw [HV2.out]; rfl)
    clear HV2
    go_enter Tryz.func54, Tryz.ntmps54
    go_wp2_with fail
    go_ret
    exact ⟨by rw [HV3.out] <;> rfl, twoBelow _ _ _⟩
  · by_cases hq : fk = 3
    · have g : (fk == 3) = true := by simp [hq]
      have HV3 := Lib.hid (show V = bv by rw [HV2.out]; simp [hq])
      clear HV2 hq
      go_enter Tryz.func54, Tryz.ntmps54
      go_wp2_with fail
      go_ret
      exact ⟨by rw [HV3.out] <;> rfl, twoBelow _ _ _⟩
    · have g : (fk == 3) = false := by simp [hq]
      have HV3 := Lib.hid (show V = false by rw [HV2.out]; simp [hq])
      clear HV2 hq
      go_enter Tryz.func54, Tryz.ntmps54
      go_wp2_with fail
      go_ret
      exact ⟨by rw [HV3.out] <;> rfl, twoBelow _ _ _⟩
  · by_cases hq : fk = 3
    · have g : (fk == 3) = true := by simp [hq]
      have HV3 := Lib.hid (show V = bv by rw [HV2.out]; simp [hq])
      clear HV2 hq
      go_enter Tryz.func54, Tryz.ntmps54
      go_wp2_with fail
      go_ret
      exact ⟨by rw [HV3.out] <;> rfl, twoBelow _ _ _⟩
    · have g : (fk == 3) = false := by simp [hq]
      have HV3 := Lib.hid (show V = false by rw [HV2.out]; simp [hq])
      clear HV2 hq
      go_enter Tryz.func54, Tryz.ntmps54
      go_wp2_with fail
      go_ret
      exact ⟨by rw [HV3.out] <;> rfl, twoBelow _ _ _⟩
  · by_cases hq : fk = 2
    · have g : (fk == 2) = true := by simp [hq]
      have HV3 := Lib.hid (show V = true by rw [HV2.out]; simp [hq])
      clear HV2 hq
      go_enter Tryz.func54, Tryz.ntmps54
      go_wp2_with fail
      go_ret
      exact ⟨by rw [HV3.out] <;> rfl, twoBelow _ _ _⟩
    · have g : (fk == 2) = false := by simp [hq]
      have HV3 := Lib.hid (show V = false by rw [HV2.out]; simp [hq])
      clear HV2 hq
      go_enter Tryz.func54, Tryz.ntmps54
      go_wp2_with fail
      go_ret
      exact ⟨by rw [HV3.out] <;> rfl, twoBelow _ _ _⟩
  · by_cases hq : fk = 4
    · have g : (fk == 4) = true := by simp [hq]
      have HV3 := Lib.hid (show V = true by rw [HV2.out]; simp [hq])
      clear HV2 hq
      go_enter Tryz.func54, Tryz.ntmps54
      go_wp2_with fail
      go_ret
      exact ⟨by rw [HV3.out] <;> rfl, twoBelow _ _ _⟩
    · have g : (fk == 4) = false := by simp [hq]
      have HV3 := Lib.hid (show V = false by rw [HV2.out]; simp [hq])
      clear HV2 hq
      go_enter Tryz.func54, Tryz.ntmps54
      go_wp2_with fail
      go_ret
      exact ⟨by rw [HV3.out] <;> rfl, twoBelow _ _ _⟩
  · have HV3 := Lib.hid (show V = true by rw [HV2.out]; rfl)
    clear HV2
    go_enter Tryz.func54, Tryz.ntmps54
    go_wp2_with fail
    go_ret
    exact ⟨by rw [HV3.out] <;> rfl, twoBelow _ _ _⟩

/-- the names that are taken back, before they are put in order -/
def preO (o : Opp) (d : Dt) (l : List Ft) : List Dt := (l.filter (fun f => decide (f.d ≠ d) && backB o f)).map (·.d)
theorem preO_sort (l : List Ft) (o : Opp) (d : Dt) : sortD (preO o d l) = takesO l o d := by
  refine rise_same (rise_sortD _) (rise_takesO l o d) fun z => ?_
  rw [mem_sortD, mem_takesO]
  unfold preO
  simp only [List.mem_map, List.mem_filter, Bool.and_eq_true, decide_eq_true_eq]
  constructor
  · rintro ⟨f, ⟨h1, h2, h3⟩, rfl⟩; exact ⟨h2, f, h1, h3, rfl⟩
  · rintro ⟨h1, f, h2, h3, rfl⟩; exact ⟨f, ⟨h2, h1, h3⟩, rfl⟩
theorem preO_len (o : Opp) (d : Dt) (l : List Ft) : (preO o d l).length ≤ l.length := by
  unfold preO; rw [List.length_map]; exact List.length_filter_le _ _
theorem preO_yes {o : Opp} {d : Dt} {l : List Ft} {k : Nat} {f : Ft} (h : l[k]? = some f) (h1 : f.d ≠ d) (h2 : backB o f = true) : preO o d (l.take (k + 1)) = preO o d (l.take k) ++ [f.d] := by
  obtain ⟨e1, e2⟩ := List.getElem?_eq_some_iff.1 h
  unfold preO
  rw [List.take_succ_eq_append_getElem e1, e2, List.filter_append, List.map_append]
  simp [h1, h2]
theorem preO_no {o : Opp} {d : Dt} {l : List Ft} {k : Nat} {f : Ft} (h : l[k]? = some f) (h1 : f.d = d ∨ backB o f = false) : preO o d (l.take (k + 1)) = preO o d (l.take k) := by
  obtain ⟨e1, e2⟩ := List.getElem?_eq_some_iff.1 h
  unfold preO
  rw [List.take_succ_eq_append_getElem e1, e2, List.filter_append, List.map_append]
  rcases h1 with h1 | h1 <;> simp [h1]

set_option maxHeartbeats 16000000 in
theorem goneOC (l : List Ft) (a : Option Addr) (cap : Nat) (o : Opp) (d : Dt) (h1 : 1 ≤ o.k) (h6 : o.k ≤ 6) (w : World) (hf : FIn w a l) (hl : l.length ≤ 60) :
    Calls Tryz.prog 33 #[.slice a l.length cap, .agg (opc o), .agg #[.int .i64 d.1, .int .i64 d.2]] w fun v w' => (∃ v', v = .returned v' ∧ OwnD w.heap.size v' (takesO l o d) w') ∧ Go.RowKit.Below w.heap.size w w' := by
  have e1 : (w.alloc (.cells (opc o) 25)).heap.size = w.heap.size + 1 := World.size_alloc _ _
  have r0 := (Blk.new w 25 (opc o)).alloc (.cells #[.int .i64 d.1, .int .i64 d.2] 36)
  have r1 := Blk.new (w.alloc (.cells (opc o) 25)) 36 #[.int .i64 d.1, .int .i64 d.2]
  rw [e1] at r1
  have hlow : Go.RowKit.Below w.heap.size w ((w.alloc (.cells (opc o) 25)).alloc (.cells #[.int .i64 d.1, .int .i64 d.2] 36)) := (lowA w _).alloc (by rw [e1]; omega) _
  have HO := Lib.hid r0
  have HD := Lib.hid r1
  have HB := Lib.hid hlow
  have HI := Lib.hid (hf.below hlow)
  have HT := Lib.hid (fun f W => takesC o f h1 h6 W)
  have HE := Lib.hid (preO_sort l o d)
  clear e1 r0 r1 hlow hf h1 h6
  generalize takesO l o d = TK at *
  go_enter Tryz.func33, Tryz.ntmps33
  go_upto_region 1 with fail
  change Code.wp _ _ _ _ ((w.alloc (.cells (opc o) 25)).alloc (.cells #[.int .i64 d.1, .int .i64 d.2] 36))
  generalize (w.alloc (.cells (opc o) 25)).alloc (.cells #[.int .i64 d.1, .int .i64 d.2] 36) = W0 at *
  go_wp2_with fail
  go_loopw [7, 9, 12] (fun v _ i wr => ∃ j : Nat, i = .int .i64 (j : Int) ∧ j ≤ l.length ∧ OwnD W0.heap.size v (preO o d (l.take j)) wr ∧ Hid (Go.RowKit.Below W0.heap.size W0 wr)) (fun _ _ i _ => l.length - (intOf i).toNat)
  case atStart => exact ⟨0, rfl, Nat.zero_le _, by rw [List.take_zero]; exact ownD_nil _ _, Lib.hid (Below.refl _ _)⟩
  case round =>
    obtain ⟨j, rfl, hj, hown, HBr⟩ := hrel
    have HOWN := Lib.hid hown
    obtain ⟨oa, oc, rfl, -, -, -⟩ := hown.din2
    have hout : (preO o d (l.take j)).length ≤ j := by have := preO_len o d (l.take j); rw [List.length_take] at this; omega
    clear hown
    by_cases hlt : j < l.length
    · obtain ⟨f, hfj⟩ : ∃ d, l[j]? = some d := ⟨_, List.getElem?_eq_getElem hlt⟩
      obtain ⟨fb, off, rfl, hbl, c0⟩ := (HI.out.below HBr.out).at hfj
      have hi1 : (j : Int) < (l.length : Int) := by omega
      have HY := Lib.hid (fun h1 h2 => preO_yes (o := o) (d := d) (l := l) (k := j) hfj h1 h2)
      have HNO := Lib.hid (fun h1 => preO_no (o := o) (d := d) (l := l) (k := j) hfj h1)
      generalize preO o d (l.take j) = out at *
      have CL := Lib.hid c0
      have CL1 := Lib.hid (range_below c0 ((Below.refl _ wr).alloc (Nat.le_refl _) (.cells zcs 63)) hbl)
      have HB1 := Lib.hid (HBr.out.trans ((boxZ_below wr f).mono HBr.out.size))
      have HO1 := Lib.hid (HOWN.out.below (boxZ_below wr f) (Nat.le_refl _))
      have HR1 := Lib.hid (boxZ_row wr f)
      have HOr := Lib.hid (HO.out.keep HB1.out)
      have HDr := Lib.hid (HD.out.keep HB1.out)
      clear hfj c0 hbl
      go_upto_region 5 with (first
        | ((with_reducible refine fl_load ?_ (.tmp 15) ?_ fb (off + j * 8) f ?_ ?_ ?_); rfl; rfl; rfl; (first | exact CL.out | exact CL1.out); simp only [Act.put, List.setIfInBounds_toArray, List.set_cons_zero, List.set_cons_succ])
        | ((with_reducible refine fl_load ?_ (.tmp 14) ?_ fb (off + j * 8) f ?_ ?_ ?_); rfl; rfl; rfl; (first | exact CL.out | exact CL1.out); simp only [Act.put, List.setIfInBounds_toArray, List.set_cons_zero, List.set_cons_succ])
        | ((with_reducible refine fl_store ?_ (.tmp 9) (.tmp 15) ?_ wr.heap.size f ?_ ?_ ?_ ?_); rfl; rfl; rfl; rfl; exact boxZ_old wr))
      change Code.wp _ _ _ _ (boxZ wr f)
      generalize boxZ wr f = W at *
      have q0 : W.cell? ⟨wr.heap.size, 0, none⟩ = some (.int .i64 f.d.1) := HR1.out.range 0 _ rfl
      have q1 : W.cell? ⟨wr.heap.size, 1, none⟩ = some (.int .i64 f.d.2) := HR1.out.range 1 _ rfl
      have p0 : W.cell? ⟨w.heap.size + 1, 0, none⟩ = some (.int .i64 d.1) := HDr.out.cell rfl
      have p1 : W.cell? ⟨w.heap.size + 1, 1, none⟩ = some (.int .i64 d.2) := HDr.out.cell rfl
      have hnq := fun W => neqD f.d d W
      have HTK := Lib.hid (HT.out f W)
      by_cases hd : f.d = d
      · rw [decide_eq_true hd] at hnq
        have HN := Lib.hid (HNO.out (.inl hd))
        have HO3 := Lib.hid (show OwnD W0.heap.size (.slice oa out.length oc) (preO o d (l.take (j + 1))) W from by rw [HN.out]; exact HO1.out)
        clear hd
        go_wp2_with fail
        go_roundw
        case rel => exact ⟨j + 1, by go_num, by omega, HO3.out, HB1⟩
        case measure => simp [intOf]; omega
      · rw [decide_eq_false hd] at hnq
        have HD2 := Lib.hid hd
        clear hd
        go_wp2_with (first
          | ((with_reducible refine bl_load ?_ 25 (.tmp 4) ?_ w.heap.size 0 (opc o) ?_ ?_ Tryz.underlying25 ?_ ?_ ?_); rfl; rfl; rfl; exact HOr.out.all; rfl; exact infoO _; simp only [Act.put, List.setIfInBounds_toArray, List.set_cons_zero, List.set_cons_succ])
          | ((with_reducible refine fl_loadg ?_ (.tmp 9) ?_ wr.heap.size 0 f ?_ ?_ ?_); rfl; rfl; rfl; exact HR1.out.range; simp only [Act.put, List.setIfInBounds_toArray, List.set_cons_zero, List.set_cons_succ]))
        refine HTK.out.mono ?_
        rintro x w2 ⟨rfl, hb2⟩
        have HB2 := Lib.hid (HB1.out.trans (hb2.mono HB1.out.size))
        have HO2 := Lib.hid (HO1.out.below hb2 (Nat.le_refl _))
        have HR2 := Lib.hid (HR1.out.keep hb2)
        clear hb2 HO1 HB1 HR1 CL CL1 HOWN q0 q1 p0 p1 hnq HOr HDr HTK
        cases ht : backB o f with
        | true =>
          have HNX := Lib.hid (HY.out HD2.out ht)
          have q0 : w2.cell? ⟨wr.heap.size, 0, none⟩ = some (.int .i64 f.d.1) := HR2.out.range 0 _ rfl
          have q1 : w2.cell? ⟨wr.heap.size, 1, none⟩ = some (.int .i64 f.d.2) := HR2.out.range 1 _ rfl
          obtain ⟨qa, qc, w3, hr3, ho3, hb3⟩ := appD (c := 1) (HO2.out.alloc (.cells #[.int .i64 f.d.1, .int .i64 f.d.2] 36)) (din_new w2 f.d) (by have := HB2.out.size; simp; omega) (out.length + 1) (by simp) (by omega)
          have hr3' : (Builtin.append_ #[41, 41] 41 #[.slice oa out.length oc, .slice (some ⟨w2.heap.size, 0, none⟩) 1 1]).run Tryz.prog (w2.alloc (.cells #[.int .i64 f.d.1, .int .i64 f.d.2] 36)) = .ok (.slice qa (out.length + 1) qc) w3 := hr3
          have HO3 := Lib.hid (show OwnD W0.heap.size (.slice qa (out.length + 1) qc) (preO o d (l.take (j + 1))) w3 from by rw [HNX.out]; exact ho3)
          have HB3 := Lib.hid ((HB2.out.alloc HB2.out.size _).trans hb3)
          have hsl := fun X => build1Dr f.d X
          clear hr3 ho3 hb3 ht
          go_wp2_with (at_builtin; refine wpList_append_run rfl _ _ 41 41 rfl (.slice oa out.length oc) (.slice (some ⟨w2.heap.size, 0, none⟩) 1 1) _ w3 rfl rfl hr3' ?_)
          go_wp2_with fail
          go_roundw
          case rel => exact ⟨j + 1, by go_num, by omega, HO3.out, HB3⟩
          case measure => simp [intOf]; omega
        | false =>
          have HN := Lib.hid (HNO.out (.inr ht))
          have HO3 := Lib.hid (show OwnD W0.heap.size (.slice oa out.length oc) (preO o d (l.take (j + 1))) w2 from by rw [HN.out]; exact HO2.out)
          clear ht
          go_wp2_with fail
          go_roundw
          case rel => exact ⟨j + 1, by go_num, by omega, HO3.out, HB2⟩
          case measure => simp [intOf]; omega
    · obtain rfl : j = l.length := by omega
      rw [List.take_length] at *
      have hi1 : ¬ (l.length : Int) < (l.length : Int) := by omega
      have HS := Lib.hid (sortC (preO o d l) oa oc wr HOWN.out.din1 (by omega))
      have HBz := Lib.hid (HB.out.trans (HBr.out.mono HB.out.size))
      clear HOWN hlt hj
      go_wp2_with fail
      refine HS.out.mono ?_
      rintro x w4 ⟨v4, rfl, ho4, hb4⟩
      rw [HE.out] at ho4
      have HZ := Lib.hid (show OwnD w.heap.size v4 TK w4 ∧ Go.RowKit.Below w.heap.size w w4 from ⟨ho4.mono HBz.out.size, HBz.out.trans (hb4.mono HBz.out.size)⟩)
      clear ho4 hb4
      go_wp2_with fail
      go_ret
      exact ⟨⟨_, rfl, HZ.out.1⟩, HZ.out.2⟩

/-- what an update says: the kind, the value, and whether it says anything -/
def sayO (o : Opp) (m : ByteArray) : Int × ByteArray × Bool :=
  if o.k = 1 then (1, m, true) else if o.k = 2 then (3, o.v, true) else if o.k = 4 then (2, o.v, true) else if o.k = 5 then (4, putS o.p, true) else (0, ⟨#[]⟩, false)
theorem saysO_eq (o : Opp) (d : Dt) (s : St) (m : ByteArray) : saysO o d s m = if (sayO o m).2.2 = true then [⟨d, s, (sayO o m).1, o.n, (sayO o m).2.1⟩] else [] := by
  unfold saysO sayO
  split
  · rfl
  · split
    · rfl
    · split
      · rfl
      · split
        · rfl
        · rfl

set_option maxHeartbeats 8000000 in
theorem saysC (o : Opp) (m : ByteArray) (h1 : 1 ≤ o.k) (h6 : o.k ≤ 6) (w : World) :
    Calls Tryz.prog 34 #[.agg (opc o), .string m] w fun v w' => v = .returned (.tuple #[.int .i64 (sayO o m).1, .string (sayO o m).2.1, .bool (sayO o m).2.2]) ∧ Go.RowKit.Below w.heap.size w w' := by
  have HO := Lib.hid (Blk.new w 25 (opc o))
  have HB := Lib.hid (lowA w (.cells (opc o) 25))
  have HP := Lib.hid (fun W => flPutC o.p W)
  have HV := Lib.hid (show sayO o m = if o.k = 1 then (1, m, true) else if o.k = 2 then (3, o.v, true) else if o.k = 4 then (2, o.v, true) else if o.k = 5 then (4, putS o.p, true) else (0, ⟨#[]⟩, false) from rfl)
  generalize sayO o m = V at *
  have hk := kinds6 h1 h6
  clear h1 h6
  obtain ⟨k, n, v, p, b⟩ := o
  simp only at hk HO HB HP HV
  generalize putS p = P at *
  rcases hk with rfl | rfl | rfl | rfl | rfl | rfl
  · have HV2 := Lib.hid (show V = (1, m, true) by rw [HV.out]; rfl)
    clear HV
    go_enter Tryz.func34, Tryz.ntmps34
    go_upto_region 1 with fail
    change Code.wp _ _ _ _ (w.alloc (.cells (opc ⟨1, n, v, p, b⟩) 25))
    generalize w.alloc (.cells (opc ⟨1, n, v, p, b⟩) 25) = W at *
    have c0 : W.cell? ⟨w.heap.size, 0, none⟩ = some (.int .i64 1) := HO.out.cell rfl
    go_wp2_with fail
    go_ret3
    exact ⟨by rw [HV2.out] <;> rfl, HB.out⟩
  · have HV2 := Lib.hid (show V = (3, v, true) by rw [HV.out]; rfl)
    clear HV
    go_enter Tryz.func34, Tryz.ntmps34
    go_upto_region 1 with fail
    change Code.wp _ _ _ _ (w.alloc (.cells (opc ⟨2, n, v, p, b⟩) 25))
    generalize w.alloc (.cells (opc ⟨2, n, v, p, b⟩) 25) = W at *
    have c0 : W.cell? ⟨w.heap.size, 0, none⟩ = some (.int .i64 2) := HO.out.cell rfl
    have c2 : W.cell? ⟨w.heap.size, 2, none⟩ = some (.string v) := HO.out.cell rfl
    go_upto_region 5 with fail
    go_quiet (fail)
    have HBN := Lib.hid (fun n => belowN HB.out n)
    go_wp2_with fail
    go_ret3
    exact ⟨by rw [HV2.out] <;> rfl, HBN.out _⟩
  · have HV2 := Lib.hid (show V = (0, ⟨#[]⟩, false) by rw [HV.out]; rfl)
    clear HV
    go_enter Tryz.func34, Tryz.ntmps34
    go_upto_region 1 with fail
    change Code.wp _ _ _ _ (w.alloc (.cells (opc ⟨3, n, v, p, b⟩) 25))
    generalize w.alloc (.cells (opc ⟨3, n, v, p, b⟩) 25) = W at *
    have c0 : W.cell? ⟨w.heap.size, 0, none⟩ = some (.int .i64 3) := HO.out.cell rfl
    go_wp2_with fail
    go_ret3
    exact ⟨by rw [HV2.out] <;> rfl, HB.out⟩
  · have HV2 := Lib.hid (show V = (2, v, true) by rw [HV.out]; rfl)
    clear HV
    go_enter Tryz.func34, Tryz.ntmps34
    go_upto_region 1 with fail
    change Code.wp _ _ _ _ (w.alloc (.cells (opc ⟨4, n, v, p, b⟩) 25))
    generalize w.alloc (.cells (opc ⟨4, n, v, p, b⟩) 25) = W at *
    have c0 : W.cell? ⟨w.heap.size, 0, none⟩ = some (.int .i64 4) := HO.out.cell rfl
    have c2 : W.cell? ⟨w.heap.size, 2, none⟩ = some (.string v) := HO.out.cell rfl
    go_upto_region 7 with fail
    go_quiet (fail)
    have HBN := Lib.hid (fun n => belowN HB.out n)
    go_wp2_with fail
    go_ret3
    exact ⟨by rw [HV2.out] <;> rfl, HBN.out _⟩
  · have HV2 := Lib.hid (show V = (4, P, true) by rw [HV.out]; rfl)
    clear HV
    go_enter Tryz.func34, Tryz.ntmps34
    go_upto_region 1 with fail
    change Code.wp _ _ _ _ (w.alloc (.cells (opc ⟨5, n, v, p, b⟩) 25))
    generalize w.alloc (.cells (opc ⟨5, n, v, p, b⟩) 25) = W at *
    have c0 : W.cell? ⟨w.heap.size, 0, none⟩ = some (.int .i64 5) := HO.out.cell rfl
    have c3 : W.cell? ⟨w.heap.size, 3, none⟩ = some (.float .f64 p) := HO.out.cell rfl
    go_wp2_with fail
    refine (HP.out W).mono ?_
    rintro x w1 ⟨rfl, hb1⟩
    have HB1 := Lib.hid (HB.out.trans (hb1.mono HB.out.size))
    clear hb1 c0 c3 HO
    go_wp2_with fail
    go_ret3
    exact ⟨by rw [HV2.out] <;> rfl, HB1.out⟩
  · have HV2 := Lib.hid (show V = (0, ⟨#[]⟩, false) by rw [HV.out]; rfl)
    clear HV
    go_enter Tryz.func34, Tryz.ntmps34
    go_upto_region 1 with fail
    change Code.wp _ _ _ _ (w.alloc (.cells (opc ⟨6, n, v, p, b⟩) 25))
    generalize w.alloc (.cells (opc ⟨6, n, v, p, b⟩) 25) = W at *
    have c0 : W.cell? ⟨w.heap.size, 0, none⟩ = some (.int .i64 6) := HO.out.cell rfl
    go_wp2_with fail
    go_ret3
    exact ⟨by rw [HV2.out] <;> rfl, HB.out⟩
end Go.Proofs.YtmnblpjdiplioaaGreat
