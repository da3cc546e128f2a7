/-
  How a stamp, stamps and two numbers that came in are opened.
  How a fact and facts that came in are opened.
  Same of facts, the document's; a slice of facts laid.
  almonrylaw15: Few; a fact loaded where a guard stands.
-/
import Derived.Test.YtcedliaeipabnaaGreatGKernP
import Derived.Test.YtcedliaeipabnaaGreatGKernC
import Derived.Deep.Slices
import Derived.LaidLaws
import Derived.Test.YtcedliaeipabnaaGreatGKernD
import Derived.Deep.Cut
import Derived.Deep.DeepCutAuto
import Derived.BigQuiet
import Derived.Great.BuildSlice
namespace Go.Proofs.YtcedliaeipabnaaGreat
set_option maxRecDepth 100000
open Go.ChangeShapes Go.WideShapes Go.ChangeAt Go.RowKit Go.Deep
open Go.ChangeMaps (open_string shut_string)

theorem three_of {cs : List Value} {a b c : Value} (h : cs.length = 3) (h0 : (cs.drop 0).take 1 = [a]) (h1 : (cs.drop 1).take 1 = [b]) (h2 : (cs.drop 2).take 1 = [c]) : cs = [a, b, c] := by
  match cs, h with
  | [_, _, _], _ => simp_all

theorem stamp_cells {H : Type} {enc : TypeId × Value → H} {W : World} {b0 : Nat} {sp : Nat → Bool} {held : Bool} {fuel : Nat} {cs : List Value} {x : DataW H × List MemPlace}
    (h : DataW.trod enc Tryz.prog W b0 sp held fuel 52 cs = some x) : ∃ d : St, cs = scs d := by
  obtain ⟨xs, n, _, _, hlen, hxl, hf⟩ := DataW.trod_struct Tryz.underlying52 h
  have hc3 : Tryz.prog.cellsOf 52 = 3 := by kernel_rfl
  rw [hc3] at hlen
  have get : ∀ i, i < 3 → ∃ y, xs[i]? = some y := fun i hi => ⟨_, List.getElem?_eq_getElem (by rw [hxl]; simpa using hi)⟩
  obtain ⟨y0, g0⟩ := get 0 (by omega)
  obtain ⟨y1, g1⟩ := get 1 (by omega)
  obtain ⟨y2, g2⟩ := get 2 (by omega)
  have f0 := (hf 0 _ rfl).trans g0
  have f1 := (hf 1 _ rfl).trans g1
  have f2 := (hf 2 _ rfl).trans g2
  obtain ⟨k, e0, _, w0⟩ := DataW.trod_int Tryz.underlying3 f0
  obtain ⟨i, e1, _, w1⟩ := DataW.trod_int Tryz.underlying3 f1
  obtain ⟨j, e2, _, w2⟩ := DataW.trod_int Tryz.underlying3 f2
  exact ⟨⟨k, i, j⟩, three_of hlen (by rw [← e0]; rfl) (by rw [← e1]; rfl) (by rw [← e2]; rfl)⟩

theorem open_stamp {H : Type} {enc : TypeId × Value → H} {W : World} {base b0 : Nat} {sp : Nat → Bool} {held : Bool} {v : Value} {d : DataW H} {p : List MemPlace}
    (hv : Value.okWide Tryz.prog W .any base 52 v) (h : DataW.Trod enc Tryz.prog W b0 sp held 52 v d p) : ∃ x : St, v = stv x := by
  obtain ⟨cs, rfl, _⟩ := okWide_struct Tryz.underlying52 hv
  obtain ⟨fuel, hf⟩ := h
  obtain ⟨x, hx⟩ := stamp_cells hf
  refine ⟨x, ?_⟩
  have hx' : cs.toList = scs x := hx
  unfold stv
  congr 1
  exact Array.toList_inj.1 hx'

end Go.Proofs.YtcedliaeipabnaaGreat

namespace Go.Proofs.YtcedliaeipabnaaGreat
set_option maxRecDepth 100000
open Go.ChangeShapes Go.WideShapes Go.ChangeAt Go.RowKit Go.Deep
open Go.ChangeMaps (open_string shut_string)

theorem eight_of {cs : List Value} {a b c d e f g h : Value} (hl : cs.length = 8) (h0 : (cs.drop 0).take 2 = [a, b]) (h1 : (cs.drop 2).take 3 = [c, d, e]) (h2 : (cs.drop 5).take 1 = [f]) (h3 : (cs.drop 6).take 1 = [g]) (h4 : (cs.drop 7).take 1 = [h]) : cs = [a, b, c, d, e, f, g, h] := by
  match cs, hl with
  | [_, _, _, _, _, _, _, _], _ => simp_all

theorem fact_cells {H : Type} {enc : TypeId × Value → H} {W : World} {b0 : Nat} {sp : Nat → Bool} {held : Bool} {fuel : Nat} {cs : List Value} {x : DataW H × List MemPlace}
    (h : DataW.trod enc Tryz.prog W b0 sp held fuel 61 cs = some x) : ∃ f : Ft, cs = fcs f ∧ f.n.size ≤ maxLen ∧ f.v.size ≤ maxLen := by
  obtain ⟨xs, n, _, _, hlen, hxl, hf⟩ := DataW.trod_struct Tryz.underlying61 h
  have hc8 : Tryz.prog.cellsOf 61 = 8 := by kernel_rfl
  rw [hc8] at hlen
  have get : ∀ i, i < 5 → ∃ y, xs[i]? = some y := fun i hi => ⟨_, List.getElem?_eq_getElem (by rw [hxl]; simpa using hi)⟩
  obtain ⟨y0, g0⟩ := get 0 (by omega)
  obtain ⟨y1, g1⟩ := get 1 (by omega)
  obtain ⟨y2, g2⟩ := get 2 (by omega)
  obtain ⟨y3, g3⟩ := get 3 (by omega)
  obtain ⟨y4, g4⟩ := get 4 (by omega)
  have f0 := (hf 0 _ rfl).trans g0
  have f1 := (hf 1 _ rfl).trans g1
  have f2 := (hf 2 _ rfl).trans g2
  have f3 := (hf 3 _ rfl).trans g3
  have f4 := (hf 4 _ rfl).trans g4
  obtain ⟨d, e0⟩ := dot_cells f0
  obtain ⟨s, e1⟩ := stamp_cells f1
  obtain ⟨k, e2, _, w2⟩ := DataW.trod_int Tryz.underlying3 f2
  obtain ⟨nm, e3, _, w3⟩ := DataW.trod_string Tryz.underlying9 f3
  obtain ⟨v, e4, _, w4⟩ := DataW.trod_string Tryz.underlying9 f4
  exact ⟨⟨d, s, k, nm, v⟩, eight_of hlen (by have := e0; unfold dcs at this; rw [← this]; rfl) (by have := e1; unfold scs at this; rw [← this]; rfl) (by rw [← e2]; rfl) (by rw [← e3]; rfl) (by rw [← e4]; rfl), w3, w4⟩

abbrev fv (f : Ft) : Value := .agg (fcs f).toArray
theorem open_fact {H : Type} {enc : TypeId × Value → H} {W : World} {base b0 : Nat} {sp : Nat → Bool} {held : Bool} {v : Value} {d : DataW H} {p : List MemPlace}
    (hv : Value.okWide Tryz.prog W .any base 61 v) (h : DataW.Trod enc Tryz.prog W b0 sp held 61 v d p) : ∃ x : Ft, v = fv x ∧ x.n.size ≤ maxLen ∧ x.v.size ≤ maxLen := by
  obtain ⟨cs, rfl, _⟩ := okWide_struct Tryz.underlying61 hv
  obtain ⟨fuel, hf⟩ := h
  obtain ⟨x, hx, hs⟩ := fact_cells hf
  refine ⟨x, ?_, hs⟩
  have hx' : cs.toList = fcs x := hx
  unfold fv
  congr 1
  exact Array.toList_inj.1 hx'

/-- Facts that came in: they lie there, and are no more than can be, nor are their texts. -/
def FactArg (w : World) (a : Option Addr) (len : Nat) (l : List Ft) : Prop := l.length = len ∧ len ≤ maxLen ∧ FIn w a l ∧ ∀ f ∈ l, f.n.size ≤ maxLen ∧ f.v.size ≤ maxLen

theorem facts_of {H : Type} {enc : TypeId × Value → H} {W : World} {sp : Nat → Bool} {held : Bool} {a : Option Addr} {len cap : Nat} {d : DataW H} {p : List MemPlace}
    (h : DataW.Trod enc Tryz.prog W 0 sp held 22 (.slice a len cap) d p) : ∃ l, FactArg W a len l := by
  obtain ⟨fuel, hf⟩ := h
  have hc8 : Tryz.prog.cellsOf 61 = 8 := by kernel_rfl
  rcases open_slice Tryz.underlying22 hf with ⟨hcs, _⟩ | ⟨x, l, c, m, n, D, Pl, hcs, _, hl, hm, hmm, _, hi⟩
  · simp [Value.cells] at hcs
    obtain ⟨rfl, rfl, rfl⟩ := hcs
    exact ⟨[], rfl, by simp [maxLen], .inl rfl, fun f hf => by simp at hf⟩
  · simp [Value.cells] at hcs
    obtain ⟨rfl, rfl, rfl⟩ := hcs
    rw [hc8] at hi
    have hlm : len ≤ m := by rw [hmm]; split <;> omega
    have hd : ∀ i, i < len → ∃ dd : Ft, (dd.n.size ≤ maxLen ∧ dd.v.size ≤ maxLen) ∧ ∀ j u, (fcs dd)[j]? = some u → W.cell? ((x.add (i * 8)).add j) = some u := fun i hil => by
      obtain ⟨cs', hcell, ht⟩ := hi i (by omega)
      obtain ⟨_, hlen, hat⟩ := World.cells?_some hcell
      obtain ⟨dd, rfl, hs⟩ := fact_cells ht
      exact ⟨dd, hs, fun j u hju => by rw [hat j (by have := (List.getElem?_eq_some_iff.1 hju).1; rw [fcs_len] at this; omega)]; exact hju⟩
    let z : Ft := ⟨(0, 0), ⟨0, 0, 0⟩, 0, ⟨#[]⟩, ⟨#[]⟩⟩
    obtain ⟨g, hg⟩ : ∃ g : Nat → Ft, ∀ i, i < len → ((g i).n.size ≤ maxLen ∧ (g i).v.size ≤ maxLen) ∧ ∀ j u, (fcs (g i))[j]? = some u → W.cell? ((x.add (i * 8)).add j) = some u :=
      ⟨fun i => if h : i < len then (hd i h).choose else z, fun i h => by simp only [h, dif_pos]; exact (hd i h).choose_spec⟩
    refine ⟨(List.range len).map g, by simp, by omega, ?_, fun f hf => ?_⟩
    · by_cases h0 : len = 0
      · subst h0; exact .inl (by simp)
      · obtain ⟨b, off, spot⟩ := x
        have hc0 := (hg 0 (by omega)).2 0 _ rfl
        have hspot : spot = none := by simpa [Addr.add] using World.cell?_spot hc0
        subst hspot
        have add0 : ∀ k, (⟨b, off, none⟩ : Addr).add k = ⟨b, off + k, none⟩ := fun k => by cases k <;> simp [Addr.add]
        have add1 : ∀ o k, (⟨b, o, none⟩ : Addr).add k = ⟨b, o + k, none⟩ := fun o k => by cases k <;> simp [Addr.add]
        refine .inr ⟨b, off, rfl, by have := World.block_lt_of_cell? W _ hc0; rw [add0, add1] at this; exact this, fun j dd hj i u hu => ?_⟩
        have hjl : j < len := by have := (List.getElem?_eq_some_iff.1 hj).1; simpa using this
        have he : g j = dd := by simpa [hjl] using hj
        have hcell := (hg j hjl).2 i u (by rw [he]; exact hu)
        simp only [add0, add1] at hcell
        exact hcell
    · obtain ⟨i, hil, rfl⟩ := List.mem_map.1 hf
      exact (hg i (List.mem_range.1 hil)).1
end Go.Proofs.YtcedliaeipabnaaGreat

namespace Go.Proofs.YtcedliaeipabnaaGreat
set_option maxRecDepth 100000
open Go.RowKit Go.Sort

set_option maxHeartbeats 4000000 in
theorem sameRF (x y : List Ft) (a b : Option Addr) (ca cb : Nat) (w : World) (hx : FIn w a x) (hy : FIn w b y) (hlx : x.length ≤ maxLen) :
    Calls Tryz.prog 10 #[.slice a x.length ca, .slice b y.length cb] w fun e w' => e = .returned (.bool (decide (x = y))) ∧ Below w.heap.size w w' := by
  unfold maxLen at hlx
  by_cases hl : x.length = y.length
  · have hn : ((x.length : Int) != (y.length : Int)) = false := by simp [hl]
    have HX := Lib.hid hx
    have HY := Lib.hid hy
    have HL := Lib.hid hl
    clear hx hy hl
    go_enter Tryz.func10, Tryz.ntmps10
    go_wp2_with fail
    go_loopw [5] (fun i wr => ∃ k : Nat, k ≤ x.length ∧ i = .int .i64 k ∧ Hid (∀ j, j < k → x[j]? = y[j]?) ∧ Hid (Below w.heap.size w wr)) (fun i _ => x.length - (intOf i).toNat)
    case atStart => exact ⟨0, Nat.zero_le _, rfl, Lib.hid (fun j hj => by omega), Lib.hid (Below.refl _ _)⟩
    case round =>
      obtain ⟨k, hk, rfl, HK, HB⟩ := hrel
      by_cases hlt : k < x.length
      · obtain ⟨d, hd⟩ : ∃ d, x[k]? = some d := ⟨_, List.getElem?_eq_getElem hlt⟩
        obtain ⟨f, hf⟩ : ∃ d, y[k]? = some d := ⟨_, List.getElem?_eq_getElem (by have := HL.out; omega)⟩
        obtain ⟨b1, o1, rfl, hb1, c0⟩ := (HX.out.below HB.out).at hd
        obtain ⟨b2, o2, rfl, hb2, p0⟩ := (HY.out.below HB.out).at hf
        have hi1 : (k : Int) < (x.length : Int) := by omega
        have hi2 : (k : Int) < (y.length : Int) := by have := HL.out; omega
        have HD := Lib.hid (And.intro hd hf)
        have HR0 := Lib.hid (range_regrown c0 hb1)
        have HR1 := Lib.hid (range_regrown p0 hb2)
        clear hd hf c0 p0 hb1 hb2
        by_cases he : d = f
        · have hnq := fun W => neqF d f W
          rw [decide_eq_true he] at hnq
          have HK2 := Lib.hid (show ∀ j, j < k + 1 → x[j]? = y[j]? from fun j hj => by
            rcases Nat.lt_or_ge j k with h1 | h1
            · exact HK.out j h1
            · obtain rfl : j = k := by omega
              rw [HD.out.1, HD.out.2, he])
          clear he
          go_upto_region 6 with fail
          refine wp_region_quiet_below (by kernel_rfl) (by kernel_rfl) ?_
          repeat (first
            | ((with_reducible refine fq_load ?_ (.tmp 19) ?_ b1 (o1 + k * 8) d ?_ ?_ ?_); rfl; rfl; rfl; exact HR0.out; simp only [Act.put, List.setIfInBounds_toArray, List.set_cons_zero, List.set_cons_succ])
            | ((with_reducible refine fq_load ?_ (.tmp 23) ?_ b2 (o2 + k * 8) f ?_ ?_ ?_); rfl; rfl; rfl; exact HR1.out; simp only [Act.put, List.setIfInBounds_toArray, List.set_cons_zero, List.set_cons_succ])
            | go_big_quiet_step (fail) | quiet_step (fail))
          refine wpQuiet_nil ?_
          intro _ hw'
          obtain ⟨⟨dq, osq⟩, hw''⟩ := hw'
          subst hw''
          have HB9 := Lib.hid (HB.out.trans ((below_regrown wr dq osq).mono HB.out.size))
          clear HR0 HR1 hnq HB
          generalize grow (redrawn wr dq) osq = W at *
          go_wp2_with fail
          go_roundw
          case rel => exact ⟨k + 1, by omega, by go_num, HK2, HB9⟩
          case measure => simp [intOf]; omega
        · have hnq := fun W => neqF d f W
          rw [decide_eq_false he] at hnq
          have hfin : decide (x = y) = false := by
            refine decide_eq_false fun hxy => he ?_
            have h := HD.out.1
            rw [hxy, HD.out.2] at h
            exact (Option.some.inj h).symm
          have HF := Lib.hid hfin
          clear he hfin
          go_upto_region 6 with fail
          refine wp_region_quiet_below (by kernel_rfl) (by kernel_rfl) ?_
          repeat (first
            | ((with_reducible refine fq_load ?_ (.tmp 19) ?_ b1 (o1 + k * 8) d ?_ ?_ ?_); rfl; rfl; rfl; exact HR0.out; simp only [Act.put, List.setIfInBounds_toArray, List.set_cons_zero, List.set_cons_succ])
            | ((with_reducible refine fq_load ?_ (.tmp 23) ?_ b2 (o2 + k * 8) f ?_ ?_ ?_); rfl; rfl; rfl; exact HR1.out; simp only [Act.put, List.setIfInBounds_toArray, List.set_cons_zero, List.set_cons_succ])
            | go_big_quiet_step (fail) | quiet_step (fail))
          refine wpQuiet_nil ?_
          intro _ hw'
          obtain ⟨⟨dq, osq⟩, hw''⟩ := hw'
          subst hw''
          have HB9 := Lib.hid (HB.out.trans ((below_regrown wr dq osq).mono HB.out.size))
          clear HR0 HR1 hnq HB
          generalize grow (redrawn wr dq) osq = W at *
          go_wp2_with fail
          go_ret
          exact ⟨by rw [HF.out]; rfl, HB9.out⟩
      · have hfin : decide (x = y) = true := by
          refine decide_eq_true (List.ext_getElem? fun j => ?_)
          rcases Nat.lt_or_ge j k with h1 | h1
          · exact HK.out j h1
          · rw [List.getElem?_eq_none (by omega), List.getElem?_eq_none (by have := HL.out; omega)]
        have HF := Lib.hid hfin
        have hi1 : ¬ (k : Int) < (x.length : Int) := by omega
        clear hfin
        go_wp2_with fail
        go_ret
        exact ⟨by rw [HF.out]; rfl, HB.out⟩
  · have hn : ((x.length : Int) != (y.length : Int)) = true := by simp; omega
    have hfin : decide (x = y) = false := decide_eq_false fun h => hl (by rw [h])
    rw [hfin]
    clear hfin hl
    go_enter Tryz.func10, Tryz.ntmps10
    go_wp2_with fail
    go_ret
    exact ⟨rfl, Below.refl _ _⟩

theorem same_anyF (x y : List Ft) (n m : Nat) (hn : x.length = n) (hm : y.length = m) (a b : Option Addr) (ca cb : Nat) (w : World) (hx : FIn w a x) (hy : FIn w b y) (hlx : n ≤ maxLen) (t : Bool) (ht : decide (x = y) = t) :
    Calls Tryz.prog 10 #[.slice a n ca, .slice b m cb] w fun e w' => e = .returned (.bool t) ∧ Below w.heap.size w w' := by
  subst hn hm ht
  exact sameRF x y a b ca cb w hx hy hlx

/-! a slice of some facts -/
theorem fin_cells (w : World) (l : List Ft) : FIn (w.alloc (.cells (rowF l).toArray 61)) (some ⟨w.heap.size, 0, none⟩) l := by
  refine .inr ⟨w.heap.size, 0, rfl, by simp, fun j f hj i u hu => ?_⟩
  have h1 := rowF_at l j f hj i u hu
  rw [Nat.zero_add, Joins.cell_of_block (heap_alloc_new w _)]
  simpa using h1
theorem build2F (a b : Ft) (w : World) : (Instr.buildSlice 22 2 #[(0, .agg (fcs a).toArray), (1, .agg (fcs b).toArray)]).run Tryz.prog w = .ok (.slice (some ⟨w.heap.size, 0, none⟩) 2 2) (w.alloc (.cells (rowF [a, b]).toArray 61)) := by
  obtain ⟨i0, hi, hz0, hz1, hz2⟩ := info_parts factInfo
  refine run_buildSlice w 22 61 2 _ (rowF [a, b]).toArray i0 zeroF Tryz.underlying22 hi hz0 (by rw [hz1]; decide) (by rw [hz1]; decide) ?_
  rw [hz1]
  kernel_rfl
theorem build3F (a b c : Ft) (w : World) : (Instr.buildSlice 22 3 #[(0, .agg (fcs a).toArray), (1, .agg (fcs b).toArray), (2, .agg (fcs c).toArray)]).run Tryz.prog w = .ok (.slice (some ⟨w.heap.size, 0, none⟩) 3 3) (w.alloc (.cells (rowF [a, b, c]).toArray 61)) := by
  obtain ⟨i0, hi, hz0, hz1, hz2⟩ := info_parts factInfo
  refine run_buildSlice w 22 61 3 _ (rowF [a, b, c]).toArray i0 zeroF Tryz.underlying22 hi hz0 (by rw [hz1]; decide) (by rw [hz1]; decide) ?_
  rw [hz1]
  kernel_rfl
end Go.Proofs.YtcedliaeipabnaaGreat

namespace Go.Proofs.YtcedliaeipabnaaGreat
open Go.RowKit Go.Sort
set_option maxRecDepth 100000

theorem fl_loadg {ops : Array Oper} {rest : List Oper} {o : Oper} {a : Act} {w : World} {Q : Exit → Act → World → Prop} (hw : Region.wanted o (yielded ops a.tmps) = true) (x : Operand) (ho : o.op = .load 61 x) (g off : Nat) (f : Ft)
    (hx : a.eval x = .pointer (some ⟨g, off, none⟩)) (hg : w.rangeAt g off (fcs f)) (h : wpList Tryz.prog ops Q rest (a.put o.dst (.agg (fcs f).toArray)) w) : wpList Tryz.prog ops Q (o :: rest) a w := by
  unfold wpList
  rw [if_pos hw]
  exact .inl (wp_load_mid 61 x ho g off hx (fcs f) _ hg Tryz.underlying61 rfl factSize h)

/-- three facts laid into a slice, in a walk -/
theorem wpList_build3F {ops : Array Oper} {rest : List Oper} {o : Oper} {a : Act} {w : World} {Q : Exit → Act → World → Prop} (hgd : o.guard = none) (x y z : Operand) (ho : o.op = .buildSlice 22 3 #[(0, x), (1, y), (2, z)]) (f g h : Ft)
    (hx : a.eval x = .agg (fcs f).toArray) (hy : a.eval y = .agg (fcs g).toArray) (hz : a.eval z = .agg (fcs h).toArray)
    (hk : wpList Tryz.prog ops Q rest (a.put o.dst (.slice (some ⟨w.heap.size, 0, none⟩) 3 3)) (w.alloc (.cells (rowF [f, g, h]).toArray 61))) : wpList Tryz.prog ops Q (o :: rest) a w := by
  refine wpList_plain hgd fun K hK => ?_
  have e : (#[(0, x), (1, y), (2, z)] : Array (Nat × Operand)).map (fun (i, x) => (i, a.eval x)) = #[(0, .agg (fcs f).toArray), (1, .agg (fcs g).toArray), (2, .agg (fcs h).toArray)] := by simp [hx, hy, hz]
  unfold Oper.wp execOp
  simp only [ho, Sem.run_bind]
  rw [e, build3F]
  exact hK _ _ hk

def fewOk (f : Ft) : Prop := f.n.size ≤ 100 ∧ f.v.size ≤ 1000
instance (f : Ft) : Decidable (fewOk f) := inferInstanceAs (Decidable (_ ∧ _))
def fewP (l : List Ft) : Bool := decide (l.length ≤ 30 ∧ ∀ f ∈ l, fewOk f)
theorem fewP_ok {l : List Ft} (h : fewP l = true) : l.length ≤ 30 ∧ ∀ f ∈ l, fewOk f := of_decide_eq_true h
theorem fewP_v {l : List Ft} (h : fewP l = true) : ∀ f ∈ l, f.v.size ≤ 5000 := fun f hf => by have := ((fewP_ok h).2 f hf).2; omega

set_option maxHeartbeats 2000000 in
theorem ffewC (l : List Ft) (a : Option Addr) (cap : Nat) (w : World) (h : FIn w a l) (hl : l.length ≤ maxLen) (hs : ∀ f ∈ l, f.n.size ≤ maxLen ∧ f.v.size ≤ maxLen) :
    Calls Tryz.prog 22 #[.slice a l.length cap] w fun e w' => e = .returned (.bool (fewP l)) ∧ w = w' := by
  unfold maxLen at hl
  by_cases hbig : 30 < l.length
  · have hbi : (30 : Int) < (l.length : Int) := by omega
    rw [show fewP l = false from decide_eq_false (fun k => by omega)]
    clear h hs hbig
    go_enter Tryz.func22, Tryz.ntmps22
    go_wp2_with fail
    go_ret
    exact ⟨rfl, rfl⟩
  · have hbi : ¬ (30 : Int) < (l.length : Int) := by omega
    have H := Lib.hid h
    have HS := Lib.hid hs
    clear h hs
    go_enter Tryz.func22, Tryz.ntmps22
    go_wp2_with fail
    go_loopw [3] (fun i wr => ∃ k : Nat, k ≤ l.length ∧ i = .int .i64 k ∧ Hid (∀ j d, j < k → l[j]? = some d → fewOk d) ∧ w = wr) (fun i _ => l.length - (intOf i).toNat)
    case atStart => exact ⟨0, Nat.zero_le _, rfl, Lib.hid (fun j d hj => by omega), rfl⟩
    case round =>
      obtain ⟨k, hk, rfl, HK, rfl⟩ := hrel
      by_cases hlt : k < l.length
      · obtain ⟨d, hd⟩ : ∃ d, l[k]? = some d := ⟨_, List.getElem?_eq_getElem hlt⟩
        obtain ⟨b, off, rfl, hbl, c0⟩ := H.out.at hd
        have hi1 : (k : Int) < (l.length : Int) := by omega
        have hm : d ∈ l := List.mem_of_getElem? hd
        have c6 := c0 6 _ rfl
        have c7 := c0 7 _ rfl
        have hz := HS.out d hm
        unfold maxLen at hz
        have HD := Lib.hid hd
        have HM := Lib.hid hm
        clear c0 hd hm
        by_cases hn : 100 < d.n.size
        · have g1 : decide ((100 : Int) < (d.n.size : Int)) = true := by simp; omega
          have HF := Lib.hid (show fewP l = false from decide_eq_false (fun k => by have := (k.2 d HM.out).1; omega))
          clear hn
          go_wp2_with fail
          go_ret
          exact ⟨by rw [HF.out]; rfl, rfl⟩
        · have g1 : decide ((100 : Int) < (d.n.size : Int)) = false := by simp; omega
          by_cases hv : 1000 < d.v.size
          · have g2 : decide ((1000 : Int) < (d.v.size : Int)) = true := by simp; omega
            have HF := Lib.hid (show fewP l = false from decide_eq_false (fun k => by have := (k.2 d HM.out).2; omega))
            clear hn hv
            go_wp2_with fail
            go_ret
            exact ⟨by rw [HF.out]; rfl, rfl⟩
          · have g2 : decide ((1000 : Int) < (d.v.size : Int)) = false := by simp; omega
            have HK2 := Lib.hid (show ∀ j x, j < k + 1 → l[j]? = some x → fewOk x from fun j x hj hx => by
              rcases Nat.lt_or_ge j k with h1 | h1
              · exact HK.out j x h1 hx
              · obtain rfl : j = k := by omega
                rw [HD.out] at hx
                obtain rfl := Option.some.inj hx
                exact ⟨by omega, by omega⟩)
            clear hn hv HK
            go_wp2_with fail
            exact ⟨⟨k + 1, by omega, by go_num, HK2, trivial⟩, by simp [intOf]; omega⟩
      · have hi1 : ¬ (k : Int) < (l.length : Int) := by omega
        have HF := Lib.hid (show fewP l = true from decide_eq_true ⟨by omega, fun f hf => by
          obtain ⟨j, hj, hjf⟩ := List.mem_iff_getElem.1 hf
          exact HK.out j f (by omega) (by rw [List.getElem?_eq_getElem hj, hjf])⟩)
        go_wp2_with fail
        go_ret
        exact ⟨by rw [HF.out]; rfl, rfl⟩
end Go.Proofs.YtcedliaeipabnaaGreat
