/-
  fact, the document's: In, Sort.
  register: values; isOf, Of.
-/
import Derived.Test.YtchnklekeinhiaaGreatGV20
import Derived.Test.YtchnklekeinhiaaGreatGV11
import Derived.Test.YtchnklekeinhiaaGreatGV19
import Derived.Great.BuildSlice
import Derived.Deep.Cut
import Derived.Deep.DeepCutAuto
import Derived.BigQuiet
import Derived.Test.YtchnklekeinhiaaGreatGV03
import Derived.Test.YtchnklekeinhiaaGreatGV16
namespace Go.Proofs.YtchnklekeinhiaaGreat
set_option maxRecDepth 100000
open Go.RowKit Go.Sort

theorem wpList_build1F {ops : Array Oper} {rest : List Oper} {o : Oper} {a : Act} {w : World} {Q : Exit → Act → World → Prop} (hgd : o.guard = none) (x : Operand) (ho : o.op = .buildSlice 22 1 #[(0, x)]) (f : Ft)
    (hx : a.eval x = .agg (fcs f).toArray)
    (hk : wpList Tryz.prog ops Q rest (a.put o.dst (.slice (some ⟨w.heap.size, 0, none⟩) 1 1)) (w.alloc (.cells (fcs f).toArray 48))) : wpList Tryz.prog ops Q (o :: rest) a w := by
  refine wpList_plain hgd fun K hK => ?_
  have e : (#[(0, x)] : Array (Nat × Operand)).map (fun (i, x) => (i, a.eval x)) = #[(0, .agg (fcs f).toArray)] := by simp [hx]
  have hb : (Instr.buildSlice 22 1 #[(0, .agg (fcs f).toArray)]).run Tryz.prog w = .ok (.slice (some ⟨w.heap.size, 0, none⟩) 1 1) (w.alloc (.cells (fcs f).toArray 48)) := by
    obtain ⟨i0, hi, hz0, hz1, hz2⟩ := info_parts factInfo
    refine run_buildSlice w 22 48 1 _ (fcs f).toArray i0 zeroF Tryz.underlying22 hi hz0 (by rw [hz1]; decide) (by rw [hz1]; decide) ?_
    rw [hz1]
    kernel_rfl
  unfold Oper.wp execOp
  simp only [ho, Sem.run_bind]
  rw [e, hb]
  exact hK _ _ hk

theorem OwnF.fin2 {B : Nat} {v : Value} {l : List Ft} {w : World} (h : OwnF B v l w) : ∃ a cap, v = .slice a l.length cap ∧ FIn w a l ∧ l.length ≤ cap ∧ cap ≤ maxLen := by
  obtain ⟨a, cap, hv, hd, -⟩ := h.fin
  refine ⟨a, cap, hv, hd, ?_⟩
  rcases h.2 with ⟨rfl, h0⟩ | ⟨g, cap', cur, rfl, hB, hg, hn, hm, hs, htk⟩
  · injection hv with h1 h2 h3; subst h3; exact ⟨by omega, by simp [maxLen]⟩
  · injection hv with h1 h2 h3; subst h3; exact ⟨hn, hm⟩
theorem FIn.take {w : World} {a : Option Addr} {l : List Ft} (h : FIn w a l) (k : Nat) : FIn w a (l.take k) := by
  rcases h with rfl | ⟨b, off, rfl, hlt, hc⟩
  · exact .inl (by simp)
  · refine .inr ⟨b, off, rfl, hlt, fun j d hj => hc j d ?_⟩
    by_cases hjk : j < k
    · rwa [List.getElem?_take_of_lt hjk] at hj
    · rw [List.getElem?_take_eq_none (by omega)] at hj; cases hj
theorem FIn.drop {w : World} {b off : Nat} {l : List Ft} (h : FIn w (some ⟨b, off, none⟩) l) (k : Nat) : FIn w (some ⟨b, off + k * 8, none⟩) (l.drop k) := by
  rcases h with rfl | ⟨b', off', he, hlt, hc⟩
  · exact .inl (by simp)
  · injection he with he; injection he with h1 h2; subst h1 h2
    refine .inr ⟨b, off + k * 8, rfl, hlt, fun j d hj => ?_⟩
    rw [List.getElem?_drop] at hj
    have := hc (k + j) d hj
    have e : off + (k + j) * 8 = off + k * 8 + j * 8 := by omega
    rwa [e] at this
theorem fin_new (w : World) (d : Ft) : FIn (w.alloc (.cells (fcs d).toArray 48)) (some ⟨w.heap.size, 0, none⟩) [d] :=
  .inr ⟨w.heap.size, 0, rfl, by simp, fun j x hj => by
    match j, hj with
    | 0, hj => simp at hj; subst hj; exact (FRow.new w d).range⟩

theorem appF {w : World} {B c : Nat} {v : Value} {xs ys : List Ft} {p : Option Addr} (h : OwnF B v xs w) (hp : FIn w p ys) (hb : B ≤ w.heap.size) (n : Nat) (hn : xs.length + ys.length = n) (hl : n ≤ 200000) :
    ∃ p' c' w', (Builtin.append_ #[22, 22] 22 #[v, .slice p ys.length c]).run Tryz.prog w = .ok (.slice p' n c') w' ∧ OwnF B (.slice p' n c') (xs ++ ys) w' ∧ Go.RowKit.Below B w w' := by
  obtain ⟨i0, hi, hz0, hz1, hz2⟩ := info_parts factInfo
  have hsrc : Src Tryz.prog 8 22 (.slice p ys.length c) ys.length (rowF ys) w := by
    cases p with
    | none =>
      have : ys = [] := by
        rcases hp with h | ⟨_, _, h, _⟩
        · exact h
        · cases h
      subst this
      exact Src.ofNil _ Tryz.underlying22 c
    | some x => exact Src.ofSlice _ Tryz.underlying22 x ys.length c _ (rowF_len ys) (hp.cells rfl) (rowF_cell ys)
  obtain ⟨v', w', hr, ho, hg, -, -⟩ := run_append_sf (P := Tryz.prog) w B 22 22 22 48 i0 _ 8 80 Tryz.underlying22 hi hz0 hz1 hz2 rfl v xs.length (rowF xs) h _ ys.length (rowF ys) hsrc (by unfold maxLen; omega) (by omega) hb
  have ho' : OwnF B v' (xs ++ ys) w' := by
    unfold OwnF
    rw [List.length_append, rowF_append]
    exact ho
  obtain ⟨p', c', rfl, -, -⟩ := ho'.fin
  rw [List.length_append, hn] at ho' hr
  exact ⟨p', c', w', hr, ho', (Below.refl _ _).grown hg hb (fun j hj => (World.ownsRow.lt h j hj).1)⟩

/-- a part of a row, from its beginning -/
theorem takeF (a : Option Addr) (n cap k : Nat) (hk : k ≤ n) (hn : n ≤ cap) (_hc : cap ≤ maxLen) :
    ∃ p : Option Addr, (∀ W, (Instr.slice 22 (.slice a n cap) none (some (.int .i64 (k : Int))) none).run Tryz.prog W = .ok (.slice p k cap) W) ∧ ∀ W (l : List Ft), l.length = n → FIn W a l → FIn W p (l.take k) := by
  have ht := Tryz.underlying22
  have ht' : Tryz.prog.underlying 22 = some (.slice (Tryz.prog.elem 22)) := by simp [Program.elem, ht]
  have he : Tryz.prog.elem 22 = 48 := by simp [Program.elem, ht]
  refine ⟨a, fun W => ?_, fun W l hl h => h.take k⟩
  rw [run_slice_h W _ _ _ _ ht' .i64 _ (by omega) (by omega), he, Tryz.sizeOf48]
  by_cases h0 : cap = 0
  · simp [Result.andThen, sliced, h0]
  · cases a <;> simp [Result.andThen, sliced, h0, Addr.add]
/-- a part of a row, to its end -/
theorem dropF (a : Option Addr) (n cap k : Nat) (hk : k ≤ n) (hn : n ≤ cap) (_hc : cap ≤ maxLen) :
    ∃ p : Option Addr, (∀ W, (Instr.slice 22 (.slice a n cap) (some (.int .i64 (k : Int))) none none).run Tryz.prog W = .ok (.slice p (n - k) (cap - k)) W) ∧ ∀ W (l : List Ft), l.length = n → FIn W a l → FIn W p (l.drop k) := by
  have ht := Tryz.underlying22
  have ht' : Tryz.prog.underlying 22 = some (.slice (Tryz.prog.elem 22)) := by simp [Program.elem, ht]
  have he : Tryz.prog.elem 22 = 48 := by simp [Program.elem, ht]
  refine ⟨if cap = k then a else a.map (·.add (k * 8)), fun W => ?_, fun W l hl h => ?_⟩
  · rw [run_slice_l W _ _ _ _ ht' .i64 _ (by omega) (by omega), he, Tryz.sizeOf48]
    simp [Result.andThen, sliced]
  · by_cases h0 : cap = k
    · exact .inl (List.drop_of_length_le (by omega))
    · rw [if_neg h0]
      rcases id h with rfl | ⟨b, off, rfl, hlt, hc⟩
      · exact .inl (by simp)
      · have h2 := h.drop k
        have e1 : (⟨b, off, none⟩ : Addr).add (k * 8) = ⟨b, off + k * 8, none⟩ := by simp only [Addr.add]; split <;> simp_all
        rw [Option.map_some, e1]
        exact h2

end Go.Proofs.YtchnklekeinhiaaGreat

namespace Go.Proofs.YtchnklekeinhiaaGreat
set_option linter.unusedSimpArgs false
set_option linter.unusedVariables false
set_option maxRecDepth 100000
open Go.RowKit Go.Sort

/-- a block of texts -/
def TBlk (w : World) (g : Nat) (ss : List ByteArray) : Prop := w.heap[g]? = some (.cells (ss.map Value.string).toArray 9 (0, 0))
theorem TBlk.lt {w : World} {g : Nat} {ss : List ByteArray} (h : TBlk w g ss) : g < w.heap.size := lt_of_block h
theorem TBlk.keep {w w' : World} {g : Nat} {ss : List ByteArray} (h : TBlk w g ss) (hb : Below w.heap.size w w') : TBlk w' g ss := by unfold TBlk; rw [hb.block g h.lt]; exact h
theorem TBlk.cell {w : World} {g : Nat} {ss : List ByteArray} (h : TBlk w g ss) {j : Nat} {x : ByteArray} (hj : ss[j]? = some x) : w.cell? ⟨g, j, none⟩ = some (.string x) := by
  rw [Joins.cell_of_block h]; simp [hj]
theorem TBlk.free {w : World} {g : Nat} {ss : List ByteArray} (h : TBlk w g ss) (j : Nat) : w.frozen? ⟨g, j, none⟩ = false := Joins.unfrozen_of_block h j
theorem TBlk.set {w : World} {g : Nat} {ss : List ByteArray} (h : TBlk w g ss) (j : Nat) (x : ByteArray) : TBlk (w.setCell ⟨g, j, none⟩ (.string x)) g (ss.set j x) := by
  have := Joins.block_setCell h (i := j) (.string x)
  unfold TBlk
  rw [this]
  simp [List.map_set]
theorem TBlk.row {w : World} {g : Nat} {ss : List ByteArray} (h : TBlk w g ss) : StrRow w (some ⟨g, 0, none⟩) ss :=
  .inr ⟨g, 0, rfl, h.lt, fun j hj => by rw [Nat.zero_add, getD_at hj]; exact h.cell (List.getElem?_eq_getElem hj)⟩
theorem make_texts (n : Nat) (hn : n ≤ 65536) (W : World) :
    (Instr.makeSlice 25 (.int .i64 (n : Int)) (.int .i64 (n : Int))).run Tryz.prog W = .ok (.slice (some ⟨W.heap.size, 0, none⟩) n n) (W.alloc (.cells (Array.replicate n (Value.string ByteArray.empty)) 9)) := by
  obtain ⟨i0, hi, hz0, hz1, hz2⟩ := info_parts strInfo
  have h := run_make (P := Tryz.prog) (w := W) 25 9 i0 (.string ByteArray.empty) Tryz.underlying25 hi hz0 .i64 .i64 (n : Int) (n : Int) (by omega) (by omega) (by rw [hz2]; omega) (by omega)
  rw [h, hz1]
  congr 3
  apply Array.ext_getElem?
  intro j
  simp [madeCells]
  by_cases hj : j < n
  · simp [hj, Value.cells, Nat.mod_one]
  · simp [hj]

set_option maxHeartbeats 4000000 in
theorem valuesC (l : List Ft) (a : Option Addr) (cap : Nat) (w : World) (h : FIn w a l) (hl : l.length ≤ 65536) :
    Calls Tryz.prog 52 #[.slice a l.length cap] w fun e w' => e = .returned (.slice (some ⟨w.heap.size, 0, none⟩) l.length l.length) ∧ TBlk w' w.heap.size (l.map (·.v)) ∧ Below w.heap.size w w' := by
  have H := Lib.hid h
  have hmk := make_texts l.length hl w
  have HT0 := Lib.hid (show TBlk (w.alloc (.cells (Array.replicate l.length (Value.string ByteArray.empty)) 9)) w.heap.size (List.replicate l.length ByteArray.empty) ∧ Below w.heap.size w (w.alloc (.cells (Array.replicate l.length (Value.string ByteArray.empty)) 9)) from ⟨by unfold TBlk; rw [show ((List.replicate l.length ByteArray.empty).map Value.string).toArray = Array.replicate l.length (Value.string ByteArray.empty) by simp]; exact heap_alloc_new w _, (Below.refl _ _).alloc (Nat.le_refl _) _⟩)
  clear h
  go_enter Tryz.func52, Tryz.ntmps52
  go_upto_region 2 with fail
  clear hmk
  generalize w.alloc (.cells (Array.replicate l.length (Value.string ByteArray.empty)) 9) = W0 at *
  go_wp2_with fail
  go_loopw [4, 5, 11] (fun _ _ i wr => ∃ (k : Nat) (t : List ByteArray), i = .int .i64 (k : Int) ∧ k ≤ l.length ∧ t.length = l.length ∧ Hid (∀ j, j < k → t[j]? = (l.map (·.v))[j]?) ∧ Hid (TBlk wr w.heap.size t) ∧ Hid (Below w.heap.size w wr)) (fun _ _ i _ => l.length - (intOf i).toNat)
  case atStart => exact ⟨0, List.replicate l.length ByteArray.empty, rfl, Nat.zero_le _, by simp, Lib.hid (fun j hj => by omega), Lib.hid HT0.out.1, Lib.hid HT0.out.2⟩
  case round =>
    clear HT0
    obtain ⟨k, t, rfl, hk, htl, HK, HT, HB⟩ := hrel
    have HTL := Lib.hid htl
    by_cases hlt : k < l.length
    · obtain ⟨f, hf⟩ : ∃ d, l[k]? = some d := ⟨_, List.getElem?_eq_getElem hlt⟩
      obtain ⟨b, off, rfl, hbl, c0⟩ := (H.out.below HB.out).at hf
      have hi1 : (k : Int) < (l.length : Int) := by omega
      have HF := Lib.hid hf
      have CL := Lib.hid c0
      have CL1 := Lib.hid (range_below c0 ((Below.refl _ wr).alloc (Nat.le_refl _) (.cells zcs 48)) hbl)
      have HB1 := Lib.hid (HB.out.trans ((boxZ_below wr f).mono HB.out.size))
      have HT1 := Lib.hid (HT.out.keep (boxZ_below wr f))
      have HR1 := Lib.hid (boxZ_row wr f)
      have HS1 := Lib.hid HT.out.lt
      clear hf c0 htl hbl
      go_upto_region 5 with (first
        | ((with_reducible refine fl_load ?_ (.tmp 14) ?_ b (off + k * 8) f ?_ ?_ ?_); rfl; rfl; rfl; (first | exact CL.out | exact CL1.out); simp only [Act.put, List.setIfInBounds_toArray, List.set_cons_zero, List.set_cons_succ])
        | ((with_reducible refine fl_store ?_ (.tmp 5) (.tmp 15) ?_ wr.heap.size f ?_ ?_ ?_ ?_); rfl; rfl; rfl; rfl; exact boxZ_old wr))
      change Code.wp _ _ _ _ (boxZ wr f)
      generalize boxZ wr f = W at *
      have c7 := HR1.out.range 7 _ rfl
      rw [Nat.zero_add] at c7
      have ck : W.cell? ⟨w.heap.size, k, none⟩ = some (.string (t.getD k ByteArray.empty)) := HT1.out.cell (by rw [List.getElem?_eq_getElem (by have := HTL.out; omega), getD_at (by have := HTL.out; omega)])
      have fk := HT1.out.free k
      have HT2 := Lib.hid (HT1.out.set k f.v)
      have HB2 := Lib.hid (HB1.out.setCell (p := ⟨w.heap.size, k, none⟩) (Nat.le_refl _) (.string f.v))
      have HK2 := Lib.hid (show ∀ j, j < k + 1 → (t.set k f.v)[j]? = (l.map (·.v))[j]? from fun j hj => by
        rcases Nat.lt_or_ge j k with h1 | h1
        · rw [List.getElem?_set_ne (by omega)]; exact HK.out j h1
        · obtain rfl : j = k := by omega
          rw [List.getElem?_set_self (by have := HTL.out; omega), List.getElem?_map, HF.out]; rfl)
      go_wp2_with fail
      go_roundw
      case rel => exact ⟨k + 1, t.set k f.v, by go_num, by omega, by simp [HTL.out], HK2, HT2, HB2⟩
      case measure => simp [intOf]; omega
    · obtain rfl : k = l.length := by omega
      have HTE := Lib.hid (show TBlk wr w.heap.size (l.map (·.v)) from by
        have e : t = l.map (·.v) := List.ext_getElem? fun j => by
          rcases Nat.lt_or_ge j l.length with h1 | h1
          · exact HK.out j h1
          · rw [List.getElem?_eq_none (by omega), List.getElem?_eq_none (by simpa using h1)]
        rw [← e]; exact HT.out)
      have hi1 : ¬ (l.length : Int) < (l.length : Int) := by omega
      go_wp2_with fail
      go_ret
      exact ⟨rfl, HTE.out, HB.out⟩

/-! the facts of a kind and a name -/
def isR (k : Int) (n : ByteArray) (f : Ft) : Bool := (decide (k = 0) || decide (f.k = k)) && decide (f.n = n)
theorem ofR_snoc (k : Int) (n : ByteArray) (l : List Ft) (f : Ft) : ofR k n (l ++ [f]) = ofR k n l ++ if isR k n f then [f] else [] := by
  unfold ofR isR
  rw [List.filter_append]
  congr 1
  simp only [List.filter_cons, List.filter_nil]
theorem ofR_len (k : Int) (n : ByteArray) (l : List Ft) : (ofR k n l).length ≤ l.length := List.length_filter_le _ _
set_option maxHeartbeats 1000000 in
theorem isOfC (f : Ft) (k : Int) (n : ByteArray) (w : World) : Calls Tryz.prog 48 #[.agg (fcs f).toArray, .int .i64 k, .string n] w fun e w' => e = .returned (.bool (isR k n f)) ∧ Below w.heap.size w w' := by
  obtain ⟨⟨d1, d2⟩, ⟨st, sc, sr⟩, fk, fn, fv⟩ := f
  have hx := str_eq fn n
  unfold isR fcs
  simp only [List.toArray]
  by_cases h1 : k = fk
  · have g1 : (k == fk) = true := by simp [h1]
    have hR : ((decide (k = 0) || decide (fk = k)) && decide (fn = n)) = (fn.toList == n.toList) := by rw [hx]; simp [h1]
    rw [hR]
    clear hR hx h1
    go_enter Tryz.func48, Tryz.ntmps48
    go_wp2_with fail
    go_ret
    exact ⟨rfl, (Below.refl _ _).alloc (Nat.le_refl _) _⟩
  · have g1 : (k == fk) = false := by simp [h1]
    have h1' : ¬ fk = k := fun e => h1 e.symm
    by_cases h2 : k = 0
    · have g2 : (k == 0) = true := by simp [h2]
      have hR : ((decide (k = 0) || decide (fk = k)) && decide (fn = n)) = (fn.toList == n.toList) := by rw [hx]; simp [h2]
      rw [hR]
      clear hR hx h1 h1' h2
      go_enter Tryz.func48, Tryz.ntmps48
      go_wp2_with fail
      go_ret
      exact ⟨rfl, (Below.refl _ _).alloc (Nat.le_refl _) _⟩
    · have g2 : (k == 0) = false := by simp [h2]
      have hR : ((decide (k = 0) || decide (fk = k)) && decide (fn = n)) = false := by simp [h1', h2]
      rw [hR]
      clear hR hx h1 h1' h2
      go_enter Tryz.func48, Tryz.ntmps48
      go_wp2_with fail
      go_ret
      exact ⟨rfl, (Below.refl _ _).alloc (Nat.le_refl _) _⟩

set_option maxHeartbeats 4000000 in
theorem ofC (l : List Ft) (k : Int) (n : ByteArray) (a : Option Addr) (cap : Nat) (w : World) (h : FIn w a l) (hl : l.length ≤ 65536) :
    Calls Tryz.prog 22 #[.slice a l.length cap, .int .i64 k, .string n] w fun e w' => ∃ v', e = .returned v' ∧ OwnF w.heap.size v' (ofR k n l) w' ∧ Below w.heap.size w w' := by
  have H := Lib.hid h
  clear h
  go_enter Tryz.func22, Tryz.ntmps22
  go_wp2_with fail
  go_loopw [7, 9, 12] (fun v _ i wr => ∃ j : Nat, i = .int .i64 (j : Int) ∧ j ≤ l.length ∧ OwnF w.heap.size v (ofR k n (l.take j)) wr ∧ Hid (Below w.heap.size w wr)) (fun _ _ i _ => l.length - (intOf i).toNat)
  case atStart => exact ⟨0, rfl, Nat.zero_le _, by rw [List.take_zero]; exact ownF_nil _ _, Lib.hid (Below.refl _ _)⟩
  case round =>
    obtain ⟨j, rfl, hj, hown, HB⟩ := hrel
    have HOWN := Lib.hid hown
    obtain ⟨oa, oc, rfl, -, hoc, hocm⟩ := hown.fin2
    have hout : (ofR k n (l.take j)).length ≤ j := by have := ofR_len k n (l.take j); rw [List.length_take] at this; omega
    clear hown
    by_cases hlt : j < l.length
    · obtain ⟨f, hf⟩ : ∃ d, l[j]? = some d := ⟨_, List.getElem?_eq_getElem hlt⟩
      obtain ⟨b, off, rfl, hbl, c0⟩ := (H.out.below HB.out).at hf
      have hi1 : (j : Int) < (l.length : Int) := by omega
      have hnx : ofR k n (l.take (j + 1)) = ofR k n (l.take j) ++ if isR k n f then [f] else [] := by
        obtain ⟨e1, e2⟩ := List.getElem?_eq_some_iff.1 hf
        rw [List.take_succ_eq_append_getElem hlt, ofR_snoc, e2]
      have HNX := Lib.hid hnx
      generalize ofR k n (l.take j) = out at *
      have CL := Lib.hid c0
      have CL1 := Lib.hid (range_below c0 ((Below.refl _ wr).alloc (Nat.le_refl _) (.cells zcs 48)) hbl)
      have HB1 := Lib.hid (HB.out.trans ((boxZ_below wr f).mono HB.out.size))
      have HO1 := Lib.hid (HOWN.out.below (boxZ_below wr f) (Nat.le_refl _))
      have HR1 := Lib.hid (boxZ_row wr f)
      clear hf c0 hbl hnx
      go_upto_region 5 with (first
        | ((with_reducible refine fl_load ?_ (.tmp 14) ?_ b (off + j * 8) f ?_ ?_ ?_); rfl; rfl; rfl; (first | exact CL.out | exact CL1.out); simp only [Act.put, List.setIfInBounds_toArray, List.set_cons_zero, List.set_cons_succ])
        | ((with_reducible refine fl_store ?_ (.tmp 9) (.tmp 15) ?_ wr.heap.size f ?_ ?_ ?_ ?_); rfl; rfl; rfl; rfl; exact boxZ_old wr))
      change Code.wp _ _ _ _ (boxZ wr f)
      generalize boxZ wr f = W at *
      have HI := Lib.hid (isOfC f k n W)
      go_wp2_with ((with_reducible refine fl_load ?_ (.tmp 9) ?_ wr.heap.size 0 f ?_ ?_ ?_); rfl; rfl; rfl; exact HR1.out.range; simp only [Act.put, List.setIfInBounds_toArray, List.set_cons_zero, List.set_cons_succ])
      refine HI.out.mono ?_
      rintro e w2 ⟨rfl, hb2⟩
      have HB2 := Lib.hid (HB1.out.trans (hb2.mono HB1.out.size))
      have HO2 := Lib.hid (HO1.out.below hb2 (Nat.le_refl _))
      have HR2 := Lib.hid (HR1.out.keep hb2)
      clear hb2 HI HO1 HB1 HR1 CL CL1 HOWN
      cases ht : isR k n f with
      | true =>
        rw [ht] at HNX
        have hone := fin_new w2 f
        obtain ⟨q2, d2, w3, hr2, ho2, hb3⟩ := appF (c := 1) (HO2.out.alloc (.cells (fcs f).toArray 48)) hone (by simp; have := HB2.out.size; omega) (out.length + 1) (by simp) (by omega)
        have hr2' : (Builtin.append_ #[22, 22] 22 #[.slice oa out.length oc, .slice (some ⟨w2.heap.size, 0, none⟩) 1 1]).run Tryz.prog (w2.alloc (.cells (fcs f).toArray 48)) = .ok (.slice q2 (out.length + 1) d2) w3 := hr2
        have HO3 := Lib.hid (show OwnF w.heap.size (.slice q2 (out.length + 1) d2) (ofR k n (l.take (j + 1))) w3 from by rw [HNX.out]; exact ho2)
        have HB3 := Lib.hid ((HB2.out.alloc HB2.out.size _).trans hb3)
        clear ho2 hb3 hone hr2 ht
        go_wp2_with (first
          | ((with_reducible refine fl_load ?_ (.tmp 9) ?_ wr.heap.size 0 f ?_ ?_ ?_); rfl; rfl; rfl; exact HR2.out.range; simp only [Act.put, List.setIfInBounds_toArray, List.set_cons_zero, List.set_cons_succ])
          | ((with_reducible refine wpList_build1F ?_ (.tmp 21) ?_ f ?_ ?_); rfl; rfl; rfl; simp only [Act.put, List.setIfInBounds_toArray, List.set_cons_zero, List.set_cons_succ])
          | (at_builtin; refine wpList_append_run rfl _ _ 22 22 rfl (.slice oa out.length oc) (.slice (some ⟨w2.heap.size, 0, none⟩) 1 1) _ w3 rfl rfl hr2' ?_))
        go_wp2_with fail
        go_roundw
        case rel => exact ⟨j + 1, by go_num, by omega, HO3.out, HB3⟩
        case measure => simp [intOf]; omega
      | false =>
        rw [ht] at HNX
        have HO3 := Lib.hid (show OwnF w.heap.size (.slice oa out.length oc) (ofR k n (l.take (j + 1))) w2 from by rw [HNX.out]; simpa using HO2.out)
        clear ht
        go_wp2_with fail
        go_roundw
        case rel => exact ⟨j + 1, by go_num, by omega, HO3.out, HB2⟩
        case measure => simp [intOf]; omega
    · obtain rfl : j = l.length := by omega
      rw [List.take_length] at *
      have hi1 : ¬ (l.length : Int) < (l.length : Int) := by omega
      go_wp2_with fail
      go_ret
      exact ⟨_, rfl, HOWN.out, HB.out⟩
end Go.Proofs.YtchnklekeinhiaaGreat
