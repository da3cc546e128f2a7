/-
  fact, the document's: Less.
  slices.Clone of facts.
  fact, the document's: In, Sort.
-/
import Derived.Test.YtkodololdjainaaGreatFactOrd
import Derived.Test.YtkodololdjainaaGreatFactRow
import Derived.Deep.Cut
import Derived.BigQuiet
import Derived.Test.YtkodololdjainaaGreatGDelN
import Derived.Great.BuildSlice
namespace Go.Proofs.YtkodololdjainaaGreat
set_option maxRecDepth 100000
open Go.RowKit Go.Sort

theorem neqS (a b : St) (W : World) : (binOp .neq 25 (.agg #[.int .i64 a.t, .int .i64 a.c, .int .i64 a.r]) (.agg #[.int .i64 b.t, .int .i64 b.c, .int .i64 b.r])).run Tryz.prog W = .ok (.bool (!decide (a = b))) W := by
  rw [run_neq_struct, eqS]; rfl

set_option maxHeartbeats 4000000 in
/-- Less, the document's -/
theorem lessFR (a b : Ft) (w : World) : Calls Tryz.prog 82 #[.agg (fcs a).toArray, .agg (fcs b).toArray] w fun e w' => e = .returned (.bool (ltF a b)) ∧ Below w.heap.size w w' := by
  have hin := boxF2_in w a b
  have HGR := Lib.hid (show Below w.heap.size w (boxF (boxF w a) b) from ((boxF_gr w a).trans (boxF_gr _ b)).below)
  have ca : ∀ j v, (fcs a)[j]? = some v → (boxF (boxF w a) b).cell? ⟨w.heap.size, j, none⟩ = some v := fun j v hv => by have h := hin.1 j v hv; rwa [Nat.zero_add] at h
  have cb : ∀ j v, (fcs b)[j]? = some v → (boxF (boxF w a) b).cell? ⟨w.heap.size + 1, j, none⟩ = some v := fun j v hv => by have h := hin.2 j v hv; rwa [Nat.zero_add] at h
  have a0 := ca 0 _ rfl
  have a1 := ca 1 _ rfl
  have a2 := ca 2 _ rfl
  have a3 := ca 3 _ rfl
  have a4 := ca 4 _ rfl
  have a5 := ca 5 _ rfl
  have a6 := ca 6 _ rfl
  have a7 := ca 7 _ rfl
  have b0 := cb 0 _ rfl
  have b1 := cb 1 _ rfl
  have b2 := cb 2 _ rfl
  have b3 := cb 3 _ rfl
  have b4 := cb 4 _ rfl
  have b5 := cb 5 _ rfl
  have b6 := cb 6 _ rfl
  have b7 := cb 7 _ rfl
  have HLD := Lib.hid (fun W => lessRb a.d b.d W)
  have HLS := Lib.hid (fun W => tlessR a.s b.s W)
  have hqd := fun W => neqD a.d b.d W
  have hqs := fun W => neqS a.s b.s W
  have hl := ltF_if a b
  have hne : ∀ x y : ByteArray, x ≠ y → (x.toList == y.toList) = false := fun x y h => by
    simp only [beq_eq_false_iff_ne, ne_eq]
    intro e
    apply h
    rw [ByteArray.toList_eq, ByteArray.toList_eq] at e
    obtain ⟨⟨p⟩⟩ := x
    obtain ⟨⟨q⟩⟩ := y
    simp only at e
    rw [e]
  generalize ltF a b = R at *
  have HL := Lib.hid hl
  have HNE := Lib.hid hne
  clear hin ca cb hl hne
  unfold boxF at a0 a1 a2 a3 a4 a5 a6 a7 b0 b1 b2 b3 b4 b5 b6 b7 HGR
  by_cases hn : a.n = b.n
  case neg =>
    have HJ := Lib.hid (HL.out.trans (if_pos hn))
    have e1 := HNE.out _ _ hn
    have hx : ltX a.n b.n = Op.bytesLess a.n.toList b.n.toList := rfl
    rw [hx] at HJ
    clear hn hqd hqs hx
    go_enter Tryz.func82, Tryz.ntmps82
    go_wp2_with fail
    go_ret
    exact ⟨by rw [HJ.out]; rfl, HGR.out⟩
  have HJ1 := Lib.hid (HL.out.trans (if_neg (fun k => k hn)))
  have e1 : (a.n.toList == b.n.toList) = true := by simp [hn]
  by_cases hk : a.k = b.k
  case neg =>
    have HJ := Lib.hid (HJ1.out.trans (if_pos hk))
    have e2 : (a.k != b.k) = true := by simp [hk]
    clear hn hk hqd hqs
    go_enter Tryz.func82, Tryz.ntmps82
    go_wp2_with fail
    go_ret
    exact ⟨by rw [HJ.out]; rfl, HGR.out⟩
  have HJ2 := Lib.hid (HJ1.out.trans (if_neg (fun k => k hk)))
  have e2 : (a.k != b.k) = false := by simp [hk]
  by_cases hd : a.d = b.d
  case neg =>
    have HJ := Lib.hid (HJ2.out.trans (if_pos hd))
    rw [decide_eq_false hd] at hqd
    clear hn hk hd hqs
    go_enter Tryz.func82, Tryz.ntmps82
    go_wp2_with fail
    refine (HLD.out _).mono ?_
    rintro e w1 ⟨rfl, hb⟩
    have HB := Lib.hid (HGR.out.trans (hb.mono HGR.out.size))
    clear hb
    go_wp2_with fail
    go_ret
    exact ⟨by rw [HJ.out]; rfl, HB.out⟩
  have HJ3 := Lib.hid (HJ2.out.trans (if_neg (fun k => k hd)))
  rw [decide_eq_true hd] at hqd
  by_cases hs : a.s = b.s
  case neg =>
    have HJ := Lib.hid (HJ3.out.trans (if_pos hs))
    rw [decide_eq_false hs] at hqs
    clear hn hk hd hs
    go_enter Tryz.func82, Tryz.ntmps82
    go_wp2_with fail
    refine (HLS.out _).mono ?_
    rintro e w1 ⟨rfl, hb⟩
    have HB := Lib.hid (HGR.out.trans ((show Below _ _ w1 from hb ▸ boxS2_below _ a.s b.s).mono HGR.out.size))
    clear hb
    go_wp2_with fail
    go_ret
    exact ⟨by rw [HJ.out]; rfl, HB.out⟩
  have HJ := Lib.hid (HJ3.out.trans (if_neg (fun k => k hs)))
  rw [decide_eq_true hs] at hqs
  have hx : ltX a.v b.v = Op.bytesLess a.v.toList b.v.toList := rfl
  rw [hx] at HJ
  clear hn hk hd hs hx
  go_enter Tryz.func82, Tryz.ntmps82
  go_wp2_with fail
  go_ret
  exact ⟨by rw [HJ.out]; rfl, HGR.out⟩
end Go.Proofs.YtkodololdjainaaGreat

namespace Go.Proofs.YtkodololdjainaaGreat
set_option maxRecDepth 100000
open Go.RowKit Go.Lib Go.Sort

theorem FIn.cells {w : World} {a : Option Addr} {l : List Ft} (h : FIn w a l) {x : Addr} (hx : a = some x) : ∀ j u, (rowF l)[j]? = some u → w.cell? (x.add j) = some u := by
  intro j u hj
  rcases h with rfl | ⟨b, off, ha, hlt, hc⟩
  · simp [rowF] at hj
  · obtain rfl := Option.some.inj (hx.symm.trans ha)
    have e1 : ∀ k, (⟨b, off, none⟩ : Addr).add k = ⟨b, off + k, none⟩ := fun k => by cases k <;> simp [Addr.add]
    rw [e1]
    obtain ⟨i, f, k, hi, rfl, hu⟩ := rowF_get l j u hj
    rw [← Nat.add_assoc]
    exact hc i f hi k u hu

theorem own_emptyF (w : World) (e : TypeId) (sz : Nat) : (w.alloc (.cells #[] e)).ownsRow w.heap.size e sz (.slice (some ⟨w.heap.size, 0, none⟩) 0 0) 0 [] :=
  ⟨by simp, .inr ⟨w.heap.size, 0, #[], rfl, Nat.le_refl _, heap_alloc_new w _, Nat.le_refl _, by simp [maxLen], by simp, by simp⟩⟩

end Go.Proofs.YtkodololdjainaaGreat

namespace Go.Proofs.YtkodololdjainaaGreat
set_option maxRecDepth 100000
open Go.RowKit Go.Sort

theorem wpList_build1F {ops : Array Oper} {rest : List Oper} {o : Oper} {a : Act} {w : World} {Q : Exit → Act → World → Prop} (hgd : o.guard = none) (x : Operand) (ho : o.op = .buildSlice 26 1 #[(0, x)]) (f : Ft)
    (hx : a.eval x = .agg (fcs f).toArray)
    (hk : wpList Tryz.prog ops Q rest (a.put o.dst (.slice (some ⟨w.heap.size, 0, none⟩) 1 1)) (w.alloc (.cells (fcs f).toArray 88))) : wpList Tryz.prog ops Q (o :: rest) a w := by
  refine wpList_plain hgd fun K hK => ?_
  have e : (#[(0, x)] : Array (Nat × Operand)).map (fun (i, x) => (i, a.eval x)) = #[(0, .agg (fcs f).toArray)] := by simp [hx]
  have hb : (Instr.buildSlice 26 1 #[(0, .agg (fcs f).toArray)]).run Tryz.prog w = .ok (.slice (some ⟨w.heap.size, 0, none⟩) 1 1) (w.alloc (.cells (fcs f).toArray 88)) := by
    obtain ⟨i0, hi, hz0, hz1, hz2⟩ := info_parts factInfo
    refine run_buildSlice w 26 88 1 _ (fcs f).toArray i0 zeroF Tryz.underlying26 hi hz0 (by rw [hz1]; decide) (by rw [hz1]; decide) ?_
    rw [hz1]
    kernel_rfl
  unfold Oper.wp execOp
  simp only [ho, Sem.run_bind]
  rw [e, hb]
  exact hK _ _ hk

theorem OwnF.fin2 {B : Nat} {v : Value} {l : List Ft} {w : World} (h : OwnF B v l w) : ∃ a cap, v = .slice a l.length cap ∧ FIn w a l ∧ l.length ≤ cap ∧ cap ≤ maxLen := by
  obtain ⟨a, cap, hv, hd, -⟩ := h.fin
  refine ⟨a, cap, hv, hd, ?_⟩
  rcases h.2 with ⟨rfl, h0⟩ | ⟨g, cap', cur, rfl, hB, hg, hn, hm, hs, htk⟩
  · injection hv with h1 h2 h3; subst h3; exact ⟨by omega, by simp [maxLen]⟩
  · injection hv with h1 h2 h3; subst h3; exact ⟨hn, hm⟩
theorem FIn.take {w : World} {a : Option Addr} {l : List Ft} (h : FIn w a l) (k : Nat) : FIn w a (l.take k) := by
  rcases h with rfl | ⟨b, off, rfl, hlt, hc⟩
  · exact .inl (by simp)
  · refine .inr ⟨b, off, rfl, hlt, fun j d hj => hc j d ?_⟩
    by_cases hjk : j < k
    · rwa [List.getElem?_take_of_lt hjk] at hj
    · rw [List.getElem?_take_eq_none (by omega)] at hj; cases hj
theorem FIn.drop {w : World} {b off : Nat} {l : List Ft} (h : FIn w (some ⟨b, off, none⟩) l) (k : Nat) : FIn w (some ⟨b, off + k * 8, none⟩) (l.drop k) := by
  rcases h with rfl | ⟨b', off', he, hlt, hc⟩
  · exact .inl (by simp)
  · injection he with he; injection he with h1 h2; subst h1 h2
    refine .inr ⟨b, off + k * 8, rfl, hlt, fun j d hj => ?_⟩
    rw [List.getElem?_drop] at hj
    have := hc (k + j) d hj
    have e : off + (k + j) * 8 = off + k * 8 + j * 8 := by omega
    rwa [e] at this
theorem fin_new (w : World) (d : Ft) : FIn (w.alloc (.cells (fcs d).toArray 88)) (some ⟨w.heap.size, 0, none⟩) [d] :=
  .inr ⟨w.heap.size, 0, rfl, by simp, fun j x hj => by
    match j, hj with
    | 0, hj => simp at hj; subst hj; exact (FRow.new w d).range⟩

theorem appF {w : World} {B c : Nat} {v : Value} {xs ys : List Ft} {p : Option Addr} (h : OwnF B v xs w) (hp : FIn w p ys) (hb : B ≤ w.heap.size) (n : Nat) (hn : xs.length + ys.length = n) (hl : n ≤ 200000) :
    ∃ p' c' w', (Builtin.append_ #[26, 26] 26 #[v, .slice p ys.length c]).run Tryz.prog w = .ok (.slice p' n c') w' ∧ OwnF B (.slice p' n c') (xs ++ ys) w' ∧ Go.RowKit.Below B w w' := by
  obtain ⟨i0, hi, hz0, hz1, hz2⟩ := info_parts factInfo
  have hsrc : Src Tryz.prog 8 26 (.slice p ys.length c) ys.length (rowF ys) w := by
    cases p with
    | none =>
      have : ys = [] := by
        rcases hp with h | ⟨_, _, h, _⟩
        · exact h
        · cases h
      subst this
      exact Src.ofNil _ Tryz.underlying26 c
    | some x => exact Src.ofSlice _ Tryz.underlying26 x ys.length c _ (rowF_len ys) (hp.cells rfl) (rowF_cell ys)
  obtain ⟨v', w', hr, ho, hg, -, -⟩ := run_append_sf (P := Tryz.prog) w B 26 26 26 88 i0 _ 8 80 Tryz.underlying26 hi hz0 hz1 hz2 rfl v xs.length (rowF xs) h _ ys.length (rowF ys) hsrc (by unfold maxLen; omega) (by omega) hb
  have ho' : OwnF B v' (xs ++ ys) w' := by
    unfold OwnF
    rw [List.length_append, rowF_append]
    exact ho
  obtain ⟨p', c', rfl, -, -⟩ := ho'.fin
  rw [List.length_append, hn] at ho' hr
  exact ⟨p', c', w', hr, ho', (Below.refl _ _).grown hg hb (fun j hj => (World.ownsRow.lt h j hj).1)⟩

/-- a part of a row, from its beginning -/
theorem takeF (a : Option Addr) (n cap k : Nat) (hk : k ≤ n) (hn : n ≤ cap) (_hc : cap ≤ maxLen) :
    ∃ p : Option Addr, (∀ W, (Instr.slice 26 (.slice a n cap) none (some (.int .i64 (k : Int))) none).run Tryz.prog W = .ok (.slice p k cap) W) ∧ ∀ W (l : List Ft), l.length = n → FIn W a l → FIn W p (l.take k) := by
  have ht := Tryz.underlying26
  have ht' : Tryz.prog.underlying 26 = some (.slice (Tryz.prog.elem 26)) := by simp [Program.elem, ht]
  have he : Tryz.prog.elem 26 = 88 := by simp [Program.elem, ht]
  refine ⟨a, fun W => ?_, fun W l hl h => h.take k⟩
  rw [run_slice_h W _ _ _ _ ht' .i64 _ (by omega) (by omega), he, Tryz.sizeOf88]
  by_cases h0 : cap = 0
  · simp [Result.andThen, sliced, h0]
  · cases a <;> simp [Result.andThen, sliced, h0, Addr.add]
/-- a part of a row, to its end -/
theorem dropF (a : Option Addr) (n cap k : Nat) (hk : k ≤ n) (hn : n ≤ cap) (_hc : cap ≤ maxLen) :
    ∃ p : Option Addr, (∀ W, (Instr.slice 26 (.slice a n cap) (some (.int .i64 (k : Int))) none none).run Tryz.prog W = .ok (.slice p (n - k) (cap - k)) W) ∧ ∀ W (l : List Ft), l.length = n → FIn W a l → FIn W p (l.drop k) := by
  have ht := Tryz.underlying26
  have ht' : Tryz.prog.underlying 26 = some (.slice (Tryz.prog.elem 26)) := by simp [Program.elem, ht]
  have he : Tryz.prog.elem 26 = 88 := by simp [Program.elem, ht]
  refine ⟨if cap = k then a else a.map (·.add (k * 8)), fun W => ?_, fun W l hl h => ?_⟩
  · rw [run_slice_l W _ _ _ _ ht' .i64 _ (by omega) (by omega), he, Tryz.sizeOf88]
    simp [Result.andThen, sliced]
  · by_cases h0 : cap = k
    · exact .inl (List.drop_of_length_le (by omega))
    · rw [if_neg h0]
      rcases id h with rfl | ⟨b, off, rfl, hlt, hc⟩
      · exact .inl (by simp)
      · have h2 := h.drop k
        have e1 : (⟨b, off, none⟩ : Addr).add (k * 8) = ⟨b, off + k * 8, none⟩ := by simp only [Addr.add]; split <;> simp_all
        rw [Option.map_some, e1]
        exact h2

end Go.Proofs.YtkodololdjainaaGreat
