/-
  sha.Block: what each call answers.
-/
import Derived.Test.YtjoaijkjocpepaaDoorShaRefW
import Derived.StillTailTactics
import Derived.Deep.WholeRow
import Derived.Deep.Cut
import Derived.Deep.DeepCutAuto
namespace Go.Proofs.YtjoaijkjocpepaaDoor
open Go.RowKit

attribute [local go_sem] xr_bits an_bits og_bits ad_mod nt_bits u32_plain sr3 sr10

/-- the table that came in -/
def Tab (w : World) : Prop := ∀ j, j < 64 → w.cell? ⟨0, j, none⟩ = some (.int .u32 (wv (Kw.getD j 0)))
theorem Tab.below {w w' : World} (h : Tab w) (hb : Below w.heap.size w w') : Tab w' := fun j hj => by
  have hc := h j hj
  rw [hb.cell (by exact block_lt_of_cell hc)]; exact hc
theorem Tab.lt {w : World} (h : Tab w) : 0 < w.heap.size := block_lt_of_cell (h 0 (by omega))

theorem u32Arr8 : (Tryd.prog.info? 38).map (·.size) = some 8 := by kernel_rfl
theorem u32Arr64 : (Tryd.prog.info? 47).map (·.size) = some 64 := by kernel_rfl
theorem info8 {l : List Wd} (h : l.length = 8) : (Tryd.prog.info? 38).map (·.size) = some (cs l).size := by rw [cs_size, h]; exact u32Arr8
theorem info64 {l : List Wd} (h : l.length = 64) : (Tryd.prog.info? 47).map (·.size) = some (cs l).size := by rw [cs_size, h]; exact u32Arr64
theorem load8 {w : World} {b : Nat} {l : List Wd} (h : Row w b 38 l) (hl : l.length = 8) :
    (Instr.loadAt 38 (.pointer (some ⟨b, 0, none⟩))).run Tryd.prog w = .ok (.agg (cs l)) w := by
  simp only [Instr.loadAt, Instr.sureAddr, Sem.run_bind, Sem.run_pure, Result.andThen]
  exact run_loadVar_row w b _ _ (cs l) (0, 0) _ h Tryd.underlying38 rfl (info8 hl)

/-- a whole row stored, and a whole row loaded -/
theorem wl_store {ops : Array Oper} {rest : List Oper} {o : Oper} {a : Act} {w : World} {Q : Exit → Act → World → Prop} (hgd : o.guard = none) (ty : TypeId) (x y : Operand) (ho : o.op = .store ty x y) (g : Nat) (l : List Wd)
    (hx : a.eval x = .pointer (some ⟨g, 0, none⟩)) (hy : a.eval y = .agg (cs l)) (t : TypeId) (hg : ∃ old : Array Value, w.heap[g]? = some (.cells old t (0, 0)) ∧ old.size = l.length) (hi : (Tryd.prog.info? ty).map (·.size) = some l.length)
    (h : wpList Tryd.prog ops Q rest (a.put o.dst undef) (w.setRow g (cs l))) : wpList Tryd.prog ops Q (o :: rest) a w := by
  obtain ⟨old, hg, ho2⟩ := hg
  exact wpList_store_row hgd ty x y ho g (cs l) hx hy t old hg (by rw [cs_size]; exact hi) (by rw [cs_size]; exact ho2) (cs_one _) h
theorem wl_load {ops : Array Oper} {rest : List Oper} {o : Oper} {a : Act} {w : World} {Q : Exit → Act → World → Prop} (hgd : o.guard = none) (ty : TypeId) (x : Operand) (ho : o.op = .load ty x) (g : Nat) (l : List Wd) (n : Nat) (e : TypeId)
    (hx : a.eval x = .pointer (some ⟨g, 0, none⟩)) (t : TypeId) (hg : Row w g t l) (hu : Tryd.prog.underlying ty = some (.array n e)) (hi : (Tryd.prog.info? ty).map (·.size) = some l.length)
    (h : wpList Tryd.prog ops Q rest (a.put o.dst (.agg (cs l))) w) : wpList Tryd.prog ops Q (o :: rest) a w :=
  wpList_load_row hgd ty x ho g hx t (cs l) (0, 0) _ hg hu rfl (by rw [cs_size]; exact hi) h
theorem ws_load {ops : Array Oper} {rest : List Oper} {o : Oper} {a : Act} {w : World} {Q : Act → Prop} (hgd : o.guard = none) (x : Operand) (ho : o.op = .load 38 x) (g : Nat) (l : List Wd)
    (hx : a.eval x = .pointer (some ⟨g, 0, none⟩)) (hg : Row w g 38 l) (hl : l.length = 8) (h : wpStill Tryd.prog ops w Q rest (a.put o.dst (.agg (cs l)))) : wpStill Tryd.prog ops w Q (o :: rest) a := by
  refine wpStill_step fun K hK => ?_
  simp only [Region.wanted, hgd, if_true]
  unfold Oper.still execOp
  simp only [ho, hx, Sem.run_bind, load8 hg hl, Result.andThen_ok, Sem.run_pure, Oper.stillUpon_value]
  exact hK _ h
theorem Row.of_set {w : World} {b c : Nat} {t : TypeId} {l : List Wd} (h : Row w b t l) (hc : b ≠ c) (C : Array Value) : Row (w.setRow c C) b t l := by
  unfold Row; rw [setRow_other _ _ _ _ hc]; exact h
theorem Tab.of_set {w : World} {c : Nat} (h : Tab w) (hc : 0 < c) (C : Array Value) : Tab (w.setRow c C) := fun j hj => by
  rw [cell_setRow_other _ _ _ _ (by simp; omega)]; exact h j hj
theorem Row.of_put {w : World} {b : Nat} {t : TypeId} {old : Array Value} (h : w.heap[b]? = some (.cells old t (0, 0))) (l : List Wd) : Row (w.setRow b (cs l)) b t l := setRow_heap _ _ _ _ _ _ h

set_option maxHeartbeats 1000000 in
set_option maxRecDepth 100000 in
theorem block8 (a b c d e f g h : Wd) (s : ByteArray) (w : World) (hs : s.size ≤ 9223372036854775807) (hT : Tab w) :
    Calls Tryd.prog 25 #[.agg #[V a, V b, V c, V d, V e, V f, V g, V h], .string s] w fun en w' => en = .returned (.agg (cs (blk [a, b, c, d, e, f, g, h] s.data.toList))) ∧ Below w.heap.size w w' := by
  have HT := Lib.hid hT
  clear hT
  go_enter Tryd.func25, Tryd.ntmps25
  go_wp2_with fail
  refine (wordsC s _ hs).mono ?_
  rintro en w1 ⟨rfl, hb1⟩
  have hz := hb1.size
  simp at hz
  have r0 : Row w1 w.heap.size 38 [a, b, c, d, e, f, g, h] := Row.below (by unfold Row; rw [cs_eight]; exact heap_alloc2_old w _ _) hb1 (by simp; omega)
  have r4 : Row w1 (w.heap.size + 1) 38 Z8 := Row.below (by unfold Row; rw [Z8_cs]; exact heap_alloc2_new w _ _) hb1 (by simp)
  have hB1 : Below w.heap.size w w1 := (((Below.refl _ _).alloc (Nat.le_refl _) _).alloc (by simp) _).trans (hb1.mono (by simp; omega))
  generalize hl : [a, b, c, d, e, f, g, h] = l at r0 ⊢
  have hl8 : l.length = 8 := by rw [← hl]; rfl
  have h5 : ∀ o : Obj, (w1.alloc o).heap[w1.heap.size]? = some o := heap_alloc_new w1
  have HL := Lib.hid hl
  have H0 := Lib.hid r0
  have H4 := Lib.hid r4
  have HB := Lib.hid hB1
  have H5 := Lib.hid h5
  have H8 := Lib.hid hl8
  clear hl r0 r4 hB1 hb1 h5 hl8
  generalize hWW : sWords s.data.toList = W
  have hlW : W.length = 64 := by rw [← hWW]; exact sWords_len _
  have HW := Lib.hid hWW
  have HLW := Lib.hid hlW
  clear hWW hlW
  dsimp only
  go_wp2_with (first
    | (with_reducible refine wl_store ?_ 47 (.tmp 5) (.tmp 10) ?_ w1.heap.size W ?_ ?_ 47 ?_ ?_ ?_
       rfl; rfl; rfl; rfl; exact ⟨_, H5.out _, by rw [HLW.out]; rfl⟩; rw [HLW.out]; exact u32Arr64
       rw [World.setRow_alloc_new]
       have q0 : Row (w1.alloc (.cells (cs W) 47)) w.heap.size 38 l := H0.out.alloc _
       have q4 : Row (w1.alloc (.cells (cs W) 47)) (w.heap.size + 1) 38 Z8 := H4.out.alloc _
       have q5 : Row (w1.alloc (.cells (cs W) 47)) w1.heap.size 47 W := heap_alloc_new _ _
       have qB : Below w.heap.size w (w1.alloc (.cells (cs W) 47)) := HB.out.alloc (by omega) _
       have qz : w1.heap.size < (w1.alloc (.cells (cs W) 47)).heap.size := by simp
       generalize w1.alloc (.cells (cs W) 47) = w2 at q0 q4 q5 qB qz ⊢
       have hz : w.heap.size + 1 < w1.heap.size := by omega
       generalize w1.heap.size = b5 at q5 qz hz ⊢
       have Q0 := Lib.hid q0
       have Q4 := Lib.hid q4
       have Q5 := Lib.hid q5
       have QB := Lib.hid qB
       have h6 : ∀ o : Obj, (w2.alloc o).heap[w2.heap.size]? = some o := heap_alloc_new w2
       have H6 := Lib.hid h6
       clear q0 q4 q5 qB h6)
    | (with_reducible refine wl_load ?_ 38 (.tmp 2) ?_ w.heap.size l 8 37 ?_ 38 ?_ ?_ ?_ ?_
       rfl; rfl; rfl; exact Q0.out; exact Tryd.underlying38; rw [H8.out]; exact u32Arr8)
    | (with_reducible refine wl_store ?_ 38 (.tmp 6) (.tmp 11) ?_ w2.heap.size l ?_ ?_ 38 ?_ ?_ ?_
       rfl; rfl; rfl; rfl; exact ⟨_, H6.out _, by rw [H8.out]; rfl⟩; rw [H8.out]; exact u32Arr8
       rw [World.setRow_alloc_new]
       have q0 : Row (w2.alloc (.cells (cs l) 38)) w.heap.size 38 l := Q0.out.alloc _
       have q4 : Row (w2.alloc (.cells (cs l) 38)) (w.heap.size + 1) 38 Z8 := Q4.out.alloc _
       have q5 : Row (w2.alloc (.cells (cs l) 38)) b5 47 W := Q5.out.alloc _
       have q6 : Row (w2.alloc (.cells (cs l) 38)) w2.heap.size 38 l := heap_alloc_new _ _
       have qB : Below w.heap.size w (w2.alloc (.cells (cs l) 38)) := QB.out.alloc (by omega) _
       generalize w2.alloc (.cells (cs l) 38) = w3 at q0 q4 q5 q6 qB ⊢
       generalize w2.heap.size = b6 at q6 qz ⊢
       have R0 := Lib.hid q0
       have R4 := Lib.hid q4
       have R5 := Lib.hid q5
       have R6 := Lib.hid q6
       have RB := Lib.hid qB
       clear q0 q4 q5 q6 qB H6 Q0 Q4 Q5 QB H0 H4 H5 HB))
  have HT3 := Lib.hid (HT.out.below RB.out)
  have z6 : b6 < w3.heap.size := R6.out.lt
  go_loopw [12] (fun i wr => ∃ t : Nat, t ≤ 64 ∧ i = .int .i64 t ∧ Row wr w.heap.size 38 l ∧ Row wr (w.heap.size + 1) 38 Z8 ∧ Row wr b5 47 W ∧ Row wr b6 38 (stps (fun j => ad (Kw.getD j 0) (W.getD j 0)) l t) ∧ Tab wr ∧ Below w.heap.size w wr) (fun i _ => 64 - (intOf i).toNat)
  case atStart => exact ⟨0, by omega, rfl, R0.out, R4.out, R5.out, by rw [stps_zero]; exact R6.out, HT3.out, RB.out⟩
  case round =>
    clear R0 R4 R5 R6 RB HT3 z6
    obtain ⟨t, ht, rfl, r0, r4, r5, r6, rT, rB⟩ := hrel
    have hr8 : (stps (fun j => ad (Kw.getD j 0) (W.getD j 0)) l t).length = 8 := stps_len _ H8.out t
    by_cases hlt : t < 64
    · have hn : stps (fun j => ad (Kw.getD j 0) (W.getD j 0)) l (t + 1) = stp (stps (fun j => ad (Kw.getD j 0) (W.getD j 0)) l t) (ad (Kw.getD t 0) (W.getD t 0)) := stps_succ _ _ _
      have ck := rT t hlt
      have cw := r5.cell t (by rw [HLW.out]; exact hlt)
      have z6 := r6.lt
      generalize Kw.getD t 0 = kt at ck hn
      generalize W.getD t 0 = wt at cw hn
      generalize stps (fun j => ad (Kw.getD j 0) (W.getD j 0)) l t = r at r6 hr8 hn
      have R0 := Lib.hid r0
      have R4 := Lib.hid r4
      have R5 := Lib.hid r5
      have R6 := Lib.hid r6
      have RT := Lib.hid rT
      have RB := Lib.hid rB
      have HN := Lib.hid hn
      have HR8 := Lib.hid hr8
      clear r0 r4 r5 r6 rT rB hn hr8
      go_wp2_with fail
      refine wp_region_still_tail 8 (by kernel_rfl) (by kernel_rfl) ?_
      simp only [List.take_succ_cons, List.take_zero, List.drop_succ_cons, List.drop_zero]
      change wpStill _ _ wr.drew _ _ _
      refine ws_load rfl (.tmp 6) rfl b6 r rfl R6.out HR8.out ?_
      repeat still_step
      refine wpStill_nil ?_
      change wpList _ _ _ _ _ wr.drew
      rw [ad_wrap]
      go_wp2_with fail
      refine (stepC r (ad kt wt) _ HR8.out).mono ?_
      rintro en w4 ⟨rfl, hb4⟩
      have hB4 : Below wr.heap.size wr w4 := ((Below.refl _ _).drew).trans hb4
      have z0 := R0.out.lt
      have z4 := R4.out.lt
      have z5 := R5.out.lt
      have z6 := R6.out.lt
      have q0 : Row w4 w.heap.size 38 l := R0.out.below hB4 z0
      have q4 : Row w4 (w.heap.size + 1) 38 Z8 := R4.out.below hB4 z4
      have q5 : Row w4 b5 47 W := R5.out.below hB4 z5
      have q6 : Row w4 b6 38 r := R6.out.below hB4 z6
      have qT : Tab w4 := RT.out.below hB4
      have qB : Below w.heap.size w w4 := RB.out.trans (hB4.mono (by omega))
      generalize hr' : stp r (ad kt wt) = r' at HN ⊢
      have hr8' : r'.length = 8 := by rw [← hr']; exact stp_len HR8.out _
      have Q0 := Lib.hid q0
      have Q4 := Lib.hid q4
      have Q5 := Lib.hid q5
      have Q6 := Lib.hid q6
      have QT := Lib.hid qT
      have QB := Lib.hid qB
      have HR8' := Lib.hid hr8'
      clear hr' hr8' q0 q4 q5 q6 qT qB hb4 hB4 R0 R4 R5 R6 RT RB z0 z4 z5 z6 ck cw
      dsimp only
      go_wp2_with (with_reducible refine wl_store ?_ 38 (.tmp 6) (.tmp 23) ?_ b6 r' ?_ ?_ 38 ?_ ?_ ?_
                   rfl; rfl; rfl; rfl; exact ⟨_, Q6.out, by rw [cs_size, HR8'.out, HR8.out]⟩; rw [HR8'.out]; exact u32Arr8)
      refine ⟨⟨t + 1, by omega, by go_num, Q0.out.of_set (by omega) _, Q4.out.of_set (by omega) _, Q5.out.of_set (by omega) _, ?_, QT.out.of_set (by omega) _, belowRow QB.out (by omega) _⟩, by simp [intOf]; omega⟩
      rw [HN.out]
      exact Row.of_put Q6.out _
    · obtain rfl : t = 64 := by omega
      generalize hrr : stps (fun j => ad (Kw.getD j 0) (W.getD j 0)) l 64 = r at r6 hr8
      have HRR := Lib.hid hrr
      have R0 := Lib.hid r0
      have R4 := Lib.hid r4
      have R6 := Lib.hid r6
      have RB := Lib.hid rB
      have HR8 := Lib.hid hr8
      clear r0 r4 r5 r6 rT rB hr8 hrr hlt ht
      go_wp2
      go_loopw [25] (fun i wr => ∃ k : Nat, k ≤ 8 ∧ i = .int .i64 k ∧ Row wr w.heap.size 38 (mix l r k) ∧ Row wr (w.heap.size + 1) 38 Z8 ∧ Row wr b6 38 r ∧ Below w.heap.size w wr) (fun i _ => 8 - (intOf i).toNat)
      case atStart => exact ⟨0, by omega, rfl, by rw [mix_zero]; exact R0.out, R4.out, R6.out, RB.out⟩
      case round =>
        clear R0 R4 R6 RB
        obtain ⟨k, hk, rfl, r0, r4, r6, rB⟩ := hrel
        have hm8 : (mix l r k).length = 8 := by rw [mix_len, H8.out]
        by_cases hlt : k < 8
        · have ch := r0.cell k (by omega)
          have cr := r6.cell k (by rw [HR8.out]; exact hlt)
          have hfree := r0.free k
          rw [mix_at l r k k (Nat.le_refl _)] at ch
          have hn := mix_succ l r k
          generalize l.getD k 0 = x at ch hn
          generalize r.getD k 0 = y at cr hn
          have z0 := r0.lt
          have z6 := r6.lt
          have R0 := Lib.hid r0
          have R4 := Lib.hid r4
          have R6 := Lib.hid r6
          have RB := Lib.hid rB
          have HN := Lib.hid hn
          clear r0 r4 r6 rB hn hm8
          go_wp2
          go_region
          go_wp2
          refine ⟨⟨k + 1, by omega, by go_num, ?_, (R4.out.other (by omega) _ _).drew, (R6.out.other (by omega) _ _).drew, (RB.out.setCell (Nat.le_refl _) _).drew⟩, by simp [intOf]; omega⟩
          rw [HN.out]
          exact (R0.out.set k _).drew
        · obtain rfl : k = 8 := by omega
          have hfin : mix l r 8 = blk [a, b, c, d, e, f, g, h] s.data.toList := by
            rw [blk_is, HL.out, ← HRR.out, ← HW.out]; rfl
          rw [hfin] at r0 hm8
          generalize hbz : blk [a, b, c, d, e, f, g, h] s.data.toList = z at r0 hm8 hfin
          have HBZ := Lib.hid hbz
          clear hbz
          have R0 := Lib.hid r0
          have R4 := Lib.hid r4
          have RB := Lib.hid rB
          have HM := Lib.hid hm8
          clear r0 r4 r6 rB hfin hm8 hlt hk
          go_wp2_with (first
            | (with_reducible refine wl_load ?_ 38 (.tmp 2) ?_ w.heap.size z 8 37 ?_ 38 ?_ ?_ ?_ ?_
               rfl; rfl; rfl; exact R0.out; exact Tryd.underlying38; rw [HM.out]; exact u32Arr8)
            | (with_reducible refine wl_store ?_ 38 (.tmp 4) (.tmp 37) ?_ (w.heap.size + 1) z ?_ ?_ 38 ?_ ?_ ?_
               rfl; rfl; rfl; rfl; exact ⟨_, R4.out, by rw [cs_size, HM.out]; rfl⟩; rw [HM.out]; exact u32Arr8))
          exact bodyPost_ret (results_cell_row rfl _ _ _ _ _ (0, 0) (.array 8 37) rfl (setRow_heap _ _ _ _ _ _ R4.out) Tryd.underlying38 rfl (info8 HM.out)) rfl ⟨by rw [HBZ.out], belowRow RB.out (by omega) _⟩

theorem blockC (l : List Wd) (s : ByteArray) (w : World) (hl : l.length = 8) (hs : s.size ≤ 9223372036854775807) (hT : Tab w) :
    Calls Tryd.prog 25 #[.agg (cs l), .string s] w fun en w' => en = .returned (.agg (cs (blk l s.data.toList))) ∧ Below w.heap.size w w' := by
  obtain ⟨a, b, c, d, e, f, g, h, rfl⟩ := len8 hl
  rw [cs_eight]
  exact block8 a b c d e f g h s w hs hT
end Go.Proofs.YtjoaijkjocpepaaDoor
