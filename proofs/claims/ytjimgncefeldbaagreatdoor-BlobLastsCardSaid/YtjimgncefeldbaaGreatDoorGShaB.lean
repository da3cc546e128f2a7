/-
  sha.Block: what each call answers.
  almonryref02.Block: what each call answers.
  sha.Pad: what each call answers.
  almonryref02.Pad: what each call answers.
-/
import Derived.Test.YtjimgncefeldbaaGreatDoorGShaA
import Derived.StillTailTactics
import Derived.Deep.WholeRow
import Derived.Deep.Cut
import Derived.Deep.DeepCutAuto
namespace Go.Proofs.YtjimgncefeldbaaGreatDoor
open Go.RowKit

attribute [local go_sem] xr_bits an_bits og_bits ad_mod nt_bits u32_plain sr3 sr10

/-- the table that came in -/
def Tab (w : World) : Prop := ∀ j, j < 64 → w.cell? ⟨2, j, none⟩ = some (.int .u32 (wv (Kw.getD j 0)))
theorem Tab.below {w w' : World} (h : Tab w) (hb : Below w.heap.size w w') : Tab w' := fun j hj => by
  have hc := h j hj
  rw [hb.cell (by exact block_lt_of_cell hc)]; exact hc
theorem Tab.lt {w : World} (h : Tab w) : 2 < w.heap.size := block_lt_of_cell (h 0 (by omega))

theorem u32Arr8 : (Tryz.prog.info? 117).map (·.size) = some 8 := by kernel_rfl
theorem u32Arr64 : (Tryz.prog.info? 169).map (·.size) = some 64 := by kernel_rfl
theorem info8 {l : List Wd} (h : l.length = 8) : (Tryz.prog.info? 117).map (·.size) = some (cs l).size := by rw [cs_size, h]; exact u32Arr8
theorem info64 {l : List Wd} (h : l.length = 64) : (Tryz.prog.info? 169).map (·.size) = some (cs l).size := by rw [cs_size, h]; exact u32Arr64
theorem load8 {w : World} {b : Nat} {l : List Wd} (h : Row w b 117 l) (hl : l.length = 8) :
    (Instr.loadAt 117 (.pointer (some ⟨b, 0, none⟩))).run Tryz.prog w = .ok (.agg (cs l)) w := by
  simp only [Instr.loadAt, Instr.sureAddr, Sem.run_bind, Sem.run_pure, Result.andThen]
  exact run_loadVar_row w b _ _ (cs l) (0, 0) _ h Tryz.underlying117 rfl (info8 hl)

/-- a whole row stored, and a whole row loaded -/
theorem wl_store {ops : Array Oper} {rest : List Oper} {o : Oper} {a : Act} {w : World} {Q : Exit → Act → World → Prop} (hgd : o.guard = none) (ty : TypeId) (x y : Operand) (ho : o.op = .store ty x y) (g : Nat) (l : List Wd)
    (hx : a.eval x = .pointer (some ⟨g, 0, none⟩)) (hy : a.eval y = .agg (cs l)) (t : TypeId) (hg : ∃ old : Array Value, w.heap[g]? = some (.cells old t (0, 0)) ∧ old.size = l.length) (hi : (Tryz.prog.info? ty).map (·.size) = some l.length)
    (h : wpList Tryz.prog ops Q rest (a.put o.dst undef) (w.setRow g (cs l))) : wpList Tryz.prog ops Q (o :: rest) a w := by
  obtain ⟨old, hg, ho2⟩ := hg
  exact wpList_store_row hgd ty x y ho g (cs l) hx hy t old hg (by rw [cs_size]; exact hi) (by rw [cs_size]; exact ho2) (cs_one _) h
theorem wl_load {ops : Array Oper} {rest : List Oper} {o : Oper} {a : Act} {w : World} {Q : Exit → Act → World → Prop} (hgd : o.guard = none) (ty : TypeId) (x : Operand) (ho : o.op = .load ty x) (g : Nat) (l : List Wd) (n : Nat) (e : TypeId)
    (hx : a.eval x = .pointer (some ⟨g, 0, none⟩)) (t : TypeId) (hg : Row w g t l) (hu : Tryz.prog.underlying ty = some (.array n e)) (hi : (Tryz.prog.info? ty).map (·.size) = some l.length)
    (h : wpList Tryz.prog ops Q rest (a.put o.dst (.agg (cs l))) w) : wpList Tryz.prog ops Q (o :: rest) a w :=
  wpList_load_row hgd ty x ho g hx t (cs l) (0, 0) _ hg hu rfl (by rw [cs_size]; exact hi) h
theorem ws_load {ops : Array Oper} {rest : List Oper} {o : Oper} {a : Act} {w : World} {Q : Act → Prop} (hgd : o.guard = none) (x : Operand) (ho : o.op = .load 117 x) (g : Nat) (l : List Wd)
    (hx : a.eval x = .pointer (some ⟨g, 0, none⟩)) (hg : Row w g 117 l) (hl : l.length = 8) (h : wpStill Tryz.prog ops w Q rest (a.put o.dst (.agg (cs l)))) : wpStill Tryz.prog ops w Q (o :: rest) a := by
  refine wpStill_step fun K hK => ?_
  simp only [Region.wanted, hgd, if_true]
  unfold Oper.still execOp
  simp only [ho, hx, Sem.run_bind, load8 hg hl, Result.andThen_ok, Sem.run_pure, Oper.stillUpon_value]
  exact hK _ h
theorem Row.of_set {w : World} {b c : Nat} {t : TypeId} {l : List Wd} (h : Row w b t l) (hc : b ≠ c) (C : Array Value) : Row (w.setRow c C) b t l := by
  unfold Row; rw [setRow_other _ _ _ _ hc]; exact h
theorem Tab.of_set {w : World} {c : Nat} (h : Tab w) (hc : 2 < c) (C : Array Value) : Tab (w.setRow c C) := fun j hj => by
  rw [cell_setRow_other _ _ _ _ (by simp; omega)]; exact h j hj
theorem Row.of_put {w : World} {b : Nat} {t : TypeId} {old : Array Value} (h : w.heap[b]? = some (.cells old t (0, 0))) (l : List Wd) : Row (w.setRow b (cs l)) b t l := setRow_heap _ _ _ _ _ _ h

set_option maxHeartbeats 1000000 in
set_option maxRecDepth 100000 in
theorem block8 (a b c d e f g h : Wd) (s : ByteArray) (w : World) (hs : s.size ≤ 9223372036854775807) (hT : Tab w) :
    Calls Tryz.prog 144 #[.agg #[V a, V b, V c, V d, V e, V f, V g, V h], .string s] w fun en w' => en = .returned (.agg (cs (blk [a, b, c, d, e, f, g, h] s.data.toList))) ∧ Below w.heap.size w w' := by
  have hTl : 2 < w.heap.size := hT.lt
  have HT := Lib.hid hT
  clear hT
  go_enter Tryz.func144, Tryz.ntmps144
  go_wp2_with fail
  refine (wordsC s _ hs).mono ?_
  rintro en w1 ⟨rfl, hb1⟩
  have hz := hb1.size
  simp at hz
  have r0 : Row w1 w.heap.size 117 [a, b, c, d, e, f, g, h] := Row.below (by unfold Row; rw [cs_eight]; exact heap_alloc2_old w _ _) hb1 (by simp; omega)
  have r4 : Row w1 (w.heap.size + 1) 117 Z8 := Row.below (by unfold Row; rw [Z8_cs]; exact heap_alloc2_new w _ _) hb1 (by simp)
  have hB1 : Below w.heap.size w w1 := (((Below.refl _ _).alloc (Nat.le_refl _) _).alloc (by simp) _).trans (hb1.mono (by simp; omega))
  generalize hl : [a, b, c, d, e, f, g, h] = l at r0 ⊢
  have hl8 : l.length = 8 := by rw [← hl]; rfl
  have h5 : ∀ o : Obj, (w1.alloc o).heap[w1.heap.size]? = some o := heap_alloc_new w1
  have HL := Lib.hid hl
  have H0 := Lib.hid r0
  have H4 := Lib.hid r4
  have HB := Lib.hid hB1
  have H5 := Lib.hid h5
  have H8 := Lib.hid hl8
  clear hl r0 r4 hB1 hb1 h5 hl8
  generalize hWW : sWords s.data.toList = W
  have hlW : W.length = 64 := by rw [← hWW]; exact sWords_len _
  have HW := Lib.hid hWW
  have HLW := Lib.hid hlW
  clear hWW hlW
  dsimp only
  go_wp2_with (first
    | (with_reducible refine wl_store ?_ 169 (.tmp 5) (.tmp 10) ?_ w1.heap.size W ?_ ?_ 169 ?_ ?_ ?_
       rfl; rfl; rfl; rfl; exact ⟨_, H5.out _, by rw [HLW.out]; rfl⟩; rw [HLW.out]; exact u32Arr64
       rw [World.setRow_alloc_new]
       have q0 : Row (w1.alloc (.cells (cs W) 169)) w.heap.size 117 l := H0.out.alloc _
       have q4 : Row (w1.alloc (.cells (cs W) 169)) (w.heap.size + 1) 117 Z8 := H4.out.alloc _
       have q5 : Row (w1.alloc (.cells (cs W) 169)) w1.heap.size 169 W := heap_alloc_new _ _
       have qB : Below w.heap.size w (w1.alloc (.cells (cs W) 169)) := HB.out.alloc (by omega) _
       have qz : w1.heap.size < (w1.alloc (.cells (cs W) 169)).heap.size := by simp
       generalize w1.alloc (.cells (cs W) 169) = w2 at q0 q4 q5 qB qz ⊢
       have hz : w.heap.size + 1 < w1.heap.size := by omega
       generalize w1.heap.size = b5 at q5 qz hz ⊢
       have Q0 := Lib.hid q0
       have Q4 := Lib.hid q4
       have Q5 := Lib.hid q5
       have QB := Lib.hid qB
       have h6 : ∀ o : Obj, (w2.alloc o).heap[w2.heap.size]? = some o := heap_alloc_new w2
       have H6 := Lib.hid h6
       clear q0 q4 q5 qB h6)
    | (with_reducible refine wl_load ?_ 117 (.tmp 2) ?_ w.heap.size l 8 93 ?_ 117 ?_ ?_ ?_ ?_
       rfl; rfl; rfl; exact Q0.out; exact Tryz.underlying117; rw [H8.out]; exact u32Arr8)
    | (with_reducible refine wl_store ?_ 117 (.tmp 6) (.tmp 11) ?_ w2.heap.size l ?_ ?_ 117 ?_ ?_ ?_
       rfl; rfl; rfl; rfl; exact ⟨_, H6.out _, by rw [H8.out]; rfl⟩; rw [H8.out]; exact u32Arr8
       rw [World.setRow_alloc_new]
       have q0 : Row (w2.alloc (.cells (cs l) 117)) w.heap.size 117 l := Q0.out.alloc _
       have q4 : Row (w2.alloc (.cells (cs l) 117)) (w.heap.size + 1) 117 Z8 := Q4.out.alloc _
       have q5 : Row (w2.alloc (.cells (cs l) 117)) b5 169 W := Q5.out.alloc _
       have q6 : Row (w2.alloc (.cells (cs l) 117)) w2.heap.size 117 l := heap_alloc_new _ _
       have qB : Below w.heap.size w (w2.alloc (.cells (cs l) 117)) := QB.out.alloc (by omega) _
       generalize w2.alloc (.cells (cs l) 117) = w3 at q0 q4 q5 q6 qB ⊢
       generalize w2.heap.size = b6 at q6 qz ⊢
       have R0 := Lib.hid q0
       have R4 := Lib.hid q4
       have R5 := Lib.hid q5
       have R6 := Lib.hid q6
       have RB := Lib.hid qB
       clear q0 q4 q5 q6 qB H6 Q0 Q4 Q5 QB H0 H4 H5 HB))
  have HT3 := Lib.hid (HT.out.below RB.out)
  have z6 : b6 < w3.heap.size := R6.out.lt
  go_loopw [12] (fun i wr => ∃ t : Nat, t ≤ 64 ∧ i = .int .i64 t ∧ Row wr w.heap.size 117 l ∧ Row wr (w.heap.size + 1) 117 Z8 ∧ Row wr b5 169 W ∧ Row wr b6 117 (stps (fun j => ad (Kw.getD j 0) (W.getD j 0)) l t) ∧ Tab wr ∧ Below w.heap.size w wr) (fun i _ => 64 - (intOf i).toNat)
  case atStart => exact ⟨0, by omega, rfl, R0.out, R4.out, R5.out, by rw [stps_zero]; exact R6.out, HT3.out, RB.out⟩
  case round =>
    clear R0 R4 R5 R6 RB HT3 z6
    obtain ⟨t, ht, rfl, r0, r4, r5, r6, rT, rB⟩ := hrel
    have hr8 : (stps (fun j => ad (Kw.getD j 0) (W.getD j 0)) l t).length = 8 := stps_len _ H8.out t
    by_cases hlt : t < 64
    · have hn : stps (fun j => ad (Kw.getD j 0) (W.getD j 0)) l (t + 1) = stp (stps (fun j => ad (Kw.getD j 0) (W.getD j 0)) l t) (ad (Kw.getD t 0) (W.getD t 0)) := stps_succ _ _ _
      have ck := rT t hlt
      have cw := r5.cell t (by rw [HLW.out]; exact hlt)
      have z6 := r6.lt
      generalize Kw.getD t 0 = kt at ck hn
      generalize W.getD t 0 = wt at cw hn
      generalize stps (fun j => ad (Kw.getD j 0) (W.getD j 0)) l t = r at r6 hr8 hn
      have R0 := Lib.hid r0
      have R4 := Lib.hid r4
      have R5 := Lib.hid r5
      have R6 := Lib.hid r6
      have RT := Lib.hid rT
      have RB := Lib.hid rB
      have HN := Lib.hid hn
      have HR8 := Lib.hid hr8
      clear r0 r4 r5 r6 rT rB hn hr8
      go_wp2_with fail
      refine wp_region_still_tail 8 (by kernel_rfl) (by kernel_rfl) ?_
      simp only [List.take_succ_cons, List.take_zero, List.drop_succ_cons, List.drop_zero]
      change wpStill _ _ wr.drew _ _ _
      refine ws_load rfl (.tmp 6) rfl b6 r rfl R6.out HR8.out ?_
      repeat still_step
      refine wpStill_nil ?_
      change wpList _ _ _ _ _ wr.drew
      rw [ad_wrap]
      go_wp2_with fail
      refine (stepC r (ad kt wt) _ HR8.out).mono ?_
      rintro en w4 ⟨rfl, hb4⟩
      have hB4 : Below wr.heap.size wr w4 := ((Below.refl _ _).drew).trans hb4
      have z0 := R0.out.lt
      have z4 := R4.out.lt
      have z5 := R5.out.lt
      have z6 := R6.out.lt
      have q0 : Row w4 w.heap.size 117 l := R0.out.below hB4 z0
      have q4 : Row w4 (w.heap.size + 1) 117 Z8 := R4.out.below hB4 z4
      have q5 : Row w4 b5 169 W := R5.out.below hB4 z5
      have q6 : Row w4 b6 117 r := R6.out.below hB4 z6
      have qT : Tab w4 := RT.out.below hB4
      have qB : Below w.heap.size w w4 := RB.out.trans (hB4.mono (by omega))
      generalize hr' : stp r (ad kt wt) = r' at HN ⊢
      have hr8' : r'.length = 8 := by rw [← hr']; exact stp_len HR8.out _
      have Q0 := Lib.hid q0
      have Q4 := Lib.hid q4
      have Q5 := Lib.hid q5
      have Q6 := Lib.hid q6
      have QT := Lib.hid qT
      have QB := Lib.hid qB
      have HR8' := Lib.hid hr8'
      clear hr' hr8' q0 q4 q5 q6 qT qB hb4 hB4 R0 R4 R5 R6 RT RB z0 z4 z5 z6 ck cw
      dsimp only
      go_wp2_with (with_reducible refine wl_store ?_ 117 (.tmp 6) (.tmp 23) ?_ b6 r' ?_ ?_ 117 ?_ ?_ ?_
                   rfl; rfl; rfl; rfl; exact ⟨_, Q6.out, by rw [cs_size, HR8'.out, HR8.out]⟩; rw [HR8'.out]; exact u32Arr8)
      refine ⟨⟨t + 1, by omega, by go_num, Q0.out.of_set (by omega) _, Q4.out.of_set (by omega) _, Q5.out.of_set (by omega) _, ?_, QT.out.of_set (by omega) _, belowRow QB.out (by omega) _⟩, by simp [intOf]; omega⟩
      rw [HN.out]
      exact Row.of_put Q6.out _
    · obtain rfl : t = 64 := by omega
      generalize hrr : stps (fun j => ad (Kw.getD j 0) (W.getD j 0)) l 64 = r at r6 hr8
      have HRR := Lib.hid hrr
      have R0 := Lib.hid r0
      have R4 := Lib.hid r4
      have R6 := Lib.hid r6
      have RB := Lib.hid rB
      have HR8 := Lib.hid hr8
      clear r0 r4 r5 r6 rT rB hr8 hrr hlt ht
      go_wp2
      go_loopw [25] (fun i wr => ∃ k : Nat, k ≤ 8 ∧ i = .int .i64 k ∧ Row wr w.heap.size 117 (mix l r k) ∧ Row wr (w.heap.size + 1) 117 Z8 ∧ Row wr b6 117 r ∧ Below w.heap.size w wr) (fun i _ => 8 - (intOf i).toNat)
      case atStart => exact ⟨0, by omega, rfl, by rw [mix_zero]; exact R0.out, R4.out, R6.out, RB.out⟩
      case round =>
        clear R0 R4 R6 RB
        obtain ⟨k, hk, rfl, r0, r4, r6, rB⟩ := hrel
        have hm8 : (mix l r k).length = 8 := by rw [mix_len, H8.out]
        by_cases hlt : k < 8
        · have ch := r0.cell k (by omega)
          have cr := r6.cell k (by rw [HR8.out]; exact hlt)
          have hfree := r0.free k
          rw [mix_at l r k k (Nat.le_refl _)] at ch
          have hn := mix_succ l r k
          generalize l.getD k 0 = x at ch hn
          generalize r.getD k 0 = y at cr hn
          have z0 := r0.lt
          have z6 := r6.lt
          have R0 := Lib.hid r0
          have R4 := Lib.hid r4
          have R6 := Lib.hid r6
          have RB := Lib.hid rB
          have HN := Lib.hid hn
          clear r0 r4 r6 rB hn hm8
          go_wp2
          go_region
          go_wp2
          refine ⟨⟨k + 1, by omega, by go_num, ?_, (R4.out.other (by omega) _ _).drew, (R6.out.other (by omega) _ _).drew, (RB.out.setCell (Nat.le_refl _) _).drew⟩, by simp [intOf]; omega⟩
          rw [HN.out]
          exact (R0.out.set k _).drew
        · obtain rfl : k = 8 := by omega
          have hfin : mix l r 8 = blk [a, b, c, d, e, f, g, h] s.data.toList := by
            rw [blk_is, HL.out, ← HRR.out, ← HW.out]; rfl
          rw [hfin] at r0 hm8
          generalize hbz : blk [a, b, c, d, e, f, g, h] s.data.toList = z at r0 hm8 hfin
          have HBZ := Lib.hid hbz
          clear hbz
          have R0 := Lib.hid r0
          have R4 := Lib.hid r4
          have RB := Lib.hid rB
          have HM := Lib.hid hm8
          clear r0 r4 r6 rB hfin hm8 hlt hk
          go_wp2_with (first
            | (with_reducible refine wl_load ?_ 117 (.tmp 2) ?_ w.heap.size z 8 93 ?_ 117 ?_ ?_ ?_ ?_
               rfl; rfl; rfl; exact R0.out; exact Tryz.underlying117; rw [HM.out]; exact u32Arr8)
            | (with_reducible refine wl_store ?_ 117 (.tmp 4) (.tmp 37) ?_ (w.heap.size + 1) z ?_ ?_ 117 ?_ ?_ ?_
               rfl; rfl; rfl; rfl; exact ⟨_, R4.out, by rw [cs_size, HM.out]; rfl⟩; rw [HM.out]; exact u32Arr8))
          exact bodyPost_ret (results_cell_row rfl _ _ _ _ _ (0, 0) (.array 8 93) rfl (setRow_heap _ _ _ _ _ _ R4.out) Tryz.underlying117 rfl (info8 HM.out)) rfl ⟨by rw [HBZ.out], belowRow RB.out (by omega) _⟩

theorem blockC (l : List Wd) (s : ByteArray) (w : World) (hl : l.length = 8) (hs : s.size ≤ 9223372036854775807) (hT : Tab w) :
    Calls Tryz.prog 144 #[.agg (cs l), .string s] w fun en w' => en = .returned (.agg (cs (blk l s.data.toList))) ∧ Below w.heap.size w w' := by
  obtain ⟨a, b, c, d, e, f, g, h, rfl⟩ := len8 hl
  rw [cs_eight]
  exact block8 a b c d e f g h s w hs hT
end Go.Proofs.YtjimgncefeldbaaGreatDoor

namespace Go.Proofs.YtjimgncefeldbaaGreatDoor
open Go.RowKit

attribute [local go_sem] xr_bits an_bits og_bits ad_mod nt_bits u32_plain sr3 sr10

theorem Row.cells8 {w : World} {g : Nat} {T : TypeId} {a b c d e f k h : Wd} (r : Row w g T [a, b, c, d, e, f, k, h]) :
    w.cell? ⟨g, 0, none⟩ = some (.int .u32 (wv a)) ∧ w.cell? ⟨g, 1, none⟩ = some (.int .u32 (wv b)) ∧ w.cell? ⟨g, 2, none⟩ = some (.int .u32 (wv c)) ∧ w.cell? ⟨g, 3, none⟩ = some (.int .u32 (wv d)) ∧
    w.cell? ⟨g, 4, none⟩ = some (.int .u32 (wv e)) ∧ w.cell? ⟨g, 5, none⟩ = some (.int .u32 (wv f)) ∧ w.cell? ⟨g, 6, none⟩ = some (.int .u32 (wv k)) ∧ w.cell? ⟨g, 7, none⟩ = some (.int .u32 (wv h)) :=
  ⟨r.cell 0 (by simp), r.cell 1 (by simp), r.cell 2 (by simp), r.cell 3 (by simp), r.cell 4 (by simp), r.cell 5 (by simp), r.cell 6 (by simp), r.cell 7 (by simp)⟩

theorem Row.put8 {w : World} {g : Nat} {T : TypeId} {a b c d e f k h : Wd} (r : Row w g T [a, b, c, d, e, f, k, h]) (a' b' c' d' e' f' k' h' : Wd) :
    Row ((((((((w.setCell ⟨g, 0, none⟩ (V a')).setCell ⟨g, 1, none⟩ (V b')).setCell ⟨g, 2, none⟩ (V c')).setCell ⟨g, 3, none⟩ (V d')).setCell ⟨g, 4, none⟩ (V e')).setCell ⟨g, 5, none⟩ (V f')).setCell ⟨g, 6, none⟩ (V k')).setCell ⟨g, 7, none⟩ (V h')) g T [a', b', c', d', e', f', k', h'] := by
  unfold Row at r ⊢
  rw [cs_eight] at r ⊢
  exact set8 r _ _ _ _ _ _ _ _
theorem Row.other8 {w : World} {g b : Nat} {T : TypeId} {l : List Wd} (r : Row w b T l) (hb : b ≠ g) (a' b' c' d' e' f' k' h' : Value) :
    Row ((((((((w.setCell ⟨g, 0, none⟩ a').setCell ⟨g, 1, none⟩ b').setCell ⟨g, 2, none⟩ c').setCell ⟨g, 3, none⟩ d').setCell ⟨g, 4, none⟩ e').setCell ⟨g, 5, none⟩ f').setCell ⟨g, 6, none⟩ k').setCell ⟨g, 7, none⟩ h') b T l :=
  (((((((r.other hb _ _).other hb _ _).other hb _ _).other hb _ _).other hb _ _).other hb _ _).other hb _ _).other hb _ _

set_option maxHeartbeats 4000000 in
set_option maxRecDepth 100000 in
theorem block8R (a b c d e f g h : Wd) (s : ByteArray) (w : World) (hs : s.size ≤ 9223372036854775807) :
    Calls Tryz.prog 102 #[.agg #[V a, V b, V c, V d, V e, V f, V g, V h], .string s] w fun en w' => en = .returned (.agg (cs (blk [a, b, c, d, e, f, g, h] s.data.toList))) ∧ Below w.heap.size w w' := by
  go_enter Tryz.func102, Tryz.ntmps102
  go_wp2_with fail
  refine (wordsR s _ hs).mono ?_
  rintro en w1 ⟨rfl, rW1, hb1⟩
  have hz := hb1.size
  simp at hz
  have r0 : Row w1 w.heap.size 117 [a, b, c, d, e, f, g, h] := Row.below (by unfold Row; rw [cs_eight]; exact heap_alloc2_old w _ _) hb1 (by simp; omega)
  have r4 : Row w1 (w.heap.size + 1) 117 Z8 := Row.below (by unfold Row; rw [Z8_cs]; exact heap_alloc2_new w _ _) hb1 (by simp)
  have hB1 : Below w.heap.size w w1 := (((Below.refl _ _).alloc (Nat.le_refl _) _).alloc (by simp) _).trans (hb1.mono (by simp; omega))
  have rW : Row w1 (w.heap.size + 1 + 1) 93 (sWords s.data.toList) := by simpa using rW1
  generalize hl : [a, b, c, d, e, f, g, h] = l at r0 ⊢
  have hl8 : l.length = 8 := by rw [← hl]; rfl
  generalize hWW : sWords s.data.toList = W at rW
  have hlW : W.length = 64 := by rw [← hWW]; exact sWords_len _
  have HL := Lib.hid hl
  have H0 := Lib.hid r0
  have H4 := Lib.hid r4
  have HRW := Lib.hid rW
  have HB := Lib.hid hB1
  have H8 := Lib.hid hl8
  have HW := Lib.hid hWW
  have HLW := Lib.hid hlW
  have hw1 := rW.lt
  clear hl r0 r4 rW rW1 hB1 hb1 hl8 hWW hlW
  go_wp2_with fail
  refine (constsR _).mono ?_
  rintro en w2 ⟨rfl, rK, hb2⟩
  have q0 : Row w2 w.heap.size 117 l := H0.out.below hb2 (by omega)
  have q4 : Row w2 (w.heap.size + 1) 117 Z8 := H4.out.below hb2 (by omega)
  have qW : Row w2 (w.heap.size + 1 + 1) 93 W := HRW.out.below hb2 hw1
  have qB : Below w.heap.size w w2 := HB.out.trans (hb2.mono (by omega))
  generalize w1.heap.size = bK at hw1 rK ⊢
  have hK2 := rK.lt
  have h6 : ∀ o : Obj, (w2.alloc o).heap[w2.heap.size]? = some o := heap_alloc_new w2
  have Q0 := Lib.hid q0
  have Q4 := Lib.hid q4
  have QW := Lib.hid qW
  have QK := Lib.hid rK
  have QB := Lib.hid qB
  have H6 := Lib.hid h6
  clear q0 q4 qW rK qB h6 hb2 H0 H4 HRW HB hz
  dsimp only
  go_wp2_with (first
    | (with_reducible refine wl_load ?_ 117 (.tmp 2) ?_ w.heap.size l 8 93 ?_ 117 ?_ ?_ ?_ ?_
       rfl; rfl; rfl; exact Q0.out; exact Tryz.underlying117; rw [H8.out]; exact u32Arr8)
    | (with_reducible refine wl_store ?_ 117 (.tmp 7) (.tmp 17) ?_ w2.heap.size l ?_ ?_ 117 ?_ ?_ ?_
       rfl; rfl; rfl; rfl; exact ⟨_, H6.out _, by rw [H8.out]; rfl⟩; rw [H8.out]; exact u32Arr8
       rw [World.setRow_alloc_new]
       have q0 : Row (w2.alloc (.cells (cs l) 117)) w.heap.size 117 l := Q0.out.alloc _
       have q4 : Row (w2.alloc (.cells (cs l) 117)) (w.heap.size + 1) 117 Z8 := Q4.out.alloc _
       have qW : Row (w2.alloc (.cells (cs l) 117)) (w.heap.size + 1 + 1) 93 W := QW.out.alloc _
       have qK : Row (w2.alloc (.cells (cs l) 117)) bK 93 Kw := QK.out.alloc _
       have q7 : Row (w2.alloc (.cells (cs l) 117)) w2.heap.size 117 l := heap_alloc_new _ _
       have qB : Below w.heap.size w (w2.alloc (.cells (cs l) 117)) := QB.out.alloc (by omega) _
       generalize w2.alloc (.cells (cs l) 117) = w3 at q0 q4 qW qK q7 qB ⊢
       generalize w2.heap.size = b7 at q7 hK2 ⊢
       have R0 := Lib.hid q0
       have R4 := Lib.hid q4
       have RW := Lib.hid qW
       have RK := Lib.hid qK
       have R7 := Lib.hid q7
       have RB := Lib.hid qB
       clear q0 q4 qW qK q7 qB H6 Q0 Q4 QW QK QB))
  go_loopw [8] (fun i wr => ∃ t : Nat, t ≤ 64 ∧ i = .int .i64 t ∧ Row wr w.heap.size 117 l ∧ Row wr (w.heap.size + 1) 117 Z8 ∧ Row wr (w.heap.size + 1 + 1) 93 W ∧ Row wr bK 93 Kw ∧ Row wr b7 117 (stps (fun j => ad (Kw.getD j 0) (W.getD j 0)) l t) ∧ Below w.heap.size w wr) (fun i _ => 64 - (intOf i).toNat)
  case atStart => exact ⟨0, by omega, rfl, R0.out, R4.out, RW.out, RK.out, by rw [stps_zero]; exact R7.out, RB.out⟩
  case round =>
    clear R0 R4 RW RK R7 RB
    obtain ⟨t, ht, rfl, r0, r4, rW, rK, r7, rB⟩ := hrel
    have hr8 : (stps (fun j => ad (Kw.getD j 0) (W.getD j 0)) l t).length = 8 := stps_len _ H8.out t
    by_cases hlt : t < 64
    · have hn := stps_succ (fun j => ad (Kw.getD j 0) (W.getD j 0)) l t
      have ck := rK.cell t (by rw [Kw_len]; exact hlt)
      have cw := rW.cell t (by rw [HLW.out]; exact hlt)
      generalize Kw.getD t 0 = kt at ck hn
      generalize W.getD t 0 = wt at cw hn
      generalize stps (fun j => ad (Kw.getD j 0) (W.getD j 0)) l t = r at r7 hr8 hn
      obtain ⟨ra, rb, rc, rd, re, rf, rg, rh, rfl⟩ := len8 hr8
      obtain ⟨c0, c1, c2, c3, c4, c5, c6, c7⟩ := r7.cells8
      have f0 := r7.free 0
      have f1 := r7.free 1
      have f2 := r7.free 2
      have f3 := r7.free 3
      have f4 := r7.free 4
      have f5 := r7.free 5
      have f6 := r7.free 6
      have f7 := r7.free 7
      have z7 := r7.lt
      have R0 := Lib.hid r0
      have R4 := Lib.hid r4
      have RW := Lib.hid rW
      have RK := Lib.hid rK
      have R7 := Lib.hid r7
      have RB := Lib.hid rB
      have HN := Lib.hid hn
      clear r0 r4 rW rK r7 rB hn hr8
      go_wp2_with fail
      go_quiet (fail)
      go_wp2_with fail
      go_quiet ((go_at_call 126; exact still2 (turnR _ _ _ (by decide) (by decide))))
      go_wp2_with fail
      go_quiet ((go_at_call 126; exact still2 (turnR _ _ _ (by decide) (by decide))))
      go_wp2_with fail
      have he : stp [ra, rb, rc, rd, re, rf, rg, rh] (ad kt wt) = [ad (ad (ad (ad (ad rh (xr (xr (tn re 6) (tn re 11)) (tn re 25))) (xr (an re rf) (an (nt re) rg))) kt) wt) (ad (xr (xr (tn ra 2) (tn ra 13)) (tn ra 22)) (xr (xr (an ra rb) (an ra rc)) (an rb rc))), ra, rb, rc,
          ad rd (ad (ad (ad (ad rh (xr (xr (tn re 6) (tn re 11)) (tn re 25))) (xr (an re rf) (an (nt re) rg))) kt) wt), re, rf, rg] := by
        rw [ad_assoc (ad (ad rh _) _) kt wt]; rfl
      refine ⟨⟨t + 1, by omega, by go_num, (R0.out.drewN _).other8 (by omega) _ _ _ _ _ _ _ _, (R4.out.drewN _).other8 (by omega) _ _ _ _ _ _ _ _, (RW.out.drewN _).other8 (by omega) _ _ _ _ _ _ _ _, (RK.out.drewN _).other8 (by omega) _ _ _ _ _ _ _ _, ?_, below8 (belowN RB.out _) (by omega) _ _ _ _ _ _ _ _⟩, by simp [intOf]; omega⟩
      rw [HN.out, he]
      exact (R7.out.drewN _).put8 _ _ _ _ _ _ _ _
    · obtain rfl : t = 64 := by omega
      generalize hrr : stps (fun j => ad (Kw.getD j 0) (W.getD j 0)) l 64 = r at r7 hr8
      have HRR := Lib.hid hrr
      have R0 := Lib.hid r0
      have R4 := Lib.hid r4
      have R7 := Lib.hid r7
      have RB := Lib.hid rB
      have HR8 := Lib.hid hr8
      clear r0 r4 rW rK r7 rB hr8 hrr hlt ht
      go_wp2
      go_loopw [13] (fun i wr => ∃ k : Nat, k ≤ 8 ∧ i = .int .i64 k ∧ Row wr w.heap.size 117 l ∧ Row wr (w.heap.size + 1) 117 Z8 ∧ Row wr b7 117 (mix r l k) ∧ Below w.heap.size w wr) (fun i _ => 8 - (intOf i).toNat)
      case atStart => exact ⟨0, by omega, rfl, R0.out, R4.out, by rw [mix_zero]; exact R7.out, RB.out⟩
      case round =>
        clear R0 R4 R7 RB
        obtain ⟨k, hk, rfl, r0, r4, r7, rB⟩ := hrel
        have hm8 : (mix r l k).length = 8 := by rw [mix_len, HR8.out]
        by_cases hlt : k < 8
        · have ch := r0.cell k (by rw [H8.out]; exact hlt)
          have cr := r7.cell k (by omega)
          have hfree := r7.free k
          rw [mix_at r l k k (Nat.le_refl _)] at cr
          have hn := mix_succ r l k
          generalize l.getD k 0 = x at ch hn
          generalize r.getD k 0 = y at cr hn
          have z0 := r0.lt
          have z7 := r7.lt
          have R0 := Lib.hid r0
          have R4 := Lib.hid r4
          have R7 := Lib.hid r7
          have RB := Lib.hid rB
          have HN := Lib.hid hn
          clear r0 r4 r7 rB hn hm8
          go_wp2
          go_region
          go_wp2
          refine ⟨⟨k + 1, by omega, by go_num, (R0.out.other (by omega) _ _).drew, (R4.out.other (by omega) _ _).drew, ?_, (RB.out.setCell (by simp; omega) _).drew⟩, by simp [intOf]; omega⟩
          rw [HN.out]
          exact (R7.out.set k _).drew
        · obtain rfl : k = 8 := by omega
          have hfin : mix r l 8 = blk [a, b, c, d, e, f, g, h] s.data.toList := by
            rw [mix_comm HR8.out H8.out, blk_is, HL.out, ← HRR.out, ← HW.out]; rfl
          rw [hfin] at r7 hm8
          generalize hbz : blk [a, b, c, d, e, f, g, h] s.data.toList = z at r7 hm8 hfin
          have HBZ := Lib.hid hbz
          have R7 := Lib.hid r7
          have R4 := Lib.hid r4
          have RB := Lib.hid rB
          have HM := Lib.hid hm8
          clear r0 r4 r7 rB hfin hm8 hlt hk hbz
          go_wp2_with (first
            | (with_reducible refine wl_load ?_ 117 (.tmp 7) ?_ b7 z 8 93 ?_ 117 ?_ ?_ ?_ ?_
               rfl; rfl; rfl; exact R7.out; exact Tryz.underlying117; rw [HM.out]; exact u32Arr8)
            | (with_reducible refine wl_store ?_ 117 (.tmp 4) (.tmp 115) ?_ (w.heap.size + 1) z ?_ ?_ 117 ?_ ?_ ?_
               rfl; rfl; rfl; rfl; exact ⟨_, R4.out, by rw [cs_size, HM.out]; rfl⟩; rw [HM.out]; exact u32Arr8))
          exact bodyPost_ret (results_cell_row rfl _ _ _ _ _ (0, 0) (.array 8 93) rfl (setRow_heap _ _ _ _ _ _ R4.out) Tryz.underlying117 rfl (info8 HM.out)) rfl ⟨by rw [HBZ.out], belowRow RB.out (by omega) _⟩

theorem blockR (l : List Wd) (s : ByteArray) (w : World) (hl : l.length = 8) (hs : s.size ≤ 9223372036854775807) :
    Calls Tryz.prog 102 #[.agg (cs l), .string s] w fun en w' => en = .returned (.agg (cs (blk l s.data.toList))) ∧ Below w.heap.size w w' := by
  obtain ⟨a, b, c, d, e, f, g, h, rfl⟩ := len8 hl
  rw [cs_eight]
  exact block8R a b c d e f g h s w hs
end Go.Proofs.YtjimgncefeldbaaGreatDoor

namespace Go.Proofs.YtjimgncefeldbaaGreatDoor
open Go.RowKit

attribute [local go_sem] m8_wrap m8_mod m8_mod' m8_wrap'

set_option maxHeartbeats 1000000 in
set_option maxRecDepth 100000 in
theorem padC_nat (n : Nat) (hn : n ≤ 9223372036854775807) (w : World) :
    Calls Tryz.prog 123 #[.int .i64 n] w fun e w' => e = .returned (.string ⟨(padL n).toArray⟩) ∧ Below w.heap.size w w' := by
  obtain ⟨i0, hi, hz0, hz1, hz2⟩ := info_parts bytesInfo
  obtain ⟨z, hz⟩ : ∃ z : Nat, z = (119 - n % 64) % 64 := ⟨_, rfl⟩
  have hz64 : z < 64 := by omega
  have hzz : ((119 : Int) - (n : Int) % 64) % 64 = (z : Int) := by omega
  have hmk := make_bytes (z + 1) (z + 9) (1 + (z : Int)) (1 + (z : Int) + 8) (by omega) (by omega) (by omega) (by omega)
  have HPL := Lib.hid (m8_pad n)
  rw [← hz] at HPL
  have hd0 : decide ((n : Int) < 0) = false := by simp
  clear hz
  go_enter Tryz.func123, Tryz.ntmps123
  go_wp2
  rw [hzz]
  clear hzz hmk
  go_loopw [4, 6] (fun v i wr => ∃ (k : Nat) (pre : List UInt8), k ≤ 8 ∧ i = .int .i64 (8 * (k : Int) - 8) ∧ pre ++ be8 (m8 n) k = padL n ∧ pre.length + k ≤ 80 ∧ OwnB w.heap.size v pre wr ∧ Below w.heap.size w wr) (fun _ i _ => (intOf i + 8).toNat)
  case atStart =>
    exact ⟨8, _, by omega, rfl, HPL.out.symm, by simp; omega, by simpa using own_made w z (z + 9) (by omega) (by omega) 128 (by omega), (Below.refl _ _).alloc (Nat.le_refl _) _⟩
  case round =>
    clear HPL
    obtain ⟨k, pre, hk, rfl, hpre, hlp, hown, hb⟩ := hrel
    have HPRE := Lib.hid hpre
    have HB := Lib.hid hb
    have hbs := hb.size
    clear hpre hb
    cases k with
    | zero =>
      have hconv := own_text hown
      go_wp2
      go_ret
      have h := HPRE.out
      rw [be8_zero, List.append_nil] at h
      rw [h]
      exact ⟨rfl, HB.out⟩
    | succ k =>
      have e8 : 8 * ((k + 1 : Nat) : Int) - 8 = 8 * (k : Int) := by omega
      have hge : (0 : Int) ≤ 8 * (k : Int) := by omega
      rw [e8]
      clear e8
      go_wp2_with (at_builtin; refine wpList_append_own _ rfl _ _ 34 rfl w.heap.size 5 i0 (.int .u8 0) 1 1 Tryz.underlying34 hi hz0 hz1 hz2 rfl (by decide) _ _ _ rfl (hown.alloc _) ⟨wr.heap.size, 0, none⟩ 1 1 [Value.int .u8 ((m8 n : Int) / 2 ^ (8 * k) % 256)] rfl rfl ?c1 ?c2 ?c3 ?c4 ?c5 ?_)
      case c1 =>
        intro j u hj
        match j, hj with
        | 0, hj => simp at hj; subst hj; simp [Addr.add]
      case c2 => intro u hu; simp at hu; subst hu; rfl
      case c3 => unfold maxLen; omega
      case c4 => omega
      case c5 => simp; omega
      intro v' w1 hown' hgrow _
      have hb1 : Below w.heap.size w w1 := (HB.out.alloc (by omega) _).grown hgrow (by simp; omega) (fun j hj => (hown.lt j hj).1)
      have hown2 := ownB_more (a := m8 n / 2 ^ (8 * k) % 256) (by omega) (by simp) hown'
      have hpre2 := HPRE.out
      rw [be8_succ, List.append_cons, ← ofNat_mod] at hpre2
      have HP2 := Lib.hid hpre2
      have HO2 := Lib.hid hown2
      have HB1 := Lib.hid hb1
      clear hpre2 hown2 hb1 hown' hgrow
      go_wp2
      exact ⟨⟨k, _, by omega, by go_num, HP2.out, by simp; omega, HO2.out, HB1.out⟩, by simp [intOf]; omega⟩

theorem padC_neg (n : Int) (hn : n < 0) (w : World) :
    Calls Tryz.prog 123 #[.int .i64 n] w fun e w' => e = .returned (.string ⟨#[]⟩) ∧ w = w' := by
  go_enter Tryz.func123, Tryz.ntmps123
  go_wp2
  go_ret
  exact ⟨rfl, rfl⟩
end Go.Proofs.YtjimgncefeldbaaGreatDoor

namespace Go.Proofs.YtjimgncefeldbaaGreatDoor
open Go.RowKit

attribute [local go_sem] m8_mod' m8_wrap'

set_option maxHeartbeats 1000000 in
set_option maxRecDepth 100000 in
theorem padR_nat (n : Nat) (hn : n ≤ 9223372036854775807) (w : World) :
    Calls Tryz.prog 101 #[.int .i64 n] w fun e w' => e = .returned (.string ⟨(padL n).toArray⟩) ∧ Below w.heap.size w w' := by
  obtain ⟨i0, hi, hz0, hz1, hz2⟩ := info_parts bytesInfo
  obtain ⟨z, hz⟩ : ∃ z : Nat, z = (119 - n % 64) % 64 := ⟨_, rfl⟩
  have hz64 : z < 64 := by omega
  have hzz : ∀ j : Nat, j ≤ z → ((n + (j + 1) + 8) % 64 = 0 ↔ j = z) := by omega
  have HZZ := Lib.hid hzz
  have HPL := Lib.hid (m8_pad n)
  rw [← hz] at HPL
  have hd0 : decide ((n : Int) < 0) = false := by simp
  clear hz hzz
  go_enter Tryz.func101, Tryz.ntmps101
  go_wp2
  go_loopw [3] (fun v wr => ∃ j : Nat, j ≤ z ∧ OwnB w.heap.size v (128 :: List.replicate j 0) wr ∧ Below w.heap.size w wr) (fun v _ => 65 - lenOf v)
  case atStart =>
    refine ⟨0, by omega, ?_, (Below.refl _ _).alloc (Nat.le_refl _) _⟩
    simpa using own_made w 0 1 (by omega) (by omega) 128 (by omega)
  case round =>
    obtain ⟨j, hj, hown, hb⟩ := hrel
    obtain ⟨g, cap, rfl⟩ := ownB_form hown (by simp)
    have hlen : (128 :: List.replicate j (0 : UInt8)).length = j + 1 := by simp
    rw [hlen] at hown ⊢
    have hbs := hb.size
    have HB := Lib.hid hb
    have hlen65 : (128 :: List.replicate j (0 : UInt8)).length ≤ 64 + 1 := by simp; omega
    clear hb hlen
    by_cases hjz : j = z
    · have ht : (((n : Int) % 64 + ((j : Int) + 1) + 8) % 64 != 0) = false := by
        have := (HZZ.out j hj).2 hjz
        simp; omega
      obtain rfl : j = z := hjz
      have hown0 : OwnB w.heap.size (.slice (some ⟨g, 0, none⟩) (j + 1) cap) (128 :: List.replicate j 0) wr := hown
      have HO := Lib.hid hown0
      clear hown hown0
      go_wp2
      clear ht
      go_loopw [3, 4] (fun v i wr => ∃ (k : Nat) (pre : List UInt8), k ≤ 8 ∧ i = .int .i64 ((k : Int) - 1) ∧ pre ++ be8 (m8 n) k = padL n ∧ pre.length + k ≤ 80 ∧ OwnB w.heap.size v pre wr ∧ Below w.heap.size w wr) (fun _ i _ => (intOf i + 1).toNat)
      case atStart =>
        exact ⟨8, _, by omega, rfl, HPL.out.symm, by simp; omega, HO.out, HB.out⟩
      case round =>
        clear HPL HO HB hbs
        obtain ⟨k, pre, hk, rfl, hpre, hlp, hown, hb⟩ := hrel
        have HPRE := Lib.hid hpre
        have HB := Lib.hid hb
        have hbs := hb.size
        clear hpre hb
        cases k with
        | zero =>
          have hconv := own_text hown
          go_wp2
          go_ret
          have h := HPRE.out
          rw [be8_zero, List.append_nil] at h
          rw [h]
          exact ⟨rfl, HB.out⟩
        | succ k =>
          have e8 : ((k + 1 : Nat) : Int) - 1 = (k : Int) := by omega
          rw [e8]
          clear e8
          go_wp2_with (at_builtin; refine wpList_append_own _ rfl _ _ 34 rfl w.heap.size 5 i0 (.int .u8 0) 1 1 Tryz.underlying34 hi hz0 hz1 hz2 rfl (by decide) _ _ _ rfl (hown.alloc _) ⟨wr.heap.size, 0, none⟩ 1 1 [Value.int .u8 ((m8 n : Int) / 2 ^ (8 * k) % 256)] rfl rfl ?c1 ?c2 ?c3 ?c4 ?c5 ?_)
          case c1 =>
            intro j u hj
            match j, hj with
            | 0, hj => simp at hj; subst hj; simp [Addr.add]
          case c2 => intro u hu; simp at hu; subst hu; rfl
          case c3 => unfold maxLen; omega
          case c4 => omega
          case c5 => simp; omega
          intro v' w1 hown' hgrow _
          have hb1 : Below w.heap.size w w1 := (HB.out.alloc (by omega) _).grown hgrow (by simp; omega) (fun j hj => (hown.lt j hj).1)
          have hown2 := ownB_more (a := m8 n / 2 ^ (8 * k) % 256) (by omega) (by simp) hown'
          have hpre2 := HPRE.out
          rw [be8_succ, List.append_cons, ← ofNat_mod] at hpre2
          have HP2 := Lib.hid hpre2
          have HO2 := Lib.hid hown2
          have HB1 := Lib.hid hb1
          clear hpre2 hown2 hb1 hown' hgrow
          go_wp2
          exact ⟨⟨k, _, by omega, by go_num, HP2.out, by simp; omega, HO2.out, HB1.out⟩, by simp [intOf]⟩
    · have ht : (((n : Int) % 64 + ((j : Int) + 1) + 8) % 64 != 0) = true := by
        have h1 : (n + (j + 1) + 8) % 64 ≠ 0 := fun h => hjz ((HZZ.out j hj).1 h)
        simp; omega
      go_wp2_with (at_builtin; refine wpList_append_own _ rfl _ _ 34 rfl w.heap.size 5 i0 (.int .u8 0) 1 1 Tryz.underlying34 hi hz0 hz1 hz2 rfl (by decide) _ _ _ rfl (hown.alloc _) ⟨wr.heap.size, 0, none⟩ 1 1 [Value.int .u8 0] rfl rfl ?c1 ?c2 ?c3 ?c4 ?c5 ?_)
      case c1 =>
        intro j u hj
        match j, hj with
        | 0, hj => simp at hj; subst hj; simp [Addr.add]
      case c2 => intro u hu; simp at hu; subst hu; rfl
      case c3 => unfold maxLen; omega
      case c4 => omega
      case c5 => simp; omega
      intro v' w1 hown' hgrow _
      have hb1 : Below w.heap.size w w1 := (HB.out.alloc (by omega) _).grown hgrow (by simp; omega) (fun j hj => (hown.lt j hj).1)
      have hown2 : OwnB w.heap.size v' (128 :: List.replicate (j + 1) 0) w1 := by
        have h := ownB_more (l := 128 :: List.replicate j 0) (a := 0) (i := 0) (v := v') (w := w1) (B := w.heap.size) (by omega) (by simp) (by simpa using hown')
        have e : (128 :: List.replicate j (0 : UInt8)) ++ [UInt8.ofNat 0] = 128 :: List.replicate (j + 1) 0 := by
          rw [List.replicate_succ']; simp
        rw [e] at h
        exact h
      have hf := ownB_form hown2 (by simp)
      have HO2 := Lib.hid hown2
      have HB1 := Lib.hid hb1
      obtain ⟨g', cap', hv'⟩ := hf
      have HV := Lib.hid hv'
      clear hown2 hb1 hown' hgrow hv' ht
      go_wp2
      refine ⟨⟨j + 1, by omega, HO2.out, HB1.out⟩, ?_⟩
      rw [HV.out]
      simp [lenOf]
      omega

theorem padR_neg (n : Int) (hn : n < 0) (w : World) :
    Calls Tryz.prog 101 #[.int .i64 n] w fun e w' => e = .returned (.string ⟨#[]⟩) ∧ w = w' := by
  go_enter Tryz.func101, Tryz.ntmps101
  go_wp2
  go_ret
  exact ⟨rfl, rfl⟩
end Go.Proofs.YtjimgncefeldbaaGreatDoor
