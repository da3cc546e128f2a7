/-
  almonryref02's words and constants: what each call answers.
  sha.Block: what each call answers.
  almonryref02.Block: what each call answers.
-/
import Derived.Test.YtchnklekeinhiaaGreatGV35
import Derived.StillTailTactics
import Derived.Deep.WholeRow
import Derived.Deep.Cut
import Derived.Deep.DeepCutAuto
namespace Go.Proofs.YtchnklekeinhiaaGreat
open Go.RowKit

attribute [local go_sem] xr_bits an_bits og_bits ad_mod nt_bits u32_plain sr3 sr10

theorem endsR {w0 w1 : World} {b t : Nat} {T : TypeId} {W : List Wd} {v : Wd} (h16 : 16 ≤ t) (hlt : t < 64) (h1 : Row w1 b T (w2 W (t - 16))) (hb : Below b w0 w1)
    (hs : w2 W (t + 1 - 16) = (w2 W (t - 16)).set t v) : ∃ t' : Nat, 16 ≤ t' ∧ t' ≤ 64 ∧ Value.int .i64 ((t : Int) + 1) = .int .i64 t' ∧
      Row (w1.setCell ⟨b, t, none⟩ (.int .u32 (wv v))) b T (w2 W (t' - 16)) ∧ Below b w0 (w1.setCell ⟨b, t, none⟩ (.int .u32 (wv v))) :=
  ⟨t + 1, by omega, by omega, by simp, by rw [hs]; exact h1.set t _, hb.setCell (Nat.le_refl _) _⟩

set_option maxHeartbeats 8000000 in
set_option maxRecDepth 100000 in
theorem wordsR (s : ByteArray) (w : World) (hs : s.size ≤ 9223372036854775807) :
    Calls Tryz.prog 145 #[.string s] w fun en w' => en = .returned (.slice (some ⟨w.heap.size, 0, none⟩) 64 64) ∧ Row w' w.heap.size 132 (sWords s.data.toList) ∧ Below w.heap.size w w' := by
  have hmk : ∀ W : World, (Instr.makeSlice 168 (.int .i64 64) (.int .i64 64)).run Tryz.prog W = .ok (.slice (some ⟨W.heap.size, 0, none⟩) 64 64) (W.alloc (.cells (cs Z64) 132)) := fun _ => by rw [Z64_cs]; kernel_rfl
  have hz0 : Row (w.alloc (.cells (cs Z64) 132)) w.heap.size 132 Z64 := heap_alloc_new w _
  have hsl : s.data.toList.length = s.size := by simp
  have HZ0 := Lib.hid hz0
  have HSL := Lib.hid hsl
  clear hz0 hsl
  go_enter Tryz.func145, Tryz.ntmps145
  go_wp2
  go_loopw [4] (fun i wr => ∃ k : Nat, k ≤ s.size ∧ k ≤ 64 ∧ i = .int .i64 k ∧ Row wr w.heap.size 132 (w1 s.data.toList k) ∧ Below w.heap.size w wr) (fun i _ => 64 - (intOf i).toNat)
  case atStart => exact ⟨0, Nat.zero_le _, by omega, rfl, by rw [w1_zero]; exact HZ0.out, (Below.refl _ _).alloc (Nat.le_refl _) _⟩
  case round =>
    obtain ⟨k, hk, hk4, rfl, hr1, hb⟩ := hrel
    have HR1 := Lib.hid hr1
    have HB := Lib.hid hb
    have hlt1 := hr1.lt
    by_cases hlt : k < s.size ∧ k < 64
    · obtain ⟨hlt, hlt4⟩ := hlt
      have hcell := hr1.cell (k / 4) (by rw [w1_len]; omega)
      have hfree := hr1.free (k / 4)
      have hd : s.data.toList[k]'(by rw [HSL.out]; exact hlt) = s[k] := rfl
      have hst := w1_step s.data.toList k (by rw [HSL.out]; exact hlt)
      rw [hd] at hst
      have HST := Lib.hid hst
      clear hst hd hr1 hb
      go_wp2
      go_region
      go_wp2
      obtain ⟨y, hy, hw⟩ := HST.out _ rfl
      rw [List.getD_eq_getElem?_getD] at hy
      refine ⟨⟨k + 1, by omega, by omega, by go_num, ?_, ?_⟩, by simp [intOf]; omega⟩
      · rw [hw]
        have := HR1.out.set (k / 4) y
        rw [← hy] at this
        exact this.drew
      · exact (HB.out.setCell (by simp) _).drew
    · have hkm : k = min s.data.toList.length 64 := by rw [HSL.out]; omega
      have HKM := Lib.hid hkm
      have HL := Lib.hid (w1_len s.data.toList k)
      generalize hWW : w1 s.data.toList k = W at HR1 HL
      have HW := Lib.hid hWW
      have hcase : k = 64 ∨ (k < 64 ∧ k = s.size) := by omega
      clear hkm hr1 hb hWW hlt
      rcases hcase with hcase | ⟨hc1, hc2⟩
      all_goals
        first
          | ((have hd1 : decide ((k : Int) < 64) = false := by simp; omega); clear hcase)
          | ((have hd1 : decide ((k : Int) < 64) = true := by simp; omega); (have hd2 : decide (k < s.size) = false := by simp; omega); clear hc1 hc2)
        go_wp2
        go_loopw [5] (fun i wt => ∃ t : Nat, 16 ≤ t ∧ t ≤ 64 ∧ i = .int .i64 t ∧ Row wt w.heap.size 132 (w2 W (t - 16)) ∧ Below w.heap.size w wt) (fun i _ => 64 - (intOf i).toNat)
        case atStart => exact ⟨16, by omega, by omega, rfl, by rw [w2_zero]; exact HR1.out, HB.out⟩
        case round =>
          clear HR1 HB hlt1
          obtain ⟨t, ht16, ht64, rfl, hr1, hb⟩ := hrel
          have hl2 := w2_len W HL.out (t - 16)
          have hlt1 := hr1.lt
          by_cases hlt : t < 64
          · have cx := hr1.cell (t - 15) (by omega)
            have cy := hr1.cell (t - 2) (by omega)
            have ca := hr1.cell (t - 16) (by omega)
            have cb := hr1.cell (t - 7) (by omega)
            obtain ⟨co, hco⟩ : ∃ c : Value, wr.cell? ⟨w.heap.size, t, none⟩ = some c := ⟨_, hr1.cell t (by omega)⟩
            have hfree := hr1.free t
            have hst := w2_step W t ht16
            unfold nextW at hst
            generalize (w2 W (t - 16)).getD (t - 15) 0 = x at cx hst
            generalize (w2 W (t - 16)).getD (t - 2) 0 = y at cy hst
            generalize (w2 W (t - 16)).getD (t - 16) 0 = a at ca hst
            generalize (w2 W (t - 16)).getD (t - 7) 0 = b at cb hst
            have HR1 := Lib.hid hr1
            have HB := Lib.hid hb
            have HST := Lib.hid hst
            clear hr1 hb hst hl2
            go_wp2
            go_quiet (fail)
            go_wp2_with ((go_at_call 147; refine (turnR _ _ _ (by decide) (by decide)).mono ?_; rintro en w' ⟨rfl, rfl⟩))
            go_region
            go_wp2
            have hrel1 := endsR ht16 hlt (HR1.out.drewN (nq + 1)) (belowN HB.out (nq + 1)) HST.out
            have hm : 64 - (intOf (Value.int IntKind.i64 ((t : Int) + 1))).toNat < 64 - (intOf (Value.int IntKind.i64 (t : Int))).toNat := by simp [intOf]; omega
            first | exact ⟨hrel1, hm⟩ | (refine ⟨?_, hm⟩; (repeat apply Exists.intro); exact ⟨hrel1, rfl⟩)
          · obtain rfl : t = 64 := by omega
            have hfin : w2 W (64 - 16) = sWords s.data.toList := by
              rw [sWords_is]; rw [← HKM.out, HW.out]
            rw [hfin] at hr1
            have HR1 := Lib.hid hr1
            have HB := Lib.hid hb
            clear hr1 hb hfin hl2
            go_wp2
            go_ret
            exact ⟨rfl, HR1.out, HB.out⟩

set_option maxHeartbeats 4000000 in
set_option maxRecDepth 100000 in
theorem constsR (w : World) :
    Calls Tryz.prog 146 #[] w fun en w' => en = .returned (.slice (some ⟨w.heap.size, 0, none⟩) 64 64) ∧ Row w' w.heap.size 132 Kw ∧ Below w.heap.size w w' := by
  have hz0 : Row (w.alloc (.cells (cs Kw) 132)) w.heap.size 132 Kw := heap_alloc_new w _
  have HZ0 := Lib.hid hz0
  clear hz0
  go_enter Tryz.func146, Tryz.ntmps146
  go_wp2
  go_ret
  refine ⟨rfl, ?_, (Below.refl _ _).alloc (Nat.le_refl _) _⟩
  have h := HZ0.out
  unfold Row at h ⊢
  rw [Kw_cs] at h ⊢
  exact h
end Go.Proofs.YtchnklekeinhiaaGreat

namespace Go.Proofs.YtchnklekeinhiaaGreat
open Go.RowKit

attribute [local go_sem] xr_bits an_bits og_bits ad_mod nt_bits u32_plain sr3 sr10

theorem u32Arr8 : (Tryz.prog.info? 133).map (·.size) = some 8 := by kernel_rfl
theorem info8 {l : List Wd} (h : l.length = 8) : (Tryz.prog.info? 133).map (·.size) = some (cs l).size := by rw [cs_size, h]; exact u32Arr8
theorem load8 {w : World} {b : Nat} {l : List Wd} (h : Row w b 133 l) (hl : l.length = 8) :
    (Instr.loadAt 133 (.pointer (some ⟨b, 0, none⟩))).run Tryz.prog w = .ok (.agg (cs l)) w := by
  simp only [Instr.loadAt, Instr.sureAddr, Sem.run_bind, Sem.run_pure, Result.andThen]
  exact run_loadVar_row w b _ _ (cs l) (0, 0) _ h Tryz.underlying133 rfl (info8 hl)

/-- a whole row stored, and a whole row loaded -/
theorem wl_store {ops : Array Oper} {rest : List Oper} {o : Oper} {a : Act} {w : World} {Q : Exit → Act → World → Prop} (hgd : o.guard = none) (ty : TypeId) (x y : Operand) (ho : o.op = .store ty x y) (g : Nat) (l : List Wd)
    (hx : a.eval x = .pointer (some ⟨g, 0, none⟩)) (hy : a.eval y = .agg (cs l)) (t : TypeId) (hg : ∃ old : Array Value, w.heap[g]? = some (.cells old t (0, 0)) ∧ old.size = l.length) (hi : (Tryz.prog.info? ty).map (·.size) = some l.length)
    (h : wpList Tryz.prog ops Q rest (a.put o.dst undef) (w.setRow g (cs l))) : wpList Tryz.prog ops Q (o :: rest) a w := by
  obtain ⟨old, hg, ho2⟩ := hg
  exact wpList_store_row hgd ty x y ho g (cs l) hx hy t old hg (by rw [cs_size]; exact hi) (by rw [cs_size]; exact ho2) (cs_one _) h
theorem wl_load {ops : Array Oper} {rest : List Oper} {o : Oper} {a : Act} {w : World} {Q : Exit → Act → World → Prop} (hgd : o.guard = none) (ty : TypeId) (x : Operand) (ho : o.op = .load ty x) (g : Nat) (l : List Wd) (n : Nat) (e : TypeId)
    (hx : a.eval x = .pointer (some ⟨g, 0, none⟩)) (t : TypeId) (hg : Row w g t l) (hu : Tryz.prog.underlying ty = some (.array n e)) (hi : (Tryz.prog.info? ty).map (·.size) = some l.length)
    (h : wpList Tryz.prog ops Q rest (a.put o.dst (.agg (cs l))) w) : wpList Tryz.prog ops Q (o :: rest) a w :=
  wpList_load_row hgd ty x ho g hx t (cs l) (0, 0) _ hg hu rfl (by rw [cs_size]; exact hi) h
theorem ws_load {ops : Array Oper} {rest : List Oper} {o : Oper} {a : Act} {w : World} {Q : Act → Prop} (hgd : o.guard = none) (x : Operand) (ho : o.op = .load 133 x) (g : Nat) (l : List Wd)
    (hx : a.eval x = .pointer (some ⟨g, 0, none⟩)) (hg : Row w g 133 l) (hl : l.length = 8) (h : wpStill Tryz.prog ops w Q rest (a.put o.dst (.agg (cs l)))) : wpStill Tryz.prog ops w Q (o :: rest) a := by
  refine wpStill_step fun K hK => ?_
  simp only [Region.wanted, hgd, if_true]
  unfold Oper.still execOp
  simp only [ho, hx, Sem.run_bind, load8 hg hl, Result.andThen_ok, Sem.run_pure, Oper.stillUpon_value]
  exact hK _ h
theorem Row.of_put {w : World} {b : Nat} {t : TypeId} {old : Array Value} (h : w.heap[b]? = some (.cells old t (0, 0))) (l : List Wd) : Row (w.setRow b (cs l)) b t l := setRow_heap _ _ _ _ _ _ h

end Go.Proofs.YtchnklekeinhiaaGreat

namespace Go.Proofs.YtchnklekeinhiaaGreat
open Go.RowKit

attribute [local go_sem] xr_bits an_bits og_bits ad_mod nt_bits u32_plain sr3 sr10

theorem Row.cells8 {w : World} {g : Nat} {T : TypeId} {a b c d e f k h : Wd} (r : Row w g T [a, b, c, d, e, f, k, h]) :
    w.cell? ⟨g, 0, none⟩ = some (.int .u32 (wv a)) ∧ w.cell? ⟨g, 1, none⟩ = some (.int .u32 (wv b)) ∧ w.cell? ⟨g, 2, none⟩ = some (.int .u32 (wv c)) ∧ w.cell? ⟨g, 3, none⟩ = some (.int .u32 (wv d)) ∧
    w.cell? ⟨g, 4, none⟩ = some (.int .u32 (wv e)) ∧ w.cell? ⟨g, 5, none⟩ = some (.int .u32 (wv f)) ∧ w.cell? ⟨g, 6, none⟩ = some (.int .u32 (wv k)) ∧ w.cell? ⟨g, 7, none⟩ = some (.int .u32 (wv h)) :=
  ⟨r.cell 0 (by simp), r.cell 1 (by simp), r.cell 2 (by simp), r.cell 3 (by simp), r.cell 4 (by simp), r.cell 5 (by simp), r.cell 6 (by simp), r.cell 7 (by simp)⟩

theorem Row.put8 {w : World} {g : Nat} {T : TypeId} {a b c d e f k h : Wd} (r : Row w g T [a, b, c, d, e, f, k, h]) (a' b' c' d' e' f' k' h' : Wd) :
    Row ((((((((w.setCell ⟨g, 0, none⟩ (V a')).setCell ⟨g, 1, none⟩ (V b')).setCell ⟨g, 2, none⟩ (V c')).setCell ⟨g, 3, none⟩ (V d')).setCell ⟨g, 4, none⟩ (V e')).setCell ⟨g, 5, none⟩ (V f')).setCell ⟨g, 6, none⟩ (V k')).setCell ⟨g, 7, none⟩ (V h')) g T [a', b', c', d', e', f', k', h'] := by
  unfold Row at r ⊢
  rw [cs_eight] at r ⊢
  exact set8 r _ _ _ _ _ _ _ _
theorem Row.other8 {w : World} {g b : Nat} {T : TypeId} {l : List Wd} (r : Row w b T l) (hb : b ≠ g) (a' b' c' d' e' f' k' h' : Value) :
    Row ((((((((w.setCell ⟨g, 0, none⟩ a').setCell ⟨g, 1, none⟩ b').setCell ⟨g, 2, none⟩ c').setCell ⟨g, 3, none⟩ d').setCell ⟨g, 4, none⟩ e').setCell ⟨g, 5, none⟩ f').setCell ⟨g, 6, none⟩ k').setCell ⟨g, 7, none⟩ h') b T l :=
  (((((((r.other hb _ _).other hb _ _).other hb _ _).other hb _ _).other hb _ _).other hb _ _).other hb _ _).other hb _ _

set_option maxHeartbeats 4000000 in
set_option maxRecDepth 100000 in
theorem block8R (a b c d e f g h : Wd) (s : ByteArray) (w : World) (hs : s.size ≤ 9223372036854775807) :
    Calls Tryz.prog 108 #[.agg #[V a, V b, V c, V d, V e, V f, V g, V h], .string s] w fun en w' => en = .returned (.agg (cs (blk [a, b, c, d, e, f, g, h] s.data.toList))) ∧ Below w.heap.size w w' := by
  go_enter Tryz.func108, Tryz.ntmps108
  go_wp2_with fail
  refine (wordsR s _ hs).mono ?_
  rintro en w1 ⟨rfl, rW1, hb1⟩
  have hz := hb1.size
  simp at hz
  have r0 : Row w1 w.heap.size 133 [a, b, c, d, e, f, g, h] := Row.below (by unfold Row; rw [cs_eight]; exact heap_alloc2_old w _ _) hb1 (by simp; omega)
  have r4 : Row w1 (w.heap.size + 1) 133 Z8 := Row.below (by unfold Row; rw [Z8_cs]; exact heap_alloc2_new w _ _) hb1 (by simp)
  have hB1 : Below w.heap.size w w1 := (((Below.refl _ _).alloc (Nat.le_refl _) _).alloc (by simp) _).trans (hb1.mono (by simp; omega))
  have rW : Row w1 (w.heap.size + 1 + 1) 132 (sWords s.data.toList) := by simpa using rW1
  generalize hl : [a, b, c, d, e, f, g, h] = l at r0 ⊢
  have hl8 : l.length = 8 := by rw [← hl]; rfl
  generalize hWW : sWords s.data.toList = W at rW
  have hlW : W.length = 64 := by rw [← hWW]; exact sWords_len _
  have HL := Lib.hid hl
  have H0 := Lib.hid r0
  have H4 := Lib.hid r4
  have HRW := Lib.hid rW
  have HB := Lib.hid hB1
  have H8 := Lib.hid hl8
  have HW := Lib.hid hWW
  have HLW := Lib.hid hlW
  have hw1 := rW.lt
  clear hl r0 r4 rW rW1 hB1 hb1 hl8 hWW hlW
  go_wp2_with fail
  refine (constsR _).mono ?_
  rintro en w2 ⟨rfl, rK, hb2⟩
  have q0 : Row w2 w.heap.size 133 l := H0.out.below hb2 (by omega)
  have q4 : Row w2 (w.heap.size + 1) 133 Z8 := H4.out.below hb2 (by omega)
  have qW : Row w2 (w.heap.size + 1 + 1) 132 W := HRW.out.below hb2 hw1
  have qB : Below w.heap.size w w2 := HB.out.trans (hb2.mono (by omega))
  generalize w1.heap.size = bK at hw1 rK ⊢
  have hK2 := rK.lt
  have h6 : ∀ o : Obj, (w2.alloc o).heap[w2.heap.size]? = some o := heap_alloc_new w2
  have Q0 := Lib.hid q0
  have Q4 := Lib.hid q4
  have QW := Lib.hid qW
  have QK := Lib.hid rK
  have QB := Lib.hid qB
  have H6 := Lib.hid h6
  clear q0 q4 qW rK qB h6 hb2 H0 H4 HRW HB hz
  dsimp only
  go_wp2_with (first
    | (with_reducible refine wl_load ?_ 133 (.tmp 2) ?_ w.heap.size l 8 132 ?_ 133 ?_ ?_ ?_ ?_
       rfl; rfl; rfl; exact Q0.out; exact Tryz.underlying133; rw [H8.out]; exact u32Arr8)
    | (with_reducible refine wl_store ?_ 133 (.tmp 7) (.tmp 17) ?_ w2.heap.size l ?_ ?_ 133 ?_ ?_ ?_
       rfl; rfl; rfl; rfl; exact ⟨_, H6.out _, by rw [H8.out]; rfl⟩; rw [H8.out]; exact u32Arr8
       rw [World.setRow_alloc_new]
       have q0 : Row (w2.alloc (.cells (cs l) 133)) w.heap.size 133 l := Q0.out.alloc _
       have q4 : Row (w2.alloc (.cells (cs l) 133)) (w.heap.size + 1) 133 Z8 := Q4.out.alloc _
       have qW : Row (w2.alloc (.cells (cs l) 133)) (w.heap.size + 1 + 1) 132 W := QW.out.alloc _
       have qK : Row (w2.alloc (.cells (cs l) 133)) bK 132 Kw := QK.out.alloc _
       have q7 : Row (w2.alloc (.cells (cs l) 133)) w2.heap.size 133 l := heap_alloc_new _ _
       have qB : Below w.heap.size w (w2.alloc (.cells (cs l) 133)) := QB.out.alloc (by omega) _
       generalize w2.alloc (.cells (cs l) 133) = w3 at q0 q4 qW qK q7 qB ⊢
       generalize w2.heap.size = b7 at q7 hK2 ⊢
       have R0 := Lib.hid q0
       have R4 := Lib.hid q4
       have RW := Lib.hid qW
       have RK := Lib.hid qK
       have R7 := Lib.hid q7
       have RB := Lib.hid qB
       clear q0 q4 qW qK q7 qB H6 Q0 Q4 QW QK QB))
  go_loopw [8] (fun i wr => ∃ t : Nat, t ≤ 64 ∧ i = .int .i64 t ∧ Row wr w.heap.size 133 l ∧ Row wr (w.heap.size + 1) 133 Z8 ∧ Row wr (w.heap.size + 1 + 1) 132 W ∧ Row wr bK 132 Kw ∧ Row wr b7 133 (stps (fun j => ad (Kw.getD j 0) (W.getD j 0)) l t) ∧ Below w.heap.size w wr) (fun i _ => 64 - (intOf i).toNat)
  case atStart => exact ⟨0, by omega, rfl, R0.out, R4.out, RW.out, RK.out, by rw [stps_zero]; exact R7.out, RB.out⟩
  case round =>
    clear R0 R4 RW RK R7 RB
    obtain ⟨t, ht, rfl, r0, r4, rW, rK, r7, rB⟩ := hrel
    have hr8 : (stps (fun j => ad (Kw.getD j 0) (W.getD j 0)) l t).length = 8 := stps_len _ H8.out t
    by_cases hlt : t < 64
    · have hn := stps_succ (fun j => ad (Kw.getD j 0) (W.getD j 0)) l t
      have ck := rK.cell t (by rw [Kw_len]; exact hlt)
      have cw := rW.cell t (by rw [HLW.out]; exact hlt)
      generalize Kw.getD t 0 = kt at ck hn
      generalize W.getD t 0 = wt at cw hn
      generalize stps (fun j => ad (Kw.getD j 0) (W.getD j 0)) l t = r at r7 hr8 hn
      obtain ⟨ra, rb, rc, rd, re, rf, rg, rh, rfl⟩ := len8 hr8
      obtain ⟨c0, c1, c2, c3, c4, c5, c6, c7⟩ := r7.cells8
      have f0 := r7.free 0
      have f1 := r7.free 1
      have f2 := r7.free 2
      have f3 := r7.free 3
      have f4 := r7.free 4
      have f5 := r7.free 5
      have f6 := r7.free 6
      have f7 := r7.free 7
      have z7 := r7.lt
      have R0 := Lib.hid r0
      have R4 := Lib.hid r4
      have RW := Lib.hid rW
      have RK := Lib.hid rK
      have R7 := Lib.hid r7
      have RB := Lib.hid rB
      have HN := Lib.hid hn
      clear r0 r4 rW rK r7 rB hn hr8
      go_wp2_with fail
      go_quiet (fail)
      go_wp2_with fail
      go_quiet ((go_at_call 147; exact still2 (turnR _ _ _ (by decide) (by decide))))
      go_wp2_with fail
      go_quiet ((go_at_call 147; exact still2 (turnR _ _ _ (by decide) (by decide))))
      go_wp2_with fail
      have he : stp [ra, rb, rc, rd, re, rf, rg, rh] (ad kt wt) = [ad (ad (ad (ad (ad rh (xr (xr (tn re 6) (tn re 11)) (tn re 25))) (xr (an re rf) (an (nt re) rg))) kt) wt) (ad (xr (xr (tn ra 2) (tn ra 13)) (tn ra 22)) (xr (xr (an ra rb) (an ra rc)) (an rb rc))), ra, rb, rc,
          ad rd (ad (ad (ad (ad rh (xr (xr (tn re 6) (tn re 11)) (tn re 25))) (xr (an re rf) (an (nt re) rg))) kt) wt), re, rf, rg] := by
        rw [ad_assoc (ad (ad rh _) _) kt wt]; rfl
      refine ⟨⟨t + 1, by omega, by go_num, (R0.out.drewN _).other8 (by omega) _ _ _ _ _ _ _ _, (R4.out.drewN _).other8 (by omega) _ _ _ _ _ _ _ _, (RW.out.drewN _).other8 (by omega) _ _ _ _ _ _ _ _, (RK.out.drewN _).other8 (by omega) _ _ _ _ _ _ _ _, ?_, below8 (belowN RB.out _) (by omega) _ _ _ _ _ _ _ _⟩, by simp [intOf]; omega⟩
      rw [HN.out, he]
      exact (R7.out.drewN _).put8 _ _ _ _ _ _ _ _
    · obtain rfl : t = 64 := by omega
      generalize hrr : stps (fun j => ad (Kw.getD j 0) (W.getD j 0)) l 64 = r at r7 hr8
      have HRR := Lib.hid hrr
      have R0 := Lib.hid r0
      have R4 := Lib.hid r4
      have R7 := Lib.hid r7
      have RB := Lib.hid rB
      have HR8 := Lib.hid hr8
      clear r0 r4 rW rK r7 rB hr8 hrr hlt ht
      go_wp2
      go_loopw [13] (fun i wr => ∃ k : Nat, k ≤ 8 ∧ i = .int .i64 k ∧ Row wr w.heap.size 133 l ∧ Row wr (w.heap.size + 1) 133 Z8 ∧ Row wr b7 133 (mix r l k) ∧ Below w.heap.size w wr) (fun i _ => 8 - (intOf i).toNat)
      case atStart => exact ⟨0, by omega, rfl, R0.out, R4.out, by rw [mix_zero]; exact R7.out, RB.out⟩
      case round =>
        clear R0 R4 R7 RB
        obtain ⟨k, hk, rfl, r0, r4, r7, rB⟩ := hrel
        have hm8 : (mix r l k).length = 8 := by rw [mix_len, HR8.out]
        by_cases hlt : k < 8
        · have ch := r0.cell k (by rw [H8.out]; exact hlt)
          have cr := r7.cell k (by omega)
          have hfree := r7.free k
          rw [smix_at r l k k (Nat.le_refl _)] at cr
          have hn := smix_succ r l k
          generalize l.getD k 0 = x at ch hn
          generalize r.getD k 0 = y at cr hn
          have z0 := r0.lt
          have z7 := r7.lt
          have R0 := Lib.hid r0
          have R4 := Lib.hid r4
          have R7 := Lib.hid r7
          have RB := Lib.hid rB
          have HN := Lib.hid hn
          clear r0 r4 r7 rB hn hm8
          go_wp2
          go_region
          go_wp2
          refine ⟨⟨k + 1, by omega, by go_num, (R0.out.other (by omega) _ _).drew, (R4.out.other (by omega) _ _).drew, ?_, (RB.out.setCell (by simp; omega) _).drew⟩, by simp [intOf]; omega⟩
          rw [HN.out]
          exact (R7.out.set k _).drew
        · obtain rfl : k = 8 := by omega
          have hfin : mix r l 8 = blk [a, b, c, d, e, f, g, h] s.data.toList := by
            rw [mix_comm HR8.out H8.out, blk_is, HL.out, ← HRR.out, ← HW.out]; rfl
          rw [hfin] at r7 hm8
          generalize hbz : blk [a, b, c, d, e, f, g, h] s.data.toList = z at r7 hm8 hfin
          have HBZ := Lib.hid hbz
          have R7 := Lib.hid r7
          have R4 := Lib.hid r4
          have RB := Lib.hid rB
          have HM := Lib.hid hm8
          clear r0 r4 r7 rB hfin hm8 hlt hk hbz
          go_wp2_with (first
            | (with_reducible refine wl_load ?_ 133 (.tmp 7) ?_ b7 z 8 132 ?_ 133 ?_ ?_ ?_ ?_
               rfl; rfl; rfl; exact R7.out; exact Tryz.underlying133; rw [HM.out]; exact u32Arr8)
            | (with_reducible refine wl_store ?_ 133 (.tmp 4) (.tmp 115) ?_ (w.heap.size + 1) z ?_ ?_ 133 ?_ ?_ ?_
               rfl; rfl; rfl; rfl; exact ⟨_, R4.out, by rw [cs_size, HM.out]; rfl⟩; rw [HM.out]; exact u32Arr8))
          exact bodyPost_ret (results_cell_row rfl _ _ _ _ _ (0, 0) (.array 8 132) rfl (setRow_heap _ _ _ _ _ _ R4.out) Tryz.underlying133 rfl (info8 HM.out)) rfl ⟨by rw [HBZ.out], belowRow RB.out (by omega) _⟩

theorem blockR (l : List Wd) (s : ByteArray) (w : World) (hl : l.length = 8) (hs : s.size ≤ 9223372036854775807) :
    Calls Tryz.prog 108 #[.agg (cs l), .string s] w fun en w' => en = .returned (.agg (cs (blk l s.data.toList))) ∧ Below w.heap.size w w' := by
  obtain ⟨a, b, c, d, e, f, g, h, rfl⟩ := len8 hl
  rw [cs_eight]
  exact block8R a b c d e f g h s w hs
end Go.Proofs.YtchnklekeinhiaaGreat
