/-
  almonryref02.Block: what each call answers.
-/
import Derived.Test.YtjoaijkjocpepaaDoorShaBlkC
namespace Go.Proofs.YtjoaijkjocpepaaDoor
open Go.RowKit

attribute [local go_sem] xr_bits an_bits og_bits ad_mod nt_bits u32_plain sr3 sr10

theorem Row.cells8 {w : World} {g : Nat} {T : TypeId} {a b c d e f k h : Wd} (r : Row w g T [a, b, c, d, e, f, k, h]) :
    w.cell? ⟨g, 0, none⟩ = some (.int .u32 (wv a)) ∧ w.cell? ⟨g, 1, none⟩ = some (.int .u32 (wv b)) ∧ w.cell? ⟨g, 2, none⟩ = some (.int .u32 (wv c)) ∧ w.cell? ⟨g, 3, none⟩ = some (.int .u32 (wv d)) ∧
    w.cell? ⟨g, 4, none⟩ = some (.int .u32 (wv e)) ∧ w.cell? ⟨g, 5, none⟩ = some (.int .u32 (wv f)) ∧ w.cell? ⟨g, 6, none⟩ = some (.int .u32 (wv k)) ∧ w.cell? ⟨g, 7, none⟩ = some (.int .u32 (wv h)) :=
  ⟨r.cell 0 (by simp), r.cell 1 (by simp), r.cell 2 (by simp), r.cell 3 (by simp), r.cell 4 (by simp), r.cell 5 (by simp), r.cell 6 (by simp), r.cell 7 (by simp)⟩

theorem Row.put8 {w : World} {g : Nat} {T : TypeId} {a b c d e f k h : Wd} (r : Row w g T [a, b, c, d, e, f, k, h]) (a' b' c' d' e' f' k' h' : Wd) :
    Row ((((((((w.setCell ⟨g, 0, none⟩ (V a')).setCell ⟨g, 1, none⟩ (V b')).setCell ⟨g, 2, none⟩ (V c')).setCell ⟨g, 3, none⟩ (V d')).setCell ⟨g, 4, none⟩ (V e')).setCell ⟨g, 5, none⟩ (V f')).setCell ⟨g, 6, none⟩ (V k')).setCell ⟨g, 7, none⟩ (V h')) g T [a', b', c', d', e', f', k', h'] := by
  unfold Row at r ⊢
  rw [cs_eight] at r ⊢
  exact set8 r _ _ _ _ _ _ _ _
theorem Row.other8 {w : World} {g b : Nat} {T : TypeId} {l : List Wd} (r : Row w b T l) (hb : b ≠ g) (a' b' c' d' e' f' k' h' : Value) :
    Row ((((((((w.setCell ⟨g, 0, none⟩ a').setCell ⟨g, 1, none⟩ b').setCell ⟨g, 2, none⟩ c').setCell ⟨g, 3, none⟩ d').setCell ⟨g, 4, none⟩ e').setCell ⟨g, 5, none⟩ f').setCell ⟨g, 6, none⟩ k').setCell ⟨g, 7, none⟩ h') b T l :=
  (((((((r.other hb _ _).other hb _ _).other hb _ _).other hb _ _).other hb _ _).other hb _ _).other hb _ _).other hb _ _

set_option maxHeartbeats 4000000 in
set_option maxRecDepth 100000 in
theorem block8R (a b c d e f g h : Wd) (s : ByteArray) (w : World) (hs : s.size ≤ 9223372036854775807) :
    Calls Tryd.prog 24 #[.agg #[V a, V b, V c, V d, V e, V f, V g, V h], .string s] w fun en w' => en = .returned (.agg (cs (blk [a, b, c, d, e, f, g, h] s.data.toList))) ∧ Below w.heap.size w w' := by
  go_enter Tryd.func24, Tryd.ntmps24
  go_wp2_with fail
  refine (wordsR s _ hs).mono ?_
  rintro en w1 ⟨rfl, rW1, hb1⟩
  have hz := hb1.size
  simp at hz
  have r0 : Row w1 w.heap.size 38 [a, b, c, d, e, f, g, h] := Row.below (by unfold Row; rw [cs_eight]; exact heap_alloc2_old w _ _) hb1 (by simp; omega)
  have r4 : Row w1 (w.heap.size + 1) 38 Z8 := Row.below (by unfold Row; rw [Z8_cs]; exact heap_alloc2_new w _ _) hb1 (by simp)
  have hB1 : Below w.heap.size w w1 := (((Below.refl _ _).alloc (Nat.le_refl _) _).alloc (by simp) _).trans (hb1.mono (by simp; omega))
  have rW : Row w1 (w.heap.size + 1 + 1) 37 (sWords s.data.toList) := by simpa using rW1
  generalize hl : [a, b, c, d, e, f, g, h] = l at r0 ⊢
  have hl8 : l.length = 8 := by rw [← hl]; rfl
  generalize hWW : sWords s.data.toList = W at rW
  have hlW : W.length = 64 := by rw [← hWW]; exact sWords_len _
  have HL := Lib.hid hl
  have H0 := Lib.hid r0
  have H4 := Lib.hid r4
  have HRW := Lib.hid rW
  have HB := Lib.hid hB1
  have H8 := Lib.hid hl8
  have HW := Lib.hid hWW
  have HLW := Lib.hid hlW
  have hw1 := rW.lt
  clear hl r0 r4 rW rW1 hB1 hb1 hl8 hWW hlW
  go_wp2_with fail
  refine (constsR _).mono ?_
  rintro en w2 ⟨rfl, rK, hb2⟩
  have q0 : Row w2 w.heap.size 38 l := H0.out.below hb2 (by omega)
  have q4 : Row w2 (w.heap.size + 1) 38 Z8 := H4.out.below hb2 (by omega)
  have qW : Row w2 (w.heap.size + 1 + 1) 37 W := HRW.out.below hb2 hw1
  have qB : Below w.heap.size w w2 := HB.out.trans (hb2.mono (by omega))
  generalize w1.heap.size = bK at hw1 rK ⊢
  have hK2 := rK.lt
  have h6 : ∀ o : Obj, (w2.alloc o).heap[w2.heap.size]? = some o := heap_alloc_new w2
  have Q0 := Lib.hid q0
  have Q4 := Lib.hid q4
  have QW := Lib.hid qW
  have QK := Lib.hid rK
  have QB := Lib.hid qB
  have H6 := Lib.hid h6
  clear q0 q4 qW rK qB h6 hb2 H0 H4 HRW HB hz
  dsimp only
  go_wp2_with (first
    | (with_reducible refine wl_load ?_ 38 (.tmp 2) ?_ w.heap.size l 8 37 ?_ 38 ?_ ?_ ?_ ?_
       rfl; rfl; rfl; exact Q0.out; exact Tryd.underlying38; rw [H8.out]; exact u32Arr8)
    | (with_reducible refine wl_store ?_ 38 (.tmp 7) (.tmp 17) ?_ w2.heap.size l ?_ ?_ 38 ?_ ?_ ?_
       rfl; rfl; rfl; rfl; exact ⟨_, H6.out _, by rw [H8.out]; rfl⟩; rw [H8.out]; exact u32Arr8
       rw [World.setRow_alloc_new]
       have q0 : Row (w2.alloc (.cells (cs l) 38)) w.heap.size 38 l := Q0.out.alloc _
       have q4 : Row (w2.alloc (.cells (cs l) 38)) (w.heap.size + 1) 38 Z8 := Q4.out.alloc _
       have qW : Row (w2.alloc (.cells (cs l) 38)) (w.heap.size + 1 + 1) 37 W := QW.out.alloc _
       have qK : Row (w2.alloc (.cells (cs l) 38)) bK 37 Kw := QK.out.alloc _
       have q7 : Row (w2.alloc (.cells (cs l) 38)) w2.heap.size 38 l := heap_alloc_new _ _
       have qB : Below w.heap.size w (w2.alloc (.cells (cs l) 38)) := QB.out.alloc (by omega) _
       generalize w2.alloc (.cells (cs l) 38) = w3 at q0 q4 qW qK q7 qB ⊢
       generalize w2.heap.size = b7 at q7 hK2 ⊢
       have R0 := Lib.hid q0
       have R4 := Lib.hid q4
       have RW := Lib.hid qW
       have RK := Lib.hid qK
       have R7 := Lib.hid q7
       have RB := Lib.hid qB
       clear q0 q4 qW qK q7 qB H6 Q0 Q4 QW QK QB))
  go_loopw [8] (fun i wr => ∃ t : Nat, t ≤ 64 ∧ i = .int .i64 t ∧ Row wr w.heap.size 38 l ∧ Row wr (w.heap.size + 1) 38 Z8 ∧ Row wr (w.heap.size + 1 + 1) 37 W ∧ Row wr bK 37 Kw ∧ Row wr b7 38 (stps (fun j => ad (Kw.getD j 0) (W.getD j 0)) l t) ∧ Below w.heap.size w wr) (fun i _ => 64 - (intOf i).toNat)
  case atStart => exact ⟨0, by omega, rfl, R0.out, R4.out, RW.out, RK.out, by rw [stps_zero]; exact R7.out, RB.out⟩
  case round =>
    clear R0 R4 RW RK R7 RB
    obtain ⟨t, ht, rfl, r0, r4, rW, rK, r7, rB⟩ := hrel
    have hr8 : (stps (fun j => ad (Kw.getD j 0) (W.getD j 0)) l t).length = 8 := stps_len _ H8.out t
    by_cases hlt : t < 64
    · have hn := stps_succ (fun j => ad (Kw.getD j 0) (W.getD j 0)) l t
      have ck := rK.cell t (by rw [Kw_len]; exact hlt)
      have cw := rW.cell t (by rw [HLW.out]; exact hlt)
      generalize Kw.getD t 0 = kt at ck hn
      generalize W.getD t 0 = wt at cw hn
      generalize stps (fun j => ad (Kw.getD j 0) (W.getD j 0)) l t = r at r7 hr8 hn
      obtain ⟨ra, rb, rc, rd, re, rf, rg, rh, rfl⟩ := len8 hr8
      obtain ⟨c0, c1, c2, c3, c4, c5, c6, c7⟩ := r7.cells8
      have f0 := r7.free 0
      have f1 := r7.free 1
      have f2 := r7.free 2
      have f3 := r7.free 3
      have f4 := r7.free 4
      have f5 := r7.free 5
      have f6 := r7.free 6
      have f7 := r7.free 7
      have z7 := r7.lt
      have R0 := Lib.hid r0
      have R4 := Lib.hid r4
      have RW := Lib.hid rW
      have RK := Lib.hid rK
      have R7 := Lib.hid r7
      have RB := Lib.hid rB
      have HN := Lib.hid hn
      clear r0 r4 rW rK r7 rB hn hr8
      go_wp2_with fail
      go_quiet (fail)
      go_wp2_with fail
      go_quiet ((go_at_call 28; exact still2 (turnR _ _ _ (by decide) (by decide))))
      go_wp2_with fail
      go_quiet ((go_at_call 28; exact still2 (turnR _ _ _ (by decide) (by decide))))
      go_wp2_with fail
      have he : stp [ra, rb, rc, rd, re, rf, rg, rh] (ad kt wt) = [ad (ad (ad (ad (ad rh (xr (xr (tn re 6) (tn re 11)) (tn re 25))) (xr (an re rf) (an (nt re) rg))) kt) wt) (ad (xr (xr (tn ra 2) (tn ra 13)) (tn ra 22)) (xr (xr (an ra rb) (an ra rc)) (an rb rc))), ra, rb, rc,
          ad rd (ad (ad (ad (ad rh (xr (xr (tn re 6) (tn re 11)) (tn re 25))) (xr (an re rf) (an (nt re) rg))) kt) wt), re, rf, rg] := by
        rw [ad_assoc (ad (ad rh _) _) kt wt]; rfl
      refine ⟨⟨t + 1, by omega, by go_num, (R0.out.drewN _).other8 (by omega) _ _ _ _ _ _ _ _, (R4.out.drewN _).other8 (by omega) _ _ _ _ _ _ _ _, (RW.out.drewN _).other8 (by omega) _ _ _ _ _ _ _ _, (RK.out.drewN _).other8 (by omega) _ _ _ _ _ _ _ _, ?_, below8 (belowN RB.out _) (by omega) _ _ _ _ _ _ _ _⟩, by simp [intOf]; omega⟩
      rw [HN.out, he]
      exact (R7.out.drewN _).put8 _ _ _ _ _ _ _ _
    · obtain rfl : t = 64 := by omega
      generalize hrr : stps (fun j => ad (Kw.getD j 0) (W.getD j 0)) l 64 = r at r7 hr8
      have HRR := Lib.hid hrr
      have R0 := Lib.hid r0
      have R4 := Lib.hid r4
      have R7 := Lib.hid r7
      have RB := Lib.hid rB
      have HR8 := Lib.hid hr8
      clear r0 r4 rW rK r7 rB hr8 hrr hlt ht
      go_wp2
      go_loopw [13] (fun i wr => ∃ k : Nat, k ≤ 8 ∧ i = .int .i64 k ∧ Row wr w.heap.size 38 l ∧ Row wr (w.heap.size + 1) 38 Z8 ∧ Row wr b7 38 (mix r l k) ∧ Below w.heap.size w wr) (fun i _ => 8 - (intOf i).toNat)
      case atStart => exact ⟨0, by omega, rfl, R0.out, R4.out, by rw [mix_zero]; exact R7.out, RB.out⟩
      case round =>
        clear R0 R4 R7 RB
        obtain ⟨k, hk, rfl, r0, r4, r7, rB⟩ := hrel
        have hm8 : (mix r l k).length = 8 := by rw [mix_len, HR8.out]
        by_cases hlt : k < 8
        · have ch := r0.cell k (by rw [H8.out]; exact hlt)
          have cr := r7.cell k (by omega)
          have hfree := r7.free k
          rw [mix_at r l k k (Nat.le_refl _)] at cr
          have hn := mix_succ r l k
          generalize l.getD k 0 = x at ch hn
          generalize r.getD k 0 = y at cr hn
          have z0 := r0.lt
          have z7 := r7.lt
          have R0 := Lib.hid r0
          have R4 := Lib.hid r4
          have R7 := Lib.hid r7
          have RB := Lib.hid rB
          have HN := Lib.hid hn
          clear r0 r4 r7 rB hn hm8
          go_wp2
          go_region
          go_wp2
          refine ⟨⟨k + 1, by omega, by go_num, (R0.out.other (by omega) _ _).drew, (R4.out.other (by omega) _ _).drew, ?_, (RB.out.setCell (by simp; omega) _).drew⟩, by simp [intOf]; omega⟩
          rw [HN.out]
          exact (R7.out.set k _).drew
        · obtain rfl : k = 8 := by omega
          have hfin : mix r l 8 = blk [a, b, c, d, e, f, g, h] s.data.toList := by
            rw [mix_comm HR8.out H8.out, blk_is, HL.out, ← HRR.out, ← HW.out]; rfl
          rw [hfin] at r7 hm8
          generalize hbz : blk [a, b, c, d, e, f, g, h] s.data.toList = z at r7 hm8 hfin
          have HBZ := Lib.hid hbz
          have R7 := Lib.hid r7
          have R4 := Lib.hid r4
          have RB := Lib.hid rB
          have HM := Lib.hid hm8
          clear r0 r4 r7 rB hfin hm8 hlt hk hbz
          go_wp2_with (first
            | (with_reducible refine wl_load ?_ 38 (.tmp 7) ?_ b7 z 8 37 ?_ 38 ?_ ?_ ?_ ?_
               rfl; rfl; rfl; exact R7.out; exact Tryd.underlying38; rw [HM.out]; exact u32Arr8)
            | (with_reducible refine wl_store ?_ 38 (.tmp 4) (.tmp 115) ?_ (w.heap.size + 1) z ?_ ?_ 38 ?_ ?_ ?_
               rfl; rfl; rfl; rfl; exact ⟨_, R4.out, by rw [cs_size, HM.out]; rfl⟩; rw [HM.out]; exact u32Arr8))
          exact bodyPost_ret (results_cell_row rfl _ _ _ _ _ (0, 0) (.array 8 37) rfl (setRow_heap _ _ _ _ _ _ R4.out) Tryd.underlying38 rfl (info8 HM.out)) rfl ⟨by rw [HBZ.out], belowRow RB.out (by omega) _⟩

theorem blockR (l : List Wd) (s : ByteArray) (w : World) (hl : l.length = 8) (hs : s.size ≤ 9223372036854775807) :
    Calls Tryd.prog 24 #[.agg (cs l), .string s] w fun en w' => en = .returned (.agg (cs (blk l s.data.toList))) ∧ Below w.heap.size w w' := by
  obtain ⟨a, b, c, d, e, f, g, h, rfl⟩ := len8 hl
  rw [cs_eight]
  exact block8R a b c d e f g h s w hs
end Go.Proofs.YtjoaijkjocpepaaDoor
