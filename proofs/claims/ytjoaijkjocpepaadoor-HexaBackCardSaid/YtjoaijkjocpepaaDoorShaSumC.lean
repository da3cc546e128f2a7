/-
  sha.blocks, sha.firstRegisters and sha.Sum: what each call answers.
-/
import Derived.Test.YtjoaijkjocpepaaDoorShaPadR
import Derived.Lib.IndexBytes
namespace Go.Proofs.YtjoaijkjocpepaaDoor
open Go.RowKit

set_option maxHeartbeats 2000000 in
set_option maxRecDepth 100000 in
theorem blocks8 (a b c d e f g h : Wd) (s : ByteArray) (m : Nat) (w : World) (hm : s.size = 64 * m) (hs : s.size ≤ 9223372036854775807) (hT : Tab w) :
    Calls Tryd.prog 20 #[.agg #[V a, V b, V c, V d, V e, V f, V g, V h], .string s] w fun en w' => en = .returned (.agg (cs (blks [a, b, c, d, e, f, g, h] s.data.toList m))) ∧ Below w.heap.size w w' := by
  have r0 : Row ((w.alloc (.cells #[V a, V b, V c, V d, V e, V f, V g, V h] 38)).alloc (.cells (cs Z8) 38)) w.heap.size 38 [a, b, c, d, e, f, g, h] := by unfold Row; rw [cs_eight]; exact heap_alloc2_old w _ _
  have r4 : Row ((w.alloc (.cells #[V a, V b, V c, V d, V e, V f, V g, V h] 38)).alloc (.cells (cs Z8) 38)) (w.heap.size + 1) 38 Z8 := heap_alloc2_new w _ _
  have rB : Below w.heap.size w ((w.alloc (.cells #[V a, V b, V c, V d, V e, V f, V g, V h] 38)).alloc (.cells (cs Z8) 38)) := ((Below.refl _ _).alloc (Nat.le_refl _) _).alloc (by simp) _
  have rT := hT.below rB
  have h0 : 0 < w.heap.size := hT.lt
  rw [Z8_cs] at r0 r4 rB rT
  have hlen : s.data.toList.length = s.size := by simp
  have R0 := Lib.hid r0
  have R4 := Lib.hid r4
  have RB := Lib.hid rB
  have RT := Lib.hid rT
  have HM := Lib.hid hm
  have HLEN := Lib.hid hlen
  clear r0 r4 rB rT hT hm hlen
  go_enter Tryd.func20, Tryd.ntmps20
  go_wp2_with fail
  go_loopw [1] (fun v wr => ∃ (k : Nat) (t : ByteArray), k ≤ m ∧ v = .string t ∧ t.data.toList = s.data.toList.drop (64 * k) ∧ t.size + 64 * k = s.size ∧ Row wr w.heap.size 38 (blks [a, b, c, d, e, f, g, h] s.data.toList k) ∧ Row wr (w.heap.size + 1) 38 Z8 ∧ Tab wr ∧ Below w.heap.size w wr) (fun v _ => match v with | .string t => t.size | _ => 0)
  case atStart => exact ⟨0, s, by omega, rfl, by simp, by omega, by rw [blks_zero]; exact R0.out, R4.out, RT.out, RB.out⟩
  case round =>
    clear R0 R4 RB RT
    obtain ⟨k, t, hk, rfl, htd, hts, r0, r4, rT, rB⟩ := hrel
    by_cases hkm : k < m
    · have hts64 : 64 ≤ t.size := by have := HM.out; omega
      obtain ⟨e1, e2⟩ := some_str (t := t) (by omega)
      have hl8 : (blks [a, b, c, d, e, f, g, h] s.data.toList k).length = 8 := blks_len rfl _ _
      have hn := blks_succ [a, b, c, d, e, f, g, h] s.data.toList k
      rw [← htd] at hn
      generalize blks [a, b, c, d, e, f, g, h] s.data.toList k = l at r0 hl8 hn
      have h64 : (64 : Int) ≤ (t.size : Int) := by omega
      have hdr := drop_str t 64
      rw [htd, List.drop_drop] at hdr
      have hsz64 : (t.extract 64 t.size).size = t.size - 64 := by rw [ByteArray.size_extract]; omega
      have HDR := Lib.hid hdr
      have HSZ := Lib.hid hsz64
      have R0 := Lib.hid r0
      have R4 := Lib.hid r4
      have RT := Lib.hid rT
      have RB := Lib.hid rB
      have HN := Lib.hid hn
      have HL8 := Lib.hid hl8
      have hz4 := r4.lt
      clear r0 r4 rT rB hn hl8 htd hdr hsz64
      go_wp2_with (with_reducible refine wl_load ?_ 38 (.tmp 2) ?_ w.heap.size l 8 37 ?_ 38 ?_ ?_ ?_ ?_
                   rfl; rfl; rfl; exact R0.out; exact Tryd.underlying38; rw [HL8.out]; exact u32Arr8)
      refine (blockC l t _ HL8.out (by omega) RT.out).mono ?_
      rintro en w4 ⟨rfl, hb4⟩
      have q0 : Row w4 w.heap.size 38 l := R0.out.below hb4 (by omega)
      have q4 : Row w4 (w.heap.size + 1) 38 Z8 := R4.out.below hb4 hz4
      have qT : Tab w4 := RT.out.below hb4
      have qB : Below w.heap.size w w4 := RB.out.trans (hb4.mono (by omega))
      generalize hr' : blk l t.data.toList = r' at HN ⊢
      have hr8' : r'.length = 8 := by rw [← hr']; exact blk_len HL8.out _
      have Q0 := Lib.hid q0
      have Q4 := Lib.hid q4
      have QT := Lib.hid qT
      have QB := Lib.hid qB
      have HR8' := Lib.hid hr8'
      clear hr' hr8' q0 q4 qT qB hb4 R0 R4 RT RB
      dsimp only
      go_wp2_with (with_reducible refine wl_store ?_ 38 (.tmp 2) (.tmp 11) ?_ w.heap.size r' ?_ ?_ 38 ?_ ?_ ?_
                   rfl; rfl; rfl; rfl; exact ⟨_, Q0.out, by rw [cs_size, HR8'.out, HL8.out]⟩; rw [HR8'.out]; exact u32Arr8)
      refine ⟨⟨k + 1, _, by omega, rfl, by rw [HDR.out]; congr 1, by rw [HSZ.out]; omega, ?_, Q4.out.of_set (by omega) _, QT.out.of_set h0 _, belowRow QB.out (Nat.le_refl _) _⟩, ?_⟩
      · rw [HN.out]
        exact Row.of_put Q0.out _
      · show (t.extract 64 t.size).size < t.size
        rw [HSZ.out]; omega
    · obtain rfl : k = m := by omega
      have ht0 : t.size = 0 := by have := HM.out; omega
      obtain ⟨e1, e2⟩ := no_str ht0
      have hl8 : (blks [a, b, c, d, e, f, g, h] s.data.toList k).length = 8 := blks_len rfl _ _
      generalize hbz : blks [a, b, c, d, e, f, g, h] s.data.toList k = z at r0 hl8
      have HBZ := Lib.hid hbz
      have R0 := Lib.hid r0
      have R4 := Lib.hid r4
      have RB := Lib.hid rB
      have HL8 := Lib.hid hl8
      clear r0 r4 rT rB htd hl8 hbz ht0 e2
      go_wp2_with (first
        | (with_reducible refine wl_load ?_ 38 (.tmp 2) ?_ w.heap.size z 8 37 ?_ 38 ?_ ?_ ?_ ?_
           rfl; rfl; rfl; exact R0.out; exact Tryd.underlying38; rw [HL8.out]; exact u32Arr8)
        | (with_reducible refine wl_store ?_ 38 (.tmp 4) (.tmp 12) ?_ (w.heap.size + 1) z ?_ ?_ 38 ?_ ?_ ?_
           rfl; rfl; rfl; rfl; exact ⟨_, R4.out, by rw [cs_size, HL8.out]; rfl⟩; rw [HL8.out]; exact u32Arr8))
      exact bodyPost_ret (results_cell_row rfl _ _ _ _ _ (0, 0) (.array 8 37) rfl (setRow_heap _ _ _ _ _ _ R4.out) Tryd.underlying38 rfl (info8 HL8.out)) rfl ⟨by rw [HBZ.out], belowRow RB.out (by omega) _⟩

theorem blocksC (l : List Wd) (s : ByteArray) (m : Nat) (w : World) (hl : l.length = 8) (hm : s.size = 64 * m) (hs : s.size ≤ 9223372036854775807) (hT : Tab w) :
    Calls Tryd.prog 20 #[.agg (cs l), .string s] w fun en w' => en = .returned (.agg (cs (blks l s.data.toList m))) ∧ Below w.heap.size w w' := by
  obtain ⟨a, b, c, d, e, f, g, h, rfl⟩ := len8 hl
  rw [cs_eight]
  exact blocks8 a b c d e f g h s m w hm hs hT

set_option maxRecDepth 100000 in
theorem firstC (w : World) :
    Calls Tryd.prog 21 #[] w fun en w' => en = .returned (.agg (cs H0)) ∧ Below w.heap.size w w' := by
  go_enter Tryd.func21, Tryd.ntmps21
  go_wp2
  rw [← H0_cs]
  exact bodyPost_ret (results_cell_row rfl _ _ _ _ (cs H0) (0, 0) (.array 8 37) rfl (heap_alloc_new w _) Tryd.underlying38 rfl (info8 H0_len)) rfl ⟨rfl, (Below.refl _ _).alloc (Nat.le_refl _) _⟩
end Go.Proofs.YtjoaijkjocpepaaDoor
