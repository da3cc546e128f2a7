/-
  almonryref02.Sum: what each call answers.
-/
import Derived.Test.YtjoaijkjocpepaaDoorShaSumC2
import Derived.Deep.AppendLies
namespace Go.Proofs.YtjoaijkjocpepaaDoor
open Go.RowKit

theorem padR_str (n : Int) (hn : 0 ≤ n) (hn2 : n ≤ 9223372036854775807) (w : World) :
    Calls Tryd.prog 23 #[.int .i64 n] w fun e w' => e = .returned (.string (padS n.toNat)) ∧ Below w.heap.size w w' := by
  obtain ⟨k, rfl⟩ := Int.eq_ofNat_of_zero_le hn
  have h := padR_nat k (by omega) w
  unfold padS
  exact h

set_option maxHeartbeats 4000000 in
set_option maxRecDepth 100000 in
theorem sumR (s : ByteArray) (w : World) (hs : s.size ≤ 5000) :
    Calls Tryd.prog 19 #[.string s] w fun en w' => en = .returned (.string ⟨(sSum s.data.toList).toArray⟩) ∧ Below w.heap.size w w' := by
  obtain ⟨i0, hi, hz0, hz1, hz2⟩ := info_parts bytesInfo
  have hsl : s.data.toList.length = s.size := by simp
  have hps : (padS s.size).size = 1 + (119 - s.size % 64) % 64 + 8 := padS_size _
  have hps72 : (padS s.size).size ≤ 72 := by rw [hps]; omega
  obtain ⟨m, hm⟩ : ∃ m : Nat, s.size + (padS s.size).size = 64 * m := ⟨(s.size + (padS s.size).size) / 64, by rw [hps]; omega⟩
  have htd : (s ++ padS s.size).data.toList = s.data.toList ++ padL s.data.toList.length := by
    rw [ByteArray.data_append, Array.toList_append, padS_data, hsl]
  have hts : (s ++ padS s.size).size = 64 * m := by rw [ByteArray.size_append]; exact hm
  have hfin : outB (blks H0 (s ++ padS s.size).data.toList m) = sSum s.data.toList := by
    unfold sSum
    rw [htd]
    congr 2
    have h2 : (padL s.data.toList.length).length = (padS s.size).size := by rw [hsl, padL_len, hps]
    rw [h2, hsl, hm]; omega
  have hle : (s ++ padS s.size).size ≤ 9223372036854775807 := by rw [ByteArray.size_append]; omega
  have HPS := Lib.hid hps
  have HTS := Lib.hid hts
  have HFIN := Lib.hid hfin
  have hm100 : 64 * m ≤ 5072 := by omega
  clear hsl hps hm htd hts hfin
  go_enter Tryd.func19, Tryd.ntmps19
  go_wp2_with fail
  refine (padR_str _ (by omega) (by omega) _).mono ?_
  rintro en w1 ⟨rfl, hb1⟩
  have hB1 : Below w.heap.size w w1 := ((Below.refl _ _).alloc (Nat.le_refl _) _).trans (hb1.mono (by simp))
  have r1 : Row w1 w.heap.size 38 H0 := Row.below (by unfold Row; rw [H0_cs]; exact heap_alloc_new w _) hb1 (by simp)
  have R1 := Lib.hid r1
  have B1 := Lib.hid hB1
  clear r1 hB1 hb1
  rw [Int.toNat_natCast]
  go_wp2_with fail
  generalize s ++ padS s.size = t at HTS HFIN hle ⊢
  have ht1 : (t.size : Int) ≤ 64 * (m : Int) := by have := HTS.out; omega
  have ht2 : 64 * (m : Int) ≤ (t.size : Int) := by have := HTS.out; omega
  go_loopw [5] (fun i wr => ∃ k : Nat, k ≤ m ∧ i = .int .i64 (64 * (k : Int)) ∧ Row wr w.heap.size 38 (blks H0 t.data.toList k) ∧ Below w.heap.size w wr) (fun i _ => (5072 - intOf i).toNat)
  case atStart => exact ⟨0, by omega, rfl, by rw [blks_zero]; exact R1.out, B1.out⟩
  case round =>
    clear R1 B1
    obtain ⟨k, hk, rfl, r0, rB⟩ := hrel
    have hl8 : (blks H0 t.data.toList k).length = 8 := blks_len H0_len _ _
    by_cases hkm : k < m
    · have hn := blks_succ H0 t.data.toList k
      generalize blks H0 t.data.toList k = l at r0 hl8 hn
      have hdr := drop_str t (64 * k)
      rw [← hdr] at hn
      have hesz : (t.extract (64 * k) t.size).size ≤ 9223372036854775807 := by rw [ByteArray.size_extract]; omega
      have c2 := blockR l (t.extract (64 * k) t.size)
      generalize hrr : blk l (t.extract (64 * k) t.size).data.toList = r' at c2 hn
      have hr8' : r'.length = 8 := by rw [← hrr]; exact blk_len hl8 _
      have hlt1 : 64 * (k : Int) < (t.size : Int) := by omega
      have hlt2 : 64 * (k : Int) ≤ (t.size : Int) := by omega
      have hge0 : (0 : Int) ≤ 64 * (k : Int) := by omega
      have z0 := r0.lt
      have C2 := Lib.hid c2
      have HN := Lib.hid hn
      have HESZ := Lib.hid hesz
      have HR8' := Lib.hid hr8'
      have HL8 := Lib.hid hl8
      have R0 := Lib.hid r0
      have RB := Lib.hid rB
      clear c2 hn hesz hr8' hl8 r0 rB hdr hrr
      go_wp2_with fail
      refine wp_region_still_tail 4 (by kernel_rfl) (by kernel_rfl) ?_
      simp only [List.take_succ_cons, List.take_zero, List.drop_succ_cons, List.drop_zero]
      change wpStill _ _ wr.drew _ _ _
      refine ws_load rfl (.tmp 3) rfl w.heap.size l rfl R0.out HL8.out ?_
      repeat still_step
      refine wpStill_nil ?_
      change wpList _ _ _ _ _ wr.drew
      go_wp2_with fail
      refine (C2.out _ HL8.out HESZ.out).mono ?_
      rintro en w4 ⟨rfl, hb4⟩
      have hB4 : Below wr.heap.size wr w4 := undrew hb4
      have q0 : Row w4 w.heap.size 38 l := R0.out.below hB4 z0
      have qB : Below w.heap.size w w4 := RB.out.trans (hB4.mono (by omega))
      have Q0 := Lib.hid q0
      have QB := Lib.hid qB
      clear q0 qB hb4 hB4 R0 RB z0
      dsimp only
      go_wp2_with (with_reducible refine wl_store ?_ 38 (.tmp 3) (.tmp 24) ?_ w.heap.size r' ?_ ?_ 38 ?_ ?_ ?_
                   rfl; rfl; rfl; rfl; exact ⟨_, Q0.out, by rw [cs_size, HR8'.out, HL8.out]⟩; rw [HR8'.out]; exact u32Arr8)
      refine ⟨⟨k + 1, by omega, by go_num, ?_, belowRow QB.out (Nat.le_refl _) _⟩, by simp [intOf]; omega⟩
      rw [HN.out]
      exact Row.of_put Q0.out _
    · obtain rfl : k = m := by omega
      have hn1 : ¬ 64 * (k : Int) < (t.size : Int) := by omega
      have hd1 : decide (64 * (k : Int) < (t.size : Int)) = false := by simp; omega
      rw [show outB (blks H0 t.data.toList k) = outB (blks H0 t.data.toList k) from rfl] at HFIN
      generalize blks H0 t.data.toList k = l at r0 hl8 HFIN
      have R0 := Lib.hid r0
      have B0 := Lib.hid rB
      have HL8 := Lib.hid hl8
      clear r0 rB hl8
      go_wp2_with fail
      go_loopw [6, 7] (fun v i wr => ∃ j : Nat, j ≤ 8 ∧ i = .int .i64 j ∧ OwnB w.heap.size v (outB (l.take j)) wr ∧ v.ownBlock ≠ some w.heap.size ∧ Row wr w.heap.size 38 l ∧ Below w.heap.size w wr) (fun _ i _ => 8 - (intOf i).toNat)
      case atStart => exact ⟨0, by omega, rfl, by simpa [outB] using ownB_nil _ _, by simp [Value.ownBlock], R0.out, B0.out⟩
      case round =>
        clear R0 B0
        obtain ⟨j, hj, rfl, hown, hne, r0, hb⟩ := hrel
        generalize hvv : u6 = v at hown hne
        have hol : (outB (l.take j)).length ≤ 32 := by rw [outB_len, List.length_take]; omega
        have hbs := hb.size
        by_cases hlt8 : j < 8
        · have hcx := r0.cell j (by rw [HL8.out]; exact hlt8)
          have hot := outB_take l j (by rw [HL8.out]; exact hlt8)
          generalize l.getD j 0 = x at hcx hot
          have HB := Lib.hid hb
          have HOT := Lib.hid hot
          have R0 := Lib.hid r0
          have HNE := Lib.hid hne
          clear hb hot r0 hne
          generalize outB (l.take j) = pre at hown hol HOT
          have z0 := R0.out.lt
          go_wp2_with fail
          go_region_held3 (fun w' => w'.cell? ⟨w.heap.size, j, none⟩ = some (.int .u32 (wv x)))
            (first
              | go_keep
              | (rw [hgrow.cell_far _ (by simp; omega) (Ne.symm HNE.out)]; assumption))
            ((refine step_append_lies _ (by rfl) _ _ _ (by rfl) w.heap.size 5 i0 _ 1 1 Tryd.underlying32 hi hz0 hz1 hz2 rfl (by omega) v pre.length (Lib.byteCells pre) (by rfl) ((World.ownsRow.alloc hown _).drew)
                ⟨wr.heap.size, 0, none⟩ 4 4 [.int .u8 (wv x / 16777216 % 256), .int .u8 (wv x / 65536 % 256), .int .u8 (wv x / 256 % 256), .int .u8 (wv x % 256)] (by rfl) (by rfl) (World.news_of_block (cs := #[.int .u8 (wv x / 16777216 % 256), .int .u8 (wv x / 65536 % 256), .int .u8 (wv x / 256 % 256), .int .u8 (wv x % 256)]) (t := 5) (fr := (0, 0)) (heap_alloc_new wr _)) (by simp [Value.oneCell'])
                (by omega) (by unfold maxLen; omega) (by omega) (by simp; omega) (wr.heap.size + 1) (by simp) ?_; intro gg cap w1 hown1 hgrow hat hlt))
          have hb1 : Below w.heap.size w w1 := ((HB.out.alloc (by omega) _).drew).grown hgrow (by simp; omega) (fun i hi => (World.ownsRow.lt hown i hi).1)
          have r1 : Row w1 w.heap.size 38 l := by
            unfold Row
            rw [hgrow.block _ (by simp; omega) (Ne.symm HNE.out)]
            exact (R0.out.alloc _).drew
          have hne1 : (Value.slice (some ⟨gg, 0, none⟩) (pre.length + 4) cap).ownBlock ≠ some w.heap.size := by
            rcases hat with hat | hat
            · have h := HNE.out; rw [hat] at h; simpa [Value.ownBlock] using h
            · simp [Value.ownBlock]; omega
          have hown2 := own_word hown1
          rw [← HOT.out] at hown2
          have HO2 := Lib.hid hown2
          have HB1 := Lib.hid hb1
          have HR1 := Lib.hid r1
          have HN1 := Lib.hid hne1
          clear hown2 hb1 hown1 hgrow r1 hne1 hat hcx
          go_wp2
          exact ⟨⟨j + 1, by omega, by go_num, HO2.out, HN1.out, HR1.out, HB1.out⟩, by simp [intOf]; omega⟩
        · obtain rfl : j = 8 := by omega
          have ht8 : l.take 8 = l := List.take_of_length_le (by rw [HL8.out]; exact Nat.le_refl _)
          rw [ht8, HFIN.out] at hown
          have hconv := own_text hown
          have HB := Lib.hid hb
          clear hb ht8 hne r0
          go_wp2
          go_ret
          exact ⟨rfl, HB.out⟩
end Go.Proofs.YtjoaijkjocpepaaDoor
