/-
  almonryref02.Pad: what each call answers.
  sha.Sum: what each call answers.
  almonryref02.Sum: what each call answers.
  ID, hexa's and almonryref03's: what each call answers.
  Manifest: the program's.
-/
import Derived.Test.YtchnklekeinhiaaGreatGV36
import Derived.Deep.RegionWith
import Derived.Deep.RegionHeld3
import Derived.Lib.IndexBytes
import Derived.Deep.AppendLies
import Derived.Test.YtchnklekeinhiaaGreatGV06
import Derived.Test.YtchnklekeinhiaaGreatGV07
import Derived.Test.YtchnklekeinhiaaGreatGV34
import Derived.Test.YtchnklekeinhiaaGreatGV05
namespace Go.Proofs.YtchnklekeinhiaaGreat
open Go.RowKit

attribute [local go_sem] m8_mod' m8_wrap'

set_option maxHeartbeats 1000000 in
set_option maxRecDepth 100000 in
theorem padR_nat (n : Nat) (hn : n ≤ 9223372036854775807) (w : World) :
    Calls Tryz.prog 107 #[.int .i64 n] w fun e w' => e = .returned (.string ⟨(padL n).toArray⟩) ∧ Below w.heap.size w w' := by
  obtain ⟨i0, hi, hz0, hz1, hz2⟩ := info_parts bytesInfo
  obtain ⟨z, hz⟩ : ∃ z : Nat, z = (119 - n % 64) % 64 := ⟨_, rfl⟩
  have hz64 : z < 64 := by omega
  have hzz : ∀ j : Nat, j ≤ z → ((n + (j + 1) + 8) % 64 = 0 ↔ j = z) := by omega
  have HZZ := Lib.hid hzz
  have HPL := Lib.hid (m8_pad n)
  rw [← hz] at HPL
  have hd0 : decide ((n : Int) < 0) = false := by simp
  clear hz hzz
  go_enter Tryz.func107, Tryz.ntmps107
  go_wp2
  go_loopw [3] (fun v wr => ∃ j : Nat, j ≤ z ∧ OwnB w.heap.size v (128 :: List.replicate j 0) wr ∧ Below w.heap.size w wr) (fun v _ => 65 - lenOf v)
  case atStart =>
    refine ⟨0, by omega, ?_, (Below.refl _ _).alloc (Nat.le_refl _) _⟩
    simpa using own_made w 0 1 (by omega) (by omega) 128 (by omega)
  case round =>
    obtain ⟨j, hj, hown, hb⟩ := hrel
    obtain ⟨g, cap, rfl⟩ := ownB_form hown (by simp)
    have hlen : (128 :: List.replicate j (0 : UInt8)).length = j + 1 := by simp
    rw [hlen] at hown ⊢
    have hbs := hb.size
    have HB := Lib.hid hb
    have hlen65 : (128 :: List.replicate j (0 : UInt8)).length ≤ 64 + 1 := by simp; omega
    clear hb hlen
    by_cases hjz : j = z
    · have ht : (((n : Int) % 64 + ((j : Int) + 1) + 8) % 64 != 0) = false := by
        have := (HZZ.out j hj).2 hjz
        simp; omega
      obtain rfl : j = z := hjz
      have hown0 : OwnB w.heap.size (.slice (some ⟨g, 0, none⟩) (j + 1) cap) (128 :: List.replicate j 0) wr := hown
      have HO := Lib.hid hown0
      clear hown hown0
      go_wp2
      clear ht
      go_loopw [3, 4] (fun v i wr => ∃ (k : Nat) (pre : List UInt8), k ≤ 8 ∧ i = .int .i64 ((k : Int) - 1) ∧ pre ++ be8 (m8 n) k = padL n ∧ pre.length + k ≤ 80 ∧ OwnB w.heap.size v pre wr ∧ Below w.heap.size w wr) (fun _ i _ => (intOf i + 1).toNat)
      case atStart =>
        exact ⟨8, _, by omega, rfl, HPL.out.symm, by simp; omega, HO.out, HB.out⟩
      case round =>
        clear HPL HO HB hbs
        obtain ⟨k, pre, hk, rfl, hpre, hlp, hown, hb⟩ := hrel
        have HPRE := Lib.hid hpre
        have HB := Lib.hid hb
        have hbs := hb.size
        clear hpre hb
        cases k with
        | zero =>
          have hconv := own_text hown
          go_wp2
          go_ret
          have h := HPRE.out
          rw [be8_zero, List.append_nil] at h
          rw [h]
          exact ⟨rfl, HB.out⟩
        | succ k =>
          have e8 : ((k + 1 : Nat) : Int) - 1 = (k : Int) := by omega
          rw [e8]
          clear e8
          go_wp2_with (at_builtin; refine wpList_append_own _ rfl _ _ 107 rfl w.heap.size 5 i0 (.int .u8 0) 1 1 Tryz.underlying107 hi hz0 hz1 hz2 rfl (by decide) _ _ _ rfl (hown.alloc _) ⟨wr.heap.size, 0, none⟩ 1 1 [Value.int .u8 ((m8 n : Int) / 2 ^ (8 * k) % 256)] rfl rfl ?c1 ?c2 ?c3 ?c4 ?c5 ?_)
          case c1 =>
            intro j u hj
            match j, hj with
            | 0, hj => simp at hj; subst hj; simp [Addr.add]
          case c2 => intro u hu; simp at hu; subst hu; rfl
          case c3 => unfold maxLen; omega
          case c4 => omega
          case c5 => simp; omega
          intro v' w1 hown' hgrow _
          have hb1 : Below w.heap.size w w1 := (HB.out.alloc (by omega) _).grown hgrow (by simp; omega) (fun j hj => (hown.lt j hj).1)
          have hown2 := ownB_more (a := m8 n / 2 ^ (8 * k) % 256) (by omega) (by simp) hown'
          have hpre2 := HPRE.out
          rw [be8_succ, List.append_cons, ← ofNat_mod] at hpre2
          have HP2 := Lib.hid hpre2
          have HO2 := Lib.hid hown2
          have HB1 := Lib.hid hb1
          clear hpre2 hown2 hb1 hown' hgrow
          go_wp2
          exact ⟨⟨k, _, by omega, by go_num, HP2.out, by simp; omega, HO2.out, HB1.out⟩, by simp [intOf]⟩
    · have ht : (((n : Int) % 64 + ((j : Int) + 1) + 8) % 64 != 0) = true := by
        have h1 : (n + (j + 1) + 8) % 64 ≠ 0 := fun h => hjz ((HZZ.out j hj).1 h)
        simp; omega
      go_wp2_with (at_builtin; refine wpList_append_own _ rfl _ _ 107 rfl w.heap.size 5 i0 (.int .u8 0) 1 1 Tryz.underlying107 hi hz0 hz1 hz2 rfl (by decide) _ _ _ rfl (hown.alloc _) ⟨wr.heap.size, 0, none⟩ 1 1 [Value.int .u8 0] rfl rfl ?c1 ?c2 ?c3 ?c4 ?c5 ?_)
      case c1 =>
        intro j u hj
        match j, hj with
        | 0, hj => simp at hj; subst hj; simp [Addr.add]
      case c2 => intro u hu; simp at hu; subst hu; rfl
      case c3 => unfold maxLen; omega
      case c4 => omega
      case c5 => simp; omega
      intro v' w1 hown' hgrow _
      have hb1 : Below w.heap.size w w1 := (HB.out.alloc (by omega) _).grown hgrow (by simp; omega) (fun j hj => (hown.lt j hj).1)
      have hown2 : OwnB w.heap.size v' (128 :: List.replicate (j + 1) 0) w1 := by
        have h := ownB_more (l := 128 :: List.replicate j 0) (a := 0) (i := 0) (v := v') (w := w1) (B := w.heap.size) (by omega) (by simp) (by simpa using hown')
        have e : (128 :: List.replicate j (0 : UInt8)) ++ [UInt8.ofNat 0] = 128 :: List.replicate (j + 1) 0 := by
          rw [List.replicate_succ']; simp
        rw [e] at h
        exact h
      have hf := ownB_form hown2 (by simp)
      have HO2 := Lib.hid hown2
      have HB1 := Lib.hid hb1
      obtain ⟨g', cap', hv'⟩ := hf
      have HV := Lib.hid hv'
      clear hown2 hb1 hown' hgrow hv' ht
      go_wp2
      refine ⟨⟨j + 1, by omega, HO2.out, HB1.out⟩, ?_⟩
      rw [HV.out]
      simp [lenOf]
      omega

end Go.Proofs.YtchnklekeinhiaaGreat

namespace Go.Proofs.YtchnklekeinhiaaGreat
open Go.RowKit

/-- what stands behind n bytes, as a text -/
def padS (n : Nat) : ByteArray := ⟨(padL n).toArray⟩
theorem padS_data (n : Nat) : (padS n).data.toList = padL n := rfl
theorem padS_size (n : Nat) : (padS n).size = 1 + (119 - n % 64) % 64 + 8 := by
  rw [← padL_len]; show (padL n).toArray.size = _; simp
attribute [irreducible] padS
/-- a word as four bytes in memory -/
theorem wordCells (x : Wd) : Lib.byteCells (wordBytes x) = [Value.int .u8 (wv x / 16777216 % 256), .int .u8 (wv x / 65536 % 256), .int .u8 (wv x / 256 % 256), .int .u8 (wv x % 256)] := by
  have e : ∀ n : Nat, ((UInt8.ofNat n).toNat : Int) = (n : Int) % 256 := fun n => by simp
  simp only [wordBytes, Lib.byteCells, List.map_cons, List.map_nil, e]
  simp [wv]
theorem own_word {w : World} {B : Nat} {v : Value} {l : List UInt8} {x : Wd} (h : w.ownsRow B 5 1 v (l.length + 4) (Lib.byteCells l ++ [Value.int .u8 (wv x / 16777216 % 256), .int .u8 (wv x / 65536 % 256), .int .u8 (wv x / 256 % 256), .int .u8 (wv x % 256)])) :
    OwnB B v (l ++ wordBytes x) w := by
  unfold OwnB
  rw [Lib.byteCells_append, wordCells, List.length_append]
  exact h
theorem outB_append (a b : List Wd) : outB (a ++ b) = outB a ++ outB b := by
  induction a with
  | nil => rfl
  | cons x r ih => simp [outB, ih]
theorem outB_take (l : List Wd) (k : Nat) (h : k < l.length) : outB (l.take (k + 1)) = outB (l.take k) ++ wordBytes (l.getD k 0) := by
  rw [List.take_succ_eq_append_getElem h, outB_append, List.getD_eq_getElem?_getD, List.getElem?_eq_getElem h]
  simp [outB]
theorem outB_len (l : List Wd) : (outB l).length = 4 * l.length := by
  induction l with
  | nil => rfl
  | cons x r ih => simp [outB, wordBytes, ih]; omega
attribute [local irreducible] outB
section
variable {w w1 w2 : World} {a b c d e f g h : Wd}
end

end Go.Proofs.YtchnklekeinhiaaGreat

namespace Go.Proofs.YtchnklekeinhiaaGreat
open Go.RowKit

theorem padR_str (n : Int) (hn : 0 ≤ n) (hn2 : n ≤ 9223372036854775807) (w : World) :
    Calls Tryz.prog 107 #[.int .i64 n] w fun e w' => e = .returned (.string (padS n.toNat)) ∧ Below w.heap.size w w' := by
  obtain ⟨k, rfl⟩ := Int.eq_ofNat_of_zero_le hn
  have h := padR_nat k (by omega) w
  unfold padS
  exact h

set_option maxHeartbeats 4000000 in
set_option maxRecDepth 100000 in
theorem sumR (s : ByteArray) (w : World) (hs : s.size ≤ 5000) :
    Calls Tryz.prog 77 #[.string s] w fun en w' => en = .returned (.string ⟨(sSum s.data.toList).toArray⟩) ∧ Below w.heap.size w w' := by
  obtain ⟨i0, hi, hz0, hz1, hz2⟩ := info_parts bytesInfo
  have hsl : s.data.toList.length = s.size := by simp
  have hps : (padS s.size).size = 1 + (119 - s.size % 64) % 64 + 8 := padS_size _
  have hps72 : (padS s.size).size ≤ 72 := by rw [hps]; omega
  obtain ⟨m, hm⟩ : ∃ m : Nat, s.size + (padS s.size).size = 64 * m := ⟨(s.size + (padS s.size).size) / 64, by rw [hps]; omega⟩
  have htd : (s ++ padS s.size).data.toList = s.data.toList ++ padL s.data.toList.length := by
    rw [ByteArray.data_append, Array.toList_append, padS_data, hsl]
  have hts : (s ++ padS s.size).size = 64 * m := by rw [ByteArray.size_append]; exact hm
  have hfin : outB (blks H0 (s ++ padS s.size).data.toList m) = sSum s.data.toList := by
    unfold sSum
    rw [htd]
    congr 2
    have h2 : (padL s.data.toList.length).length = (padS s.size).size := by rw [hsl, padL_len, hps]
    rw [h2, hsl, hm]; omega
  have hle : (s ++ padS s.size).size ≤ 9223372036854775807 := by rw [ByteArray.size_append]; omega
  have HPS := Lib.hid hps
  have HTS := Lib.hid hts
  have HFIN := Lib.hid hfin
  have hm100 : 64 * m ≤ 5072 := by omega
  clear hsl hps hm htd hts hfin
  go_enter Tryz.func77, Tryz.ntmps77
  go_wp2_with fail
  refine (padR_str _ (by omega) (by omega) _).mono ?_
  rintro en w1 ⟨rfl, hb1⟩
  have hB1 : Below w.heap.size w w1 := ((Below.refl _ _).alloc (Nat.le_refl _) _).trans (hb1.mono (by simp))
  have r1 : Row w1 w.heap.size 133 H0 := Row.below (by unfold Row; rw [H0_cs]; exact heap_alloc_new w _) hb1 (by simp)
  have R1 := Lib.hid r1
  have B1 := Lib.hid hB1
  clear r1 hB1 hb1
  rw [Int.toNat_natCast]
  go_wp2_with fail
  generalize s ++ padS s.size = t at HTS HFIN hle ⊢
  have ht1 : (t.size : Int) ≤ 64 * (m : Int) := by have := HTS.out; omega
  have ht2 : 64 * (m : Int) ≤ (t.size : Int) := by have := HTS.out; omega
  go_loopw [5] (fun i wr => ∃ k : Nat, k ≤ m ∧ i = .int .i64 (64 * (k : Int)) ∧ Row wr w.heap.size 133 (blks H0 t.data.toList k) ∧ Below w.heap.size w wr) (fun i _ => (5072 - intOf i).toNat)
  case atStart => exact ⟨0, by omega, rfl, by rw [blks_zero]; exact R1.out, B1.out⟩
  case round =>
    clear R1 B1
    obtain ⟨k, hk, rfl, r0, rB⟩ := hrel
    have hl8 : (blks H0 t.data.toList k).length = 8 := blks_len H0_len _ _
    by_cases hkm : k < m
    · have hn := blks_succ H0 t.data.toList k
      generalize blks H0 t.data.toList k = l at r0 hl8 hn
      have hdr := drop_str t (64 * k)
      rw [← hdr] at hn
      have hesz : (t.extract (64 * k) t.size).size ≤ 9223372036854775807 := by rw [ByteArray.size_extract]; omega
      have c2 := blockR l (t.extract (64 * k) t.size)
      generalize hrr : blk l (t.extract (64 * k) t.size).data.toList = r' at c2 hn
      have hr8' : r'.length = 8 := by rw [← hrr]; exact blk_len hl8 _
      have hlt1 : 64 * (k : Int) < (t.size : Int) := by omega
      have hlt2 : 64 * (k : Int) ≤ (t.size : Int) := by omega
      have hge0 : (0 : Int) ≤ 64 * (k : Int) := by omega
      have z0 := r0.lt
      have C2 := Lib.hid c2
      have HN := Lib.hid hn
      have HESZ := Lib.hid hesz
      have HR8' := Lib.hid hr8'
      have HL8 := Lib.hid hl8
      have R0 := Lib.hid r0
      have RB := Lib.hid rB
      clear c2 hn hesz hr8' hl8 r0 rB hdr hrr
      go_wp2_with fail
      refine wp_region_still_tail 4 (by kernel_rfl) (by kernel_rfl) ?_
      simp only [List.take_succ_cons, List.take_zero, List.drop_succ_cons, List.drop_zero]
      change wpStill _ _ wr.drew _ _ _
      refine ws_load rfl (.tmp 3) rfl w.heap.size l rfl R0.out HL8.out ?_
      repeat still_step
      refine wpStill_nil ?_
      change wpList _ _ _ _ _ wr.drew
      go_wp2_with fail
      refine (C2.out _ HL8.out HESZ.out).mono ?_
      rintro en w4 ⟨rfl, hb4⟩
      have hB4 : Below wr.heap.size wr w4 := undrew hb4
      have q0 : Row w4 w.heap.size 133 l := R0.out.below hB4 z0
      have qB : Below w.heap.size w w4 := RB.out.trans (hB4.mono (by omega))
      have Q0 := Lib.hid q0
      have QB := Lib.hid qB
      clear q0 qB hb4 hB4 R0 RB z0
      dsimp only
      go_wp2_with (with_reducible refine wl_store ?_ 133 (.tmp 3) (.tmp 24) ?_ w.heap.size r' ?_ ?_ 133 ?_ ?_ ?_
                   rfl; rfl; rfl; rfl; exact ⟨_, Q0.out, by rw [cs_size, HR8'.out, HL8.out]⟩; rw [HR8'.out]; exact u32Arr8)
      refine ⟨⟨k + 1, by omega, by go_num, ?_, belowRow QB.out (Nat.le_refl _) _⟩, by simp [intOf]; omega⟩
      rw [HN.out]
      exact Row.of_put Q0.out _
    · obtain rfl : k = m := by omega
      have hn1 : ¬ 64 * (k : Int) < (t.size : Int) := by omega
      have hd1 : decide (64 * (k : Int) < (t.size : Int)) = false := by simp; omega
      rw [show outB (blks H0 t.data.toList k) = outB (blks H0 t.data.toList k) from rfl] at HFIN
      generalize blks H0 t.data.toList k = l at r0 hl8 HFIN
      have R0 := Lib.hid r0
      have B0 := Lib.hid rB
      have HL8 := Lib.hid hl8
      clear r0 rB hl8
      go_wp2_with fail
      go_loopw [6, 7] (fun v i wr => ∃ j : Nat, j ≤ 8 ∧ i = .int .i64 j ∧ OwnB w.heap.size v (outB (l.take j)) wr ∧ v.ownBlock ≠ some w.heap.size ∧ Row wr w.heap.size 133 l ∧ Below w.heap.size w wr) (fun _ i _ => 8 - (intOf i).toNat)
      case atStart => exact ⟨0, by omega, rfl, by simpa [outB] using ownB_nil _ _, by simp [Value.ownBlock], R0.out, B0.out⟩
      case round =>
        clear R0 B0
        obtain ⟨j, hj, rfl, hown, hne, r0, hb⟩ := hrel
        generalize hvv : u6 = v at hown hne
        have hol : (outB (l.take j)).length ≤ 32 := by rw [outB_len, List.length_take]; omega
        have hbs := hb.size
        by_cases hlt8 : j < 8
        · have hcx := r0.cell j (by rw [HL8.out]; exact hlt8)
          have hot := outB_take l j (by rw [HL8.out]; exact hlt8)
          generalize l.getD j 0 = x at hcx hot
          have HB := Lib.hid hb
          have HOT := Lib.hid hot
          have R0 := Lib.hid r0
          have HNE := Lib.hid hne
          clear hb hot r0 hne
          generalize outB (l.take j) = pre at hown hol HOT
          have z0 := R0.out.lt
          go_wp2_with fail
          go_region_held3 (fun w' => w'.cell? ⟨w.heap.size, j, none⟩ = some (.int .u32 (wv x)))
            (first
              | go_keep
              | (rw [hgrow.cell_far _ (by simp; omega) (Ne.symm HNE.out)]; assumption))
            ((refine step_append_lies _ (by rfl) _ _ _ (by rfl) w.heap.size 5 i0 _ 1 1 Tryz.underlying107 hi hz0 hz1 hz2 rfl (by omega) v pre.length (Lib.byteCells pre) (by rfl) ((World.ownsRow.alloc hown _).drew)
                ⟨wr.heap.size, 0, none⟩ 4 4 [.int .u8 (wv x / 16777216 % 256), .int .u8 (wv x / 65536 % 256), .int .u8 (wv x / 256 % 256), .int .u8 (wv x % 256)] (by rfl) (by rfl) (World.news_of_block (cs := #[.int .u8 (wv x / 16777216 % 256), .int .u8 (wv x / 65536 % 256), .int .u8 (wv x / 256 % 256), .int .u8 (wv x % 256)]) (t := 5) (fr := (0, 0)) (heap_alloc_new wr _)) (by simp [Value.oneCell'])
                (by omega) (by unfold maxLen; omega) (by omega) (by simp; omega) (wr.heap.size + 1) (by simp) ?_; intro gg cap w1 hown1 hgrow hat hlt))
          have hb1 : Below w.heap.size w w1 := ((HB.out.alloc (by omega) _).drew).grown hgrow (by simp; omega) (fun i hi => (World.ownsRow.lt hown i hi).1)
          have r1 : Row w1 w.heap.size 133 l := by
            unfold Row
            rw [hgrow.block _ (by simp; omega) (Ne.symm HNE.out)]
            exact (R0.out.alloc _).drew
          have hne1 : (Value.slice (some ⟨gg, 0, none⟩) (pre.length + 4) cap).ownBlock ≠ some w.heap.size := by
            rcases hat with hat | hat
            · have h := HNE.out; rw [hat] at h; simpa [Value.ownBlock] using h
            · simp [Value.ownBlock]; omega
          have hown2 := own_word hown1
          rw [← HOT.out] at hown2
          have HO2 := Lib.hid hown2
          have HB1 := Lib.hid hb1
          have HR1 := Lib.hid r1
          have HN1 := Lib.hid hne1
          clear hown2 hb1 hown1 hgrow r1 hne1 hat hcx
          go_wp2
          exact ⟨⟨j + 1, by omega, by go_num, HO2.out, HN1.out, HR1.out, HB1.out⟩, by simp [intOf]; omega⟩
        · obtain rfl : j = 8 := by omega
          have ht8 : l.take 8 = l := List.take_of_length_le (by rw [HL8.out]; exact Nat.le_refl _)
          rw [ht8, HFIN.out] at hown
          have hconv := own_text hown
          have HB := Lib.hid hb
          clear hb ht8 hne r0
          go_wp2
          go_ret
          exact ⟨rfl, HB.out⟩
end Go.Proofs.YtchnklekeinhiaaGreat

namespace Go.Proofs.YtchnklekeinhiaaGreat
open Go.RowKit

theorem sum_len (l : List UInt8) : (sSum l).length = 32 := by unfold sSum; rw [outB_len, blks_len H0_len]

def idL (l : List UInt8) : List UInt8 := putL (sSum l)
def idS (s : ByteArray) : ByteArray := ⟨(idL s.data.toList).toArray⟩
theorem idS_size (s : ByteArray) : (idS s).size = 64 := by
  show (idL s.data.toList).toArray.size = 64
  simp [idL, putL_len, sum_len]
theorem idS_read (s : ByteArray) : rdE (idS s).data.toList = 0 := by
  show rdE ((idL s.data.toList).toArray.toList) = 0
  exact (rd_some (by simp only; exact hread_put _)).2

theorem ck_id (s : ByteArray) : ckE (idS s) = 0 := by unfold ckE; rw [if_pos (idS_size s), idS_read]


set_option maxHeartbeats 1000000 in
set_option maxRecDepth 100000 in
theorem idR (s : ByteArray) (w : World) (hs : s.size ≤ 5000) :
    Calls Tryz.prog 47 #[.string s] w fun e w' => e = .returned (.string (idS s)) ∧ Below w.heap.size w w' := by
  have c1 := sumR s w hs
  have c2 := fun W => putR ⟨(sSum s.data.toList).toArray⟩ W (by show (sSum s.data.toList).toArray.size ≤ 5000; simp [sum_len])
  have e : (⟨(putL (ByteArray.mk (sSum s.data.toList).toArray).data.toList).toArray⟩ : ByteArray) = idS s := rfl
  rw [e] at c2
  generalize (⟨(sSum s.data.toList).toArray⟩ : ByteArray) = m at c1 c2
  generalize idS s = r at c2 ⊢
  have C1 := Lib.hid c1
  have C2 := Lib.hid c2
  clear c1 c2 e
  go_enter Tryz.func47, Tryz.ntmps47
  go_wp2_with fail
  refine C1.out.mono ?_
  rintro e w1 ⟨rfl, hb1⟩
  go_wp2_with fail
  refine (C2.out w1).mono ?_
  rintro e w2 ⟨rfl, hb2⟩
  have HB := Lib.hid (hb1.trans (hb2.mono hb1.size))
  clear hb1 hb2
  go_wp2
  go_ret
  exact ⟨rfl, HB.out⟩

end Go.Proofs.YtchnklekeinhiaaGreat

namespace Go.Proofs.YtchnklekeinhiaaGreat
open Go.RowKit Go.Shelf

attribute [local go_sem] Oper.semAt_some
attribute [-go_sem] Builtin.append_

/-- the manifest of some bytes, where there is no error -/
def manOf (s : ByteArray) (n : Int) : Man := if cutE s.size n = 0 then ⟨s.size, n, (parts s n.toNat).map idS⟩ else ⟨0, 0, []⟩

theorem KeepsOthers.below {W W' : World} (h : Below W.heap.size W W') : KeepsOthers W W' := ⟨h.size, fun k _ hk _ => (h.block k (Array.getElem?_eq_some_iff.1 hk).1).trans hk⟩

end Go.Proofs.YtchnklekeinhiaaGreat
