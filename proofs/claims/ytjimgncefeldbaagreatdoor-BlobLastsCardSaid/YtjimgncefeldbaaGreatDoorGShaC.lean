/-
  sha.blocks, sha.firstRegisters and sha.Sum: what each call answers.
  sha.Sum: what each call answers.
  almonryref02.Sum: what each call answers.
  ID and Check, hexa's and almonryref03's: what each call answers.
-/
import Derived.Test.YtjimgncefeldbaaGreatDoorGShaB
import Derived.Lib.IndexBytes
import Derived.Deep.RegionWith
import Derived.Deep.RegionHeld3
import Derived.Deep.AppendLies
import Derived.Test.YtjimgncefeldbaaGreatDoorGHexa
namespace Go.Proofs.YtjimgncefeldbaaGreatDoor
open Go.RowKit

set_option maxHeartbeats 2000000 in
set_option maxRecDepth 100000 in
theorem blocks8 (a b c d e f g h : Wd) (s : ByteArray) (m : Nat) (w : World) (hm : s.size = 64 * m) (hs : s.size ≤ 9223372036854775807) (hT : Tab w) :
    Calls Tryz.prog 121 #[.agg #[V a, V b, V c, V d, V e, V f, V g, V h], .string s] w fun en w' => en = .returned (.agg (cs (blks [a, b, c, d, e, f, g, h] s.data.toList m))) ∧ Below w.heap.size w w' := by
  have r0 : Row ((w.alloc (.cells #[V a, V b, V c, V d, V e, V f, V g, V h] 117)).alloc (.cells (cs Z8) 117)) w.heap.size 117 [a, b, c, d, e, f, g, h] := by unfold Row; rw [cs_eight]; exact heap_alloc2_old w _ _
  have r4 : Row ((w.alloc (.cells #[V a, V b, V c, V d, V e, V f, V g, V h] 117)).alloc (.cells (cs Z8) 117)) (w.heap.size + 1) 117 Z8 := heap_alloc2_new w _ _
  have rB : Below w.heap.size w ((w.alloc (.cells #[V a, V b, V c, V d, V e, V f, V g, V h] 117)).alloc (.cells (cs Z8) 117)) := ((Below.refl _ _).alloc (Nat.le_refl _) _).alloc (by simp) _
  have rT := hT.below rB
  have h0 : 2 < w.heap.size := hT.lt
  rw [Z8_cs] at r0 r4 rB rT
  have hlen : s.data.toList.length = s.size := by simp
  have R0 := Lib.hid r0
  have R4 := Lib.hid r4
  have RB := Lib.hid rB
  have RT := Lib.hid rT
  have HM := Lib.hid hm
  have HLEN := Lib.hid hlen
  clear r0 r4 rB rT hT hm hlen
  go_enter Tryz.func121, Tryz.ntmps121
  go_wp2_with fail
  go_loopw [1] (fun v wr => ∃ (k : Nat) (t : ByteArray), k ≤ m ∧ v = .string t ∧ t.data.toList = s.data.toList.drop (64 * k) ∧ t.size + 64 * k = s.size ∧ Row wr w.heap.size 117 (blks [a, b, c, d, e, f, g, h] s.data.toList k) ∧ Row wr (w.heap.size + 1) 117 Z8 ∧ Tab wr ∧ Below w.heap.size w wr) (fun v _ => match v with | .string t => t.size | _ => 0)
  case atStart => exact ⟨0, s, by omega, rfl, by simp, by omega, by rw [blks_zero]; exact R0.out, R4.out, RT.out, RB.out⟩
  case round =>
    clear R0 R4 RB RT
    obtain ⟨k, t, hk, rfl, htd, hts, r0, r4, rT, rB⟩ := hrel
    by_cases hkm : k < m
    · have hts64 : 64 ≤ t.size := by have := HM.out; omega
      obtain ⟨e1, e2⟩ := some_str (t := t) (by omega)
      have hl8 : (blks [a, b, c, d, e, f, g, h] s.data.toList k).length = 8 := blks_len rfl _ _
      have hn := blks_succ [a, b, c, d, e, f, g, h] s.data.toList k
      rw [← htd] at hn
      generalize blks [a, b, c, d, e, f, g, h] s.data.toList k = l at r0 hl8 hn
      have h64 : (64 : Int) ≤ (t.size : Int) := by omega
      have hdr := drop_str t 64
      rw [htd, List.drop_drop] at hdr
      have hsz64 : (t.extract 64 t.size).size = t.size - 64 := by rw [ByteArray.size_extract]; omega
      have HDR := Lib.hid hdr
      have HSZ := Lib.hid hsz64
      have R0 := Lib.hid r0
      have R4 := Lib.hid r4
      have RT := Lib.hid rT
      have RB := Lib.hid rB
      have HN := Lib.hid hn
      have HL8 := Lib.hid hl8
      have hz4 := r4.lt
      clear r0 r4 rT rB hn hl8 htd hdr hsz64
      go_wp2_with (with_reducible refine wl_load ?_ 117 (.tmp 2) ?_ w.heap.size l 8 93 ?_ 117 ?_ ?_ ?_ ?_
                   rfl; rfl; rfl; exact R0.out; exact Tryz.underlying117; rw [HL8.out]; exact u32Arr8)
      refine (blockC l t _ HL8.out (by omega) RT.out).mono ?_
      rintro en w4 ⟨rfl, hb4⟩
      have q0 : Row w4 w.heap.size 117 l := R0.out.below hb4 (by omega)
      have q4 : Row w4 (w.heap.size + 1) 117 Z8 := R4.out.below hb4 hz4
      have qT : Tab w4 := RT.out.below hb4
      have qB : Below w.heap.size w w4 := RB.out.trans (hb4.mono (by omega))
      generalize hr' : blk l t.data.toList = r' at HN ⊢
      have hr8' : r'.length = 8 := by rw [← hr']; exact blk_len HL8.out _
      have Q0 := Lib.hid q0
      have Q4 := Lib.hid q4
      have QT := Lib.hid qT
      have QB := Lib.hid qB
      have HR8' := Lib.hid hr8'
      clear hr' hr8' q0 q4 qT qB hb4 R0 R4 RT RB
      dsimp only
      go_wp2_with (with_reducible refine wl_store ?_ 117 (.tmp 2) (.tmp 11) ?_ w.heap.size r' ?_ ?_ 117 ?_ ?_ ?_
                   rfl; rfl; rfl; rfl; exact ⟨_, Q0.out, by rw [cs_size, HR8'.out, HL8.out]⟩; rw [HR8'.out]; exact u32Arr8)
      refine ⟨⟨k + 1, _, by omega, rfl, by rw [HDR.out]; congr 1, by rw [HSZ.out]; omega, ?_, Q4.out.of_set (by omega) _, QT.out.of_set h0 _, belowRow QB.out (Nat.le_refl _) _⟩, ?_⟩
      · rw [HN.out]
        exact Row.of_put Q0.out _
      · show (t.extract 64 t.size).size < t.size
        rw [HSZ.out]; omega
    · obtain rfl : k = m := by omega
      have ht0 : t.size = 0 := by have := HM.out; omega
      obtain ⟨e1, e2⟩ := no_str ht0
      have hl8 : (blks [a, b, c, d, e, f, g, h] s.data.toList k).length = 8 := blks_len rfl _ _
      generalize hbz : blks [a, b, c, d, e, f, g, h] s.data.toList k = z at r0 hl8
      have HBZ := Lib.hid hbz
      have R0 := Lib.hid r0
      have R4 := Lib.hid r4
      have RB := Lib.hid rB
      have HL8 := Lib.hid hl8
      clear r0 r4 rT rB htd hl8 hbz ht0 e2
      go_wp2_with (first
        | (with_reducible refine wl_load ?_ 117 (.tmp 2) ?_ w.heap.size z 8 93 ?_ 117 ?_ ?_ ?_ ?_
           rfl; rfl; rfl; exact R0.out; exact Tryz.underlying117; rw [HL8.out]; exact u32Arr8)
        | (with_reducible refine wl_store ?_ 117 (.tmp 4) (.tmp 12) ?_ (w.heap.size + 1) z ?_ ?_ 117 ?_ ?_ ?_
           rfl; rfl; rfl; rfl; exact ⟨_, R4.out, by rw [cs_size, HL8.out]; rfl⟩; rw [HL8.out]; exact u32Arr8))
      exact bodyPost_ret (results_cell_row rfl _ _ _ _ _ (0, 0) (.array 8 93) rfl (setRow_heap _ _ _ _ _ _ R4.out) Tryz.underlying117 rfl (info8 HL8.out)) rfl ⟨by rw [HBZ.out], belowRow RB.out (by omega) _⟩

theorem blocksC (l : List Wd) (s : ByteArray) (m : Nat) (w : World) (hl : l.length = 8) (hm : s.size = 64 * m) (hs : s.size ≤ 9223372036854775807) (hT : Tab w) :
    Calls Tryz.prog 121 #[.agg (cs l), .string s] w fun en w' => en = .returned (.agg (cs (blks l s.data.toList m))) ∧ Below w.heap.size w w' := by
  obtain ⟨a, b, c, d, e, f, g, h, rfl⟩ := len8 hl
  rw [cs_eight]
  exact blocks8 a b c d e f g h s m w hm hs hT

set_option maxRecDepth 100000 in
theorem firstC (w : World) :
    Calls Tryz.prog 122 #[] w fun en w' => en = .returned (.agg (cs H0)) ∧ Below w.heap.size w w' := by
  go_enter Tryz.func122, Tryz.ntmps122
  go_wp2
  rw [← H0_cs]
  exact bodyPost_ret (results_cell_row rfl _ _ _ _ (cs H0) (0, 0) (.array 8 93) rfl (heap_alloc_new w _) Tryz.underlying117 rfl (info8 H0_len)) rfl ⟨rfl, (Below.refl _ _).alloc (Nat.le_refl _) _⟩
end Go.Proofs.YtjimgncefeldbaaGreatDoor

namespace Go.Proofs.YtjimgncefeldbaaGreatDoor
open Go.RowKit

theorem Row.below_cells {w w' : World} {g : Nat} {T : TypeId} {a b c d e f k h : Wd} (r : Row w g T [a, b, c, d, e, f, k, h]) (hb : Below w.heap.size w w') :
    w'.cell? ⟨g, 0, none⟩ = some (.int .u32 (wv a)) ∧ w'.cell? ⟨g, 1, none⟩ = some (.int .u32 (wv b)) ∧ w'.cell? ⟨g, 2, none⟩ = some (.int .u32 (wv c)) ∧ w'.cell? ⟨g, 3, none⟩ = some (.int .u32 (wv d)) ∧
    w'.cell? ⟨g, 4, none⟩ = some (.int .u32 (wv e)) ∧ w'.cell? ⟨g, 5, none⟩ = some (.int .u32 (wv f)) ∧ w'.cell? ⟨g, 6, none⟩ = some (.int .u32 (wv k)) ∧ w'.cell? ⟨g, 7, none⟩ = some (.int .u32 (wv h)) :=
  (r.below hb r.lt).cells8

theorem Tab.alloc {w : World} (h : Tab w) (o : Obj) : Tab (w.alloc o) := h.below ((Below.refl _ _).alloc (Nat.le_refl _) o)
theorem Tab.drew {w : World} (h : Tab w) : Tab w.drew := h

/-- what stands behind n bytes, as a text -/
def padS (n : Nat) : ByteArray := ⟨(padL n).toArray⟩
theorem padS_data (n : Nat) : (padS n).data.toList = padL n := rfl
theorem padS_size (n : Nat) : (padS n).size = 1 + (119 - n % 64) % 64 + 8 := by
  rw [← padL_len]; show (padL n).toArray.size = _; simp
attribute [irreducible] padS
theorem padC_str (n : Int) (hn : 0 ≤ n) (hn2 : n ≤ 9223372036854775807) (w : World) :
    Calls Tryz.prog 123 #[.int .i64 n] w fun e w' => e = .returned (.string (padS n.toNat)) ∧ Below w.heap.size w w' := by
  obtain ⟨k, rfl⟩ := Int.eq_ofNat_of_zero_le hn
  have h := padC_nat k (by omega) w
  unfold padS
  exact h

/-- all blocks, in two steps -/
theorem two_steps (l : List UInt8) (m q : Nat) (t : List UInt8) (hm : m = l.length / 64) (ht : t = l.drop (64 * m) ++ padL l.length) (hq : t.length = 64 * q) :
    outB (blks (blks H0 (l.take (64 * m)) m) t q) = sSum l := by
  have h1 : (l.take (64 * m)).length = 64 * m := by rw [List.length_take]; omega
  have h2 : l.take (64 * m) ++ t = l ++ padL l.length := by rw [ht, ← List.append_assoc, List.take_append_drop]
  have h3 : l.length + (padL l.length).length = 64 * (m + q) := by
    have := congrArg List.length h2
    rw [List.length_append, List.length_append] at this
    omega
  rw [← blks_join H0 _ t m h1 q, h2]
  unfold sSum
  rw [h3, show 64 * (m + q) / 64 = m + q from by omega]
set_option maxRecDepth 100000 in
theorem index8 {l : List Wd} (hl : l.length = 8) (k : Nat) (hk : k < 8) (w : World) : (Instr.index 117 (.agg (cs l)) (.int .i64 (k : Int))).run Tryz.prog w = .ok (.int .u32 (wv (l.getD k 0))) w := by
  obtain ⟨a, b, c, d, e, f, g, h, rfl⟩ := len8 hl
  rw [cs_eight]
  have hc : k = 0 ∨ k = 1 ∨ k = 2 ∨ k = 3 ∨ k = 4 ∨ k = 5 ∨ k = 6 ∨ k = 7 := by omega
  rcases hc with rfl | rfl | rfl | rfl | rfl | rfl | rfl | rfl <;> rfl
theorem Row.known {w : World} {g : Nat} {T : TypeId} {a b c d e f k h : Wd} (r : Row w g T [a, b, c, d, e, f, k, h]) :
    (w.cell? ⟨g, 0, none⟩ = some (.int .u32 (wv a)) ∧ w.cell? ⟨g, 1, none⟩ = some (.int .u32 (wv b)) ∧ w.cell? ⟨g, 2, none⟩ = some (.int .u32 (wv c)) ∧ w.cell? ⟨g, 3, none⟩ = some (.int .u32 (wv d)) ∧
    w.cell? ⟨g, 4, none⟩ = some (.int .u32 (wv e)) ∧ w.cell? ⟨g, 5, none⟩ = some (.int .u32 (wv f)) ∧ w.cell? ⟨g, 6, none⟩ = some (.int .u32 (wv k)) ∧ w.cell? ⟨g, 7, none⟩ = some (.int .u32 (wv h))) ∧ ∀ j, w.frozen? ⟨g, j, none⟩ = false :=
  ⟨r.cells8, fun j => r.free j⟩
/-- a word as four bytes in memory -/
theorem wordCells (x : Wd) : Lib.byteCells (wordBytes x) = [Value.int .u8 (wv x / 16777216 % 256), .int .u8 (wv x / 65536 % 256), .int .u8 (wv x / 256 % 256), .int .u8 (wv x % 256)] := by
  have e : ∀ n : Nat, ((UInt8.ofNat n).toNat : Int) = (n : Int) % 256 := fun n => by simp
  simp only [wordBytes, Lib.byteCells, List.map_cons, List.map_nil, e]
  simp [wv]
theorem own_word {w : World} {B : Nat} {v : Value} {l : List UInt8} {x : Wd} (h : w.ownsRow B 5 1 v (l.length + 4) (Lib.byteCells l ++ [Value.int .u8 (wv x / 16777216 % 256), .int .u8 (wv x / 65536 % 256), .int .u8 (wv x / 256 % 256), .int .u8 (wv x % 256)])) :
    OwnB B v (l ++ wordBytes x) w := by
  unfold OwnB
  rw [Lib.byteCells_append, wordCells, List.length_append]
  exact h
theorem outB_append (a b : List Wd) : outB (a ++ b) = outB a ++ outB b := by
  induction a with
  | nil => rfl
  | cons x r ih => simp [outB, ih]
theorem outB_take (l : List Wd) (k : Nat) (h : k < l.length) : outB (l.take (k + 1)) = outB (l.take k) ++ wordBytes (l.getD k 0) := by
  rw [List.take_succ_eq_append_getElem h, outB_append, List.getD_eq_getElem?_getD, List.getElem?_eq_getElem h]
  simp [outB]
theorem outB_len (l : List Wd) : (outB l).length = 4 * l.length := by
  induction l with
  | nil => rfl
  | cons x r ih => simp [outB, wordBytes, ih]; omega
attribute [local irreducible] outB
theorem shaBelow3 {w wc w1 w2 : World} (h0 : Below w.heap.size w wc) (h1 : Below wc.drew.heap.size wc.drew w1) (h2 : Below w1.heap.size w1 w2) : Below w.heap.size w w2 := by
  have k1 : Below w.heap.size w w1 := h0.trans ((undrew h1).mono h0.size)
  exact k1.trans (h2.mono k1.size)
abbrev zs8 : Obj := .cells #[.int .u32 0, .int .u32 0, .int .u32 0, .int .u32 0, .int .u32 0, .int .u32 0, .int .u32 0, .int .u32 0] 117
/-- where the second variable of eight words lies, and what it holds, by the order in which it was made -/
def Held8 (w : World) (l : List Wd) (v : Value) (wc : World) : Prop := ∃ g0 : Nat, v = .pointer (some ⟨g0, 0, none⟩) ∧ w.heap.size ≤ g0 ∧ Row wc g0 117 l ∧ Tab wc ∧ Below w.heap.size w wc
section
variable {w w1 w2 : World} {a b c d e f g h : Wd}
theorem held_last (hT : Tab w) (h1 : Below w.drew.heap.size w.drew w1) (h2 : Below w1.heap.size w1 w2) :
    Held8 w [a, b, c, d, e, f, g, h] (.pointer (some ⟨w2.heap.size, 0, none⟩)) (w2.alloc (.cells #[.int .u32 (wv a), .int .u32 (wv b), .int .u32 (wv c), .int .u32 (wv d), .int .u32 (wv e), .int .u32 (wv f), .int .u32 (wv g), .int .u32 (wv h)] 117)) := by
  have k1 : Below w.heap.size w w1 := undrew h1
  have k2 : Below w.heap.size w w2 := k1.trans (h2.mono k1.size)
  have k3 := k2.alloc k2.size (.cells #[.int .u32 (wv a), .int .u32 (wv b), .int .u32 (wv c), .int .u32 (wv d), .int .u32 (wv e), .int .u32 (wv f), .int .u32 (wv g), .int .u32 (wv h)] 117)
  exact ⟨_, rfl, k2.size, by unfold Row; rw [cs_eight]; exact heap_alloc_new _ _, hT.below k3, k3⟩
theorem held_mid (hT : Tab w) (h1 : Below w.drew.heap.size w.drew w1) (h2 : Below (w1.alloc zs8).heap.size (w1.alloc zs8) w2) :
    Held8 w [a, b, c, d, e, f, g, h] (.pointer (some ⟨w1.heap.size, 0, none⟩)) ((((((((w2.setCell ⟨w1.heap.size, 0, none⟩ (V a)).setCell ⟨w1.heap.size, 1, none⟩ (V b)).setCell ⟨w1.heap.size, 2, none⟩ (V c)).setCell ⟨w1.heap.size, 3, none⟩ (V d)).setCell ⟨w1.heap.size, 4, none⟩ (V e)).setCell ⟨w1.heap.size, 5, none⟩ (V f)).setCell ⟨w1.heap.size, 6, none⟩ (V g)).setCell ⟨w1.heap.size, 7, none⟩ (V h)) := by
  have k1 : Below w.heap.size w w1 := undrew h1
  have k1s := k1.size
  have r : Row w2 w1.heap.size 117 [0, 0, 0, 0, 0, 0, 0, 0] := Row.below (by unfold Row; rw [cs_eight]; exact heap_alloc_new w1 zs8) h2 (by simp)
  have k2 : Below w.heap.size w w2 := (k1.alloc k1s _).trans (h2.mono (by simp; omega))
  have k3 := below8 k2 k1s (V a) (V b) (V c) (V d) (V e) (V f) (V g) (V h)
  exact ⟨_, rfl, k1s, r.put8 _ _ _ _ _ _ _ _, hT.below k3, k3⟩
theorem held_first (hT : Tab w) (h1 : Below (w.alloc zs8).drew.heap.size (w.alloc zs8).drew w1) (h2 : Below w1.heap.size w1 w2) :
    Held8 w [a, b, c, d, e, f, g, h] (.pointer (some ⟨w.heap.size, 0, none⟩)) ((((((((w2.setCell ⟨w.heap.size, 0, none⟩ (V a)).setCell ⟨w.heap.size, 1, none⟩ (V b)).setCell ⟨w.heap.size, 2, none⟩ (V c)).setCell ⟨w.heap.size, 3, none⟩ (V d)).setCell ⟨w.heap.size, 4, none⟩ (V e)).setCell ⟨w.heap.size, 5, none⟩ (V f)).setCell ⟨w.heap.size, 6, none⟩ (V g)).setCell ⟨w.heap.size, 7, none⟩ (V h)) := by
  have k0 : Below (w.alloc zs8).heap.size (w.alloc zs8) w1 := undrew h1
  have k0s := k0.size
  simp at k0s
  have r1 : Row w1 w.heap.size 117 [0, 0, 0, 0, 0, 0, 0, 0] := Row.below (by unfold Row; rw [cs_eight]; exact heap_alloc_new w zs8) k0 (by simp)
  have r : Row w2 w.heap.size 117 [0, 0, 0, 0, 0, 0, 0, 0] := r1.below h2 r1.lt
  have k1 : Below w.heap.size w w1 := ((Below.refl _ _).alloc (Nat.le_refl _) _).trans (k0.mono (by simp))
  have k2 : Below w.heap.size w w2 := k1.trans (h2.mono k1.size)
  have k3 := below8 k2 (Nat.le_refl _) (V a) (V b) (V c) (V d) (V e) (V f) (V g) (V h)
  exact ⟨_, rfl, Nat.le_refl _, r.put8 _ _ _ _ _ _ _ _, hT.below k3, k3⟩
end

set_option maxHeartbeats 4000000 in
set_option maxRecDepth 100000 in
theorem sumC (s : ByteArray) (w : World) (hs : s.size ≤ 5000) (hT : Tab w) :
    Calls Tryz.prog 96 #[.string s] w fun en w' => en = .returned (.string ⟨(sSum s.data.toList).toArray⟩) ∧ Below w.heap.size w w' := by
  obtain ⟨i0, hi, hz0, hz1, hz2⟩ := info_parts bytesInfo
  obtain ⟨m, hm⟩ : ∃ m : Nat, m = s.size / 64 := ⟨_, rfl⟩
  have hW : (s.size : Int) - (s.size : Int) % 64 = ((64 * m : Nat) : Int) := by omega
  have hlt : 64 * m ≤ s.size := by omega
  have hsl : s.data.toList.length = s.size := by simp
  have hh : (s.extract 0 (64 * m)).data.toList = s.data.toList.take (64 * m) := by rw [Lib.extract_data]; simp
  have hhs : (s.extract 0 (64 * m)).size = 64 * m := by rw [ByteArray.size_extract]; omega
  obtain ⟨a, b, c, d, e, f, g, h, hB1⟩ := len8 (blks_len H0_len (s.data.toList.take (64 * m)) m)
  have hB1' : blks H0 (s.extract 0 (64 * m)).data.toList m = [a, b, c, d, e, f, g, h] := by rw [hh]; exact hB1
  have c1 := blocksC H0 (s.extract 0 (64 * m)) m
  rw [hB1', cs_eight] at c1
  have C1 := Lib.hid c1
  have HHS := Lib.hid hhs
  have HSL := Lib.hid hsl
  have HM := Lib.hid hm
  have HBB := Lib.hid hB1
  have HT := Lib.hid hT
  clear c1 hhs hsl hm hB1 hB1' hh hT
  go_enter Tryz.func96, Tryz.ntmps96
  go_wp2_with fail
  clear hW
  have hsl1 : 64 * (m : Int) ≤ (s.size : Int) := by omega
  have hsl0 : (0 : Int) ≤ 64 * (m : Int) := by omega
  go_cut [4] (fun v wc => Held8 w [a, b, c, d, e, f, g, h] v wc)
  case first =>
    go_region_with (first
      | (go_at_call 122; refine (firstC _).mono ?_; rintro en w1 ⟨rfl, hb1⟩; have hT1 : Tab w1 := (by first | exact HT.out.drew.below hb1 | exact (HT.out.alloc _).drew.below hb1); have HT1 := Lib.hid hT1; obtain ⟨k1, k2, k3⟩ := belowReads hb1; simp at k3; (try have k4 : w.heap.size < w1.heap.size := by omega); have HB1 := Lib.hid hb1; clear hT1 hb1)
      | (go_at_call 121; refine (C1.out _ H0_len HHS.out (by rw [HHS.out]; omega) (by first | exact Hid.out (by assumption) | exact Tab.alloc (Hid.out (by assumption)) _)).mono ?_; rintro en w2 ⟨rfl, hb2⟩; obtain ⟨n1, n2, n3⟩ := belowReads hb2; have HB2 := Lib.hid hb2; clear hb2))
    all_goals
      go_wp2_with fail
      go_meet
      first
        | with_reducible exact held_last HT.out HB1.out HB2.out
        | with_reducible exact held_mid HT.out HB1.out HB2.out
        | with_reducible exact held_first HT.out HB1.out HB2.out
  case rest =>
    clear C1
    obtain ⟨g0, rfl, hg0, r0, rT, rB⟩ := hcut
    have hz0 := r0.lt
    obtain ⟨c0, c1, c2, c3, c4, c5, c6, c7⟩ := r0.cells8
    have f0 := r0.free 0
    have f1 := r0.free 1
    have f2 := r0.free 2
    have f3 := r0.free 3
    have f4 := r0.free 4
    have f5 := r0.free 5
    have f6 := r0.free 6
    have f7 := r0.free 7
    have R0 := Lib.hid r0
    have RT := Lib.hid rT
    have RB := Lib.hid rB
    clear r0 rT rB
    have hps : (padS s.size).size ≤ 72 := by rw [padS_size]; omega
    have hts : (s.extract (64 * m) s.size).size ≤ 5000 := by rw [ByteArray.size_extract]; omega
    have hTd : (s.extract (64 * m) s.size ++ padS s.size).data.toList = s.data.toList.drop (64 * m) ++ padL s.data.toList.length := by
      rw [ByteArray.data_append, Array.toList_append, drop_str, padS_data, HSL.out]
    have hTs : (s.extract (64 * m) s.size ++ padS s.size).size = s.size - 64 * m + (1 + (119 - s.size % 64) % 64 + 8) := by
      rw [ByteArray.size_append, ByteArray.size_extract, padS_size]; omega
    obtain ⟨q, hq⟩ : ∃ q : Nat, (s.extract (64 * m) s.size ++ padS s.size).size = 64 * q := ⟨(s.size - 64 * m + (1 + (119 - s.size % 64) % 64 + 8)) / 64, by rw [hTs]; have := HM.out; omega⟩
    have hTl : (s.extract (64 * m) s.size ++ padS s.size).data.toList.length = 64 * q := by rw [← hq]; simp
    have htwo := two_steps s.data.toList m q _ (by rw [HSL.out]; exact HM.out) hTd hTl
    rw [HBB.out] at htwo
    have C2 := blocksC [a, b, c, d, e, f, g, h] (s.extract (64 * m) s.size ++ padS s.size) q
    obtain ⟨p0, p1, p2, p3, p4, p5, p6, p7, hl2⟩ := len8 (blks_len (h := [a, b, c, d, e, f, g, h]) rfl (s.extract (64 * m) s.size ++ padS s.size).data.toList q)
    rw [hl2, cs_eight, cs_eight] at C2
    rw [hl2] at htwo
    have hTle : (s.extract (64 * m) s.size ++ padS s.size).size ≤ 9223372036854775807 := by rw [hTs]; omega
    have HC2 := Lib.hid C2
    have HTWO := Lib.hid htwo
    have HQ := Lib.hid hq
    have HTLE := Lib.hid hTle
    clear C2 htwo hq hTle hTl hl2 hTs hTd
    go_upto_region 3 with fail
    go_cut [] (fun wd => Row wd g0 117 [p0, p1, p2, p3, p4, p5, p6, p7] ∧ Below w.heap.size w wd)
    case first =>
      go_region_with (first
        | (go_at_call 123; refine (padC_str _ (by omega) (by omega) _).mono ?_; rintro en w1 ⟨rfl, hb1⟩; have HR1 := Lib.hid (Row.below (Row.drew R0.out) hb1 hz0); obtain ⟨⟨k0, k1, k2, k3, k4, k5, k6, k7⟩, kf⟩ := HR1.out.known; have HT1 := Lib.hid (Tab.below (Tab.drew RT.out) hb1); have HB1 := Lib.hid hb1; clear hb1)
        | (go_at_call 121; refine (HC2.out _ rfl HQ.out HTLE.out (Hid.out (by assumption))).mono ?_; rintro en w2 ⟨rfl, hb2⟩; have HR2 := Lib.hid (Row.below HR1.out hb2 HR1.out.lt); obtain ⟨⟨n0, n1, n2, n3, n4, n5, n6, n7⟩, nf⟩ := HR2.out.known; have HB2 := Lib.hid hb2; clear hb2))
      all_goals
        go_wp2_with fail
        go_meet
        exact ⟨HR2.out.put8 _ _ _ _ _ _ _ _, below8 (shaBelow3 RB.out HB1.out HB2.out) hg0 _ _ _ _ _ _ _ _⟩
    case rest =>
      clear HC2 HQ HTLE RT RB R0 c0 c1 c2 c3 c4 c5 c6 c7 f0 f1 f2 f3 f4 f5 f6 f7 hts hps hz0
      obtain ⟨r0, rB⟩ := hcut
      have hl2 : ([p0, p1, p2, p3, p4, p5, p6, p7] : List Wd).length = 8 := rfl
      generalize [p0, p1, p2, p3, p4, p5, p6, p7] = l2 at r0 HTWO hl2
      have hmk := make_bytes 0 32 0 32 rfl rfl (by omega) (by omega)
      have r1 := r0.alloc (.cells (List.replicate 32 (Value.int .u8 0)).toArray 5)
      have b0 := rB.alloc rB.size (.cells (List.replicate 32 (Value.int .u8 0)).toArray 5)
      have hws := rB.size
      have o0 : OwnB w.heap.size (.slice (some ⟨wc.heap.size, 0, none⟩) 0 32) [] (wc.alloc (.cells (List.replicate 32 (Value.int .u8 0)).toArray 5)) := Joins.ownsRow_le (own_empty wc) hws
      have R1 := Lib.hid r1
      have O0 := Lib.hid o0
      have B0 := Lib.hid b0
      have HL2 := Lib.hid hl2
      clear r0 r1 o0 b0 rB hl2
      generalize hzz : (List.replicate 32 (Value.int .u8 0)).toArray = Z at R1 O0 B0 hmk
      clear hzz
      go_wp2_with (with_reducible refine wl_load ?_ 117 (.tmp 4) ?_ g0 l2 8 93 ?_ 117 ?_ ?_ ?_ ?_
                   rfl; rfl; rfl; exact R1.out; exact Tryz.underlying117; rw [HL2.out]; exact u32Arr8)
      go_loopw [5, 30] (fun v i wr => ∃ k : Nat, k ≤ 8 ∧ i = .int .i64 k ∧ OwnB w.heap.size v (outB (l2.take k)) wr ∧ Below w.heap.size w wr) (fun _ i _ => 8 - (intOf i).toNat)
      case atStart => exact ⟨0, by omega, rfl, by simpa [outB] using O0.out, B0.out⟩
      case round =>
        clear R1 O0 B0 hmk
        obtain ⟨k, hk, rfl, hown, hb⟩ := hrel
        have hol : (outB (l2.take k)).length ≤ 32 := by rw [outB_len, List.length_take]; omega
        have hbs := hb.size
        by_cases hlt8 : k < 8
        · have hix := index8 HL2.out k hlt8
          have hot := outB_take l2 k (by rw [HL2.out]; exact hlt8)
          generalize l2.getD k 0 = x at hix hot
          have HB := Lib.hid hb
          have HOT := Lib.hid hot
          clear hb hot
          generalize outB (l2.take k) = pre at hown hol HOT
          go_wp2_with (at_builtin; refine wpList_append_own _ rfl _ _ 34 rfl w.heap.size 5 i0 (.int .u8 0) 1 1 Tryz.underlying34 hi hz0 hz1 hz2 rfl (by decide) _ _ _ rfl (hown.alloc _) ⟨wr.heap.size, 0, none⟩ 4 4 [Value.int .u8 (wv x / 16777216 % 256), .int .u8 (wv x / 65536 % 256), .int .u8 (wv x / 256 % 256), .int .u8 (wv x % 256)] rfl rfl ?c1 ?c2 ?c3 ?c4 ?c5 ?_)
          case c1 =>
            intro j u hj
            match j, hj with
            | 0, hj => simp at hj; subst hj; simp [Addr.add]
            | 1, hj => simp at hj; subst hj; simp [Addr.add]
            | 2, hj => simp at hj; subst hj; simp [Addr.add]
            | 3, hj => simp at hj; subst hj; simp [Addr.add]
          case c2 => intro u hu; simp at hu; rcases hu with rfl | rfl | rfl | rfl <;> rfl
          case c3 => unfold maxLen; omega
          case c4 => omega
          case c5 => simp; omega
          intro v' w1 hown' hgrow _
          have hb1 : Below w.heap.size w w1 := (HB.out.alloc (by omega) _).grown hgrow (by simp; omega) (fun j hj => by have := (hown.lt j hj).1; omega)
          have hown2 := own_word hown'
          rw [← HOT.out] at hown2
          have HO2 := Lib.hid hown2
          have HB1 := Lib.hid hb1
          clear hown2 hb1 hown' hgrow hix
          go_wp2
          exact ⟨⟨k + 1, by omega, by go_num, HO2.out, HB1.out⟩, by simp [intOf]; omega⟩
        · obtain rfl : k = 8 := by omega
          have ht8 : l2.take 8 = l2 := List.take_of_length_le (by rw [HL2.out]; exact Nat.le_refl _)
          rw [ht8, HTWO.out] at hown
          have hconv := own_text hown
          have HB := Lib.hid hb
          clear hb ht8
          go_wp2
          go_ret
          exact ⟨rfl, HB.out⟩
end Go.Proofs.YtjimgncefeldbaaGreatDoor

namespace Go.Proofs.YtjimgncefeldbaaGreatDoor
open Go.RowKit

theorem padR_str (n : Int) (hn : 0 ≤ n) (hn2 : n ≤ 9223372036854775807) (w : World) :
    Calls Tryz.prog 101 #[.int .i64 n] w fun e w' => e = .returned (.string (padS n.toNat)) ∧ Below w.heap.size w w' := by
  obtain ⟨k, rfl⟩ := Int.eq_ofNat_of_zero_le hn
  have h := padR_nat k (by omega) w
  unfold padS
  exact h

set_option maxHeartbeats 4000000 in
set_option maxRecDepth 100000 in
theorem sumR (s : ByteArray) (w : World) (hs : s.size ≤ 5000) :
    Calls Tryz.prog 61 #[.string s] w fun en w' => en = .returned (.string ⟨(sSum s.data.toList).toArray⟩) ∧ Below w.heap.size w w' := by
  obtain ⟨i0, hi, hz0, hz1, hz2⟩ := info_parts bytesInfo
  have hsl : s.data.toList.length = s.size := by simp
  have hps : (padS s.size).size = 1 + (119 - s.size % 64) % 64 + 8 := padS_size _
  have hps72 : (padS s.size).size ≤ 72 := by rw [hps]; omega
  obtain ⟨m, hm⟩ : ∃ m : Nat, s.size + (padS s.size).size = 64 * m := ⟨(s.size + (padS s.size).size) / 64, by rw [hps]; omega⟩
  have htd : (s ++ padS s.size).data.toList = s.data.toList ++ padL s.data.toList.length := by
    rw [ByteArray.data_append, Array.toList_append, padS_data, hsl]
  have hts : (s ++ padS s.size).size = 64 * m := by rw [ByteArray.size_append]; exact hm
  have hfin : outB (blks H0 (s ++ padS s.size).data.toList m) = sSum s.data.toList := by
    unfold sSum
    rw [htd]
    congr 2
    have h2 : (padL s.data.toList.length).length = (padS s.size).size := by rw [hsl, padL_len, hps]
    rw [h2, hsl, hm]; omega
  have hle : (s ++ padS s.size).size ≤ 9223372036854775807 := by rw [ByteArray.size_append]; omega
  have HPS := Lib.hid hps
  have HTS := Lib.hid hts
  have HFIN := Lib.hid hfin
  have hm100 : 64 * m ≤ 5072 := by omega
  clear hsl hps hm htd hts hfin
  go_enter Tryz.func61, Tryz.ntmps61
  go_wp2_with fail
  refine (padR_str _ (by omega) (by omega) _).mono ?_
  rintro en w1 ⟨rfl, hb1⟩
  have hB1 : Below w.heap.size w w1 := ((Below.refl _ _).alloc (Nat.le_refl _) _).trans (hb1.mono (by simp))
  have r1 : Row w1 w.heap.size 117 H0 := Row.below (by unfold Row; rw [H0_cs]; exact heap_alloc_new w _) hb1 (by simp)
  have R1 := Lib.hid r1
  have B1 := Lib.hid hB1
  clear r1 hB1 hb1
  rw [Int.toNat_natCast]
  go_wp2_with fail
  generalize s ++ padS s.size = t at HTS HFIN hle ⊢
  have ht1 : (t.size : Int) ≤ 64 * (m : Int) := by have := HTS.out; omega
  have ht2 : 64 * (m : Int) ≤ (t.size : Int) := by have := HTS.out; omega
  go_loopw [5] (fun i wr => ∃ k : Nat, k ≤ m ∧ i = .int .i64 (64 * (k : Int)) ∧ Row wr w.heap.size 117 (blks H0 t.data.toList k) ∧ Below w.heap.size w wr) (fun i _ => (5072 - intOf i).toNat)
  case atStart => exact ⟨0, by omega, rfl, by rw [blks_zero]; exact R1.out, B1.out⟩
  case round =>
    clear R1 B1
    obtain ⟨k, hk, rfl, r0, rB⟩ := hrel
    have hl8 : (blks H0 t.data.toList k).length = 8 := blks_len H0_len _ _
    by_cases hkm : k < m
    · have hn := blks_succ H0 t.data.toList k
      generalize blks H0 t.data.toList k = l at r0 hl8 hn
      have hdr := drop_str t (64 * k)
      rw [← hdr] at hn
      have hesz : (t.extract (64 * k) t.size).size ≤ 9223372036854775807 := by rw [ByteArray.size_extract]; omega
      have c2 := blockR l (t.extract (64 * k) t.size)
      generalize hrr : blk l (t.extract (64 * k) t.size).data.toList = r' at c2 hn
      have hr8' : r'.length = 8 := by rw [← hrr]; exact blk_len hl8 _
      have hlt1 : 64 * (k : Int) < (t.size : Int) := by omega
      have hlt2 : 64 * (k : Int) ≤ (t.size : Int) := by omega
      have hge0 : (0 : Int) ≤ 64 * (k : Int) := by omega
      have z0 := r0.lt
      have C2 := Lib.hid c2
      have HN := Lib.hid hn
      have HESZ := Lib.hid hesz
      have HR8' := Lib.hid hr8'
      have HL8 := Lib.hid hl8
      have R0 := Lib.hid r0
      have RB := Lib.hid rB
      clear c2 hn hesz hr8' hl8 r0 rB hdr hrr
      go_wp2_with fail
      refine wp_region_still_tail 4 (by kernel_rfl) (by kernel_rfl) ?_
      simp only [List.take_succ_cons, List.take_zero, List.drop_succ_cons, List.drop_zero]
      change wpStill _ _ wr.drew _ _ _
      refine ws_load rfl (.tmp 3) rfl w.heap.size l rfl R0.out HL8.out ?_
      repeat still_step
      refine wpStill_nil ?_
      change wpList _ _ _ _ _ wr.drew
      go_wp2_with fail
      refine (C2.out _ HL8.out HESZ.out).mono ?_
      rintro en w4 ⟨rfl, hb4⟩
      have hB4 : Below wr.heap.size wr w4 := undrew hb4
      have q0 : Row w4 w.heap.size 117 l := R0.out.below hB4 z0
      have qB : Below w.heap.size w w4 := RB.out.trans (hB4.mono (by omega))
      have Q0 := Lib.hid q0
      have QB := Lib.hid qB
      clear q0 qB hb4 hB4 R0 RB z0
      dsimp only
      go_wp2_with (with_reducible refine wl_store ?_ 117 (.tmp 3) (.tmp 24) ?_ w.heap.size r' ?_ ?_ 117 ?_ ?_ ?_
                   rfl; rfl; rfl; rfl; exact ⟨_, Q0.out, by rw [cs_size, HR8'.out, HL8.out]⟩; rw [HR8'.out]; exact u32Arr8)
      refine ⟨⟨k + 1, by omega, by go_num, ?_, belowRow QB.out (Nat.le_refl _) _⟩, by simp [intOf]; omega⟩
      rw [HN.out]
      exact Row.of_put Q0.out _
    · obtain rfl : k = m := by omega
      have hn1 : ¬ 64 * (k : Int) < (t.size : Int) := by omega
      have hd1 : decide (64 * (k : Int) < (t.size : Int)) = false := by simp; omega
      rw [show outB (blks H0 t.data.toList k) = outB (blks H0 t.data.toList k) from rfl] at HFIN
      generalize blks H0 t.data.toList k = l at r0 hl8 HFIN
      have R0 := Lib.hid r0
      have B0 := Lib.hid rB
      have HL8 := Lib.hid hl8
      clear r0 rB hl8
      go_wp2_with fail
      go_loopw [6, 7] (fun v i wr => ∃ j : Nat, j ≤ 8 ∧ i = .int .i64 j ∧ OwnB w.heap.size v (outB (l.take j)) wr ∧ v.ownBlock ≠ some w.heap.size ∧ Row wr w.heap.size 117 l ∧ Below w.heap.size w wr) (fun _ i _ => 8 - (intOf i).toNat)
      case atStart => exact ⟨0, by omega, rfl, by simpa [outB] using ownB_nil _ _, by simp [Value.ownBlock], R0.out, B0.out⟩
      case round =>
        clear R0 B0
        obtain ⟨j, hj, rfl, hown, hne, r0, hb⟩ := hrel
        generalize hvv : u6 = v at hown hne
        have hol : (outB (l.take j)).length ≤ 32 := by rw [outB_len, List.length_take]; omega
        have hbs := hb.size
        by_cases hlt8 : j < 8
        · have hcx := r0.cell j (by rw [HL8.out]; exact hlt8)
          have hot := outB_take l j (by rw [HL8.out]; exact hlt8)
          generalize l.getD j 0 = x at hcx hot
          have HB := Lib.hid hb
          have HOT := Lib.hid hot
          have R0 := Lib.hid r0
          have HNE := Lib.hid hne
          clear hb hot r0 hne
          generalize outB (l.take j) = pre at hown hol HOT
          have z0 := R0.out.lt
          go_wp2_with fail
          go_region_held3 (fun w' => w'.cell? ⟨w.heap.size, j, none⟩ = some (.int .u32 (wv x)))
            (first
              | go_keep
              | (rw [hgrow.cell_far _ (by simp; omega) (Ne.symm HNE.out)]; assumption))
            ((refine step_append_lies _ (by rfl) _ _ _ (by rfl) w.heap.size 5 i0 _ 1 1 Tryz.underlying34 hi hz0 hz1 hz2 rfl (by omega) v pre.length (Lib.byteCells pre) (by rfl) ((World.ownsRow.alloc hown _).drew)
                ⟨wr.heap.size, 0, none⟩ 4 4 [.int .u8 (wv x / 16777216 % 256), .int .u8 (wv x / 65536 % 256), .int .u8 (wv x / 256 % 256), .int .u8 (wv x % 256)] (by rfl) (by rfl) (World.news_of_block (cs := #[.int .u8 (wv x / 16777216 % 256), .int .u8 (wv x / 65536 % 256), .int .u8 (wv x / 256 % 256), .int .u8 (wv x % 256)]) (t := 5) (fr := (0, 0)) (heap_alloc_new wr _)) (by simp [Value.oneCell'])
                (by omega) (by unfold maxLen; omega) (by omega) (by simp; omega) (wr.heap.size + 1) (by simp) ?_; intro gg cap w1 hown1 hgrow hat hlt))
          have hb1 : Below w.heap.size w w1 := ((HB.out.alloc (by omega) _).drew).grown hgrow (by simp; omega) (fun i hi => (World.ownsRow.lt hown i hi).1)
          have r1 : Row w1 w.heap.size 117 l := by
            unfold Row
            rw [hgrow.block _ (by simp; omega) (Ne.symm HNE.out)]
            exact (R0.out.alloc _).drew
          have hne1 : (Value.slice (some ⟨gg, 0, none⟩) (pre.length + 4) cap).ownBlock ≠ some w.heap.size := by
            rcases hat with hat | hat
            · have h := HNE.out; rw [hat] at h; simpa [Value.ownBlock] using h
            · simp [Value.ownBlock]; omega
          have hown2 := own_word hown1
          rw [← HOT.out] at hown2
          have HO2 := Lib.hid hown2
          have HB1 := Lib.hid hb1
          have HR1 := Lib.hid r1
          have HN1 := Lib.hid hne1
          clear hown2 hb1 hown1 hgrow r1 hne1 hat hcx
          go_wp2
          exact ⟨⟨j + 1, by omega, by go_num, HO2.out, HN1.out, HR1.out, HB1.out⟩, by simp [intOf]; omega⟩
        · obtain rfl : j = 8 := by omega
          have ht8 : l.take 8 = l := List.take_of_length_le (by rw [HL8.out]; exact Nat.le_refl _)
          rw [ht8, HFIN.out] at hown
          have hconv := own_text hown
          have HB := Lib.hid hb
          clear hb ht8 hne r0
          go_wp2
          go_ret
          exact ⟨rfl, HB.out⟩
end Go.Proofs.YtjimgncefeldbaaGreatDoor

namespace Go.Proofs.YtjimgncefeldbaaGreatDoor
open Go.RowKit

theorem sum_len (l : List UInt8) : (sSum l).length = 32 := by unfold sSum; rw [outB_len, blks_len H0_len]

def idL (l : List UInt8) : List UInt8 := putL (sSum l)
def idS (s : ByteArray) : ByteArray := ⟨(idL s.data.toList).toArray⟩
theorem idS_size (s : ByteArray) : (idS s).size = 64 := by
  show (idL s.data.toList).toArray.size = 64
  simp [idL, putL_len, sum_len]
theorem idS_read (s : ByteArray) : rdE (idS s).data.toList = 0 := by
  show rdE ((idL s.data.toList).toArray.toList) = 0
  exact (rd_some (by simp only; exact read_put _)).2

def ckE (s : ByteArray) : Int := if s.size = 64 then rdE s.data.toList else 5
theorem ck_id (s : ByteArray) : ckE (idS s) = 0 := by unfold ckE; rw [if_pos (idS_size s), idS_read]
theorem rdE_two (l : List UInt8) : rdE l = 0 ∨ rdE l = 5 := by unfold rdE; split <;> simp

set_option maxHeartbeats 1000000 in
set_option maxRecDepth 100000 in
theorem idC (s : ByteArray) (w : World) (hs : s.size ≤ 5000) (hT : Tab w) :
    Calls Tryz.prog 57 #[.string s] w fun e w' => e = .returned (.string (idS s)) ∧ Below w.heap.size w w' := by
  have c1 := sumC s w hs hT
  have c2 := fun W => putC ⟨(sSum s.data.toList).toArray⟩ W (by show (sSum s.data.toList).toArray.size ≤ 5000; simp [sum_len])
  have e : (⟨(putL (ByteArray.mk (sSum s.data.toList).toArray).data.toList).toArray⟩ : ByteArray) = idS s := rfl
  rw [e] at c2
  generalize (⟨(sSum s.data.toList).toArray⟩ : ByteArray) = m at c1 c2
  generalize idS s = r at c2 ⊢
  have C1 := Lib.hid c1
  have C2 := Lib.hid c2
  clear c1 c2 e hT
  go_enter Tryz.func57, Tryz.ntmps57
  go_wp2_with fail
  refine C1.out.mono ?_
  rintro e w1 ⟨rfl, hb1⟩
  go_wp2_with fail
  refine (C2.out w1).mono ?_
  rintro e w2 ⟨rfl, hb2⟩
  have HB := Lib.hid (hb1.trans (hb2.mono hb1.size))
  clear hb1 hb2
  go_wp2
  go_ret
  exact ⟨rfl, HB.out⟩

set_option maxHeartbeats 1000000 in
set_option maxRecDepth 100000 in
theorem idR (s : ByteArray) (w : World) (hs : s.size ≤ 5000) :
    Calls Tryz.prog 22 #[.string s] w fun e w' => e = .returned (.string (idS s)) ∧ Below w.heap.size w w' := by
  have c1 := sumR s w hs
  have c2 := fun W => putR ⟨(sSum s.data.toList).toArray⟩ W (by show (sSum s.data.toList).toArray.size ≤ 5000; simp [sum_len])
  have e : (⟨(putL (ByteArray.mk (sSum s.data.toList).toArray).data.toList).toArray⟩ : ByteArray) = idS s := rfl
  rw [e] at c2
  generalize (⟨(sSum s.data.toList).toArray⟩ : ByteArray) = m at c1 c2
  generalize idS s = r at c2 ⊢
  have C1 := Lib.hid c1
  have C2 := Lib.hid c2
  clear c1 c2 e
  go_enter Tryz.func22, Tryz.ntmps22
  go_wp2_with fail
  refine C1.out.mono ?_
  rintro e w1 ⟨rfl, hb1⟩
  go_wp2_with fail
  refine (C2.out w1).mono ?_
  rintro e w2 ⟨rfl, hb2⟩
  have HB := Lib.hid (hb1.trans (hb2.mono hb1.size))
  clear hb1 hb2
  go_wp2
  go_ret
  exact ⟨rfl, HB.out⟩


end Go.Proofs.YtjimgncefeldbaaGreatDoor
