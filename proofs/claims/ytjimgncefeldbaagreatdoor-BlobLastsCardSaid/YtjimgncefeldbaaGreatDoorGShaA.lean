/-
  sha.turn, math/bits.RotateLeft32 and the document's turn: what each call answers.
  sha.step: what each call answers.
  sha.words: what each call answers.
  almonryref02's words and constants: what each call answers.
-/
import Derived.Test.YtjimgncefeldbaaGreatDoorRows
import Derived.Test.YtjimgncefeldbaaGreatDoorGCrc
import Derived.WalkSpells
import Derived.WalkLawsBesides
import Derived.Deep.QuietTactic
import Derived.BigQuiet
import Derived.Laws.ResultCell
import Derived.RegionTactic
import Derived.BigRegion
namespace Go.Proofs.YtjimgncefeldbaaGreatDoor
open Go.RowKit

attribute [local go_sem] xr_bits an_bits og_bits ad_mod sr_div sl_mod

theorem left_count (n : Nat) (h0 : 0 < n) (hn : n < 32) : bits .and .u64 (IntKind.u64.wrap (-(n : Int))) 31 = ((32 - n : Nat) : Int) := by
  have h : ∀ m : Fin 32, 0 < m.val → bits .and .u64 (IntKind.u64.wrap (-(m.val : Int))) 31 = ((32 - m.val : Nat) : Int) := by decide +kernel
  exact h ⟨n, hn⟩ h0

set_option maxRecDepth 100000 in
theorem rot_any (x : Wd) (n : Nat) (h0 : 0 < n) (hn : n < 32) (w : World) :
    Calls Tryz.prog 193 #[V x, .int .i64 (-(n : Int))] w fun e w' => e = .returned (V (og (sl x (32 - n)) (sr x n))) ∧ w = w' := by
  have hc := left_count n h0 hn
  obtain ⟨m, hm⟩ : ∃ m : Nat, m = 32 - n := ⟨_, rfl⟩
  have hn' : n = 32 - m := by omega
  rw [← hm] at hc ⊢
  have hm0 : 0 < m := by omega
  have hm1 : m < 32 := by omega
  have HN := Lib.hid hn'
  clear hn' hm
  go_enter Tryz.func193, Tryz.ntmps193
  go_wp2
  go_ret
  refine ⟨?_, rfl⟩
  rw [HN.out]
  rfl

set_option maxRecDepth 100000 in
theorem turnC_nat (x : Wd) (n : Nat) (h0 : 0 < n) (hn : n < 32) (w : World) :
    Calls Tryz.prog 185 #[V x, .int .i64 n] w fun e w' => e = .returned (V (tn x n)) ∧ w = w' := by
  have e1 : tn x n = og (sl x (32 - n)) (sr x n) := by unfold tn; rw [og_comm]; simp
  have HE := Lib.hid e1
  clear e1
  go_enter Tryz.func185, Tryz.ntmps185
  go_wp2_with fail
  refine (rot_any x n h0 hn w).mono ?_
  rintro e w' ⟨rfl, rfl⟩
  go_wp2
  go_ret
  rw [HE.out]
  exact ⟨rfl, rfl⟩

set_option maxRecDepth 100000 in
theorem turnR_nat (x : Wd) (n : Nat) (h0 : 0 < n) (hn : n < 32) (w : World) :
    Calls Tryz.prog 126 #[V x, .int .i64 n] w fun e w' => e = .returned (V (tn x n)) ∧ w = w' := by
  have e1 : tn x n = og (sr x n) (sl x (32 - n)) := by unfold tn; simp
  have HE := Lib.hid e1
  clear e1
  go_enter Tryz.func126, Tryz.ntmps126
  go_wp2
  go_ret
  rw [HE.out]
  exact ⟨rfl, rfl⟩

theorem turnC (x : Wd) (n : Int) (w : World) (h0 : 0 < n) (hn : n < 32) :
    Calls Tryz.prog 185 #[.int .u32 (wv x), .int .i64 n] w fun e w' => e = .returned (.int .u32 (wv (tn x n))) ∧ w = w' := by
  obtain ⟨k, rfl⟩ := Int.eq_ofNat_of_zero_le (Int.le_of_lt h0)
  exact turnC_nat x k (by omega) (by omega) w
theorem turnR (x : Wd) (n : Int) (w : World) (h0 : 0 < n) (hn : n < 32) :
    Calls Tryz.prog 126 #[.int .u32 (wv x), .int .i64 n] w fun e w' => e = .returned (.int .u32 (wv (tn x n))) ∧ w = w' := by
  obtain ⟨k, rfl⟩ := Int.eq_ofNat_of_zero_le (Int.le_of_lt h0)
  exact turnR_nat x k (by omega) (by omega) w
end Go.Proofs.YtjimgncefeldbaaGreatDoor

namespace Go.Proofs.YtjimgncefeldbaaGreatDoor
open Go.RowKit

attribute [local go_sem] xr_bits an_bits og_bits ad_mod nt_bits u32_plain

set_option maxHeartbeats 4000000 in
set_option maxRecDepth 100000 in
theorem step8 (a b c d e f g h x : Wd) (w : World) :
    Calls Tryz.prog 169 #[.agg #[V a, V b, V c, V d, V e, V f, V g, V h], V x] w fun en w' => en = .returned (.agg (cs (stp [a, b, c, d, e, f, g, h] x))) ∧ Below w.heap.size w w' := by
  go_enter Tryz.func169, Tryz.ntmps169
  go_wp2
  go_quiet (fail)
  go_wp2
  go_quiet ((go_at_call 185; exact still2 (turnC _ _ _ (by decide) (by decide))))
  go_wp2_with ((go_at_call 185; refine (turnC _ _ _ (by decide) (by decide)).mono ?_; rintro en w' ⟨rfl, rfl⟩))
  have hg : ∀ n, ((((w.alloc (.cells #[V a, V b, V c, V d, V e, V f, V g, V h] 117)).alloc (.cells #[.int .u32 0, .int .u32 0, .int .u32 0, .int .u32 0, .int .u32 0, .int .u32 0, .int .u32 0, .int .u32 0] 117)).drewN n)).heap[w.heap.size + 1]? = some (.cells #[.int .u32 0, .int .u32 0, .int .u32 0, .int .u32 0, .int .u32 0, .int .u32 0, .int .u32 0, .int .u32 0] 117 (0, 0)) := fun _ => heap_alloc2_new w _ _
  exact bodyPost_ret (results_cell_row rfl _ _ _ _ _ (0, 0) (.array 8 93) rfl (set8 (hg _) _ _ _ _ _ _ _ _) (by kernel_rfl) rfl (by kernel_rfl)) rfl ⟨by unfold stp; rw [cs_eight]; rfl, below8 (belowN (((Below.refl _ _).alloc (Nat.le_refl _) _).alloc (by simp) _) _) (by omega) _ _ _ _ _ _ _ _⟩

theorem stepC (r : List Wd) (x : Wd) (w : World) (hr : r.length = 8) :
    Calls Tryz.prog 169 #[.agg (cs r), .int .u32 (wv x)] w fun en w' => en = .returned (.agg (cs (stp r x))) ∧ Below w.heap.size w w' := by
  obtain ⟨a, b, c, d, e, f, g, h, rfl⟩ := len8 hr
  rw [cs_eight]
  exact step8 a b c d e f g h x w
end Go.Proofs.YtjimgncefeldbaaGreatDoor

namespace Go.Proofs.YtjimgncefeldbaaGreatDoor
open Go.RowKit

attribute [local go_sem] xr_bits an_bits og_bits ad_mod nt_bits u32_plain sr3 sr10

/-- a block of words -/
def Row (w : World) (b : Nat) (t : TypeId) (l : List Wd) : Prop := w.heap[b]? = some (.cells (cs l) t (0, 0))
theorem Row.cell {w : World} {b : Nat} {t : TypeId} {l : List Wd} (h : Row w b t l) (j : Nat) (hj : j < l.length) : w.cell? ⟨b, j, none⟩ = some (.int .u32 (wv (l.getD j 0))) := by
  rw [Joins.cell_of_block h, cs_get l j hj]
theorem Row.free {w : World} {b : Nat} {t : TypeId} {l : List Wd} (h : Row w b t l) (j : Nat) : w.frozen? ⟨b, j, none⟩ = false := Joins.unfrozen_of_block h j
theorem Row.lt {w : World} {b : Nat} {t : TypeId} {l : List Wd} (h : Row w b t l) : b < w.heap.size := (Array.getElem?_eq_some_iff.1 h).1
theorem Row.set {w : World} {b : Nat} {t : TypeId} {l : List Wd} (h : Row w b t l) (j : Nat) (x : Wd) : Row (w.setCell ⟨b, j, none⟩ (.int .u32 (wv x))) b t (l.set j x) := by
  have := Joins.block_setCell (i := j) h (V x)
  rw [cs_set] at this
  exact this
theorem Row.other {w : World} {b c : Nat} {t : TypeId} {l : List Wd} (h : Row w b t l) (hc : b ≠ c) (j : Nat) (x : Value) : Row (w.setCell ⟨c, j, none⟩ x) b t l := by
  unfold Row; rw [Below.heap_setCell _ _ _ _ hc]; exact h
theorem Row.drew {w : World} {b : Nat} {t : TypeId} {l : List Wd} (h : Row w b t l) : Row w.drew b t l := h
theorem Row.drewN {w : World} {b : Nat} {t : TypeId} {l : List Wd} (h : Row w b t l) (n : Nat) : Row (w.drewN n) b t l := h
theorem Row.below {w w' : World} {b B : Nat} {t : TypeId} {l : List Wd} (h : Row w b t l) (hb : Below B w w') (hB : b < B) : Row w' b t l := by
  unfold Row; rw [hb.block b hB]; exact h
theorem Row.alloc {w : World} {b : Nat} {t : TypeId} {l : List Wd} (h : Row w b t l) (o : Obj) : Row (w.alloc o) b t l := by
  unfold Row; rw [Below.heap_alloc _ _ _ h.lt]; exact h

theorem val_byte (x : Wd) (c : UInt8) (e : Nat) : bits .or .u32 (wv x) ((c.toNat : Int) % 4294967296 * 2 ^ e % 4294967296) = wv (og x (sl (bw c) e)) := by
  have h := c.toNat_lt
  rw [show ((c.toNat : Int) % 4294967296) = wv (bw c) from by rw [← bw_wv]; omega, sl_mod, og_bits]
theorem w1_step (l : List UInt8) (k : Nat) (h : k < l.length) (x : Int) (hx : x = bits .or .u32 (wv ((w1 l k).getD (k / 4) 0)) ((l[k].toNat : Int) % 4294967296 * 2 ^ (24 - 8 * (k % 4)) % 4294967296)) :
    ∃ y : Wd, x = wv y ∧ w1 l (k + 1) = (w1 l k).set (k / 4) y := by
  refine ⟨_, hx.trans (val_byte _ _ _), ?_⟩
  rw [w1_succ, byteAt, List.getD_eq_getElem?_getD (l := l), List.getElem?_eq_getElem h]
  rfl

theorem w2_step (W : List Wd) (t : Nat) (h : 16 ≤ t) : w2 W (t + 1 - 16) = (w2 W (t - 16)).set t (nextW (w2 W (t - 16)) t) := by
  obtain ⟨k, rfl⟩ : ∃ k, t = 16 + k := ⟨t - 16, by omega⟩
  rw [show 16 + k + 1 - 16 = k + 1 from by omega, show 16 + k - 16 = k from by omega, w2_succ]

theorem ends2 {w0 w1 : World} {b t : Nat} {T : TypeId} {W : List Wd} {v : Wd} (h16 : 16 ≤ t) (hlt : t < 64) (h0 : Row w1 b T Z64) (h1 : Row w1 (b + 1) T (w2 W (t - 16))) (hb : Below b w0 w1)
    (hs : w2 W (t + 1 - 16) = (w2 W (t - 16)).set t v) : ∃ t' : Nat, 16 ≤ t' ∧ t' ≤ 64 ∧ Value.int .i64 ((t : Int) + 1) = .int .i64 t' ∧ Row (w1.setCell ⟨b + 1, t, none⟩ (.int .u32 (wv v))) b T Z64 ∧
      Row (w1.setCell ⟨b + 1, t, none⟩ (.int .u32 (wv v))) (b + 1) T (w2 W (t' - 16)) ∧ Below b w0 (w1.setCell ⟨b + 1, t, none⟩ (.int .u32 (wv v))) :=
  ⟨t + 1, by omega, by omega, by simp, h0.other (by omega) _ _, by rw [hs]; exact h1.set t _, hb.setCell (by simp) _⟩

set_option maxHeartbeats 8000000 in
set_option maxRecDepth 100000 in
theorem wordsC (s : ByteArray) (w : World) (hs : s.size ≤ 9223372036854775807) :
    Calls Tryz.prog 168 #[.string s] w fun en w' => en = .returned (.agg (cs (sWords s.data.toList))) ∧ Below w.heap.size w w' := by
  have hz0 : Row ((w.alloc (.cells (cs Z64) 169)).alloc (.cells (cs Z64) 169)) w.heap.size 169 Z64 := heap_alloc2_old w _ _
  have hz1 : Row ((w.alloc (.cells (cs Z64) 169)).alloc (.cells (cs Z64) 169)) (w.heap.size + 1) 169 Z64 := heap_alloc2_new w _ _
  have hsl : s.data.toList.length = s.size := by simp
  have HZ0 := Lib.hid hz0
  have HZ1 := Lib.hid hz1
  have HSL := Lib.hid hsl
  clear hz0 hz1 hsl
  rcases Nat.lt_or_ge 64 s.size with h64 | h64
  all_goals
    go_enter Tryz.func168, Tryz.ntmps168
    go_wp2
    rw [← Z64_cs]
    go_loopw [4, 13] (fun v i wr => ∃ k : Nat, k ≤ s.size ∧ k ≤ 64 ∧ i = .int .i64 k ∧ Row wr w.heap.size 169 Z64 ∧ Row wr (w.heap.size + 1) 169 (w1 s.data.toList k) ∧ Below w.heap.size w wr) (fun _ i _ => 64 - (intOf i).toNat)
    case atStart => exact ⟨0, Nat.zero_le _, by omega, rfl, HZ0.out, by rw [w1_zero]; exact HZ1.out, ((Below.refl _ _).alloc (Nat.le_refl _) _).alloc (by simp) _⟩
    case round =>
      obtain ⟨k, hk, hk4, rfl, hr0, hr1, hb⟩ := hrel
      have HR0 := Lib.hid hr0
      have HR1 := Lib.hid hr1
      have HB := Lib.hid hb
      have hlt1 := hr1.lt
      by_cases hlt : k < s.size ∧ k < 64
      · obtain ⟨hlt, hlt4⟩ := hlt
        have hcell := hr1.cell (k / 4) (by rw [w1_len]; omega)
        have hfree := hr1.free (k / 4)
        have hd : s.data.toList[k]'(by rw [HSL.out]; exact hlt) = s[k] := rfl
        have hst := w1_step s.data.toList k (by rw [HSL.out]; exact hlt)
        rw [hd] at hst
        have HST := Lib.hid hst
        clear hst hd hr0 hr1 hb
        go_wp2
        go_region
        go_wp2
        obtain ⟨y, hy, hw⟩ := HST.out _ rfl
        rw [List.getD_eq_getElem?_getD] at hy
        refine ⟨⟨k + 1, by omega, by omega, by go_num, ?_, ?_, ?_⟩, by simp [intOf]; omega⟩
        · exact (HR0.out.other (by omega) _ _).drew
        · rw [hw]
          have := HR1.out.set (k / 4) y
          rw [← hy] at this
          exact this.drew
        · exact (HB.out.setCell (by simp) _).drew
      · have hkm : k = min s.data.toList.length 64 := by rw [HSL.out]; omega
        have HKM := Lib.hid hkm
        have HL := Lib.hid (w1_len s.data.toList k)
        generalize hWW : w1 s.data.toList k = W at HR1 HL
        have HW := Lib.hid hWW
        first
          | (have hdk : decide (k < s.size) = false := by simp; omega)
          | (have hdk : decide ((k : Int) < 64) = false := by simp; omega)
        clear hkm hr0 hr1 hb hWW
        go_wp2
        go_loopw [5] (fun i wt => ∃ t : Nat, 16 ≤ t ∧ t ≤ 64 ∧ i = .int .i64 t ∧ Row wt w.heap.size 169 Z64 ∧ Row wt (w.heap.size + 1) 169 (w2 W (t - 16)) ∧ Below w.heap.size w wt) (fun i _ => 64 - (intOf i).toNat)
        case atStart => exact ⟨16, by omega, by omega, rfl, HR0.out, by rw [w2_zero]; exact HR1.out, HB.out⟩
        case round =>
          clear HR0 HR1 HB hlt1 hlt
          obtain ⟨t, ht16, ht64, rfl, hr0, hr1, hb⟩ := hrel
          have hl2 := w2_len W HL.out (t - 16)
          have hlt1 := hr1.lt
          by_cases hlt : t < 64
          · have cx := hr1.cell (t - 15) (by omega)
            have cy := hr1.cell (t - 2) (by omega)
            have ca := hr1.cell (t - 16) (by omega)
            have cb := hr1.cell (t - 7) (by omega)
            obtain ⟨co, hco⟩ : ∃ c : Value, wr.cell? ⟨w.heap.size + 1, t, none⟩ = some c := ⟨_, hr1.cell t (by omega)⟩
            have hfree := hr1.free t
            have hst := w2_step W t ht16
            unfold nextW at hst
            generalize (w2 W (t - 16)).getD (t - 15) 0 = x at cx hst
            generalize (w2 W (t - 16)).getD (t - 2) 0 = y at cy hst
            generalize (w2 W (t - 16)).getD (t - 16) 0 = a at ca hst
            generalize (w2 W (t - 16)).getD (t - 7) 0 = b at cb hst
            have HR0 := Lib.hid hr0
            have HR1 := Lib.hid hr1
            have HB := Lib.hid hb
            have HST := Lib.hid hst
            clear hr0 hr1 hb hst hl2
            go_wp2
            go_quiet (fail)
            go_wp2_with ((go_at_call 185; refine (turnC _ _ _ (by decide) (by decide)).mono ?_; rintro en w' ⟨rfl, rfl⟩))
            go_region
            go_wp2
            have hrel1 := ends2 ht16 hlt (HR0.out.drewN (nq + 1)) (HR1.out.drewN (nq + 1)) (belowN HB.out (nq + 1)) HST.out
            have hm : 64 - (intOf (Value.int IntKind.i64 ((t : Int) + 1))).toNat < 64 - (intOf (Value.int IntKind.i64 (t : Int))).toNat := by simp [intOf]; omega
            first | exact ⟨hrel1, hm⟩ | (refine ⟨?_, hm⟩; (repeat apply Exists.intro); exact ⟨hrel1, rfl⟩)
          · obtain rfl : t = 64 := by omega
            have hfin : w2 W (64 - 16) = sWords s.data.toList := by
              rw [sWords_is]; rw [← HKM.out, HW.out]
            rw [hfin] at hr1
            have hi64 : (Tryz.prog.info? 169).map (·.size) = some (cs (sWords s.data.toList)).size := by rw [cs_size, sWords_len]; kernel_rfl
            have ho64 : (cs Z64).size = (cs (sWords s.data.toList)).size := by rw [cs_size, cs_size, sWords_len]; rfl
            have HI := Lib.hid hi64
            have HO := Lib.hid ho64
            have HR0 := Lib.hid hr0
            have HR1 := Lib.hid hr1
            have HB := Lib.hid hb
            clear hr0 hr1 hb hfin hl2 hi64 ho64
            go_wp2_with (first
              | (refine wpList_load_row rfl 169 (.tmp 3) rfl (w.heap.size + 1) rfl 169 (cs (sWords s.data.toList)) (0, 0) (.array 64 93) HR1.out Tryz.underlying169 rfl HI.out ?_)
              | (refine wpList_store_row rfl 169 (.tmp 2) (.tmp 75) rfl w.heap.size (cs (sWords s.data.toList)) rfl rfl 169 (cs Z64) HR0.out HI.out HO.out (cs_one _) ?_))
            exact bodyPost_ret (results_cell_row rfl _ _ _ _ _ (0, 0) (.array 64 93) rfl (setRow_heap _ _ _ _ _ _ HR0.out) Tryz.underlying169 rfl HI.out) rfl ⟨rfl, belowRow HB.out (Nat.le_refl _) _⟩
end Go.Proofs.YtjimgncefeldbaaGreatDoor

namespace Go.Proofs.YtjimgncefeldbaaGreatDoor
open Go.RowKit

attribute [local go_sem] xr_bits an_bits og_bits ad_mod nt_bits u32_plain sr3 sr10

theorem endsR {w0 w1 : World} {b t : Nat} {T : TypeId} {W : List Wd} {v : Wd} (h16 : 16 ≤ t) (hlt : t < 64) (h1 : Row w1 b T (w2 W (t - 16))) (hb : Below b w0 w1)
    (hs : w2 W (t + 1 - 16) = (w2 W (t - 16)).set t v) : ∃ t' : Nat, 16 ≤ t' ∧ t' ≤ 64 ∧ Value.int .i64 ((t : Int) + 1) = .int .i64 t' ∧
      Row (w1.setCell ⟨b, t, none⟩ (.int .u32 (wv v))) b T (w2 W (t' - 16)) ∧ Below b w0 (w1.setCell ⟨b, t, none⟩ (.int .u32 (wv v))) :=
  ⟨t + 1, by omega, by omega, by simp, by rw [hs]; exact h1.set t _, hb.setCell (Nat.le_refl _) _⟩

set_option maxHeartbeats 8000000 in
set_option maxRecDepth 100000 in
theorem wordsR (s : ByteArray) (w : World) (hs : s.size ≤ 9223372036854775807) :
    Calls Tryz.prog 124 #[.string s] w fun en w' => en = .returned (.slice (some ⟨w.heap.size, 0, none⟩) 64 64) ∧ Row w' w.heap.size 93 (sWords s.data.toList) ∧ Below w.heap.size w w' := by
  have hmk : ∀ W : World, (Instr.makeSlice 137 (.int .i64 64) (.int .i64 64)).run Tryz.prog W = .ok (.slice (some ⟨W.heap.size, 0, none⟩) 64 64) (W.alloc (.cells (cs Z64) 93)) := fun _ => by rw [Z64_cs]; kernel_rfl
  have hz0 : Row (w.alloc (.cells (cs Z64) 93)) w.heap.size 93 Z64 := heap_alloc_new w _
  have hsl : s.data.toList.length = s.size := by simp
  have HZ0 := Lib.hid hz0
  have HSL := Lib.hid hsl
  clear hz0 hsl
  go_enter Tryz.func124, Tryz.ntmps124
  go_wp2
  go_loopw [4] (fun i wr => ∃ k : Nat, k ≤ s.size ∧ k ≤ 64 ∧ i = .int .i64 k ∧ Row wr w.heap.size 93 (w1 s.data.toList k) ∧ Below w.heap.size w wr) (fun i _ => 64 - (intOf i).toNat)
  case atStart => exact ⟨0, Nat.zero_le _, by omega, rfl, by rw [w1_zero]; exact HZ0.out, (Below.refl _ _).alloc (Nat.le_refl _) _⟩
  case round =>
    obtain ⟨k, hk, hk4, rfl, hr1, hb⟩ := hrel
    have HR1 := Lib.hid hr1
    have HB := Lib.hid hb
    have hlt1 := hr1.lt
    by_cases hlt : k < s.size ∧ k < 64
    · obtain ⟨hlt, hlt4⟩ := hlt
      have hcell := hr1.cell (k / 4) (by rw [w1_len]; omega)
      have hfree := hr1.free (k / 4)
      have hd : s.data.toList[k]'(by rw [HSL.out]; exact hlt) = s[k] := rfl
      have hst := w1_step s.data.toList k (by rw [HSL.out]; exact hlt)
      rw [hd] at hst
      have HST := Lib.hid hst
      clear hst hd hr1 hb
      go_wp2
      go_region
      go_wp2
      obtain ⟨y, hy, hw⟩ := HST.out _ rfl
      rw [List.getD_eq_getElem?_getD] at hy
      refine ⟨⟨k + 1, by omega, by omega, by go_num, ?_, ?_⟩, by simp [intOf]; omega⟩
      · rw [hw]
        have := HR1.out.set (k / 4) y
        rw [← hy] at this
        exact this.drew
      · exact (HB.out.setCell (by simp) _).drew
    · have hkm : k = min s.data.toList.length 64 := by rw [HSL.out]; omega
      have HKM := Lib.hid hkm
      have HL := Lib.hid (w1_len s.data.toList k)
      generalize hWW : w1 s.data.toList k = W at HR1 HL
      have HW := Lib.hid hWW
      have hcase : k = 64 ∨ (k < 64 ∧ k = s.size) := by omega
      clear hkm hr1 hb hWW hlt
      rcases hcase with hcase | ⟨hc1, hc2⟩
      all_goals
        first
          | ((have hd1 : decide ((k : Int) < 64) = false := by simp; omega); clear hcase)
          | ((have hd1 : decide ((k : Int) < 64) = true := by simp; omega); (have hd2 : decide (k < s.size) = false := by simp; omega); clear hc1 hc2)
        go_wp2
        go_loopw [5] (fun i wt => ∃ t : Nat, 16 ≤ t ∧ t ≤ 64 ∧ i = .int .i64 t ∧ Row wt w.heap.size 93 (w2 W (t - 16)) ∧ Below w.heap.size w wt) (fun i _ => 64 - (intOf i).toNat)
        case atStart => exact ⟨16, by omega, by omega, rfl, by rw [w2_zero]; exact HR1.out, HB.out⟩
        case round =>
          clear HR1 HB hlt1
          obtain ⟨t, ht16, ht64, rfl, hr1, hb⟩ := hrel
          have hl2 := w2_len W HL.out (t - 16)
          have hlt1 := hr1.lt
          by_cases hlt : t < 64
          · have cx := hr1.cell (t - 15) (by omega)
            have cy := hr1.cell (t - 2) (by omega)
            have ca := hr1.cell (t - 16) (by omega)
            have cb := hr1.cell (t - 7) (by omega)
            obtain ⟨co, hco⟩ : ∃ c : Value, wr.cell? ⟨w.heap.size, t, none⟩ = some c := ⟨_, hr1.cell t (by omega)⟩
            have hfree := hr1.free t
            have hst := w2_step W t ht16
            unfold nextW at hst
            generalize (w2 W (t - 16)).getD (t - 15) 0 = x at cx hst
            generalize (w2 W (t - 16)).getD (t - 2) 0 = y at cy hst
            generalize (w2 W (t - 16)).getD (t - 16) 0 = a at ca hst
            generalize (w2 W (t - 16)).getD (t - 7) 0 = b at cb hst
            have HR1 := Lib.hid hr1
            have HB := Lib.hid hb
            have HST := Lib.hid hst
            clear hr1 hb hst hl2
            go_wp2
            go_quiet (fail)
            go_wp2_with ((go_at_call 126; refine (turnR _ _ _ (by decide) (by decide)).mono ?_; rintro en w' ⟨rfl, rfl⟩))
            go_region
            go_wp2
            have hrel1 := endsR ht16 hlt (HR1.out.drewN (nq + 1)) (belowN HB.out (nq + 1)) HST.out
            have hm : 64 - (intOf (Value.int IntKind.i64 ((t : Int) + 1))).toNat < 64 - (intOf (Value.int IntKind.i64 (t : Int))).toNat := by simp [intOf]; omega
            first | exact ⟨hrel1, hm⟩ | (refine ⟨?_, hm⟩; (repeat apply Exists.intro); exact ⟨hrel1, rfl⟩)
          · obtain rfl : t = 64 := by omega
            have hfin : w2 W (64 - 16) = sWords s.data.toList := by
              rw [sWords_is]; rw [← HKM.out, HW.out]
            rw [hfin] at hr1
            have HR1 := Lib.hid hr1
            have HB := Lib.hid hb
            clear hr1 hb hfin hl2
            go_wp2
            go_ret
            exact ⟨rfl, HR1.out, HB.out⟩

set_option maxHeartbeats 4000000 in
set_option maxRecDepth 100000 in
theorem constsR (w : World) :
    Calls Tryz.prog 125 #[] w fun en w' => en = .returned (.slice (some ⟨w.heap.size, 0, none⟩) 64 64) ∧ Row w' w.heap.size 93 Kw ∧ Below w.heap.size w w' := by
  have hz0 : Row (w.alloc (.cells (cs Kw) 93)) w.heap.size 93 Kw := heap_alloc_new w _
  have HZ0 := Lib.hid hz0
  clear hz0
  go_enter Tryz.func125, Tryz.ntmps125
  go_wp2
  go_ret
  refine ⟨rfl, ?_, (Below.refl _ _).alloc (Nat.le_refl _) _⟩
  have h := HZ0.out
  unfold Row at h ⊢
  rw [Kw_cs] at h ⊢
  exact h
end Go.Proofs.YtjimgncefeldbaaGreatDoor
