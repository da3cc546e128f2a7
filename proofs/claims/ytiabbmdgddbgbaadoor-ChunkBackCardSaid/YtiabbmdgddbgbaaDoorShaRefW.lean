/-
  almonryref02's words and constants: what each call answers.
-/
import Derived.Test.YtiabbmdgddbgbaaDoorGShaA
namespace Go.Proofs.YtiabbmdgddbgbaaDoor
open Go.RowKit

attribute [local go_sem] xr_bits an_bits og_bits ad_mod nt_bits u32_plain sr3 sr10

theorem endsR {w0 w1 : World} {b t : Nat} {T : TypeId} {W : List Wd} {v : Wd} (h16 : 16 ≤ t) (hlt : t < 64) (h1 : Row w1 b T (w2 W (t - 16))) (hb : Below b w0 w1)
    (hs : w2 W (t + 1 - 16) = (w2 W (t - 16)).set t v) : ∃ t' : Nat, 16 ≤ t' ∧ t' ≤ 64 ∧ Value.int .i64 ((t : Int) + 1) = .int .i64 t' ∧
      Row (w1.setCell ⟨b, t, none⟩ (.int .u32 (wv v))) b T (w2 W (t' - 16)) ∧ Below b w0 (w1.setCell ⟨b, t, none⟩ (.int .u32 (wv v))) :=
  ⟨t + 1, by omega, by omega, by simp, by rw [hs]; exact h1.set t _, hb.setCell (Nat.le_refl _) _⟩

set_option maxHeartbeats 8000000 in
set_option maxRecDepth 100000 in
theorem wordsR (s : ByteArray) (w : World) (hs : s.size ≤ 9223372036854775807) :
    Calls Tryd.prog 73 #[.string s] w fun en w' => en = .returned (.slice (some ⟨w.heap.size, 0, none⟩) 64 64) ∧ Row w' w.heap.size 101 (sWords s.data.toList) ∧ Below w.heap.size w w' := by
  have hmk : ∀ W : World, (Instr.makeSlice 110 (.int .i64 64) (.int .i64 64)).run Tryd.prog W = .ok (.slice (some ⟨W.heap.size, 0, none⟩) 64 64) (W.alloc (.cells (cs Z64) 101)) := fun _ => by rw [Z64_cs]; kernel_rfl
  have hz0 : Row (w.alloc (.cells (cs Z64) 101)) w.heap.size 101 Z64 := heap_alloc_new w _
  have hsl : s.data.toList.length = s.size := by simp
  have HZ0 := Lib.hid hz0
  have HSL := Lib.hid hsl
  clear hz0 hsl
  go_enter Tryd.func73, Tryd.ntmps73
  go_wp2
  go_loopw [4] (fun i wr => ∃ k : Nat, k ≤ s.size ∧ k ≤ 64 ∧ i = .int .i64 k ∧ Row wr w.heap.size 101 (w1 s.data.toList k) ∧ Below w.heap.size w wr) (fun i _ => 64 - (intOf i).toNat)
  case atStart => exact ⟨0, Nat.zero_le _, by omega, rfl, by rw [w1_zero]; exact HZ0.out, (Below.refl _ _).alloc (Nat.le_refl _) _⟩
  case round =>
    obtain ⟨k, hk, hk4, rfl, hr1, hb⟩ := hrel
    have HR1 := Lib.hid hr1
    have HB := Lib.hid hb
    have hlt1 := hr1.lt
    by_cases hlt : k < s.size ∧ k < 64
    · obtain ⟨hlt, hlt4⟩ := hlt
      have hcell := hr1.cell (k / 4) (by rw [w1_len]; omega)
      have hfree := hr1.free (k / 4)
      have hd : s.data.toList[k]'(by rw [HSL.out]; exact hlt) = s[k] := rfl
      have hst := w1_step s.data.toList k (by rw [HSL.out]; exact hlt)
      rw [hd] at hst
      have HST := Lib.hid hst
      clear hst hd hr1 hb
      go_wp2
      go_region
      go_wp2
      obtain ⟨y, hy, hw⟩ := HST.out _ rfl
      rw [List.getD_eq_getElem?_getD] at hy
      refine ⟨⟨k + 1, by omega, by omega, by go_num, ?_, ?_⟩, by simp [intOf]; omega⟩
      · rw [hw]
        have := HR1.out.set (k / 4) y
        rw [← hy] at this
        exact this.drew
      · exact (HB.out.setCell (by simp) _).drew
    · have hkm : k = min s.data.toList.length 64 := by rw [HSL.out]; omega
      have HKM := Lib.hid hkm
      have HL := Lib.hid (w1_len s.data.toList k)
      generalize hWW : w1 s.data.toList k = W at HR1 HL
      have HW := Lib.hid hWW
      have hcase : k = 64 ∨ (k < 64 ∧ k = s.size) := by omega
      clear hkm hr1 hb hWW hlt
      rcases hcase with hcase | ⟨hc1, hc2⟩
      all_goals
        first
          | ((have hd1 : decide ((k : Int) < 64) = false := by simp; omega); clear hcase)
          | ((have hd1 : decide ((k : Int) < 64) = true := by simp; omega); (have hd2 : decide (k < s.size) = false := by simp; omega); clear hc1 hc2)
        go_wp2
        go_loopw [5] (fun i wt => ∃ t : Nat, 16 ≤ t ∧ t ≤ 64 ∧ i = .int .i64 t ∧ Row wt w.heap.size 101 (w2 W (t - 16)) ∧ Below w.heap.size w wt) (fun i _ => 64 - (intOf i).toNat)
        case atStart => exact ⟨16, by omega, by omega, rfl, by rw [w2_zero]; exact HR1.out, HB.out⟩
        case round =>
          clear HR1 HB hlt1
          obtain ⟨t, ht16, ht64, rfl, hr1, hb⟩ := hrel
          have hl2 := w2_len W HL.out (t - 16)
          have hlt1 := hr1.lt
          by_cases hlt : t < 64
          · have cx := hr1.cell (t - 15) (by omega)
            have cy := hr1.cell (t - 2) (by omega)
            have ca := hr1.cell (t - 16) (by omega)
            have cb := hr1.cell (t - 7) (by omega)
            obtain ⟨co, hco⟩ : ∃ c : Value, wr.cell? ⟨w.heap.size, t, none⟩ = some c := ⟨_, hr1.cell t (by omega)⟩
            have hfree := hr1.free t
            have hst := w2_step W t ht16
            unfold nextW at hst
            generalize (w2 W (t - 16)).getD (t - 15) 0 = x at cx hst
            generalize (w2 W (t - 16)).getD (t - 2) 0 = y at cy hst
            generalize (w2 W (t - 16)).getD (t - 16) 0 = a at ca hst
            generalize (w2 W (t - 16)).getD (t - 7) 0 = b at cb hst
            have HR1 := Lib.hid hr1
            have HB := Lib.hid hb
            have HST := Lib.hid hst
            clear hr1 hb hst hl2
            go_wp2
            go_quiet (fail)
            go_wp2_with ((go_at_call 75; refine (turnR _ _ _ (by decide) (by decide)).mono ?_; rintro en w' ⟨rfl, rfl⟩))
            go_region
            go_wp2
            have hrel1 := endsR ht16 hlt (HR1.out.drewN (nq + 1)) (belowN HB.out (nq + 1)) HST.out
            have hm : 64 - (intOf (Value.int IntKind.i64 ((t : Int) + 1))).toNat < 64 - (intOf (Value.int IntKind.i64 (t : Int))).toNat := by simp [intOf]; omega
            first | exact ⟨hrel1, hm⟩ | (refine ⟨?_, hm⟩; (repeat apply Exists.intro); exact ⟨hrel1, rfl⟩)
          · obtain rfl : t = 64 := by omega
            have hfin : w2 W (64 - 16) = sWords s.data.toList := by
              rw [sWords_is]; rw [← HKM.out, HW.out]
            rw [hfin] at hr1
            have HR1 := Lib.hid hr1
            have HB := Lib.hid hb
            clear hr1 hb hfin hl2
            go_wp2
            go_ret
            exact ⟨rfl, HR1.out, HB.out⟩

set_option maxHeartbeats 4000000 in
set_option maxRecDepth 100000 in
theorem constsR (w : World) :
    Calls Tryd.prog 74 #[] w fun en w' => en = .returned (.slice (some ⟨w.heap.size, 0, none⟩) 64 64) ∧ Row w' w.heap.size 101 Kw ∧ Below w.heap.size w w' := by
  have hz0 : Row (w.alloc (.cells (cs Kw) 101)) w.heap.size 101 Kw := heap_alloc_new w _
  have HZ0 := Lib.hid hz0
  clear hz0
  go_enter Tryd.func74, Tryd.ntmps74
  go_wp2
  go_ret
  refine ⟨rfl, ?_, (Below.refl _ _).alloc (Nat.le_refl _) _⟩
  have h := HZ0.out
  unfold Row at h ⊢
  rw [Kw_cs] at h ⊢
  exact h
end Go.Proofs.YtiabbmdgddbgbaaDoor
