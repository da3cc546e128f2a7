/-
  almonryref06: Crash.
-/
import Derived.Test.YtopigchjdegpeaaDoorDiskRefR
namespace Go.Proofs.YtopigchjdegpeaaDoor
open Go.RowKit

/-- what a crash of the document's leaves -/
def RTurn (s : DS) (w : World) (e : Ending) (w' : World) : Prop := ∃ p c, e = .returned (rv s p c) ∧ RRow w' p s.l ∧ Below w.heap.size w w' ∧ ∀ g off, p = some ⟨g, off, none⟩ → w.heap.size ≤ g ∧ g < w'.heap.size

def keptK (keep : Int) (f : FS) : Nat := f.sure + (min (max keep 0) ((f.body.length : Int) - (f.sure : Int))).toNat
theorem keepS_eq (keep : Int) (f : FS) : keepS keep f = ⟨f.name, f.body.take (keptK keep f), keptK keep f⟩ := rfl
theorem ext0 (l : List UInt8) (n : Nat) : (⟨l.toArray⟩ : ByteArray).extract 0 n = ⟨(l.take n).toArray⟩ := by
  apply ByteArray.ext
  apply Array.toList_inj.1
  rw [Lib.extract_data]
  simp

theorem rflat_snoc (l : List FS) (f : FS) : rflat (l ++ [f]) = rflat l ++ rcell f := by simp [rflat]

set_option maxHeartbeats 4000000 in
set_option maxRecDepth 100000 in
theorem refCrash_any (s : DS) (hfit : Fit s) (keep : Int) (hk0 : -9223372036854775808 ≤ keep) (hk1 : keep ≤ 9223372036854775807) (p : Option Addr) (c : Nat) (w : World) (hr : RRow w p s.l) :
    Calls Tryd.prog 27 #[rv s p c, .int .i64 keep] w (RTurn (crashS s keep) w) := by
  obtain ⟨i0, hi, hz0, hz1, hz2⟩ := info_parts refInfo
  have hl := hfit.len
  have htot := hfit.total
  have hroom := hfit.room
  unfold rv
  have HR := Lib.hid hr
  have h2m := two_made w (.int .i64 (s.room : Int)) (.slice p s.l.length c) (.bool s.off) (.int .i64 (fz s)) (.int .i64 0) (.slice none 0 0) (.bool false) (.int .i64 0)
  have hbm := below2 w (.cells #[.int .i64 (s.room : Int), .slice p s.l.length c, .bool s.off, .int .i64 (fz s)] 30) (.cells #[.int .i64 0, .slice none 0 0, .bool false, .int .i64 0] 30)
  have HB := Lib.hid hbm
  have H2 := Lib.hid h2m
  clear hr h2m hbm
  go_enter Tryd.func27, Tryd.ntmps27
  go_wp2_with fail
  go_loopw [5, 6] (fun v i wr => ∃ k : Nat, k ≤ s.l.length ∧ i = .int .i64 k ∧ OwnR (w.heap.size + 2) v ((s.l.take k).map (keepS keep)) wr ∧ Two w.heap.size (.int .i64 (s.room : Int)) (.slice p s.l.length c) (.bool s.off) (.int .i64 (fz s)) (.int .i64 0) (.slice none 0 0) (.bool false) (.int .i64 0) wr ∧ Below w.heap.size w wr) (fun _ i _ => s.l.length - (intOf i).toNat)
  case atStart => exact ⟨0, Nat.zero_le _, rfl, World.ownsRow_nil _ _ _ _, H2.out, HB.out⟩
  case round =>
    obtain ⟨k, hk, rfl, hown, h2, hb⟩ := hrel
    have HBw := Lib.hid hb
    have HT := Lib.hid h2
    obtain ⟨x0, x1, x2, x3, y0, y1, y2, y3, f0, f1, f2, f3, g0, g1, g2, g3, hlt0⟩ := h2.cells
    clear h2 hb
    have hltw : w.heap.size < wr.heap.size := by omega
    by_cases hlt : k < s.l.length
    · obtain ⟨f, hf⟩ : ∃ f, s.l[k]? = some f := ⟨_, List.getElem?_eq_getElem hlt⟩
      have hbl0 := Nat.le_trans (show f.body.length ≤ stotal s.l by rw [stotal_split hf]; omega) htot
      have hsu := hfit.sure f (List.mem_of_getElem? hf)
      have HN := Lib.hid (show (s.l.take (k + 1)).map (keepS keep) = (s.l.take k).map (keepS keep) ++ [keepS keep f] by rw [List.take_add_one, hf]; simp)
      have hnl : ((s.l.take k).map (keepS keep)).length ≤ k := by rw [List.length_map]; exact List.length_take_le _ _
      obtain ⟨b, off, rfl, hbl, c0, c1, c2⟩ : ∃ b off, p = some ⟨b, off, none⟩ ∧ b < w.heap.size ∧ wr.cell? ⟨b, off + k * 3, none⟩ = some (.string f.name) ∧ wr.cell? ⟨b, off + k * 3 + 1, none⟩ = some (.string ⟨f.body.toArray⟩) ∧ wr.cell? ⟨b, off + k * 3 + 2, none⟩ = some (.int .i64 (f.sure : Int)) := by
        rcases HR.out with h | ⟨b, off, he, hb, hc⟩
        · rw [h] at hf; simp at hf
        · obtain ⟨d0, d1, d2⟩ := hc k f hf
          exact ⟨b, off, he, hb, by rw [HBw.out.cell hb]; exact d0, by rw [HBw.out.cell hb]; exact d1, by rw [HBw.out.cell hb]; exact d2⟩
      have hi0 : (0 : Int) ≤ (k : Int) := by omega
      have hi1 : (k : Int) < (s.l.length : Int) := by omega
      have hbl2 : b < wr.heap.size := by omega
      rw [keepS_eq] at HN
      have hkK : keptK keep f = f.sure + (min (max keep 0) ((f.body.length : Int) - (f.sure : Int))).toNat := rfl
      generalize (s.l.take k).map (keepS keep) = ns at *
      have hext := ext0 f.body (keptK keep f)
      have hbz := text_size f.body
      generalize keptK keep f = N at *
      obtain ⟨fb, hfb⟩ : ∃ fb, (⟨f.body.toArray⟩ : ByteArray) = fb := ⟨_, rfl⟩
      obtain ⟨nb, hnb⟩ : ∃ nb, (⟨(f.body.take N).toArray⟩ : ByteArray) = nb := ⟨_, rfl⟩
      rw [hfb] at hext c1 hbz
      rw [hnb] at hext
      have HNB := Lib.hid hnb
      clear hf hfb hnb htot
      have hNle : N ≤ fb.size := by omega
      have hNI : (N : Int) ≤ (fb.size : Int) := by omega
      have hbzI : (f.body.length : Int) = (fb.size : Int) := by omega
      have hfz : fb.size ≤ 4194304 := by omega
      generalize f.body.length = bl at *
      generalize f.sure = su at *
      have hwm : IntKind.i64.wrap ((fb.size : Int) - (su : Int)) = (fb.size : Int) - (su : Int) := by rw [IntKind.wrap_i64]; omega
      have hsub : (su : Int) ≤ (fb.size : Int) := by omega
      have hmx : (su : Int) + max 0 (min keep ((fb.size : Int) - (su : Int))) = (N : Int) := by omega
      have HBF := Lib.hid ((HBw.out.alloc HBw.out.size (.cells #[.string f.name, .string nb, .int .i64 (N : Int)] 66)).alloc (by have := HBw.out.size; simp; omega) (.cells #[.string f.name, .string nb, .int .i64 (N : Int)] 66))
      have HTF := Lib.hid ((HT.out.alloc (.cells #[.string f.name, .string nb, .int .i64 (N : Int)] 66)).alloc (.cells #[.string f.name, .string nb, .int .i64 (N : Int)] 66))
      have hown1 := World.ownsRow.alloc (World.ownsRow.alloc hown (.cells #[.string f.name, .string nb, .int .i64 (N : Int)] 66)) (.cells #[.string f.name, .string nb, .int .i64 (N : Int)] 66)
      clear hown hkK hbz hbzI
      go_wp2_with (at_builtin; refine wpList_append_own _ rfl _ _ 28 rfl (w.heap.size + 2) 66 i0 (.agg #[.string ByteArray.empty, .string ByteArray.empty, .int .i64 0]) 3 40 Tryd.underlying28 hi hz0 hz1 hz2 rfl (by decide) _ _ _ rfl hown1 ⟨wr.heap.size + 1, 0, none⟩ 1 1 [.string f.name, .string nb, .int .i64 (N : Int)] rfl rfl ?d1 ?d2 ?d3 ?d4 ?d5 ?_)
      case d1 =>
        intro j u hj
        match j, hj with
        | 0, hj => simp at hj; subst hj; simp [Addr.add, go_sem]
        | 1, hj => simp at hj; subst hj; simp [Addr.add, go_sem]
        | 2, hj => simp at hj; subst hj; simp [Addr.add, go_sem]
      case d2 => intro u hu; simp at hu; rcases hu with rfl | rfl | rfl <;> rfl
      case d3 => unfold maxLen; omega
      case d4 => omega
      case d5 => simp; omega
      intro v' w3 hown3 hg3 _
      have hrow' : OwnR (w.heap.size + 2) v' ((s.l.take (k + 1)).map (keepS keep)) w3 := by
        rw [HN.out]
        unfold OwnR
        rw [List.length_append, rflat_snoc]
        unfold rcell
        simp only
        rw [HNB.out]
        exact hown3
      have hB3 : Below w.heap.size w w3 := HBF.out.grown hg3 (by simp; omega) (fun j hj => by have := (World.ownsRow.lt hown1 j hj).1; omega)
      have hT3 : Two w.heap.size (.int .i64 (s.room : Int)) (.slice (some ⟨b, off, none⟩) s.l.length c) (.bool s.off) (.int .i64 (fz s)) (.int .i64 0) (.slice none 0 0) (.bool false) (.int .i64 0) w3 := by
        have hne : ∀ j, Value.ownBlock _ = some j → _ := fun j hj => (World.ownsRow.lt hown1 j hj).1
        exact ⟨by rw [hg3.block _ (lt_of_block HTF.out.1) (fun e => by have := hne _ e.symm; omega)]; exact HTF.out.1, by rw [hg3.block _ (lt_of_block HTF.out.2) (fun e => by have := hne _ e.symm; omega)]; exact HTF.out.2⟩
      have H3 := Lib.hid hrow'
      have H4 := Lib.hid hB3
      have H5 := Lib.hid hT3
      clear hown3 hown1 hrow' hB3 hT3 hg3
      go_wp2_with fail
      exact ⟨⟨k + 1, by omega, by go_num, H3.out, H5.out, H4.out⟩, by simp [intOf]; omega⟩
    · obtain rfl : k = s.l.length := by omega
      rw [List.take_length] at hown
      obtain ⟨q, cq, rfl, hrow, hq⟩ := hown.parts
      have hqn : ∀ g off, q = some ⟨g, off, none⟩ → g ≠ w.heap.size + 1 ∧ w.heap.size ≤ g ∧ g < wr.heap.size := fun g off he => by have := hq g off he; omega
      have HRES := Lib.hid (show rv (crashS s keep) q cq = .agg #[.int .i64 (s.room : Int), .slice q (s.l.map (keepS keep)).length cq, .bool false, .int .i64 (-1)] from rfl)
      have HRR := Lib.hid (And.intro hrow hqn)
      have hcl : (crashS s keep).l = s.l.map (keepS keep) := rfl
      generalize s.l.map (keepS keep) = L at *
      have HCL := Lib.hid hcl
      clear hown hrow hq hqn hcl
      have hnl : decide ((s.l.length : Int) < (s.l.length : Int)) = false := by simp
      go_wp2_with fail
      refine bodyPost_ret (results_cell_row rfl _ _ _ _ _ (0, 0) _ rfl (four_set HT.out.2 _ _ _ _) Tryd.underlying30 rfl refDInfo) rfl ?_
      exact ⟨q, cq, by rw [HRES.out], by rw [HCL.out]; exact HRR.out.1.four (fun g off he => (HRR.out.2 g off he).1) _ _ _ _, below_four HBw.out (by omega) _ _ _ _, fun g off he => ⟨(HRR.out.2 g off he).2.1, by simpa using (HRR.out.2 g off he).2.2⟩⟩
end Go.Proofs.YtopigchjdegpeaaDoor
