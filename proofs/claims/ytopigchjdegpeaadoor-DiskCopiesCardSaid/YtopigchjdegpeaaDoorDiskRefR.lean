/-
  almonryref06: New, Read, List.
-/
import Derived.Test.YtopigchjdegpeaaDoorDiskRefS
import Derived.Test.YtopigchjdegpeaaDoorDiskList
namespace Go.Proofs.YtopigchjdegpeaaDoor
open Go.RowKit

set_option maxHeartbeats 1000000 in
set_option maxRecDepth 100000 in
theorem refNew_any (room : Nat) (w : World) :
    Calls Tryd.prog 7 #[.int .i64 (room : Int)] w fun e w' => e = .returned (rv (newS room) none 0) ∧ Below w.heap.size w w' := by
  go_enter Tryd.func7, Tryd.ntmps7
  go_wp2_with fail
  exact bodyPost_ret (results_cell_row rfl _ _ _ _ _ (0, 0) _ rfl (heap_alloc_new w _) Tryd.underlying30 rfl refDInfo) rfl ⟨rfl, Joins.below_alloc1 _ _⟩

theorem readD_yes {s : DS} {n : ByteArray} {f : FS} (ho : s.off = false) (hf : s.l[spos s.l n]? = some f) (hn : f.name = n) : readD s n = (⟨f.body.toArray⟩, 0) := by
  unfold readD
  rw [if_neg (by simp [ho]), hf]
  simp only
  rw [if_pos (cmpS_zero.2 hn)]
theorem readD_no {s : DS} {n : ByteArray} (ho : s.off = false) (ht : sthere s.l n = false) : readD s n = (⟨#[]⟩, 7) := by
  unfold readD
  rw [if_neg (by simp [ho])]
  cases hf : s.l[spos s.l n]? with
  | none => rfl
  | some f =>
    simp only
    rw [if_neg]
    intro h0
    unfold sthere at ht
    rw [hf] at ht
    simp [h0] at ht

theorem box_cells (w : World) (x0 x1 x2 x3 : Value) (w' : World) (hb : Below (w.alloc (.cells #[x0, x1, x2, x3] 30)).heap.size (w.alloc (.cells #[x0, x1, x2, x3] 30)) w') :
    w'.cell? ⟨w.heap.size, 0, none⟩ = some x0 ∧ w'.cell? ⟨w.heap.size, 1, none⟩ = some x1 ∧ w'.cell? ⟨w.heap.size, 2, none⟩ = some x2 ∧ w'.cell? ⟨w.heap.size, 3, none⟩ = some x3 := by
  have h : w'.heap[w.heap.size]? = some (.cells #[x0, x1, x2, x3] 30 (0, 0)) := by rw [hb.block _ (by simp)]; exact heap_alloc_new w _
  exact ⟨by rw [Joins.cell_of_block h]; rfl, by rw [Joins.cell_of_block h]; rfl, by rw [Joins.cell_of_block h]; rfl, by rw [Joins.cell_of_block h]; rfl⟩

set_option maxHeartbeats 4000000 in
set_option maxRecDepth 100000 in
theorem refRead_any (s : DS) (hfit : Fit s) (n : ByteArray) (p : Option Addr) (c : Nat) (w : World) (hr : RRow w p s.l) :
    Calls Tryd.prog 26 #[rv s p c, .string n] w fun e w' => e = .returned (.tuple #[.string (readD s n).1, .int .i64 (readD s n).2]) ∧ Below w.heap.size w w' := by
  have hat : ∀ W, Below w.heap.size w W → Calls Tryd.prog 42 #[rv s p c, .string n] W fun e w' => e = .returned (.int .i64 (rAt s.l n)) ∧ Below W.heap.size W w' := fun W hb => refAt_any s n p c W (hr.below hb) hfit.len
  rw [rAt_pos hfit.rises] at hat
  have hl := hfit.len
  unfold rv at hat ⊢
  have HAT := Lib.hid hat
  have HR := Lib.hid hr
  have hbm := Joins.below_alloc1 w (.cells #[.int .i64 (s.room : Int), .slice p s.l.length c, .bool s.off, .int .i64 (fz s)] 30)
  have HB := Lib.hid hbm
  clear hat hr hbm
  go_enter Tryd.func26, Tryd.ntmps26
  go_wp2_with fail
  refine (HAT.out _ HB.out).mono ?_
  rintro e w1 ⟨rfl, hb1⟩
  have HB1 := Lib.hid (HB.out.trans (hb1.mono HB.out.size))
  obtain ⟨x0, x1, x2, x3⟩ := box_cells w _ _ _ _ w1 hb1
  have hlt : w.heap.size < w1.heap.size := by have := hb1.size; simp at this; omega
  clear hb1 HB HAT
  cases ho : s.off
  · rw [ho] at x2
    cases hth : sthere s.l n
    · have HRES := Lib.hid (readD_no ho hth)
      rw [if_neg (by simp)]
      clear hth ho
      go_wp2_with fail
      go_ret2
      rw [HRES.out]
      exact ⟨rfl, HB1.out⟩
    · obtain ⟨f, hf, hfn⟩ := sthere_at hth
      have HRES := Lib.hid (readD_yes ho hf hfn)
      have hki : spos s.l n < s.l.length := (List.getElem?_eq_some_iff.1 hf).1
      have HF := Lib.hid hf
      rw [if_pos rfl]
      generalize spos s.l n = k at *
      clear hth ho hf
      obtain ⟨b, off, rfl, hbl, c0, c1, c2⟩ : ∃ b off, p = some ⟨b, off, none⟩ ∧ b < w.heap.size ∧ w1.cell? ⟨b, off + k * 3, none⟩ = some (.string f.name) ∧ w1.cell? ⟨b, off + k * 3 + 1, none⟩ = some (.string ⟨f.body.toArray⟩) ∧ w1.cell? ⟨b, off + k * 3 + 2, none⟩ = some (.int .i64 (f.sure : Int)) := by
        rcases HR.out with h | ⟨b, off, he, hb, hc⟩
        · have := HF.out; rw [h] at this; simp at this
        · obtain ⟨d0, d1, d2⟩ := hc k f HF.out
          exact ⟨b, off, he, hb, by rw [HB1.out.cell hb]; exact d0, by rw [HB1.out.cell hb]; exact d1, by rw [HB1.out.cell hb]; exact d2⟩
      have hi0 : (0 : Int) ≤ (k : Int) := by omega
      have hi1 : (k : Int) < (s.l.length : Int) := by omega
      go_wp2_with fail
      go_ret2
      rw [HRES.out]
      exact ⟨rfl, HB1.out⟩
  · have HRES := Lib.hid (show readD s n = (⟨#[]⟩, 10) by simp [readD, ho])
    rw [ho] at x2
    generalize (if sthere s.l n = true then (spos s.l n : Int) else -1) = i
    clear ho
    go_wp2_with fail
    go_ret2
    rw [HRES.out]
    exact ⟨rfl, HB1.out⟩

theorem listD_succ {l : List FS} {k : Nat} {f : FS} (p : ByteArray) (hf : l[k]? = some f) : ((l.take (k + 1)).map (·.name)).filter (hasP p) = ((l.take k).map (·.name)).filter (hasP p) ++ if hasP p f.name then [f.name] else [] := by
  rw [List.take_add_one, hf]
  simp only [List.map_append, List.filter_append, Option.toList_some, List.map_cons, List.map_nil, List.filter_cons, List.filter_nil]

set_option maxHeartbeats 4000000 in
set_option maxRecDepth 100000 in
theorem refList_any (s : DS) (hfit : Fit s) (pre : ByteArray) (p : Option Addr) (c : Nat) (w : World) (hr : RRow w p s.l) :
    Calls Tryd.prog 14 #[rv s p c, .string pre] w (ListPost (listD s pre) w) := by
  obtain ⟨i0, hi, hz0, hz1, hz2⟩ := info_parts strsInfo
  have hl := hfit.len
  unfold rv
  have HR := Lib.hid hr
  have hbm := Joins.below_alloc1 w (.cells #[.int .i64 (s.room : Int), .slice p s.l.length c, .bool s.off, .int .i64 (fz s)] 30)
  have HB := Lib.hid hbm
  clear hr hbm
  go_enter Tryd.func14, Tryd.ntmps14
  cases ho : s.off
  · have HO := Lib.hid ho
    rw [ho] at HB
    clear ho
    go_wp2_with fail
    go_loopw [5, 6] (fun v i wr => ∃ k : Nat, k ≤ s.l.length ∧ i = .int .i64 k ∧ OwnT (w.heap.size + 1) v (((s.l.take k).map (·.name)).filter (hasP pre)) wr ∧ Below (w.alloc (.cells #[.int .i64 (s.room : Int), .slice p s.l.length c, .bool false, .int .i64 (fz s)] 30)).heap.size (w.alloc (.cells #[.int .i64 (s.room : Int), .slice p s.l.length c, .bool false, .int .i64 (fz s)] 30)) wr) (fun _ i _ => s.l.length - (intOf i).toNat)
    case atStart => exact ⟨0, Nat.zero_le _, rfl, World.ownsRow_nil _ _ _ _, Below.refl _ _⟩
    case round =>
      obtain ⟨k, hk, rfl, hown, hb⟩ := hrel
      obtain ⟨x0, x1, x2, x3⟩ := box_cells w _ _ _ _ wr hb
      have HBw := Lib.hid (HB.out.trans (hb.mono HB.out.size))
      have hlt2 : w.heap.size < wr.heap.size := by have := hb.size; simp at this; omega
      have HBX := Lib.hid hb
      clear hb
      by_cases hlt : k < s.l.length
      · obtain ⟨f, hf⟩ : ∃ f, s.l[k]? = some f := ⟨_, List.getElem?_eq_getElem hlt⟩
        obtain ⟨b, off, rfl, hbl, c0, c1, c2⟩ : ∃ b off, p = some ⟨b, off, none⟩ ∧ b < w.heap.size ∧ wr.cell? ⟨b, off + k * 3, none⟩ = some (.string f.name) ∧ wr.cell? ⟨b, off + k * 3 + 1, none⟩ = some (.string ⟨f.body.toArray⟩) ∧ wr.cell? ⟨b, off + k * 3 + 2, none⟩ = some (.int .i64 (f.sure : Int)) := by
          rcases HR.out with h | ⟨b, off, he, hb, hc⟩
          · rw [h] at hf; simp at hf
          · obtain ⟨d0, d1, d2⟩ := hc k f hf
            exact ⟨b, off, he, hb, by rw [HBw.out.cell hb]; exact d0, by rw [HBw.out.cell hb]; exact d1, by rw [HBw.out.cell hb]; exact d2⟩
        have hi0 : (0 : Int) ≤ (k : Int) := by omega
        have hi1 : (k : Int) < (s.l.length : Int) := by omega
        have hbl2 : b < wr.heap.size := by omega
        have HN := Lib.hid (listD_succ pre hf)
        have hnl : (((s.l.take k).map (·.name)).filter (hasP pre)).length ≤ k := Nat.le_trans (List.length_filter_le _ _) (by rw [List.length_map]; exact List.length_take_le _ _)
        generalize ((s.l.take k).map (·.name)).filter (hasP pre) = ns at *
        have hraw := Lib.hasPrefix_raw f.name pre
        rw [show Lib.hasPrefix f.name.data.toList pre.data.toList = hasP pre f.name from rfl] at hraw
        have hps0 : (0 : Int) ≤ (pre.size : Int) := by omega
        clear hf c1 c2
        cases h1 : decide (pre.size ≤ f.name.size)
        · rw [h1, Bool.false_and] at hraw
          rw [← hraw] at HN
          have hd0 : pre.size ≤ f.name.size ↔ False := by simp at h1 ⊢; omega
          have hd1 : (pre.size ≤ f.name.size) = False := propext hd0
          have hd3 : f.name.size < pre.size := by simp at h1; omega
          have HO := Lib.hid hown
          clear hown hraw h1 hd0
          have hd2 : decide ((pre.size : Int) ≤ (f.name.size : Int)) = false := by simp; omega
          go_wp2_with fail
          go_roundw
          case rel => exact ⟨k + 1, by omega, by go_num, by have := HN.out; simp only [Bool.false_eq_true, if_false, List.append_nil] at this; rw [this]; exact HO.out, HBX.out⟩
          case measure => simp [intOf]; omega
        · rw [h1, Bool.true_and] at hraw
          have hd1 : decide ((pre.size : Int) ≤ (f.name.size : Int)) = true := by simp at h1 ⊢; omega
          have hd2 : (pre.size : Int) ≤ (f.name.size : Int) := by simp at h1; omega
          obtain ⟨q, hq⟩ : ∃ q, f.name.extract 0 pre.size = q := ⟨_, rfl⟩
          rw [hq] at hraw
          cases h2 : (q.toList == pre.toList)
          · rw [h2] at hraw
            rw [← hraw] at HN
            have HO := Lib.hid hown
            clear hown hraw h1
            go_wp2_with fail
            exact ⟨⟨k + 1, by omega, by go_num, by have := HN.out; simp only [Bool.false_eq_true, if_false, List.append_nil] at this; rw [this]; exact HO.out, HBX.out⟩, by simp [intOf]; omega⟩
          · rw [h2] at hraw
            rw [← hraw] at HN
            clear hraw h1
            go_wp2_with (at_builtin; refine wpList_append_own _ rfl _ _ 40 rfl (w.heap.size + 1) 9 i0 (.string ByteArray.empty) 1 16 Tryd.underlying40 hi hz0 hz1 hz2 rfl (by decide) _ _ _ rfl (World.ownsRow.alloc hown _) ⟨wr.heap.size, 0, none⟩ 1 1 [Value.string f.name] rfl rfl ?c1 ?c2 ?c3 ?c4 ?c5 ?_)
            case c2 => rfl
            case c3 => unfold maxLen; omega
            case c4 => omega
            case c5 => first | omega | (simp; omega)
            intro v' w3 hown3 hg3 _
            have hrow' : OwnT (w.heap.size + 1) v' (((s.l.take (k + 1)).map (·.name)).filter (hasP pre)) w3 := by
              have := HN.out
              simp only [if_true] at this
              rw [this]; unfold OwnT; rw [List.length_append, List.map_append]; exact hown3
            have hB3 : Below (w.alloc (.cells #[.int .i64 (s.room : Int), .slice (some ⟨b, off, none⟩) s.l.length c, .bool false, .int .i64 (fz s)] 30)).heap.size (w.alloc (.cells #[.int .i64 (s.room : Int), .slice (some ⟨b, off, none⟩) s.l.length c, .bool false, .int .i64 (fz s)] 30)) w3 := (HBX.out.alloc HBX.out.size _).grown hg3 (by have := HBX.out.size; simp at this ⊢; omega) (fun j hj => by have := (World.ownsRow.lt hown j hj).1; simp; omega)
            have H3 := Lib.hid hrow'
            have H4 := Lib.hid hB3
            clear hown3 hown hrow' hB3 hg3
            go_wp2_with fail
            exact ⟨⟨k + 1, by omega, by go_num, H3.out, H4.out⟩, by simp [intOf]; omega⟩
      · obtain rfl : k = s.l.length := by omega
        have hnl : decide ((s.l.length : Int) < (s.l.length : Int)) = false := by simp
        have e : listD s pre = ((s.l.take s.l.length).map (·.name)).filter (hasP pre) := by unfold listD; rw [if_neg (by simp [HO.out]), List.take_length]
        rw [← e] at hown
        have HOO := Lib.hid hown
        clear hown e
        go_wp2_with fail
        go_ret
        exact ⟨_, rfl, own_le HOO.out (by omega), HBw.out⟩
  · have HRES := Lib.hid (show listD s pre = [] by simp [listD, ho])
    rw [ho] at HB
    clear ho
    go_wp2_with fail
    go_loopw [5, 6] (fun v i wr => i = .int .i64 0 ∧ v = .slice none 0 0 ∧ (w.alloc (.cells #[.int .i64 (s.room : Int), .slice p s.l.length c, .bool true, .int .i64 (fz s)] 30)) = wr) (fun _ i _ => 0)
    case atStart => exact ⟨rfl, rfl, rfl⟩
    case round =>
      obtain ⟨rfl, rfl, rfl⟩ := hrel
      by_cases h0 : (0 : Int) < (s.l.length : Int)
      · go_wp2_with fail
        go_ret
        rw [HRES.out]
        exact ⟨_, rfl, World.ownsRow_nil _ _ _ _, HB.out⟩
      · go_wp2_with fail
        go_ret
        rw [HRES.out]
        exact ⟨_, rfl, World.ownsRow_nil _ _ _ _, HB.out⟩
end Go.Proofs.YtopigchjdegpeaaDoor
