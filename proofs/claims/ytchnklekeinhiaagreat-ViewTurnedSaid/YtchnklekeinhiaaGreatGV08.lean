/-
  almonryref01's reader R: what each call answers.
  almonryref01's reader R: Text, List, Done.
-/
import Derived.Test.YtchnklekeinhiaaGreatGV04
import Derived.Test.YtchnklekeinhiaaGreatGV01
import Derived.Laws.ResultCell
import Derived.BigRegion
import Derived.RegionTactic
import Derived.ChangeAlike
namespace Go.Proofs.YtchnklekeinhiaaGreat
open Go.RowKit

/-- a state as a value -/
abbrev rv (st : ByteArray × Int) : Value := .agg #[.string st.1, .int .i64 st.2]

theorem lev_drop (l : List UInt8) (i : Nat) (h : i < l.length) : lev (l.drop i) = l[i].toNat % 128 + 128 * lev (l.drop (i + 1)) := by
  rw [List.drop_eq_getElem_cons h]; rfl

/-- numR, in the order in which the document's answer asks -/
theorem numR_form {l : List UInt8} (h1 : run l < l.length) (h2 : run l ≤ 7) (h3 : l.getD (run l) 0 = 0) (h4 : 0 < run l) : numR l = (0, 0, 5) := by
  have e : l.take (run l + 1) = l.take (run l) ++ [l[run l]] := by rw [List.take_succ_eq_append_getElem h1]
  have hz : l[run l] = 0 := by rw [List.getD_eq_getElem?_getD, List.getElem?_eq_getElem h1] at h3; exact h3
  have hv : lev (l.take (run l + 1)) = lev (l.take (run l)) := by rw [e, lev_snoc, hz]; simp
  have hlt := lev_lt (l.take (run l))
  have hle : (l.take (run l)).length = run l := by rw [List.length_take]; omega
  have hp : 128 ^ run l ≤ 128 ^ 7 := Nat.pow_le_pow_right (by omega) h2
  rw [hle] at hlt
  unfold numR
  rw [if_neg (by omega), if_neg (by rw [hv]; omega), if_pos ⟨h3, h4⟩]

theorem below2 (w : World) (o1 o2 : Obj) : Below w.heap.size w ((w.alloc o1).alloc o2) := ((Below.refl _ _).alloc (Nat.le_refl _) _).alloc (by simp) _

set_option maxHeartbeats 4000000 in
set_option maxRecDepth 100000 in
theorem refR_num (s : ByteArray) (er : Int) (hs : s.size ≤ 9223372036854775807) (w : World) :
    Calls Tryz.prog 59 #[.agg #[.string s, .int .i64 er]] w fun e w' => e = .returned (.tuple #[rv (sNum (s, er)).2, .int .i64 (sNum (s, er)).1]) ∧ Below w.heap.size w w' := by
  by_cases he : er = 0
  · subst he
    have hsz : s.data.toList.length = s.size := by simp
    go_enter Tryz.func59, Tryz.ntmps59
    go_wp2
    go_loop [4] (fun i => ∃ k : Nat, i = .int .i64 k ∧ k ≤ s.size ∧ ∀ j (h : j < s.data.toList.length), j < k → 128 ≤ s.data.toList[j].toNat) (fun i => s.size - (intOf i).toNat)
    case atStart => exact ⟨0, rfl, Nat.zero_le _, by omega⟩
    case round =>
      obtain ⟨k, rfl, hk, hall⟩ := hrel
      have HA := Lib.hid hall
      clear hall
      by_cases hlt : k < s.size
      · have hlt' : k < s.data.toList.length := by omega
        have hdat : s.data.toList[k] = s[k] := rfl
        have hbd : s[k].toNat < 256 := UInt8.toNat_lt _
        by_cases hd : 128 ≤ (s[k].toNat : Int)
        · have hlti : (k : Int) < (s.size : Int) := by omega
          go_wp2
          go_round
          case rel =>
            refine ⟨k + 1, by go_num, by omega, fun j h hj => ?_⟩
            by_cases e : j = k
            · subst e; have : s.data.toList[j] = s[j] := rfl; rw [this]; omega
            · exact HA.out j h (by omega)
          case measure => simp [intOf]; omega
        · have hrun : run s.data.toList = k := run_of _ k hlt' HA.out (by rw [hdat]; omega)
          have hget : s.data.toList.getD k 0 = s[k] := by rw [List.getD_eq_getElem?_getD, List.getElem?_eq_getElem hlt']; rfl
          have hlti : (k : Int) < (s.size : Int) := by omega
          have hne : ((k : Int) == (s.size : Int)) = false := by simp; omega
          by_cases h7 : 7 < k
          · have hfin : sNum (s, 0) = (0, (s, 2)) := by
              have h1 : numR s.data.toList = (0, 0, 2) := by unfold numR; rw [hrun, if_neg (by omega), if_pos (.inl (by omega))]
              simp only [sNum, h1]; rfl
            have HF := Lib.hid hfin
            clear hfin hrun hget
            go_wp2
            refine bodyPost_ret (v := .tuple #[rv (s, 2), .int .i64 0]) (by simp [results, Tryz.results59, go_sem]) rfl ?_
            rw [HF.out]
            exact ⟨rfl, below2 w _ _⟩
          · by_cases hz : s[k].toNat = 0
            · have hzb : ((s[k].toNat : Int) == 0) = true := by simp; omega
              have hz' : s[k] = 0 := UInt8.toNat_inj.1 (by simpa using hz)
              by_cases hk0 : 0 < k
              · have hfin : sNum (s, 0) = (0, (s, 5)) := by
                  have h1 : numR s.data.toList = (0, 0, 5) := numR_form (by omega) (by omega) (by rw [hrun, hget, hz']) (by omega)
                  simp only [sNum, h1]; rfl
                have HF := Lib.hid hfin
                clear hfin hrun hget hz hz'
                have hki : (0 : Int) < (k : Int) := by omega
                go_wp2
                refine bodyPost_ret (v := .tuple #[rv (s, 5), .int .i64 0]) (by simp [results, Tryz.results59, go_sem]) rfl ?_
                rw [HF.out]
                exact ⟨rfl, below2 w _ _⟩
              · have hki : ¬ (0 : Int) < (k : Int) := by omega
                clear hz hz'
                have hlv : lev (s.data.toList.take (k + 1)) < 72057594037927936 := by
                  have h1 := lev_lt (s.data.toList.take (k + 1))
                  have h2 : (s.data.toList.take (k + 1)).length ≤ 8 := by rw [List.length_take]; omega
                  exact Nat.lt_of_lt_of_le h1 (Nat.le_trans (Nat.pow_le_pow_right (by omega) h2) (by decide))
                have HRN := Lib.hid hrun
                have HGT := Lib.hid hget
                clear hrun hget
                go_wp2
                go_loop [5, 6] (fun n i => (∃ j : Nat, j ≤ k ∧ i = .int .i64 j ∧ n = .int .i64 (lev ((s.data.toList.take (k + 1)).drop (j + 1)) : Nat)) ∨ (i = .int .i64 (-1) ∧ n = .int .i64 (lev (s.data.toList.take (k + 1)) : Nat))) (fun _ i => (intOf i + 1).toNat)
                case atStart =>
                  refine .inl ⟨k, Nat.le_refl _, rfl, ?_⟩
                  rw [List.drop_of_length_le (by rw [List.length_take]; omega)]; rfl
                case round =>
                  rcases hrel with ⟨j, hj, rfl, rfl⟩ | ⟨rfl, rfl⟩
                  · have hjl : j < (s.data.toList.take (k + 1)).length := by rw [List.length_take]; omega
                    have hst := lev_drop (s.data.toList.take (k + 1)) j hjl
                    have hjj : (s.data.toList.take (k + 1))[j] = s[j] := by rw [List.getElem_take]; rfl
                    rw [hjj] at hst
                    have hbj : s[j].toNat < 256 := UInt8.toNat_lt _
                    have hN' : lev ((s.data.toList.take (k + 1)).drop j) < 72057594037927936 := by
                      have h1 := lev_lt ((s.data.toList.take (k + 1)).drop j)
                      have h2 : ((s.data.toList.take (k + 1)).drop j).length ≤ 8 := by rw [List.length_drop, List.length_take]; omega
                      exact Nat.lt_of_lt_of_le h1 (Nat.le_trans (Nat.pow_le_pow_right (by omega) h2) (by decide))
                    have hN : lev ((s.data.toList.take (k + 1)).drop (j + 1)) < 72057594037927936 := by omega
                    have hjs : (j : Int) < (s.size : Int) := by omega
                    have hj0 : (0 : Int) ≤ (j : Int) := by omega
                    have HST := Lib.hid hst
                    have hd0 : (s.data.toList.take (k + 1)).drop 0 = s.data.toList.take (k + 1) := List.drop_zero
                    have HD0 := Lib.hid hd0
                    clear hst hd0 hN' hjj
                    generalize hNN : lev ((s.data.toList.take (k + 1)).drop (j + 1)) = N at hN ⊢
                    have HNN := Lib.hid hNN
                    clear hNN
                    go_wp2
                    go_round
                    case rel =>
                      have h5 := HST.out
                      rw [HNN.out] at h5
                      by_cases hj00 : j = 0
                      · subst hj00
                        refine .inr ⟨by go_num, ?_⟩
                        rw [HD0.out] at h5
                        rw [h5]; first | done | go_num
                      · obtain ⟨i, rfl⟩ : ∃ i, j = i + 1 := ⟨j - 1, by omega⟩
                        refine .inl ⟨i, by omega, by go_num, ?_⟩
                        rw [h5]; first | done | go_num
                    case measure => simp [intOf] <;> omega
                  · generalize hNN : lev (s.data.toList.take (k + 1)) = N at hlv ⊢
                    have HNN := Lib.hid hNN
                    clear hNN
                    by_cases hbig : 9007199254740992 < N
                    · have hfin : sNum (s, 0) = (0, (s, 2)) := by
                        have h1 : numR s.data.toList = (0, 0, 2) := by unfold numR; rw [HRN.out, if_neg (by omega), if_pos (.inr (by rw [HNN.out]; exact hbig))]
                        simp only [sNum, h1]; rfl
                      have HF := Lib.hid hfin
                      clear hfin
                      go_wp2
                      refine bodyPost_ret (v := .tuple #[rv (s, 2), .int .i64 0]) (by simp [results, Tryz.results59, go_sem]) rfl ?_
                      rw [HF.out]
                      exact ⟨rfl, below2 w _ _⟩
                    · have hfin : sNum (s, 0) = (N, (s.extract (k + 1) s.size, 0)) := by
                        have h1 : numR s.data.toList = (N, k + 1, 0) := by unfold numR; rw [HRN.out, if_neg (by omega), if_neg (by rw [HNN.out]; omega), if_neg (by omega), HNN.out]
                        simp only [sNum, h1]; rfl
                      have HF := Lib.hid hfin
                      have hk1 : k + 1 ≤ s.size := hlt
                      clear hfin
                      go_wp2
                      refine bodyPost_ret (v := .tuple #[rv (s.extract (k + 1) s.size, 0), .int .i64 N]) (by simp [results, Tryz.results59, go_sem]) rfl ?_
                      rw [HF.out]
                      exact ⟨rfl, below2 w _ _⟩
            · have hzb : ((s[k].toNat : Int) == 0) = false := by simp; omega
              have hz' : s[k] ≠ 0 := fun h => hz (by rw [h]; rfl)
              have HZ := Lib.hid hz'
              clear hz'
              have hlv : lev (s.data.toList.take (k + 1)) < 72057594037927936 := by
                have h1 := lev_lt (s.data.toList.take (k + 1))
                have h2 : (s.data.toList.take (k + 1)).length ≤ 8 := by rw [List.length_take]; omega
                exact Nat.lt_of_lt_of_le h1 (Nat.le_trans (Nat.pow_le_pow_right (by omega) h2) (by decide))
              have HRN := Lib.hid hrun
              have HGT := Lib.hid hget
              clear hrun hget
              go_wp2
              go_loop [5, 6] (fun n i => (∃ j : Nat, j ≤ k ∧ i = .int .i64 j ∧ n = .int .i64 (lev ((s.data.toList.take (k + 1)).drop (j + 1)) : Nat)) ∨ (i = .int .i64 (-1) ∧ n = .int .i64 (lev (s.data.toList.take (k + 1)) : Nat))) (fun _ i => (intOf i + 1).toNat)
              case atStart =>
                refine .inl ⟨k, Nat.le_refl _, rfl, ?_⟩
                rw [List.drop_of_length_le (by rw [List.length_take]; omega)]; rfl
              case round =>
                rcases hrel with ⟨j, hj, rfl, rfl⟩ | ⟨rfl, rfl⟩
                · have hjl : j < (s.data.toList.take (k + 1)).length := by rw [List.length_take]; omega
                  have hst := lev_drop (s.data.toList.take (k + 1)) j hjl
                  have hjj : (s.data.toList.take (k + 1))[j] = s[j] := by rw [List.getElem_take]; rfl
                  rw [hjj] at hst
                  have hbj : s[j].toNat < 256 := UInt8.toNat_lt _
                  have hN' : lev ((s.data.toList.take (k + 1)).drop j) < 72057594037927936 := by
                    have h1 := lev_lt ((s.data.toList.take (k + 1)).drop j)
                    have h2 : ((s.data.toList.take (k + 1)).drop j).length ≤ 8 := by rw [List.length_drop, List.length_take]; omega
                    exact Nat.lt_of_lt_of_le h1 (Nat.le_trans (Nat.pow_le_pow_right (by omega) h2) (by decide))
                  have hN : lev ((s.data.toList.take (k + 1)).drop (j + 1)) < 72057594037927936 := by omega
                  have hjs : (j : Int) < (s.size : Int) := by omega
                  have hj0 : (0 : Int) ≤ (j : Int) := by omega
                  have HST := Lib.hid hst
                  have hd0 : (s.data.toList.take (k + 1)).drop 0 = s.data.toList.take (k + 1) := List.drop_zero
                  have HD0 := Lib.hid hd0
                  clear hst hd0 hN' hjj
                  generalize hNN : lev ((s.data.toList.take (k + 1)).drop (j + 1)) = N at hN ⊢
                  have HNN := Lib.hid hNN
                  clear hNN
                  go_wp2
                  go_round
                  case rel =>
                    have h5 := HST.out
                    rw [HNN.out] at h5
                    by_cases hj00 : j = 0
                    · subst hj00
                      refine .inr ⟨by go_num, ?_⟩
                      rw [HD0.out] at h5
                      rw [h5]; first | done | go_num
                    · obtain ⟨i, rfl⟩ : ∃ i, j = i + 1 := ⟨j - 1, by omega⟩
                      refine .inl ⟨i, by omega, by go_num, ?_⟩
                      rw [h5]; first | done | go_num
                  case measure => simp [intOf] <;> omega
                · generalize hNN : lev (s.data.toList.take (k + 1)) = N at hlv ⊢
                  have HNN := Lib.hid hNN
                  clear hNN
                  by_cases hbig : 9007199254740992 < N
                  · have hfin : sNum (s, 0) = (0, (s, 2)) := by
                      have h1 : numR s.data.toList = (0, 0, 2) := by unfold numR; rw [HRN.out, if_neg (by omega), if_pos (.inr (by rw [HNN.out]; exact hbig))]
                      simp only [sNum, h1]; rfl
                    have HF := Lib.hid hfin
                    clear hfin
                    go_wp2
                    refine bodyPost_ret (v := .tuple #[rv (s, 2), .int .i64 0]) (by simp [results, Tryz.results59, go_sem]) rfl ?_
                    rw [HF.out]
                    exact ⟨rfl, below2 w _ _⟩
                  · have hfin : sNum (s, 0) = (N, (s.extract (k + 1) s.size, 0)) := by
                      have h1 : numR s.data.toList = (N, k + 1, 0) := by unfold numR; rw [HRN.out, if_neg (by omega), if_neg (by rw [HNN.out]; omega), if_neg (by rw [HGT.out]; exact fun h => HZ.out h.1), HNN.out]
                      simp only [sNum, h1]; rfl
                    have HF := Lib.hid hfin
                    have hk1 : k + 1 ≤ s.size := hlt
                    clear hfin
                    go_wp2
                    refine bodyPost_ret (v := .tuple #[rv (s.extract (k + 1) s.size, 0), .int .i64 N]) (by simp [results, Tryz.results59, go_sem]) rfl ?_
                    rw [HF.out]
                    exact ⟨rfl, below2 w _ _⟩
      · have hne : ((k : Int) == (s.size : Int)) = true := by simp; omega
        have hrun : run s.data.toList = s.data.toList.length := run_all _ (fun j h => HA.out j h (by omega))
        have hfin : sNum (s, 0) = (0, (s, 4)) := by
          have h1 : numR s.data.toList = (0, 0, 4) := by unfold numR; rw [if_pos hrun]
          simp only [sNum, h1]; rfl
        have HF := Lib.hid hfin
        clear hfin hrun
        go_wp2
        refine bodyPost_ret (v := .tuple #[rv (s, 4), .int .i64 0]) (by simp [results, Tryz.results59, go_sem]) rfl ?_
        rw [HF.out]
        exact ⟨rfl, below2 w _ _⟩
  · have hb : (er != 0) = true := by simp [he]
    have hfin : sNum (s, er) = (0, (s, er)) := by simp [sNum, he]
    have HF := Lib.hid hfin
    clear hfin
    go_enter Tryz.func59, Tryz.ntmps59
    go_wp2
    refine bodyPost_ret (v := .tuple #[rv (s, er), .int .i64 0]) (by simp [results, Tryz.results59, go_sem]) rfl ?_
    rw [HF.out]
    exact ⟨rfl, below2 w _ _⟩
end Go.Proofs.YtchnklekeinhiaaGreat

namespace Go.Proofs.YtchnklekeinhiaaGreat
open Go.RowKit

/-- the state that R hands on: on an error, what was left ahead -/
def qSt (st st' : ByteArray × Int) : ByteArray × Int := if st'.2 = 0 then st' else (st.1, st'.2)

theorem sText_e {st : ByteArray × Int} {n : Nat} {s1 : ByteArray} {e : Int} (h : sNum st = (n, (s1, e))) (he : e ≠ 0) : sText st = (ByteArray.empty, (s1, e)) := by
  have hc : sCount 65536 st = (0, false, (s1, e)) := by simp [sCount, h, he]
  simp [sText, hc]
theorem sText_l {st : ByteArray × Int} {n : Nat} {s1 : ByteArray} (h : sNum st = (n, (s1, 0))) (hn : 65536 < n) : sText st = (ByteArray.empty, (s1, 3)) := by
  have hc : sCount 65536 st = (0, false, (s1, 3)) := by simp [sCount, h, hn]
  simp [sText, hc]
theorem sText_c {st : ByteArray × Int} {n : Nat} {s1 : ByteArray} (h : sNum st = (n, (s1, 0))) (hn : ¬ 65536 < n) (hs : s1.size < n) : sText st = (ByteArray.empty, (s1, 4)) := by
  have hc : sCount 65536 st = (n, true, (s1, 0)) := by simp [sCount, h, hn]
  simp [sText, hc, hs]
theorem sText_k {st : ByteArray × Int} {n : Nat} {s1 : ByteArray} (h : sNum st = (n, (s1, 0))) (hn : ¬ 65536 < n) (hs : ¬ s1.size < n) : sText st = (s1.extract 0 n, (s1.extract n s1.size, 0)) := by
  have hc : sCount 65536 st = (n, true, (s1, 0)) := by simp [sCount, h, hn]
  simp [sText, hc, hs]

/-- two blocks of two cells, made ahead of a call that leaves them alone -/
theorem two_keep {w w1 : World} {T : TypeId} {x0 x1 y0 y1 : Value} (h : Below ((w.alloc (.cells #[x0, x1] T)).alloc (.cells #[y0, y1] T)).heap.size ((w.alloc (.cells #[x0, x1] T)).alloc (.cells #[y0, y1] T)) w1) :
    w1.cell? ⟨w.heap.size, 0, none⟩ = some x0 ∧ w1.cell? ⟨w.heap.size, 1, none⟩ = some x1 ∧ w1.cell? ⟨w.heap.size + 1, 0, none⟩ = some y0 ∧ w1.cell? ⟨w.heap.size + 1, 1, none⟩ = some y1 ∧
    w1.frozen? ⟨w.heap.size + 1, 0, none⟩ = false ∧ w1.frozen? ⟨w.heap.size + 1, 1, none⟩ = false ∧ w.heap.size + 1 < w1.heap.size ∧ Below w.heap.size w w1 := by
  have hz := h.size
  have e0 : ((w.alloc (.cells #[x0, x1] T)).alloc (.cells #[y0, y1] T)).heap[w.heap.size]? = some (.cells #[x0, x1] T (0, 0)) := by
    rw [Below.heap_alloc _ _ _ (by simp)]; simp [World.alloc, -World.alloc_eq]
  have e1 : ((w.alloc (.cells #[x0, x1] T)).alloc (.cells #[y0, y1] T)).heap[w.heap.size + 1]? = some (.cells #[y0, y1] T (0, 0)) := by
    show ((w.heap.push _).push _)[w.heap.size + 1]? = _
    have : w.heap.size + 1 = (w.heap.push (.cells #[x0, x1] T)).size := by simp
    rw [this, Array.getElem?_push_size]
  have h0 : w1.heap[w.heap.size]? = some (.cells #[x0, x1] T (0, 0)) := by rw [h.block _ (by simp; omega)]; exact e0
  have h1 : w1.heap[w.heap.size + 1]? = some (.cells #[y0, y1] T (0, 0)) := by rw [h.block _ (by simp)]; exact e1
  refine ⟨by rw [Joins.cell_of_block h0]; rfl, by rw [Joins.cell_of_block h0]; rfl, by rw [Joins.cell_of_block h1]; rfl, by rw [Joins.cell_of_block h1]; rfl, Joins.unfrozen_of_block h1 0, Joins.unfrozen_of_block h1 1, by simp at hz; omega, (below2 w _ _).trans (h.mono (by simp; omega))⟩

/-- a result of two cells, stored, and a block made behind it -/
theorem ends0 {w : World} {b : Nat} {y0 y1 : Value} (h0 : w.cell? ⟨b, 0, none⟩ = some y0) (_h1 : w.cell? ⟨b, 1, none⟩ = some y1) (hlt : b < w.heap.size) (x0 x1 : Value) (o : Obj) :
    (((w.setCell ⟨b, 0, none⟩ x0).setCell ⟨b, 1, none⟩ x1).alloc o).cell? ⟨b, 0, none⟩ = some x0 := by
  rw [World.cell?_alloc_past _ _ _ (by simpa using hlt), World.cell?_setCell_other _ _ _ _ (by simp), World.cell?_setCell_same _ _ _ h0]
theorem ends1 {w : World} {b : Nat} {y0 y1 : Value} (_h0 : w.cell? ⟨b, 0, none⟩ = some y0) (h1 : w.cell? ⟨b, 1, none⟩ = some y1) (hlt : b < w.heap.size) (x0 x1 : Value) (o : Obj) :
    (((w.setCell ⟨b, 0, none⟩ x0).setCell ⟨b, 1, none⟩ x1).alloc o).cell? ⟨b, 1, none⟩ = some x1 := by
  rw [World.cell?_alloc_past _ _ _ (by simpa using hlt), World.cell?_setCell_same _ _ _ ((World.cell?_setCell_other _ _ _ _ (by simp)).trans h1)]

set_option maxHeartbeats 4000000 in
set_option maxRecDepth 100000 in
theorem refR_text (s : ByteArray) (er : Int) (hs : s.size ≤ 9223372036854775807) (w : World) :
    Calls Tryz.prog 97 #[.agg #[.string s, .int .i64 er]] w fun e w' => e = .returned (.tuple #[rv (qSt (s, er) (sText (s, er)).2), .string (sText (s, er)).1]) ∧ Below w.heap.size w w' := by
  have hsz1 := sNum_size (s, er)
  go_enter Tryz.func97, Tryz.ntmps97
  go_wp2_with fail
  refine (refR_num s er hs _).mono ?_
  rintro e w1 ⟨rfl, hb1⟩
  generalize hr : sNum (s, er) = r at hsz1 ⊢
  obtain ⟨n, s1, e1⟩ := r
  simp only at hsz1
  have HR := Lib.hid hr
  clear hr
  obtain ⟨c10, c11, r0, r1, f0, f1, hz1, hB1⟩ := two_keep hb1
  clear hb1
  have hz0 : w.heap.size < w1.heap.size := by omega
  have hB1' : ∀ o v0 v1, Below w.heap.size w (((w1.setCell ⟨w.heap.size + 1, 0, none⟩ v0).setCell ⟨w.heap.size + 1, 1, none⟩ v1).alloc o) := fun o v0 v1 => ((hB1.setCell (by simp) _).setCell (by simp) _).alloc (by simp; omega) o
  have HE0 := Lib.hid (ends0 r0 r1 hz1)
  have HE1 := Lib.hid (ends1 r0 r1 hz1)
  have HB := Lib.hid hB1'
  clear hB1' hB1
  by_cases he : e1 = 0
  · subst he
    by_cases hn : 65536 < n
    · have hS := sText_l HR.out hn
      have HS := Lib.hid hS
      clear hS
      go_wp2
      refine bodyPost_ret (v := .tuple #[rv (s, 3), .string ⟨#[]⟩]) (by simp [results, Tryz.results97, go_sem, HE0.out, HE1.out]) rfl ?_
      rw [HS.out]
      exact ⟨rfl, HB.out _ _ _⟩
    · by_cases hc : s1.size < n
      · have hS := sText_c HR.out hn hc
        have HS := Lib.hid hS
        clear hS
        go_wp2
        refine bodyPost_ret (v := .tuple #[rv (s, 4), .string ⟨#[]⟩]) (by simp [results, Tryz.results97, go_sem, HE0.out, HE1.out]) rfl ?_
        rw [HS.out]
        exact ⟨rfl, HB.out _ _ _⟩
      · have hS := sText_k HR.out hn hc
        have HS := Lib.hid hS
        have hle : (n : Int) ≤ (s1.size : Int) := by omega
        clear hS
        go_wp2
        go_region
        go_wp2
        refine bodyPost_ret (v := .tuple #[rv (s1.extract n s1.size, 0), .string (s1.extract 0 n)]) (by simp [results, Tryz.results97, go_sem, HE0.out, HE1.out]) rfl ?_
        rw [HS.out]
        exact ⟨rfl, (HB.out _ _ _).drew⟩
  · have hb : (e1 != 0) = true := by simp [he]
    have hS := sText_e HR.out he
    have HS := Lib.hid hS
    clear hS
    go_wp2
    refine bodyPost_ret (v := .tuple #[rv (s, e1), .string ⟨#[]⟩]) (by simp [results, Tryz.results97, go_sem, HE0.out, HE1.out]) rfl ?_
    rw [HS.out]
    refine ⟨?_, HB.out _ _ _⟩
    simp [qSt, he]; rfl
end Go.Proofs.YtchnklekeinhiaaGreat
