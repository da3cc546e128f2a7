/-
  wire.number: what it answers of every text.
-/
import Derived.Test.YtoiafhbembhppaaWireText
import Derived.Test.YtoiafhbembhppaaWirePlain
namespace Go.Proofs.Ytoiafhbembhppaa
open Go.RowKit

theorem take_snoc8 (l : List UInt8) (k : Nat) (h : k < l.length) : l.take (k + 1) = l.take k ++ [l[k]] := by
  rw [List.take_succ_eq_append_getElem h]

set_option maxHeartbeats 2000000 in
set_option maxRecDepth 100000 in
theorem number_any (s : ByteArray) (hs : s.size ≤ 9223372036854775807) (w : World) :
    Calls Try.prog 64 #[.string s] w fun e w' => e = .returned (.tuple #[.int .i64 (numR s.data.toList).1, .int .i64 (numR s.data.toList).2.1, .int .i64 (numR s.data.toList).2.2]) ∧ w = w' := by
  have hsz : s.data.toList.length = s.size := by simp
  go_enter Try.func64, Try.ntmps64
  go_wp2
  refine wp_scope_head 0 (fun a' w' => ∃ (k : Nat) (d u8 u9 u10 u11 u12 u13 u14 u15 u16 u17 u18 u19 u20 u21 u22 u23 u24 u25 u26 u27 u28 u29 u30 u31 u32 u33 u34 u35 u36 u37 u38 u39 u40 u41 u42 : Value), a' = { tmps := #[.string s, undef, .int .i64 0, .int .i64 0, .int .i64 0, .int .i64 (lev ((s.data.toList.take k).take 8) : Nat), .int .i64 k, d, u8, u9, u10, u11, u12, u13, u14, u15, u16, u17, u18, u19, u20, u21, u22, u23, u24, u25, u26, u27, u28, u29, u30, u31, u32, u33, u34, u35, u36, u37, u38, u39, u40, u41, u42], defers := [] } ∧ k ≤ s.size ∧ (∀ j (h : j < s.data.toList.length), j < k → 128 ≤ s.data.toList[j].toNat) ∧ w = w') (fun a' _ => s.size - (intOf (a'.tmps.getD 6 undef)).toNat) rfl { tmps := #[.string s, undef, .int .i64 0, .int .i64 0, .int .i64 0, .int .i64 0, .int .i64 0, undef, undef, undef, undef, undef, undef, undef, undef, undef, undef, undef, undef, undef, undef, undef, undef, undef, undef, undef, undef, undef, undef, undef, undef, undef, undef, undef, undef, undef, undef, undef, undef, undef, undef, undef, undef], defers := [] } w ?_ ?_ ?_
  · exact ⟨0, _, _, _, _, _, _, _, _, _, _, _, _, _, _, _, _, _, _, _, _, _, _, _, _, _, _, _, _, _, _, _, _, _, _, _, _, rfl, by omega, by omega, rfl⟩
  · intro Q' h
    go_wp2
    go_step3
    rename_i hK
    exact hK _ _ h
  · rintro a' wr ⟨k, d, u8, u9, u10, u11, u12, u13, u14, u15, u16, u17, u18, u19, u20, u21, u22, u23, u24, u25, u26, u27, u28, u29, u30, u31, u32, u33, u34, u35, u36, u37, u38, u39, u40, u41, u42, rfl, hk, hall, rfl⟩
    by_cases hend : k = s.size
    · have hne : ((k : Int) == (s.size : Int)) = true := by simp; omega
      have hrun : run s.data.toList = s.data.toList.length := run_all _ (fun j h => hall j h (by omega))
      have hfin : numR s.data.toList = (0, 0, 4) := by unfold numR; rw [if_pos hrun]
      have HF := Lib.hid hfin
      have HA := Lib.hid hall
      clear hall hfin hend hrun
      generalize lev ((s.data.toList.take k).take 8) = n
      go_wp2
      simp only [Exit.jump]
      go_ret3
      rw [HF.out]
      exact ⟨rfl, rfl⟩
    · have hlt : k < s.size := by omega
      have hne : ((k : Int) == (s.size : Int)) = false := by simp; omega
      have hlt' : k < s.data.toList.length := by omega
      have hdat : s.data.toList[k] = s[k] := rfl
      have hb : s[k].toNat < 256 := UInt8.toNat_lt _
      have htk := take_snoc8 s.data.toList k hlt'
      have hlk : (s.data.toList.take k).length = k := by rw [List.length_take]; omega
      by_cases h8 : k < 8
      · have hn := lev_lt (s.data.toList.take k)
        rw [hlk] at hn
        have e8 : (s.data.toList.take k).take 8 = s.data.toList.take k := List.take_of_length_le (by omega)
        have e9 : (s.data.toList.take (k + 1)).take 8 = s.data.toList.take (k + 1) := List.take_of_length_le (by rw [List.length_take]; omega)
        have hlv : lev (s.data.toList.take (k + 1)) = lev (s.data.toList.take k) + s[k].toNat % 128 * 128 ^ k := by rw [htk, lev_snoc, hlk, hdat]
        have hor := or_step (lev (s.data.toList.take k)) k (s[k].toNat % 128) h8 hn (by omega)
        rw [← hlv] at hor
        have hcast : ((s[k].toNat % 128 : Nat) : Int) = (s[k].toNat : Int) % 128 := by omega
        rw [hcast] at hor
        rw [e8]
        obtain ⟨m, hm⟩ : ∃ m, m = lev (s.data.toList.take (k + 1)) := ⟨_, rfl⟩
        rw [← hm] at hor
        have HM := Lib.hid hm
        have HE9 := Lib.hid e9
        have HA := Lib.hid hall
        clear hm hall e8 e9 hlv hcast htk hn hdat
        generalize lev (s.data.toList.take k) = n at hor
        by_cases hd : 128 ≤ (s[k].toNat : Int)
        · go_wp2
          go_step3
          refine ⟨rfl, ⟨k + 1, _, _, _, _, _, _, _, _, _, _, _, _, _, _, _, _, _, _, _, _, _, _, _, _, _, _, _, _, _, _, _, _, _, _, _, _, by rw [HE9.out, ← HM.out]; rfl, by omega, ?_, rfl⟩, ?_⟩
          · intro j h hj
            by_cases e : j = k
            · subst e; have : s.data.toList[j] = s[j] := rfl; rw [this]; omega
            · exact HA.out j h (by omega)
          · simp [intOf]; omega
        · have hrun : run s.data.toList = k := run_of _ k hlt' HA.out (by have : s.data.toList[k] = s[k] := rfl; rw [this]; omega)
          have hget : s.data.toList.getD k 0 = s[k] := by rw [List.getD_eq_getElem?_getD, List.getElem?_eq_getElem hlt']; rfl
          by_cases hbig : 9007199254740992 < m
          · have hfin : numR s.data.toList = (0, 0, 2) := by unfold numR; rw [hrun, if_neg (by omega), if_pos (.inr (by rw [← HM.out]; exact hbig))]
            have HF := Lib.hid hfin
            clear hfin hrun hget
            go_wp2
            simp only [Exit.jump]
            go_ret3
            rw [HF.out]
            exact ⟨rfl, rfl⟩
          · by_cases hz : s[k].toNat = 0
            · have hz' : s[k] = 0 := UInt8.toNat_inj.1 (by simpa using hz)
              have hzb : ((s[k].toNat : Int) == 0) = true := by simp; omega
              by_cases hk0 : 0 < k
              · have hfin : numR s.data.toList = (0, 0, 5) := by unfold numR; rw [hrun, if_neg (by omega), if_neg (by rw [← HM.out]; omega), if_pos ⟨by rw [hget, hz'], hk0⟩]
                have HF := Lib.hid hfin
                clear hfin hrun hget hz' hz
                go_wp2
                simp only [Exit.jump]
                go_ret3
                rw [HF.out]
                exact ⟨rfl, rfl⟩
              · have hfin : numR s.data.toList = (m, k + 1, 0) := by unfold numR; rw [hrun, if_neg (by omega), if_neg (by rw [← HM.out]; omega), if_neg (by omega), ← HM.out]
                have HF := Lib.hid hfin
                clear hfin hrun hget hz' hz
                go_wp2
                simp only [Exit.jump]
                go_ret3
                rw [HF.out]
                exact ⟨rfl, rfl⟩
            · have hz' : s[k] ≠ 0 := fun h => hz (by rw [h]; rfl)
              have hzb : ((s[k].toNat : Int) == 0) = false := by simp; omega
              have hfin : numR s.data.toList = (m, k + 1, 0) := by unfold numR; rw [hrun, if_neg (by omega), if_neg (by rw [← HM.out]; omega), if_neg (by rw [hget]; exact fun h => hz' h.1), ← HM.out]
              have HF := Lib.hid hfin
              clear hfin hrun hget hz'
              go_wp2
              simp only [Exit.jump]
              go_ret3
              rw [HF.out]
              exact ⟨rfl, rfl⟩
      · have e8 : (s.data.toList.take (k + 1)).take 8 = (s.data.toList.take k).take 8 := by rw [List.take_take, List.take_take]; congr 1; omega
        have HE := Lib.hid e8
        have HA := Lib.hid hall
        clear e8 hall htk hdat
        generalize hn : lev ((s.data.toList.take k).take 8) = n
        have HN := Lib.hid hn
        clear hn
        by_cases hd : 128 ≤ (s[k].toNat : Int)
        · go_wp2
          go_step3
          refine ⟨rfl, ⟨k + 1, _, _, _, _, _, _, _, _, _, _, _, _, _, _, _, _, _, _, _, _, _, _, _, _, _, _, _, _, _, _, _, _, _, _, _, _, by rw [HE.out, HN.out]; rfl, by omega, ?_, rfl⟩, ?_⟩
          · intro j h hj
            by_cases e : j = k
            · subst e; have : s.data.toList[j] = s[j] := rfl; rw [this]; omega
            · exact HA.out j h (by omega)
          · simp [intOf]; omega
        · have hrun : run s.data.toList = k := run_of _ k hlt' HA.out (by have : s.data.toList[k] = s[k] := rfl; rw [this]; omega)
          have hfin : numR s.data.toList = (0, 0, 2) := by unfold numR; rw [hrun, if_neg (by omega), if_pos (.inl (by omega))]
          have HF := Lib.hid hfin
          clear hfin hrun
          go_wp2
          simp only [Exit.jump]
          go_ret3
          rw [HF.out]
          exact ⟨rfl, rfl⟩
end Go.Proofs.Ytoiafhbembhppaa
