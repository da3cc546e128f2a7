/-
  wire.number: what it answers of every text.
  wire.New and the Reader's methods: what each call answers, and what becomes of the reader.
  A fact by value; rows of facts: how they lie, are read, and are appended to; facts compared.
  What a call leaves that only draws and makes memory: so many draws, these blocks.
  stamp: what compares two stamps by one of their numbers; ahead; Less.
-/
import Derived.Test.YtcedliaeipabnaaGreatGKernB
import Derived.Test.YtcedliaeipabnaaGreatGKernA
import Derived.Lib.SmallJoins
import Derived.OneCell
import Derived.Maps.AppendAt
import Derived.Maps.Range
import Derived.Test.YtcedliaeipabnaaGreatGKernC
import Derived.Deep.MidRow
import Derived.Deep.WholeRow
import Derived.Lib.QuietBelow
namespace Go.Proofs.YtcedliaeipabnaaGreat
open Go.RowKit

theorem take_snoc8 (l : List UInt8) (k : Nat) (h : k < l.length) : l.take (k + 1) = l.take k ++ [l[k]] := by
  rw [List.take_succ_eq_append_getElem h]

set_option maxHeartbeats 2000000 in
set_option maxRecDepth 100000 in
theorem number_any (s : ByteArray) (hs : s.size ≤ 9223372036854775807) (w : World) :
    Calls Tryz.prog 147 #[.string s] w fun e w' => e = .returned (.tuple #[.int .i64 (numR s.data.toList).1, .int .i64 (numR s.data.toList).2.1, .int .i64 (numR s.data.toList).2.2]) ∧ w = w' := by
  have hsz : s.data.toList.length = s.size := by simp
  go_enter Tryz.func147, Tryz.ntmps147
  go_wp2
  refine wp_scope_head 0 (fun a' w' => ∃ (k : Nat) (d u8 u9 u10 u11 u12 u13 u14 u15 u16 u17 u18 u19 u20 u21 u22 u23 u24 u25 u26 u27 u28 u29 u30 u31 u32 u33 u34 u35 u36 u37 u38 u39 u40 u41 u42 : Value), a' = { tmps := #[.string s, undef, .int .i64 0, .int .i64 0, .int .i64 0, .int .i64 (lev ((s.data.toList.take k).take 8) : Nat), .int .i64 k, d, u8, u9, u10, u11, u12, u13, u14, u15, u16, u17, u18, u19, u20, u21, u22, u23, u24, u25, u26, u27, u28, u29, u30, u31, u32, u33, u34, u35, u36, u37, u38, u39, u40, u41, u42], defers := [] } ∧ k ≤ s.size ∧ (∀ j (h : j < s.data.toList.length), j < k → 128 ≤ s.data.toList[j].toNat) ∧ w = w') (fun a' _ => s.size - (intOf (a'.tmps.getD 6 undef)).toNat) rfl { tmps := #[.string s, undef, .int .i64 0, .int .i64 0, .int .i64 0, .int .i64 0, .int .i64 0, undef, undef, undef, undef, undef, undef, undef, undef, undef, undef, undef, undef, undef, undef, undef, undef, undef, undef, undef, undef, undef, undef, undef, undef, undef, undef, undef, undef, undef, undef, undef, undef, undef, undef, undef, undef], defers := [] } w ?_ ?_ ?_
  · exact ⟨0, _, _, _, _, _, _, _, _, _, _, _, _, _, _, _, _, _, _, _, _, _, _, _, _, _, _, _, _, _, _, _, _, _, _, _, _, rfl, by omega, by omega, rfl⟩
  · intro Q' h
    go_wp2
    go_step3
    rename_i hK
    exact hK _ _ h
  · rintro a' wr ⟨k, d, u8, u9, u10, u11, u12, u13, u14, u15, u16, u17, u18, u19, u20, u21, u22, u23, u24, u25, u26, u27, u28, u29, u30, u31, u32, u33, u34, u35, u36, u37, u38, u39, u40, u41, u42, rfl, hk, hall, rfl⟩
    by_cases hend : k = s.size
    · have hne : ((k : Int) == (s.size : Int)) = true := by simp; omega
      have hrun : run s.data.toList = s.data.toList.length := run_all _ (fun j h => hall j h (by omega))
      have hfin : numR s.data.toList = (0, 0, 4) := by unfold numR; rw [if_pos hrun]
      have HF := Lib.hid hfin
      have HA := Lib.hid hall
      clear hall hfin hend hrun
      generalize lev ((s.data.toList.take k).take 8) = n
      go_wp2
      simp only [Exit.jump]
      go_ret3
      rw [HF.out]
      exact ⟨rfl, rfl⟩
    · have hlt : k < s.size := by omega
      have hne : ((k : Int) == (s.size : Int)) = false := by simp; omega
      have hlt' : k < s.data.toList.length := by omega
      have hdat : s.data.toList[k] = s[k] := rfl
      have hb : s[k].toNat < 256 := UInt8.toNat_lt _
      have htk := take_snoc8 s.data.toList k hlt'
      have hlk : (s.data.toList.take k).length = k := by rw [List.length_take]; omega
      by_cases h8 : k < 8
      · have hn := lev_lt (s.data.toList.take k)
        rw [hlk] at hn
        have e8 : (s.data.toList.take k).take 8 = s.data.toList.take k := List.take_of_length_le (by omega)
        have e9 : (s.data.toList.take (k + 1)).take 8 = s.data.toList.take (k + 1) := List.take_of_length_le (by rw [List.length_take]; omega)
        have hlv : lev (s.data.toList.take (k + 1)) = lev (s.data.toList.take k) + s[k].toNat % 128 * 128 ^ k := by rw [htk, lev_snoc, hlk, hdat]
        have hor := or_step (lev (s.data.toList.take k)) k (s[k].toNat % 128) h8 hn (by omega)
        rw [← hlv] at hor
        have hcast : ((s[k].toNat % 128 : Nat) : Int) = (s[k].toNat : Int) % 128 := by omega
        rw [hcast] at hor
        rw [e8]
        obtain ⟨m, hm⟩ : ∃ m, m = lev (s.data.toList.take (k + 1)) := ⟨_, rfl⟩
        rw [← hm] at hor
        have HM := Lib.hid hm
        have HE9 := Lib.hid e9
        have HA := Lib.hid hall
        clear hm hall e8 e9 hlv hcast htk hn hdat
        generalize lev (s.data.toList.take k) = n at hor
        by_cases hd : 128 ≤ (s[k].toNat : Int)
        · go_wp2
          go_step3
          refine ⟨rfl, ⟨k + 1, _, _, _, _, _, _, _, _, _, _, _, _, _, _, _, _, _, _, _, _, _, _, _, _, _, _, _, _, _, _, _, _, _, _, _, _, by rw [HE9.out, ← HM.out]; rfl, by omega, ?_, rfl⟩, ?_⟩
          · intro j h hj
            by_cases e : j = k
            · subst e; have : s.data.toList[j] = s[j] := rfl; rw [this]; omega
            · exact HA.out j h (by omega)
          · simp [intOf]; omega
        · have hrun : run s.data.toList = k := run_of _ k hlt' HA.out (by have : s.data.toList[k] = s[k] := rfl; rw [this]; omega)
          have hget : s.data.toList.getD k 0 = s[k] := by rw [List.getD_eq_getElem?_getD, List.getElem?_eq_getElem hlt']; rfl
          by_cases hbig : 9007199254740992 < m
          · have hfin : numR s.data.toList = (0, 0, 2) := by unfold numR; rw [hrun, if_neg (by omega), if_pos (.inr (by rw [← HM.out]; exact hbig))]
            have HF := Lib.hid hfin
            clear hfin hrun hget
            go_wp2
            simp only [Exit.jump]
            go_ret3
            rw [HF.out]
            exact ⟨rfl, rfl⟩
          · by_cases hz : s[k].toNat = 0
            · have hz' : s[k] = 0 := UInt8.toNat_inj.1 (by simpa using hz)
              have hzb : ((s[k].toNat : Int) == 0) = true := by simp; omega
              by_cases hk0 : 0 < k
              · have hfin : numR s.data.toList = (0, 0, 5) := by unfold numR; rw [hrun, if_neg (by omega), if_neg (by rw [← HM.out]; omega), if_pos ⟨by rw [hget, hz'], hk0⟩]
                have HF := Lib.hid hfin
                clear hfin hrun hget hz' hz
                go_wp2
                simp only [Exit.jump]
                go_ret3
                rw [HF.out]
                exact ⟨rfl, rfl⟩
              · have hfin : numR s.data.toList = (m, k + 1, 0) := by unfold numR; rw [hrun, if_neg (by omega), if_neg (by rw [← HM.out]; omega), if_neg (by omega), ← HM.out]
                have HF := Lib.hid hfin
                clear hfin hrun hget hz' hz
                go_wp2
                simp only [Exit.jump]
                go_ret3
                rw [HF.out]
                exact ⟨rfl, rfl⟩
            · have hz' : s[k] ≠ 0 := fun h => hz (by rw [h]; rfl)
              have hzb : ((s[k].toNat : Int) == 0) = false := by simp; omega
              have hfin : numR s.data.toList = (m, k + 1, 0) := by unfold numR; rw [hrun, if_neg (by omega), if_neg (by rw [← HM.out]; omega), if_neg (by rw [hget]; exact fun h => hz' h.1), ← HM.out]
              have HF := Lib.hid hfin
              clear hfin hrun hget hz'
              go_wp2
              simp only [Exit.jump]
              go_ret3
              rw [HF.out]
              exact ⟨rfl, rfl⟩
      · have e8 : (s.data.toList.take (k + 1)).take 8 = (s.data.toList.take k).take 8 := by rw [List.take_take, List.take_take]; congr 1; omega
        have HE := Lib.hid e8
        have HA := Lib.hid hall
        clear e8 hall htk hdat
        generalize hn : lev ((s.data.toList.take k).take 8) = n
        have HN := Lib.hid hn
        clear hn
        by_cases hd : 128 ≤ (s[k].toNat : Int)
        · go_wp2
          go_step3
          refine ⟨rfl, ⟨k + 1, _, _, _, _, _, _, _, _, _, _, _, _, _, _, _, _, _, _, _, _, _, _, _, _, _, _, _, _, _, _, _, _, _, _, _, _, by rw [HE.out, HN.out]; rfl, by omega, ?_, rfl⟩, ?_⟩
          · intro j h hj
            by_cases e : j = k
            · subst e; have : s.data.toList[j] = s[j] := rfl; rw [this]; omega
            · exact HA.out j h (by omega)
          · simp [intOf]; omega
        · have hrun : run s.data.toList = k := run_of _ k hlt' HA.out (by have : s.data.toList[k] = s[k] := rfl; rw [this]; omega)
          have hfin : numR s.data.toList = (0, 0, 2) := by unfold numR; rw [hrun, if_neg (by omega), if_pos (.inl (by omega))]
          have HF := Lib.hid hfin
          clear hfin hrun
          go_wp2
          simp only [Exit.jump]
          go_ret3
          rw [HF.out]
          exact ⟨rfl, rfl⟩
end Go.Proofs.YtcedliaeipabnaaGreat

namespace Go.Proofs.YtcedliaeipabnaaGreat
open Go.RowKit

/-- Block b is a reader in the state st. -/
def Rd (b : Nat) (st : ByteArray × Int) (w : World) : Prop := w.heap[b]? = some (.cells #[.string st.1, .int .i64 st.2] 180 (0, 0))

theorem Rd.lt {b : Nat} {st : ByteArray × Int} {w : World} (h : Rd b st w) : b < w.heap.size := lt_of_block h
theorem Rd.left {b : Nat} {st : ByteArray × Int} {w : World} (h : Rd b st w) : w.cell? ⟨b, 0, none⟩ = some (.string st.1) := by rw [Joins.cell_of_block h]; rfl
theorem Rd.err {b : Nat} {st : ByteArray × Int} {w : World} (h : Rd b st w) : w.cell? ⟨b, 1, none⟩ = some (.int .i64 st.2) := by rw [Joins.cell_of_block h]; rfl
theorem Rd.free {b : Nat} {st : ByteArray × Int} {w : World} (h : Rd b st w) (i : Nat) : w.frozen? ⟨b, i, none⟩ = false := Joins.unfrozen_of_block h i
theorem Rd.setLeft {b : Nat} {st : ByteArray × Int} {w : World} (h : Rd b st w) (s : ByteArray) : Rd b (s, st.2) (w.setCell ⟨b, 0, none⟩ (.string s)) := by
  have := Joins.block_setCell h (i := 0) (.string s); simpa [Rd] using this
theorem Rd.setErr {b : Nat} {st : ByteArray × Int} {w : World} (h : Rd b st w) (e : Int) : Rd b (st.1, e) (w.setCell ⟨b, 1, none⟩ (.int .i64 e)) := by
  have := Joins.block_setCell h (i := 1) (.int .i64 e); simpa [Rd] using this
theorem grownBy_setCell (w : World) (b i : Nat) (v : Value) : w.grownBy (w.setCell ⟨b, i, none⟩ v) (some b) :=
  ⟨rfl, rfl, rfl, by simp, fun k _ hk => Below.heap_setCell _ _ _ _ (fun e => hk (by rw [e]))⟩
theorem Rd.other {b c : Nat} {st : ByteArray × Int} {w w' : World} (h : Rd b st w) (hg : w.grownBy w' (some c)) (hne : b ≠ c) : Rd b st w' := by
  unfold Rd; rw [hg.block b h.lt (by simpa using hne)]; exact h
theorem Rd.grown {b : Nat} {row : Option Nat} {st : ByteArray × Int} {w w' : World} (h : Rd b st w) (hg : w.grownBy w' row) (hne : ∀ j, row = some j → b ≠ j) : Rd b st w' := by
  unfold Rd; rw [hg.block b h.lt (fun e => hne b e.symm rfl)]; exact h
theorem Rd.below {b B : Nat} {st : ByteArray × Int} {w w' : World} (h : Rd b st w) (hb : Below B w w') (hlt : b < B) : Rd b st w' := by
  unfold Rd; rw [hb.block b hlt]; exact h

set_option maxHeartbeats 1000000 in
set_option maxRecDepth 100000 in
theorem new_any (s : ByteArray) (w : World) :
    Calls Tryz.prog 129 #[.string s] w fun e w' => e = .returned (.pointer (some ⟨w.heap.size, 0, none⟩)) ∧ w.alloc (.cells #[.string s, .int .i64 0] 180) = w' := by
  go_enter Tryz.func129, Tryz.ntmps129
  go_wp2
  go_ret
  exact ⟨rfl, rfl⟩

theorem Rd.made (s : ByteArray) (w : World) : Rd w.heap.size (s, 0) (w.alloc (.cells #[.string s, .int .i64 0] 180)) := by
  simp [Rd, World.alloc, -World.alloc_eq]

set_option maxHeartbeats 1000000 in
set_option maxRecDepth 100000 in
theorem err_any (b : Nat) (st : ByteArray × Int) (w : World) (h : Rd b st w) :
    Calls Tryz.prog 146 #[.pointer (some ⟨b, 0, none⟩)] w fun e w' => e = .returned (.int .i64 st.2) ∧ w = w' := by
  have h1 := h.err
  go_enter Tryz.func146, Tryz.ntmps146
  go_wp2
  go_ret
  exact ⟨rfl, rfl⟩

set_option maxHeartbeats 1000000 in
set_option maxRecDepth 100000 in
theorem rnum_any (b : Nat) (st : ByteArray × Int) (w : World) (h : Rd b st w) (hsz : st.1.size ≤ 9223372036854775807) :
    Calls Tryz.prog 130 #[.pointer (some ⟨b, 0, none⟩)] w fun e w' => e = .returned (.int .i64 (sNum st).1) ∧ Rd b (sNum st).2 w' ∧ w.grownBy w' (some b) := by
  obtain ⟨s, er⟩ := st
  have hl := h.left
  have hl1 := h.err
  have hf0 := h.free 0
  have hf1 := h.free 1
  have hnb := fun h2 => numR_ok (l := s.data.toList) h2
  simp only at hl hl1 hsz
  by_cases her : er = 0
  · subst her
    have H := Lib.hid h
    clear h
    go_enter Tryz.func130, Tryz.ntmps130
    go_wp2_with fail
    refine (err_any b (s, 0) w H.out).mono ?_
    rintro e w1 ⟨rfl, rfl⟩
    go_wp2_with fail
    refine (number_any s hsz w).mono ?_
    rintro e w1 ⟨rfl, rfl⟩
    generalize hr : numR s.data.toList = r at hnb ⊢
    obtain ⟨n, k, er⟩ := r
    simp only at hnb ⊢
    have HR := Lib.hid hr
    clear hr
    by_cases h0 : er = 0
    · subst h0
      obtain ⟨h1, h2, h3⟩ := hnb rfl
      have hs1 : s.data.toList.length = s.size := by simp
      rw [hs1] at h1
      clear hnb hs1
      go_wp2
      go_ret
      have hS : sNum (s, 0) = (n, (s.extract k s.size, 0)) := by simp only [sNum, HR.out]; rfl
      rw [hS]
      exact ⟨rfl, H.out.setLeft _, grownBy_setCell _ _ _ _⟩
    · have hb : (er != 0) = true := by simp [h0]
      clear hnb
      go_wp2
      go_ret
      have hS : sNum (s, 0) = (0, (s, er)) := by simp only [sNum, HR.out, if_neg h0]; rfl
      rw [hS]
      exact ⟨rfl, H.out.setErr _, grownBy_setCell _ _ _ _⟩
  · have hS : sNum (s, er) = (0, (s, er)) := by simp [sNum, her]
    have hb : (er != 0) = true := by simp [her]
    rw [hS]
    have H := Lib.hid h
    clear h hS
    go_enter Tryz.func130, Tryz.ntmps130
    go_wp2_with fail
    refine (err_any b (s, er) w H.out).mono ?_
    rintro e w1 ⟨rfl, rfl⟩
    go_wp2
    go_ret
    exact ⟨rfl, H.out, World.grownBy.refl _ _⟩

set_option maxHeartbeats 1000000 in
set_option maxRecDepth 100000 in
theorem count_any (b : Nat) (st : ByteArray × Int) (lim : Nat) (_hlim : lim ≤ 9223372036854775807) (w : World) (h : Rd b st w) (hsz : st.1.size ≤ 9223372036854775807) :
    Calls Tryz.prog 148 #[.pointer (some ⟨b, 0, none⟩), .int .i64 lim] w fun e w' => e = .returned (.tuple #[.int .i64 (sCount lim st).1, .bool (sCount lim st).2.1]) ∧ Rd b (sCount lim st).2.2 w' ∧ w.grownBy w' (some b) := by
  have H := Lib.hid h
  clear h
  go_enter Tryz.func148, Tryz.ntmps148
  go_wp2_with fail
  refine (rnum_any b st w H.out hsz).mono ?_
  rintro e w1 ⟨rfl, h1, hg1⟩
  generalize hr : sNum st = r at h1 ⊢
  obtain ⟨n, s1, er⟩ := r
  simp only at h1 ⊢
  have HR := Lib.hid hr
  clear hr
  have hf1 := h1.free 1
  have hc1 := h1.err
  simp only at hc1
  have H1 := Lib.hid h1
  clear h1
  go_wp2_with fail
  refine (err_any b (s1, er) w1 H1.out).mono ?_
  rintro e w2 ⟨rfl, rfl⟩
  by_cases h0 : er = 0
  · subst h0
    by_cases hlt : lim < n
    · go_wp2
      go_ret2
      have hS : sCount lim st = (0, false, (s1, 3)) := by simp [sCount, HR.out, hlt]
      rw [hS]
      exact ⟨rfl, H1.out.setErr _, hg1.trans (grownBy_setCell _ _ _ _)⟩
    · go_wp2
      go_ret2
      have hS : sCount lim st = (n, true, (s1, 0)) := by simp [sCount, HR.out, hlt]
      rw [hS]
      exact ⟨rfl, H1.out, hg1⟩
  · have hb : (er != 0) = true := by simp [h0]
    go_wp2
    go_ret2
    have hS : sCount lim st = (0, false, (s1, er)) := by simp [sCount, HR.out, h0]
    rw [hS]
    exact ⟨rfl, H1.out, hg1⟩

set_option maxHeartbeats 1000000 in
set_option maxRecDepth 100000 in
theorem rtext_any (b : Nat) (st : ByteArray × Int) (w : World) (h : Rd b st w) (hsz : st.1.size ≤ 9223372036854775807) :
    Calls Tryz.prog 149 #[.pointer (some ⟨b, 0, none⟩)] w fun e w' => e = .returned (.string (sText st).1) ∧ Rd b (sText st).2 w' ∧ w.grownBy w' (some b) := by
  have hsc := sCount_size 65536 st
  have H := Lib.hid h
  clear h
  go_enter Tryz.func149, Tryz.ntmps149
  go_wp2_with fail
  refine (count_any b st 65536 (by omega) w H.out hsz).mono ?_
  rintro e w1 ⟨rfl, h1, hg1⟩
  have her : (sCount 65536 st).2.1 = true → (sCount 65536 st).2.2.2 = 0 := by
    unfold sCount
    split
    · intro h; cases h
    · split
      · intro h; cases h
      · intro _; simp only; omega
  generalize hr : sCount 65536 st = r at h1 hsc her ⊢
  obtain ⟨n, ok, s1, er⟩ := r
  simp only at h1 hsc her ⊢
  have HR := Lib.hid hr
  clear hr
  have hf0 := h1.free 0
  have hf1 := h1.free 1
  have hc0 := h1.left
  have hc1 := h1.err
  simp only at hc0 hc1
  have H1 := Lib.hid h1
  clear h1
  cases ok with
  | false =>
    clear her
    go_wp2
    go_ret
    have hS : sText st = (ByteArray.empty, (s1, er)) := by simp [sText, HR.out]
    rw [hS]
    exact ⟨rfl, H1.out, hg1⟩
  | true =>
    obtain rfl : er = 0 := her rfl
    clear her
    by_cases hlt : s1.size < n
    · go_wp2
      go_ret
      have hS : sText st = (ByteArray.empty, (s1, 4)) := by simp [sText, HR.out, hlt]
      rw [hS]
      exact ⟨rfl, H1.out.setErr _, hg1.trans (grownBy_setCell _ _ _ _)⟩
    · go_wp2
      go_ret
      have hS : sText st = (s1.extract 0 n, (s1.extract n s1.size, 0)) := by simp [sText, HR.out, hlt]
      rw [hS]
      exact ⟨rfl, H1.out.setLeft _, hg1.trans (grownBy_setCell _ _ _ _)⟩

set_option maxHeartbeats 1000000 in
set_option maxRecDepth 100000 in
theorem done_any (b : Nat) (st : ByteArray × Int) (w : World) (h : Rd b st w) (hsz : st.1.size ≤ 9223372036854775807) :
    Calls Tryz.prog 132 #[.pointer (some ⟨b, 0, none⟩)] w fun e w' => e = .returned (.int .i64 (if st.2 ≠ 0 then st.2 else if 0 < st.1.size then 5 else 0)) ∧ w = w' := by
  obtain ⟨s, er⟩ := st
  have hl := h.left
  simp only at hl hsz ⊢
  have H := Lib.hid h
  clear h
  go_enter Tryz.func132, Tryz.ntmps132
  go_wp2_with fail
  refine (err_any b (s, er) w H.out).mono ?_
  rintro e w1 ⟨rfl, rfl⟩
  by_cases h0 : er = 0
  · subst h0
    by_cases hs : 0 < s.size
    · go_wp2
      go_ret
      exact ⟨by simp, rfl⟩
    · go_wp2
      go_ret
      exact ⟨by simp, rfl⟩
  · have hb : (er != 0) = true := by simp [h0]
    go_wp2
    go_ret
    exact ⟨by simp, rfl⟩
end Go.Proofs.YtcedliaeipabnaaGreat

namespace Go.Proofs.YtcedliaeipabnaaGreat
set_option maxRecDepth 100000
open Go.RowKit Go.Sort

def fcs (f : Ft) : List Value := [.int .i64 f.d.1, .int .i64 f.d.2, .int .i64 f.s.t, .int .i64 f.s.c, .int .i64 f.s.r, .int .i64 f.k, .string f.n, .string f.v]
theorem fcs_len (f : Ft) : (fcs f).length = 8 := rfl
theorem fcs_cell (f : Ft) : ∀ u ∈ fcs f, u.oneCell' = true := by
  intro u hu
  simp only [fcs, List.mem_cons, List.not_mem_nil, or_false] at hu
  rcases hu with rfl | rfl | rfl | rfl | rfl | rfl | rfl | rfl <;> rfl
abbrev zeroF : Value := .agg #[.int .i64 0, .int .i64 0, .int .i64 0, .int .i64 0, .int .i64 0, .int .i64 0, .string ByteArray.empty, .string ByteArray.empty]
theorem factInfo : (Tryz.prog.info? 61).map (fun i => (i.zero, i.size, i.bytes)) = some (some zeroF, 8, 80) := by kernel_rfl
theorem factSize : (Tryz.prog.info? 61).map (·.size) = some 8 := by kernel_rfl

def rowF (l : List Ft) : List Value := l.flatMap fcs
theorem rowF_len (l : List Ft) : (rowF l).length = l.length * 8 := by
  induction l with
  | nil => rfl
  | cons d r ih => simp only [rowF, List.flatMap_cons, List.length_append, List.length_cons, fcs_len] at ih ⊢; rw [ih]; omega
theorem rowF_append (a b : List Ft) : rowF (a ++ b) = rowF a ++ rowF b := by simp [rowF]
theorem rowF_one (d : Ft) : rowF [d] = fcs d := by simp [rowF]
theorem rowF_at : ∀ (l : List Ft) (j : Nat) (f : Ft), l[j]? = some f → ∀ i u, (fcs f)[i]? = some u → (rowF l)[j * 8 + i]? = some u := by
  intro l
  induction l with
  | nil => intro j f h; simp at h
  | cons x r ih =>
    intro j f h i u hu
    have hi : i < 8 := by have := (List.getElem?_eq_some_iff.1 hu).1; rwa [fcs_len] at this
    have e : rowF (x :: r) = fcs x ++ rowF r := rfl
    cases j with
    | zero => simp at h; subst h; rw [e, Nat.zero_mul, Nat.zero_add, List.getElem?_append_left (by rw [fcs_len]; exact hi)]; exact hu
    | succ j =>
      rw [e, List.getElem?_append_right (by rw [fcs_len]; omega), fcs_len, show (j + 1) * 8 + i - 8 = j * 8 + i by omega]
      exact ih j f (by simpa using h) i u hu
theorem rowF_get (l : List Ft) (j : Nat) (u : Value) (h : (rowF l)[j]? = some u) : ∃ i f k, l[i]? = some f ∧ j = i * 8 + k ∧ (fcs f)[k]? = some u := by
  have hl : j < l.length * 8 := by rw [← rowF_len]; exact (List.getElem?_eq_some_iff.1 h).1
  have hil : j / 8 < l.length := by omega
  have hk : j % 8 < (fcs l[j / 8]).length := by rw [fcs_len]; omega
  have h1 := rowF_at l (j / 8) l[j / 8] (List.getElem?_eq_getElem hil) (j % 8) _ (List.getElem?_eq_getElem hk)
  rw [show j / 8 * 8 + j % 8 = j by omega, h] at h1
  exact ⟨j / 8, l[j / 8], j % 8, List.getElem?_eq_getElem hil, by omega, by rw [List.getElem?_eq_getElem hk, ← h1]⟩
theorem rowF_cell (l : List Ft) : ∀ u ∈ rowF l, u.oneCell' = true := by
  intro u hu
  simp only [rowF, List.mem_flatMap] at hu
  obtain ⟨d, _, hd⟩ := hu
  exact fcs_cell d u hd

theorem range_below {w w' : World} {b o : Nat} {cs : List Value} (h : w.rangeAt b o cs) (hb : Below w.heap.size w w') (hlt : b < w.heap.size) : w'.rangeAt b o cs := fun j v hv => by
  rw [hb.cell (p := ⟨b, o + j, none⟩) hlt]; exact h j v hv
/-- The slice v is the call's own, and holds the facts l. -/
def OwnF (B : Nat) (v : Value) (l : List Ft) (w : World) : Prop := w.ownsRow B 61 8 v l.length (rowF l)
/-- At a stand the facts l, to be read. -/
def FIn (w : World) (a : Option Addr) (l : List Ft) : Prop :=
  l = [] ∨ ∃ b off, a = some ⟨b, off, none⟩ ∧ b < w.heap.size ∧ ∀ j f, l[j]? = some f → w.rangeAt b (off + j * 8) (fcs f)

theorem FIn.below {w w' : World} {a : Option Addr} {l : List Ft} (h : FIn w a l) (hb : Below w.heap.size w w') : FIn w' a l := by
  rcases h with h | ⟨b, off, rfl, hlt, hc⟩
  · exact .inl h
  · exact .inr ⟨b, off, rfl, Nat.lt_of_lt_of_le hlt hb.size, fun j f hj => range_below (hc j f hj) hb hlt⟩
theorem FIn.alloc {w : World} {a : Option Addr} {l : List Ft} (h : FIn w a l) (o : Obj) : FIn (w.alloc o) a l := h.below ((Below.refl _ _).alloc (Nat.le_refl _) o)
/-- one of them, at its place -/
theorem FIn.at {w : World} {a : Option Addr} {l : List Ft} (h : FIn w a l) {j : Nat} {f : Ft} (hj : l[j]? = some f) :
    ∃ b off, a = some ⟨b, off, none⟩ ∧ b < w.heap.size ∧ w.rangeAt b (off + j * 8) (fcs f) := by
  rcases h with rfl | ⟨b, off, rfl, hlt, hc⟩
  · simp at hj
  · exact ⟨b, off, rfl, hlt, hc j f hj⟩
/-- its load -/
theorem loadF {w : World} {b o : Nat} {f : Ft} (h : w.rangeAt b o (fcs f)) : (Instr.loadAt 61 (.pointer (some ⟨b, o, none⟩))).run Tryz.prog w = .ok (.agg (fcs f).toArray) w :=
  run_loadAt_mid w b o 61 (fcs f) _ h Tryz.underlying61 rfl factSize

/-- .. in a walk -/
theorem fl_load {ops : Array Oper} {rest : List Oper} {o : Oper} {a : Act} {w : World} {Q : Exit → Act → World → Prop} (hgd : o.guard = none) (x : Operand) (ho : o.op = .load 61 x) (g off : Nat) (f : Ft)
    (hx : a.eval x = .pointer (some ⟨g, off, none⟩)) (hg : w.rangeAt g off (fcs f)) (h : wpList Tryz.prog ops Q rest (a.put o.dst (.agg (fcs f).toArray)) w) : wpList Tryz.prog ops Q (o :: rest) a w :=
  wpList_load_mid hgd 61 x ho g off hx (fcs f) _ hg Tryz.underlying61 rfl factSize h
/-- .. in a region that draws and only reads -/
theorem fq_load {ops : Array Oper} {C : World → Prop} {Q : Act → Prop} {rest : List Oper} {o : Oper} {a : Act} (hw : Region.wanted o (yielded ops a.tmps) = true) (x : Operand) (ho : o.op = .load 61 x) (g off : Nat) (f : Ft)
    (hx : a.eval x = .pointer (some ⟨g, off, none⟩)) (hg : ∀ w, C w → w.rangeAt g off (fcs f))
    (h : wpQuiet Tryz.prog ops C Q rest (a.put o.dst (.agg (fcs f).toArray))) : wpQuiet Tryz.prog ops C Q (o :: rest) a := by
  refine wpQuiet_step fun K hK => ?_
  rw [if_pos hw]
  refine ⟨_, fun w hC => ?_, hK _ h⟩
  unfold Oper.quietAt execOp
  simp only [ho, hx, Sem.run_bind, Sem.run_pure, Result.andThen_ok, loadF (hg w hC)]
  exact ⟨rfl, rfl⟩
theorem range_regrown {W : World} {b o : Nat} {cs : List Value} (h : W.rangeAt b o cs) (hlt : b < W.heap.size) : ∀ w, (∃ p : Regrown, w = grow (redrawn W p.d) p.os) → w.rangeAt b o cs := by
  rintro w ⟨p, rfl⟩
  exact range_below h (below_regrown W p.d p.os) hlt
/-- a block of one fact -/
def FRow (w : World) (b : Nat) (f : Ft) : Prop := w.heap[b]? = some (.cells (fcs f).toArray 61 (0, 0))
theorem FRow.lt {w : World} {b : Nat} {f : Ft} (h : FRow w b f) : b < w.heap.size := lt_of_block h
theorem FRow.range {w : World} {b : Nat} {f : Ft} (h : FRow w b f) : w.rangeAt b 0 (fcs f) := fun j v hv => by
  rw [Nat.zero_add, Joins.cell_of_block h]; simpa using hv
theorem FRow.keep {w w' : World} {b : Nat} {f : Ft} (h : FRow w b f) (hb : Below w.heap.size w w') : FRow w' b f := by unfold FRow; rw [hb.block b h.lt]; exact h
theorem FRow.new (w : World) (f : Ft) : FRow (w.alloc (.cells (fcs f).toArray 61)) w.heap.size f := heap_alloc_new w _
theorem fl_store {ops : Array Oper} {rest : List Oper} {o : Oper} {a : Act} {w : World} {Q : Exit → Act → World → Prop} (hgd : o.guard = none) (x y : Operand) (ho : o.op = .store 61 x y) (g : Nat) (f : Ft)
    (hx : a.eval x = .pointer (some ⟨g, 0, none⟩)) (hy : a.eval y = .agg (fcs f).toArray) (hg : ∃ old : Array Value, w.heap[g]? = some (.cells old 61 (0, 0)) ∧ old.size = 8)
    (h : wpList Tryz.prog ops Q rest (a.put o.dst undef) (w.setRow g (fcs f).toArray)) : wpList Tryz.prog ops Q (o :: rest) a w := by
  obtain ⟨old, hg, ho2⟩ := hg
  exact wpList_store_row hgd 61 x y ho g (fcs f).toArray hx hy 61 old hg factSize (by rw [ho2]; rfl) (by simp [fcs, Value.oneCell']) h

/-- a fresh block, a fact stored there -/
abbrev zcs : Array Value := #[.int .i64 0, .int .i64 0, .int .i64 0, .int .i64 0, .int .i64 0, .int .i64 0, .string ByteArray.empty, .string ByteArray.empty]
def boxZ (w : World) (f : Ft) : World := (w.alloc (.cells zcs 61)).setRow w.heap.size (fcs f).toArray
theorem boxZ_old (w : World) : ∃ old : Array Value, (w.alloc (.cells zcs 61)).heap[w.heap.size]? = some (.cells old 61 (0, 0)) ∧ old.size = 8 := ⟨_, heap_alloc_new w _, rfl⟩
theorem boxZ_row (w : World) (f : Ft) : FRow (boxZ w f) w.heap.size f := setRow_heap _ _ _ _ _ _ (heap_alloc_new w _)
theorem boxZ_below (w : World) (f : Ft) : Below w.heap.size w (boxZ w f) :=
  ⟨rfl, rfl, rfl, by simp [boxZ], fun k hk => by
    have hn : k ≠ w.heap.size := by omega
    unfold boxZ
    rw [setRow_other _ _ _ _ hn, Below.heap_alloc _ _ _ hk]⟩

theorem ownF_nil (B : Nat) (w : World) : OwnF B (.slice none 0 0) [] w := World.ownsRow_nil _ _ _ _
theorem OwnF.fin {B : Nat} {v : Value} {l : List Ft} {w : World} (h : OwnF B v l w) : ∃ a cap, v = .slice a l.length cap ∧ FIn w a l ∧ l.length ≤ maxLen := by
  obtain ⟨hl, hv⟩ := h
  rcases hv with ⟨rfl, h0⟩ | ⟨g, cap, cur, rfl, hB, hg, hn, hm, hs, htk⟩
  · exact ⟨none, 0, by rw [h0], .inl (List.length_eq_zero_iff.1 h0), by rw [h0]; simp [maxLen]⟩
  · refine ⟨_, cap, rfl, .inr ⟨g, 0, rfl, lt_of_block hg, fun j f hj i u hu => ?_⟩, by omega⟩
    have h1 := rowF_at l j f hj i u hu
    have c1 := Lib.cells_of_row hg (l.length * 8) (j * 8 + i) _ (by rw [htk]; exact h1)
    have e1 : ∀ k, (⟨g, 0, none⟩ : Addr).add k = ⟨g, 0 + k, none⟩ := fun k => by cases k <;> simp [Addr.add]
    rw [e1] at c1
    rw [Nat.add_assoc]
    exact c1
theorem OwnF.below {B C : Nat} {v : Value} {l : List Ft} {w w' : World} (h : OwnF B v l w) (hb : Below C w w') (hC : w.heap.size ≤ C) : OwnF B v l w' := by
  unfold OwnF at *
  refine ⟨h.1, ?_⟩
  rcases h.2 with hn | ⟨g, cap, cur, hv, hB, hg, rest⟩
  · exact .inl hn
  · exact .inr ⟨g, cap, cur, hv, hB, by rw [hb.block g (Nat.lt_of_lt_of_le (lt_of_block hg) hC)]; exact hg, rest⟩
theorem OwnF.mono {B C : Nat} {v : Value} {l : List Ft} {w : World} (h : OwnF B v l w) (hC : C ≤ B) : OwnF C v l w := by
  unfold OwnF at *
  refine ⟨h.1, ?_⟩
  rcases h.2 with hn | ⟨g, cap, cur, hv, hB, rest⟩
  · exact .inl hn
  · exact .inr ⟨g, cap, cur, hv, by omega, rest⟩
theorem OwnF.alloc {B : Nat} {v : Value} {l : List Ft} {w : World} (h : OwnF B v l w) (o : Obj) : OwnF B v l (w.alloc o) := World.ownsRow.alloc h o
theorem OwnF.keep {B b : Nat} {v : Value} {l : List Ft} {w w' : World} (h : OwnF B v l w) (hg : w.grownBy w' (some b)) (hb : b < B) : OwnF B v l w' := by
  unfold OwnF at *
  refine ⟨h.1, ?_⟩
  rcases h.2 with hn | ⟨g, cap, cur, rfl, hB, hg0, rest⟩
  · exact .inl hn
  · exact .inr ⟨g, cap, cur, rfl, hB, by rw [hg.block g (lt_of_block hg0) (by simp; omega)]; exact hg0, rest⟩
theorem OwnF.set {B b i : Nat} {v : Value} {l : List Ft} {w : World} (h : OwnF B v l w) (hb : b < B) (u : Value) : OwnF B v l (w.setCell ⟨b, i, none⟩ u) := h.keep (grownBy_setCell w b i u) hb

/-! facts compared -/
theorem eqF_in (d : Nat) (a b : Ft) (W : World) : (Op.equalIn (d + 4) 61 (.agg (fcs a).toArray) (.agg (fcs b).toArray)).run Tryz.prog W = .ok (decide (a = b)) W := by
  rw [run_equalIn_agg (P := Tryz.prog) W (d + 3) _ _ _ (by kernel_rfl) (by kernel_rfl)]
  have hf : (Tryz.prog.fieldsOf 61).toList.map (fun f => (f.name != "_", f.type, f.offset)) = [(true, 50, 0), (true, 52, 2), (true, 3, 5), (true, 9, 6), (true, 9, 7)] := by kernel_rfl
  generalize (Tryz.prog.fieldsOf 61).toList = fs at hf
  have hfl : fs.length = 5 := by have := congrArg List.length hf; simpa using this
  match fs, hfl with
  | [f0, f1, f2, f3, f4], _ =>
    simp only [List.map_cons, List.map_nil, List.cons.injEq, Prod.mk.injEq, and_true] at hf
    obtain ⟨⟨n0, t0, o0⟩, ⟨n1, t1, o1⟩, ⟨n2, t2, o2⟩, ⟨n3, t3, o3⟩, n4, t4, o4⟩ := hf
    have m0 : f0.name ≠ "_" := by simpa using n0
    have m1 : f1.name ≠ "_" := by simpa using n1
    have m2 : f2.name ≠ "_" := by simpa using n2
    have m3 : f3.name ≠ "_" := by simpa using n3
    have m4 : f4.name ≠ "_" := by simpa using n4
    have p0 : ∀ (x : Ft) (W : World), (part 50 (fcs x).toArray 0).run Tryz.prog W = .ok (.agg #[.int .i64 x.d.1, .int .i64 x.d.2]) W := fun x W => by rfl
    have p1 : ∀ (x : Ft) (W : World), (part 52 (fcs x).toArray 2).run Tryz.prog W = .ok (.agg #[.int .i64 x.s.t, .int .i64 x.s.c, .int .i64 x.s.r]) W := fun x W => by rfl
    have p2 : ∀ (x : Ft) (W : World), (part 3 (fcs x).toArray 5).run Tryz.prog W = .ok (.int .i64 x.k) W := fun x W => by rfl
    have p3 : ∀ (x : Ft) (W : World), (part 9 (fcs x).toArray 6).run Tryz.prog W = .ok (.string x.n) W := fun x W => by rfl
    have p4 : ∀ (x : Ft) (W : World), (part 9 (fcs x).toArray 7).run Tryz.prog W = .ok (.string x.v) W := fun x W => by rfl
    have q : ∀ (x y : Int) (W : World), (Op.equalIn (d + 3) 3 (.int .i64 x) (.int .i64 y)).run Tryz.prog W = .ok (x == y) W := fun x y W => run_equalIn_int (P := Tryz.prog) W (d + 2) 3 .i64 .i64 _ _ Tryz.underlying3
    have qs : ∀ (x y : ByteArray) (W : World), (Op.equalIn (d + 3) 9 (.string x) (.string y)).run Tryz.prog W = .ok (x.toList == y.toList) W := fun x y W => run_equalIn_string (P := Tryz.prog) W (d + 2) 9 _ _ Tryz.underlying9
    have qd := fun (x y : Dt) W => eqD_in (d + 1) x y W
    have qt := fun (x y : St) W => eqS_in (d + 1) x y W
    have hxy : ∀ x y : ByteArray, (x.toList == y.toList) = decide (x = y) := fun x y => by
      by_cases h : x = y
      · simp [h]
      · have : x.toList ≠ y.toList := fun e => h (by
          rw [ByteArray.toList_eq, ByteArray.toList_eq] at e
          obtain ⟨⟨a⟩⟩ := x
          obtain ⟨⟨b⟩⟩ := y
          simp only at e
          rw [e])
        simp [h, this]
    simp only [Op.eqFields, m0, m1, m2, m3, m4, ne_eq, not_false_eq_true, if_true, t0, t1, t2, t3, t4, o0, o1, o2, o3, o4, Sem.run_bind, p0, qd, Result.andThen_ok]
    by_cases h0 : a.d = b.d
    · by_cases h1 : a.s = b.s
      · by_cases h2 : a.k = b.k
        · by_cases h3 : a.n = b.n
          · by_cases h4 : a.v = b.v
            · have e : a = b := by cases a; cases b; simp_all
              subst e
              simp [p1, p2, p3, p4, q, qs, qt]
            · have e : a ≠ b := fun e => h4 (by rw [e])
              simp [h0, h1, h2, h3, h4, e, p1, p2, p3, p4, q, qs, qt, hxy]
          · have e : a ≠ b := fun e => h3 (by rw [e])
            simp [h0, h1, h2, h3, e, p1, p2, p3, q, qs, qt, hxy]
        · have e : a ≠ b := fun e => h2 (by rw [e])
          simp [h0, h1, h2, e, p1, p2, q, qt]
      · have e : a ≠ b := fun e => h1 (by rw [e])
        simp [h0, h1, e, p1, qt]
    · have e : a ≠ b := fun e => h0 (by rw [e])
      simp [h0, e]
theorem eqF (a b : Ft) (W : World) : (Op.equalIn 10000 61 (.agg (fcs a).toArray) (.agg (fcs b).toArray)).run Tryz.prog W = .ok (decide (a = b)) W := eqF_in 9996 a b W
theorem eqlF (a b : Ft) (W : World) : (binOp .eql 61 (.agg (fcs a).toArray) (.agg (fcs b).toArray)).run Tryz.prog W = .ok (.bool (decide (a = b))) W := by
  rw [run_eql_struct, eqF]; rfl
theorem neqF (a b : Ft) (W : World) : (binOp .neq 61 (.agg (fcs a).toArray) (.agg (fcs b).toArray)).run Tryz.prog W = .ok (.bool (!decide (a = b))) W := by
  rw [run_neq_struct, eqF]; rfl
end Go.Proofs.YtcedliaeipabnaaGreat

namespace Go.Proofs.YtcedliaeipabnaaGreat
open Go.RowKit Go.Sort

def Gr (w w' : World) : Prop := ∃ q os, w' = grow (w.drewN q) os
theorem Gr.refl (w : World) : Gr w w := ⟨0, #[], by rw [grow_empty]; rfl⟩
theorem Gr.trans {a b c : World} (h : Gr a b) (k : Gr b c) : Gr a c := by
  obtain ⟨q, os, rfl⟩ := h
  obtain ⟨r, os', rfl⟩ := k
  exact ⟨q + r, os ++ os', by show grow (grow ((a.drewN q).drewN r) os) os' = _; rw [grow_grow, World.drewN_drewN]⟩
theorem Gr.one (w : World) (o : Obj) : Gr w (w.alloc o) := ⟨0, #[o], by rw [alloc_eq_grow]; rfl⟩
theorem Gr.alloc {a b : World} (h : Gr a b) (o : Obj) : Gr a (b.alloc o) := h.trans (.one b o)
theorem Gr.drew1 (w : World) : Gr w w.drew := ⟨1, #[], by rw [grow_empty]; rfl⟩
theorem Gr.below {a b : World} (h : Gr a b) : Below a.heap.size a b := by
  obtain ⟨q, os, rfl⟩ := h
  exact ⟨rfl, rfl, rfl, by rw [size_grow]; exact Nat.le_add_right _ _, fun k hk => heap_grow_old _ _ hk⟩
theorem Gr.size {a b : World} (h : Gr a b) : a.heap.size ≤ b.heap.size := h.below.size
end Go.Proofs.YtcedliaeipabnaaGreat

namespace Go.Proofs.YtcedliaeipabnaaGreat
open Go.RowKit
set_option maxRecDepth 100000

def cmpT (x y : Int) : Int := if x < y then -1 else if y < x then 1 else 0

theorem cmpTC (x y : Int) (w : World) : Calls Tryz.prog 83 #[.int .i64 x, .int .i64 y] w fun e w' => e = .returned (.int .i64 (cmpT x y)) ∧ w = w' := by
  have hn : ∀ (z : Int) (W : World), Calls Tryz.prog 110 #[.int .i64 z] W fun e w' => e = .returned (.bool false) ∧ W = w' := by
    intro z W
    go_enter Tryz.func110, Tryz.ntmps110
    go_wp2
    go_ret
    exact ⟨by simp, rfl⟩
  unfold cmpT
  by_cases h1 : x < y
  · rw [if_pos h1]
    go_enter Tryz.func83, Tryz.ntmps83
    go_wp2_with (refine (hn _ _).mono ?_; rintro e w1 ⟨rfl, rfl⟩)
    go_ret
    exact ⟨rfl, rfl⟩
  · rw [if_neg h1]
    by_cases h2 : y < x
    · rw [if_pos h2]
      go_enter Tryz.func83, Tryz.ntmps83
      go_wp2_with (refine (hn _ _).mono ?_; rintro e w1 ⟨rfl, rfl⟩)
      go_ret
      exact ⟨rfl, rfl⟩
    · rw [if_neg h2]
      go_enter Tryz.func83, Tryz.ntmps83
      go_wp2_with (refine (hn _ _).mono ?_; rintro e w1 ⟨rfl, rfl⟩)
      go_ret
      exact ⟨rfl, rfl⟩

set_option maxHeartbeats 1000000 in
theorem byTimeC (a b : St) (w : World) : Calls Tryz.prog 112 #[.agg #[.int .i64 a.t, .int .i64 a.c, .int .i64 a.r], .agg #[.int .i64 b.t, .int .i64 b.c, .int .i64 b.r]] w fun e w' => e = .returned (.int .i64 (cmpT a.t b.t)) ∧ Gr w w' := by
  obtain ⟨at', ac, ar⟩ := a
  obtain ⟨bt, bc, br⟩ := b
  simp only
  have hc := fun W => cmpTC at' bt W
  generalize cmpT at' bt = x at hc ⊢
  go_enter Tryz.func112, Tryz.ntmps112
  go_wp2_with fail
  refine (hc _).mono ?_
  rintro e w1 ⟨rfl, rfl⟩
  go_wp2
  go_ret
  exact ⟨rfl, ((Gr.refl _).alloc _).alloc _⟩

set_option maxHeartbeats 1000000 in
theorem byCountC (a b : St) (w : World) : Calls Tryz.prog 113 #[.agg #[.int .i64 a.t, .int .i64 a.c, .int .i64 a.r], .agg #[.int .i64 b.t, .int .i64 b.c, .int .i64 b.r]] w fun e w' => e = .returned (.int .i64 (cmpT a.c b.c)) ∧ Gr w w' := by
  obtain ⟨at', ac, ar⟩ := a
  obtain ⟨bt, bc, br⟩ := b
  simp only
  have hc := fun W => cmpTC ac bc W
  generalize cmpT ac bc = x at hc ⊢
  go_enter Tryz.func113, Tryz.ntmps113
  go_wp2_with fail
  refine (hc _).mono ?_
  rintro e w1 ⟨rfl, rfl⟩
  go_wp2
  go_ret
  exact ⟨rfl, ((Gr.refl _).alloc _).alloc _⟩

set_option maxHeartbeats 1000000 in
theorem byReplicaC (a b : St) (w : World) : Calls Tryz.prog 114 #[.agg #[.int .i64 a.t, .int .i64 a.c, .int .i64 a.r], .agg #[.int .i64 b.t, .int .i64 b.c, .int .i64 b.r]] w fun e w' => e = .returned (.int .i64 (cmpT a.r b.r)) ∧ Gr w w' := by
  obtain ⟨at', ac, ar⟩ := a
  obtain ⟨bt, bc, br⟩ := b
  simp only
  have hc := fun W => cmpTC ar br W
  generalize cmpT ar br = x at hc ⊢
  go_enter Tryz.func114, Tryz.ntmps114
  go_wp2_with fail
  refine (hc _).mono ?_
  rintro e w1 ⟨rfl, rfl⟩
  go_wp2
  go_ret
  exact ⟨rfl, ((Gr.refl _).alloc _).alloc _⟩

/-- of two rows of numbers the first that tell apart -/
def aheadP : List (FuncId × Int × Int) → Bool
  | [] => false
  | q :: r => if q.2.1 = q.2.2 then aheadP r else decide (q.2.1 < q.2.2)

theorem cmpT_eq {x y : Int} (h : x = y) : cmpT x y = 0 := by unfold cmpT; rw [if_neg (by omega), if_neg (by omega)]
theorem cmpT_lt {x y : Int} (h : x < y) : cmpT x y = -1 := by unfold cmpT; rw [if_pos h]
theorem cmpT_gt {x y : Int} (h : y < x) : cmpT x y = 1 := by unfold cmpT; rw [if_neg (by omega), if_pos h]

theorem run_enter {P : Program} {f : FuncId} {fn : Func} (hf : P.funcs[f]? = some fn) (hname : (fn.name == "runtime.NumGoroutine") = false) (hb : fn.body.isNone = false) (args : Array Value) (w : World) :
    (callFunc f args).run P w = .ok (.enter f args) w := by
  have h1 : fn.name ≠ "runtime.NumGoroutine" := by simpa using hname
  have h3 : ¬ fn.body = none := by intro h; simp [h] at hb
  simp [callFunc, hf, h1, h3]

set_option maxHeartbeats 2000000 in
theorem aheadC (a b : St) (ks : List (FuncId × Int × Int)) (B n : Nat) (w : World) (hB : B < w.heap.size) (hn : n = ks.length) (hmax : n ≤ 1000)
    (hk : ∀ j, j < ks.length → ∀ q, ks[j]? = some q → w.cell? ⟨B, j, none⟩ = some (.func (.func q.1) #[] #[]) ∧ (∀ args W, (callFunc q.1 args).run Tryz.prog W = .ok (.enter q.1 args) W) ∧ ∀ W, Calls Tryz.prog q.1 #[.agg #[.int .i64 a.t, .int .i64 a.c, .int .i64 a.r], .agg #[.int .i64 b.t, .int .i64 b.c, .int .i64 b.r]] W fun e w' => e = .returned (.int .i64 (cmpT q.2.1 q.2.2)) ∧ Gr W w') :
    Calls Tryz.prog 111 #[.agg #[.int .i64 a.t, .int .i64 a.c, .int .i64 a.r], .agg #[.int .i64 b.t, .int .i64 b.c, .int .i64 b.r], .slice (some ⟨B, 0, none⟩) n n] w fun e w' => e = .returned (.bool (aheadP ks)) ∧ Gr w w' := by
  obtain ⟨at', ac, ar⟩ := a
  obtain ⟨bt, bc, br⟩ := b
  simp only at *
  obtain ⟨W0, hW0⟩ : ∃ W0, W0 = boxS (boxS w ⟨at', ac, ar⟩) ⟨bt, bc, br⟩ := ⟨_, rfl⟩
  have hg0 : Gr w (boxS (boxS w ⟨at', ac, ar⟩) ⟨bt, bc, br⟩) := ((Gr.refl _).alloc _).alloc _
  have hb0 := hg0.below
  have hs0 : (boxS (boxS w ⟨at', ac, ar⟩) ⟨bt, bc, br⟩).heap.size = w.heap.size + 2 := by rw [boxS_size, boxS_size]
  have hcA : ∀ j u, (scs ⟨at', ac, ar⟩)[j]? = some u → (boxS (boxS w ⟨at', ac, ar⟩) ⟨bt, bc, br⟩).cell? ⟨w.heap.size, j, none⟩ = some u := fun j u hu => by
    rw [(boxS_below (boxS w ⟨at', ac, ar⟩) ⟨bt, bc, br⟩).cell (p := ⟨w.heap.size, j, none⟩) (by rw [boxS_size]; simp)]
    unfold boxS
    rw [Joins.cell_of_block (heap_alloc_new w _)]
    simpa [scs] using hu
  have hcB : ∀ j u, (scs ⟨bt, bc, br⟩)[j]? = some u → (boxS (boxS w ⟨at', ac, ar⟩) ⟨bt, bc, br⟩).cell? ⟨w.heap.size + 1, j, none⟩ = some u := fun j u hu => by
    have h1 := heap_alloc_new (boxS w ⟨at', ac, ar⟩) (.cells #[.int .i64 bt, .int .i64 bc, .int .i64 br] 52)
    rw [boxS_size] at h1
    show ((boxS w ⟨at', ac, ar⟩).alloc _).cell? _ = _
    rw [Joins.cell_of_block h1]
    simpa [scs] using hu
  rw [← hW0] at hb0 hg0 hs0 hcA hcB
  have HW0 := Lib.hid hW0
  have HB0 := Lib.hid hg0
  clear hg0
  have HA := Lib.hid hcA
  have HBB := Lib.hid hcB
  have HK := Lib.hid hk
  have HN := Lib.hid hn
  clear hW0 hcA hcB hk hn
  have hbox : (w.alloc (.cells #[.int .i64 at', .int .i64 ac, .int .i64 ar] 52)).alloc (.cells #[.int .i64 bt, .int .i64 bc, .int .i64 br] 52) = W0 := HW0.out.symm
  go_enter Tryz.func111, Tryz.ntmps111
  go_wp2
  go_loopw [8, 9, 12] (fun _ _ i wr => ∃ k : Nat, k ≤ n ∧ i = .int .i64 (k : Int) ∧ aheadP (ks.drop k) = aheadP ks ∧ Gr W0 wr) (fun _ _ i _ => n - (intOf i).toNat)
  case atStart => exact ⟨0, by omega, rfl, rfl, Gr.refl _⟩
  case round =>
    obtain ⟨k, hk, rfl, hp, hgr⟩ := hrel
    have hb := hgr.below
    have HB := Lib.hid hgr
    clear hgr
    have HP := Lib.hid hp
    clear hbox
    by_cases hlt : k < n
    · have hkl : k < ks.length := by rw [← HN.out]; exact hlt
      obtain ⟨hc, hent, hcall⟩ := HK.out k hkl ks[k] (List.getElem?_eq_getElem hkl)
      have hdrop : ks.drop k = ks[k] :: ks.drop (k + 1) := (List.drop_eq_getElem_cons hkl)
      rw [hdrop] at hp
      have HD := Lib.hid hdrop
      clear hdrop HP
      generalize ks[k] = q at hp hc hcall hent
      obtain ⟨F, x, y⟩ := q
      simp only [aheadP] at hp hc hcall hent
      have hcell : wr.cell? ⟨B, k, none⟩ = some (.func (.func F) #[] #[]) := by
        rw [hb.cell (p := ⟨B, k, none⟩) (by show B < W0.heap.size; omega), hb0.cell (p := ⟨B, k, none⟩) (by show B < w.heap.size; omega)]; exact hc
      have a0 : wr.cell? ⟨w.heap.size, 0, none⟩ = some (.int .i64 at') := by rw [hb.cell (p := ⟨w.heap.size, 0, none⟩) (by show w.heap.size < W0.heap.size; omega)]; exact HA.out 0 _ rfl
      have a1 : wr.cell? ⟨w.heap.size, 1, none⟩ = some (.int .i64 ac) := by rw [hb.cell (p := ⟨w.heap.size, 1, none⟩) (by show w.heap.size < W0.heap.size; omega)]; exact HA.out 1 _ rfl
      have a2 : wr.cell? ⟨w.heap.size, 2, none⟩ = some (.int .i64 ar) := by rw [hb.cell (p := ⟨w.heap.size, 2, none⟩) (by show w.heap.size < W0.heap.size; omega)]; exact HA.out 2 _ rfl
      have b0 : wr.cell? ⟨w.heap.size + 1, 0, none⟩ = some (.int .i64 bt) := by rw [hb.cell (p := ⟨w.heap.size + 1, 0, none⟩) (by show w.heap.size + 1 < W0.heap.size; omega)]; exact HBB.out 0 _ rfl
      have b1 : wr.cell? ⟨w.heap.size + 1, 1, none⟩ = some (.int .i64 bc) := by rw [hb.cell (p := ⟨w.heap.size + 1, 1, none⟩) (by show w.heap.size + 1 < W0.heap.size; omega)]; exact HBB.out 1 _ rfl
      have b2 : wr.cell? ⟨w.heap.size + 1, 2, none⟩ = some (.int .i64 br) := by rw [hb.cell (p := ⟨w.heap.size + 1, 2, none⟩) (by show w.heap.size + 1 < W0.heap.size; omega)]; exact HBB.out 2 _ rfl
      have hbs := hb.size
      clear hb hc hb0 hs0 hbs
      rcases Int.lt_trichotomy x y with h | h | h
      · rw [if_neg (by omega), decide_eq_true h] at hp
        rw [cmpT_lt h] at hcall
        have HCALL := Lib.hid hcall
        have HP := Lib.hid hp
        clear hcall hp h
        go_wp2_with fail
        refine (HCALL.out _).mono ?_
        rintro e w1 ⟨rfl, hb1⟩
        have HB1 := Lib.hid (HB.out.trans hb1)
        clear hb1
        go_wp2
        go_ret
        exact ⟨by rw [← HP.out]; rfl, HB0.out.trans HB1.out⟩
      · rw [if_pos h] at hp
        rw [cmpT_eq h] at hcall
        have HCALL := Lib.hid hcall
        have HP := Lib.hid hp
        clear hcall hp h
        go_wp2_with fail
        refine (HCALL.out _).mono ?_
        rintro e w1 ⟨rfl, hb1⟩
        have HB1 := Lib.hid (HB.out.trans hb1)
        clear hb1
        go_wp2
        exact ⟨⟨k + 1, by omega, by go_num, HP.out, HB1.out⟩, by simp [intOf]; omega⟩
      · rw [if_neg (by omega), decide_eq_false (by omega)] at hp
        rw [cmpT_gt h] at hcall
        have HCALL := Lib.hid hcall
        have HP := Lib.hid hp
        clear hcall hp h
        go_wp2_with fail
        refine (HCALL.out _).mono ?_
        rintro e w1 ⟨rfl, hb1⟩
        have HB1 := Lib.hid (HB.out.trans hb1)
        clear hb1
        go_wp2
        go_ret
        exact ⟨by rw [← HP.out]; rfl, HB0.out.trans HB1.out⟩
    · obtain rfl : k = n := by omega
      have hp0 : aheadP ks = false := by rw [← hp, List.drop_eq_nil_of_le (by rw [← HN.out]; omega)]; rfl
      have HP0 := Lib.hid hp0
      clear hb hp hp0 hs0 hb0
      go_wp2
      go_ret
      exact ⟨by rw [HP0.out]; rfl, HB0.out.trans HB.out⟩

def keys3 (a b : St) : List (FuncId × Int × Int) := [(112, a.t, b.t), (113, a.c, b.c), (114, a.r, b.r)]
def keys2 (a b : St) : List (FuncId × Int × Int) := [(112, a.t, b.t), (113, a.c, b.c)]

theorem ahead_three (a b : St) : aheadP (keys3 a b) = ltS a b := by
  have e : aheadP (keys3 a b) = if a.t = b.t then (if a.c = b.c then (if a.r = b.r then false else decide (a.r < b.r)) else decide (a.c < b.c)) else decide (a.t < b.t) := rfl
  have f : ltS a b = if a.t ≠ b.t then decide (a.t < b.t) else if a.c ≠ b.c then decide (a.c < b.c) else decide (a.r < b.r) := rfl
  rw [e, f]
  by_cases h : a.t = b.t
  · rw [if_pos h, if_neg (show ¬ a.t ≠ b.t from fun x => x h)]
    by_cases k : a.c = b.c
    · rw [if_pos k, if_neg (show ¬ a.c ≠ b.c from fun x => x k)]
      by_cases l : a.r = b.r
      · rw [if_pos l, l]; simp
      · rw [if_neg l]
    · rw [if_neg k, if_pos (show a.c ≠ b.c from k)]
  · rw [if_neg h, if_pos (show a.t ≠ b.t from h)]
/-- whether b's time and count are ahead -/
def upS (a b : St) : Bool := decide (a.t < b.t ∨ (a.t = b.t ∧ a.c < b.c))
theorem ahead_two (a b : St) : aheadP (keys2 a b) = upS a b := by
  have e : aheadP (keys2 a b) = if a.t = b.t then (if a.c = b.c then false else decide (a.c < b.c)) else decide (a.t < b.t) := rfl
  rw [e]
  unfold upS
  by_cases h : a.t = b.t
  · rw [if_pos h]
    by_cases k : a.c = b.c
    · rw [if_pos k, decide_eq_false (by omega)]
    · rw [if_neg k]; simp [h]
  · rw [if_neg h]; simp [h]

theorem enterTime (args : Array Value) (w : World) : (callFunc 112 args).run Tryz.prog w = .ok (.enter 112 args) w := run_enter Tryz.func112 (by kernel_rfl) (by kernel_rfl) args w
theorem enterCount (args : Array Value) (w : World) : (callFunc 113 args).run Tryz.prog w = .ok (.enter 113 args) w := run_enter Tryz.func113 (by kernel_rfl) (by kernel_rfl) args w
theorem enterReplica (args : Array Value) (w : World) : (callFunc 114 args).run Tryz.prog w = .ok (.enter 114 args) w := run_enter Tryz.func114 (by kernel_rfl) (by kernel_rfl) args w

theorem ahead3G (a b : St) (B : Nat) (w : World) (hB : B < w.heap.size) (c0 : w.cell? ⟨B, 0, none⟩ = some (.func (.func 112) #[] #[])) (c1 : w.cell? ⟨B, 1, none⟩ = some (.func (.func 113) #[] #[])) (c2 : w.cell? ⟨B, 2, none⟩ = some (.func (.func 114) #[] #[])) :
    Calls Tryz.prog 111 #[.agg #[.int .i64 a.t, .int .i64 a.c, .int .i64 a.r], .agg #[.int .i64 b.t, .int .i64 b.c, .int .i64 b.r], .slice (some ⟨B, 0, none⟩) 3 3] w fun e w' => e = .returned (.bool (ltS a b)) ∧ Gr w w' := by
  have h := aheadC a b (keys3 a b) B 3 w hB rfl (by omega) (fun j hj q hq => by
    match j, hj with
    | 0, _ => obtain rfl : _ = q := Option.some.inj hq; exact ⟨c0, enterTime, byTimeC a b⟩
    | 1, _ => obtain rfl : _ = q := Option.some.inj hq; exact ⟨c1, enterCount, byCountC a b⟩
    | 2, _ => obtain rfl : _ = q := Option.some.inj hq; exact ⟨c2, enterReplica, byReplicaC a b⟩)
  rwa [ahead_three] at h
theorem ahead3 (a b : St) (B : Nat) (w : World) (hB : B < w.heap.size) (c0 : w.cell? ⟨B, 0, none⟩ = some (.func (.func 112) #[] #[])) (c1 : w.cell? ⟨B, 1, none⟩ = some (.func (.func 113) #[] #[])) (c2 : w.cell? ⟨B, 2, none⟩ = some (.func (.func 114) #[] #[])) :
    Calls Tryz.prog 111 #[.agg #[.int .i64 a.t, .int .i64 a.c, .int .i64 a.r], .agg #[.int .i64 b.t, .int .i64 b.c, .int .i64 b.r], .slice (some ⟨B, 0, none⟩) 3 3] w fun e w' => e = .returned (.bool (ltS a b)) ∧ Below w.heap.size w w' := (ahead3G a b B w hB c0 c1 c2).mono fun _ _ h => ⟨h.1, h.2.below⟩

theorem ahead2G (a b : St) (B : Nat) (w : World) (hB : B < w.heap.size) (c0 : w.cell? ⟨B, 0, none⟩ = some (.func (.func 112) #[] #[])) (c1 : w.cell? ⟨B, 1, none⟩ = some (.func (.func 113) #[] #[])) :
    Calls Tryz.prog 111 #[.agg #[.int .i64 a.t, .int .i64 a.c, .int .i64 a.r], .agg #[.int .i64 b.t, .int .i64 b.c, .int .i64 b.r], .slice (some ⟨B, 0, none⟩) 2 2] w fun e w' => e = .returned (.bool (upS a b)) ∧ Gr w w' := by
  have h := aheadC a b (keys2 a b) B 2 w hB rfl (by omega) (fun j hj q hq => by
    match j, hj with
    | 0, _ => obtain rfl : _ = q := Option.some.inj hq; exact ⟨c0, enterTime, byTimeC a b⟩
    | 1, _ => obtain rfl : _ = q := Option.some.inj hq; exact ⟨c1, enterCount, byCountC a b⟩)
  rwa [ahead_two] at h
theorem ahead2 (a b : St) (B : Nat) (w : World) (hB : B < w.heap.size) (c0 : w.cell? ⟨B, 0, none⟩ = some (.func (.func 112) #[] #[])) (c1 : w.cell? ⟨B, 1, none⟩ = some (.func (.func 113) #[] #[])) :
    Calls Tryz.prog 111 #[.agg #[.int .i64 a.t, .int .i64 a.c, .int .i64 a.r], .agg #[.int .i64 b.t, .int .i64 b.c, .int .i64 b.r], .slice (some ⟨B, 0, none⟩) 2 2] w fun e w' => e = .returned (.bool (upS a b)) ∧ Below w.heap.size w w' := (ahead2G a b B w hB c0 c1).mono fun _ _ h => ⟨h.1, h.2.below⟩

theorem cells_new (w : World) (c : Array Value) (t : TypeId) (j : Nat) (u : Value) (h : c[j]? = some u) : (w.alloc (.cells c t)).cell? ⟨w.heap.size, j, none⟩ = some u := by
  rw [Joins.cell_of_block (heap_alloc_new w _)]; exact h

set_option maxHeartbeats 1000000 in
theorem tlessG (a b : St) (w : World) : Calls Tryz.prog 86 #[.agg #[.int .i64 a.t, .int .i64 a.c, .int .i64 a.r], .agg #[.int .i64 b.t, .int .i64 b.c, .int .i64 b.r]] w fun e w' => e = .returned (.bool (ltS a b)) ∧ Gr w w' := by
  have h3 := fun B W => ahead3G a b B W
  have HB0 := Lib.hid (show Gr w (boxS (boxS w a) b) from ((Gr.refl _).alloc _).alloc _)
  have hsz : (boxS (boxS w a) b).heap.size = w.heap.size + 1 + 1 := by rw [boxS_size, boxS_size]
  generalize ltS a b = l at h3 ⊢
  obtain ⟨at', ac, ar⟩ := a
  obtain ⟨bt, bc, br⟩ := b
  simp only at *
  have H3 := Lib.hid h3
  have HS := Lib.hid hsz
  clear h3 hsz
  go_enter Tryz.func86, Tryz.ntmps86
  go_wp2_with fail
  refine (H3.out (w.heap.size + 1 + 1) _ (by simp) ?_ ?_ ?_).mono ?_
  · have e := HS.out; unfold boxS at e; rw [← e]; exact cells_new _ _ _ 0 _ rfl
  · have e := HS.out; unfold boxS at e; rw [← e]; exact cells_new _ _ _ 1 _ rfl
  · have e := HS.out; unfold boxS at e; rw [← e]; exact cells_new _ _ _ 2 _ rfl
  rintro e w1 ⟨rfl, hb1⟩
  have HB1 := Lib.hid ((HB0.out.alloc _).trans hb1)
  clear hb1
  go_wp2
  go_ret
  exact ⟨rfl, HB1.out⟩
theorem tlessC (a b : St) (w : World) : Calls Tryz.prog 86 #[.agg #[.int .i64 a.t, .int .i64 a.c, .int .i64 a.r], .agg #[.int .i64 b.t, .int .i64 b.c, .int .i64 b.r]] w fun e w' => e = .returned (.bool (ltS a b)) ∧ Below w.heap.size w w' := (tlessG a b w).mono fun _ _ h => ⟨h.1, h.2.below⟩
end Go.Proofs.YtcedliaeipabnaaGreat
