/-
  wire.number: what it answers of every text.
  wire.New and the Reader's methods: what each call answers, and what becomes of the reader.
-/
import Derived.Test.YtmnblpjdiplioaaGreatGOp01
import Derived.Lib.SmallJoins
import Derived.OneCell
import Derived.Maps.AppendAt
import Derived.Maps.Range
namespace Go.Proofs.YtmnblpjdiplioaaGreat
open Go.RowKit

theorem take_snoc8 (l : List UInt8) (k : Nat) (h : k < l.length) : l.take (k + 1) = l.take k ++ [l[k]] := by
  rw [List.take_succ_eq_append_getElem h]

set_option maxHeartbeats 2000000 in
set_option maxRecDepth 100000 in
theorem number_any (s : ByteArray) (hs : s.size ≤ 9223372036854775807) (w : World) :
    Calls Tryz.prog 165 #[.string s] w fun e w' => e = .returned (.tuple #[.int .i64 (numR s.data.toList).1, .int .i64 (numR s.data.toList).2.1, .int .i64 (numR s.data.toList).2.2]) ∧ w = w' := by
  have hsz : s.data.toList.length = s.size := by simp
  go_enter Tryz.func165, Tryz.ntmps165
  go_wp2
  refine wp_scope_head 0 (fun a' w' => ∃ (k : Nat) (d u8 u9 u10 u11 u12 u13 u14 u15 u16 u17 u18 u19 u20 u21 u22 u23 u24 u25 u26 u27 u28 u29 u30 u31 u32 u33 u34 u35 u36 u37 u38 u39 u40 u41 u42 : Value), a' = { tmps := #[.string s, undef, .int .i64 0, .int .i64 0, .int .i64 0, .int .i64 (lev ((s.data.toList.take k).take 8) : Nat), .int .i64 k, d, u8, u9, u10, u11, u12, u13, u14, u15, u16, u17, u18, u19, u20, u21, u22, u23, u24, u25, u26, u27, u28, u29, u30, u31, u32, u33, u34, u35, u36, u37, u38, u39, u40, u41, u42], defers := [] } ∧ k ≤ s.size ∧ (∀ j (h : j < s.data.toList.length), j < k → 128 ≤ s.data.toList[j].toNat) ∧ w = w') (fun a' _ => s.size - (intOf (a'.tmps.getD 6 undef)).toNat) rfl { tmps := #[.string s, undef, .int .i64 0, .int .i64 0, .int .i64 0, .int .i64 0, .int .i64 0, undef, undef, undef, undef, undef, undef, undef, undef, undef, undef, undef, undef, undef, undef, undef, undef, undef, undef, undef, undef, undef, undef, undef, undef, undef, undef, undef, undef, undef, undef, undef, undef, undef, undef, undef, undef], defers := [] } w ?_ ?_ ?_
  · exact ⟨0, _, _, _, _, _, _, _, _, _, _, _, _, _, _, _, _, _, _, _, _, _, _, _, _, _, _, _, _, _, _, _, _, _, _, _, _, rfl, by omega, by omega, rfl⟩
  · intro Q' h
    go_wp2
    go_step3
    rename_i hK
    exact hK _ _ h
  · rintro a' wr ⟨k, d, u8, u9, u10, u11, u12, u13, u14, u15, u16, u17, u18, u19, u20, u21, u22, u23, u24, u25, u26, u27, u28, u29, u30, u31, u32, u33, u34, u35, u36, u37, u38, u39, u40, u41, u42, rfl, hk, hall, rfl⟩
    by_cases hend : k = s.size
    · have hne : ((k : Int) == (s.size : Int)) = true := by simp; omega
      have hrun : run s.data.toList = s.data.toList.length := run_all _ (fun j h => hall j h (by omega))
      have hfin : numR s.data.toList = (0, 0, 4) := by unfold numR; rw [if_pos hrun]
      have HF := Lib.hid hfin
      have HA := Lib.hid hall
      clear hall hfin hend hrun
      generalize lev ((s.data.toList.take k).take 8) = n
      go_wp2
      simp only [Exit.jump]
      go_ret3
      rw [HF.out]
      exact ⟨rfl, rfl⟩
    · have hlt : k < s.size := by omega
      have hne : ((k : Int) == (s.size : Int)) = false := by simp; omega
      have hlt' : k < s.data.toList.length := by omega
      have hdat : s.data.toList[k] = s[k] := rfl
      have hb : s[k].toNat < 256 := UInt8.toNat_lt _
      have htk := take_snoc8 s.data.toList k hlt'
      have hlk : (s.data.toList.take k).length = k := by rw [List.length_take]; omega
      by_cases h8 : k < 8
      · have hn := lev_lt (s.data.toList.take k)
        rw [hlk] at hn
        have e8 : (s.data.toList.take k).take 8 = s.data.toList.take k := List.take_of_length_le (by omega)
        have e9 : (s.data.toList.take (k + 1)).take 8 = s.data.toList.take (k + 1) := List.take_of_length_le (by rw [List.length_take]; omega)
        have hlv : lev (s.data.toList.take (k + 1)) = lev (s.data.toList.take k) + s[k].toNat % 128 * 128 ^ k := by rw [htk, lev_snoc, hlk, hdat]
        have hor := or_step (lev (s.data.toList.take k)) k (s[k].toNat % 128) h8 hn (by omega)
        rw [← hlv] at hor
        have hcast : ((s[k].toNat % 128 : Nat) : Int) = (s[k].toNat : Int) % 128 := by omega
        rw [hcast] at hor
        rw [e8]
        obtain ⟨m, hm⟩ : ∃ m, m = lev (s.data.toList.take (k + 1)) := ⟨_, rfl⟩
        rw [← hm] at hor
        have HM := Lib.hid hm
        have HE9 := Lib.hid e9
        have HA := Lib.hid hall
        clear hm hall e8 e9 hlv hcast htk hn hdat
        generalize lev (s.data.toList.take k) = n at hor
        by_cases hd : 128 ≤ (s[k].toNat : Int)
        · go_wp2
          go_step3
          refine ⟨rfl, ⟨k + 1, _, _, _, _, _, _, _, _, _, _, _, _, _, _, _, _, _, _, _, _, _, _, _, _, _, _, _, _, _, _, _, _, _, _, _, _, by rw [HE9.out, ← HM.out]; rfl, by omega, ?_, rfl⟩, ?_⟩
          · intro j h hj
            by_cases e : j = k
            · subst e; have : s.data.toList[j] = s[j] := rfl; rw [this]; omega
            · exact HA.out j h (by omega)
          · simp [intOf]; omega
        · have hrun : run s.data.toList = k := run_of _ k hlt' HA.out (by have : s.data.toList[k] = s[k] := rfl; rw [this]; omega)
          have hget : s.data.toList.getD k 0 = s[k] := by rw [List.getD_eq_getElem?_getD, List.getElem?_eq_getElem hlt']; rfl
          by_cases hbig : 9007199254740992 < m
          · have hfin : numR s.data.toList = (0, 0, 2) := by unfold numR; rw [hrun, if_neg (by omega), if_pos (.inr (by rw [← HM.out]; exact hbig))]
            have HF := Lib.hid hfin
            clear hfin hrun hget
            go_wp2
            simp only [Exit.jump]
            go_ret3
            rw [HF.out]
            exact ⟨rfl, rfl⟩
          · by_cases hz : s[k].toNat = 0
            · have hz' : s[k] = 0 := UInt8.toNat_inj.1 (by simpa using hz)
              have hzb : ((s[k].toNat : Int) == 0) = true := by simp; omega
              by_cases hk0 : 0 < k
              · have hfin : numR s.data.toList = (0, 0, 5) := by unfold numR; rw [hrun, if_neg (by omega), if_neg (by rw [← HM.out]; omega), if_pos ⟨by rw [hget, hz'], hk0⟩]
                have HF := Lib.hid hfin
                clear hfin hrun hget hz' hz
                go_wp2
                simp only [Exit.jump]
                go_ret3
                rw [HF.out]
                exact ⟨rfl, rfl⟩
              · have hfin : numR s.data.toList = (m, k + 1, 0) := by unfold numR; rw [hrun, if_neg (by omega), if_neg (by rw [← HM.out]; omega), if_neg (by omega), ← HM.out]
                have HF := Lib.hid hfin
                clear hfin hrun hget hz' hz
                go_wp2
                simp only [Exit.jump]
                go_ret3
                rw [HF.out]
                exact ⟨rfl, rfl⟩
            · have hz' : s[k] ≠ 0 := fun h => hz (by rw [h]; rfl)
              have hzb : ((s[k].toNat : Int) == 0) = false := by simp; omega
              have hfin : numR s.data.toList = (m, k + 1, 0) := by unfold numR; rw [hrun, if_neg (by omega), if_neg (by rw [← HM.out]; omega), if_neg (by rw [hget]; exact fun h => hz' h.1), ← HM.out]
              have HF := Lib.hid hfin
              clear hfin hrun hget hz'
              go_wp2
              simp only [Exit.jump]
              go_ret3
              rw [HF.out]
              exact ⟨rfl, rfl⟩
      · have e8 : (s.data.toList.take (k + 1)).take 8 = (s.data.toList.take k).take 8 := by rw [List.take_take, List.take_take]; congr 1; omega
        have HE := Lib.hid e8
        have HA := Lib.hid hall
        clear e8 hall htk hdat
        generalize hn : lev ((s.data.toList.take k).take 8) = n
        have HN := Lib.hid hn
        clear hn
        by_cases hd : 128 ≤ (s[k].toNat : Int)
        · go_wp2
          go_step3
          refine ⟨rfl, ⟨k + 1, _, _, _, _, _, _, _, _, _, _, _, _, _, _, _, _, _, _, _, _, _, _, _, _, _, _, _, _, _, _, _, _, _, _, _, _, by rw [HE.out, HN.out]; rfl, by omega, ?_, rfl⟩, ?_⟩
          · intro j h hj
            by_cases e : j = k
            · subst e; have : s.data.toList[j] = s[j] := rfl; rw [this]; omega
            · exact HA.out j h (by omega)
          · simp [intOf]; omega
        · have hrun : run s.data.toList = k := run_of _ k hlt' HA.out (by have : s.data.toList[k] = s[k] := rfl; rw [this]; omega)
          have hfin : numR s.data.toList = (0, 0, 2) := by unfold numR; rw [hrun, if_neg (by omega), if_pos (.inl (by omega))]
          have HF := Lib.hid hfin
          clear hfin hrun
          go_wp2
          simp only [Exit.jump]
          go_ret3
          rw [HF.out]
          exact ⟨rfl, rfl⟩
end Go.Proofs.YtmnblpjdiplioaaGreat

namespace Go.Proofs.YtmnblpjdiplioaaGreat
open Go.RowKit

/-- Block b is a reader in the state st. -/
def Rd (b : Nat) (st : ByteArray × Int) (w : World) : Prop := w.heap[b]? = some (.cells #[.string st.1, .int .i64 st.2] 191 (0, 0))

theorem Rd.lt {b : Nat} {st : ByteArray × Int} {w : World} (h : Rd b st w) : b < w.heap.size := lt_of_block h
theorem Rd.left {b : Nat} {st : ByteArray × Int} {w : World} (h : Rd b st w) : w.cell? ⟨b, 0, none⟩ = some (.string st.1) := by rw [Joins.cell_of_block h]; rfl
theorem Rd.err {b : Nat} {st : ByteArray × Int} {w : World} (h : Rd b st w) : w.cell? ⟨b, 1, none⟩ = some (.int .i64 st.2) := by rw [Joins.cell_of_block h]; rfl
theorem Rd.free {b : Nat} {st : ByteArray × Int} {w : World} (h : Rd b st w) (i : Nat) : w.frozen? ⟨b, i, none⟩ = false := Joins.unfrozen_of_block h i
theorem Rd.setLeft {b : Nat} {st : ByteArray × Int} {w : World} (h : Rd b st w) (s : ByteArray) : Rd b (s, st.2) (w.setCell ⟨b, 0, none⟩ (.string s)) := by
  have := Joins.block_setCell h (i := 0) (.string s); simpa [Rd] using this
theorem Rd.setErr {b : Nat} {st : ByteArray × Int} {w : World} (h : Rd b st w) (e : Int) : Rd b (st.1, e) (w.setCell ⟨b, 1, none⟩ (.int .i64 e)) := by
  have := Joins.block_setCell h (i := 1) (.int .i64 e); simpa [Rd] using this
theorem grownBy_setCell (w : World) (b i : Nat) (v : Value) : w.grownBy (w.setCell ⟨b, i, none⟩ v) (some b) :=
  ⟨rfl, rfl, rfl, by simp, fun k _ hk => Below.heap_setCell _ _ _ _ (fun e => hk (by rw [e]))⟩
theorem Rd.other {b c : Nat} {st : ByteArray × Int} {w w' : World} (h : Rd b st w) (hg : w.grownBy w' (some c)) (hne : b ≠ c) : Rd b st w' := by
  unfold Rd; rw [hg.block b h.lt (by simpa using hne)]; exact h
theorem Rd.grown {b : Nat} {row : Option Nat} {st : ByteArray × Int} {w w' : World} (h : Rd b st w) (hg : w.grownBy w' row) (hne : ∀ j, row = some j → b ≠ j) : Rd b st w' := by
  unfold Rd; rw [hg.block b h.lt (fun e => hne b e.symm rfl)]; exact h
theorem Rd.below {b B : Nat} {st : ByteArray × Int} {w w' : World} (h : Rd b st w) (hb : Below B w w') (hlt : b < B) : Rd b st w' := by
  unfold Rd; rw [hb.block b hlt]; exact h

set_option maxHeartbeats 1000000 in
set_option maxRecDepth 100000 in
theorem new_any (s : ByteArray) (w : World) :
    Calls Tryz.prog 159 #[.string s] w fun e w' => e = .returned (.pointer (some ⟨w.heap.size, 0, none⟩)) ∧ w.alloc (.cells #[.string s, .int .i64 0] 191) = w' := by
  go_enter Tryz.func159, Tryz.ntmps159
  go_wp2
  go_ret
  exact ⟨rfl, rfl⟩

theorem Rd.made (s : ByteArray) (w : World) : Rd w.heap.size (s, 0) (w.alloc (.cells #[.string s, .int .i64 0] 191)) := by
  simp [Rd, World.alloc, -World.alloc_eq]

set_option maxHeartbeats 1000000 in
set_option maxRecDepth 100000 in
theorem err_any (b : Nat) (st : ByteArray × Int) (w : World) (h : Rd b st w) :
    Calls Tryz.prog 164 #[.pointer (some ⟨b, 0, none⟩)] w fun e w' => e = .returned (.int .i64 st.2) ∧ w = w' := by
  have h1 := h.err
  go_enter Tryz.func164, Tryz.ntmps164
  go_wp2
  go_ret
  exact ⟨rfl, rfl⟩

set_option maxHeartbeats 1000000 in
set_option maxRecDepth 100000 in
theorem rnum_any (b : Nat) (st : ByteArray × Int) (w : World) (h : Rd b st w) (hsz : st.1.size ≤ 9223372036854775807) :
    Calls Tryz.prog 160 #[.pointer (some ⟨b, 0, none⟩)] w fun e w' => e = .returned (.int .i64 (sNum st).1) ∧ Rd b (sNum st).2 w' ∧ w.grownBy w' (some b) := by
  obtain ⟨s, er⟩ := st
  have hl := h.left
  have hl1 := h.err
  have hf0 := h.free 0
  have hf1 := h.free 1
  have hnb := fun h2 => numR_ok (l := s.data.toList) h2
  simp only at hl hl1 hsz
  by_cases her : er = 0
  · subst her
    have H := Lib.hid h
    clear h
    go_enter Tryz.func160, Tryz.ntmps160
    go_wp2_with fail
    refine (err_any b (s, 0) w H.out).mono ?_
    rintro e w1 ⟨rfl, rfl⟩
    go_wp2_with fail
    refine (number_any s hsz w).mono ?_
    rintro e w1 ⟨rfl, rfl⟩
    generalize hr : numR s.data.toList = r at hnb ⊢
    obtain ⟨n, k, er⟩ := r
    simp only at hnb ⊢
    have HR := Lib.hid hr
    clear hr
    by_cases h0 : er = 0
    · subst h0
      obtain ⟨h1, h2, h3⟩ := hnb rfl
      have hs1 : s.data.toList.length = s.size := by simp
      rw [hs1] at h1
      clear hnb hs1
      go_wp2
      go_ret
      have hS : sNum (s, 0) = (n, (s.extract k s.size, 0)) := by simp only [sNum, HR.out]; rfl
      rw [hS]
      exact ⟨rfl, H.out.setLeft _, grownBy_setCell _ _ _ _⟩
    · have hb : (er != 0) = true := by simp [h0]
      clear hnb
      go_wp2
      go_ret
      have hS : sNum (s, 0) = (0, (s, er)) := by simp only [sNum, HR.out, if_neg h0]; rfl
      rw [hS]
      exact ⟨rfl, H.out.setErr _, grownBy_setCell _ _ _ _⟩
  · have hS : sNum (s, er) = (0, (s, er)) := by simp [sNum, her]
    have hb : (er != 0) = true := by simp [her]
    rw [hS]
    have H := Lib.hid h
    clear h hS
    go_enter Tryz.func160, Tryz.ntmps160
    go_wp2_with fail
    refine (err_any b (s, er) w H.out).mono ?_
    rintro e w1 ⟨rfl, rfl⟩
    go_wp2
    go_ret
    exact ⟨rfl, H.out, World.grownBy.refl _ _⟩

set_option maxHeartbeats 1000000 in
set_option maxRecDepth 100000 in
theorem count_any (b : Nat) (st : ByteArray × Int) (lim : Nat) (_hlim : lim ≤ 9223372036854775807) (w : World) (h : Rd b st w) (hsz : st.1.size ≤ 9223372036854775807) :
    Calls Tryz.prog 166 #[.pointer (some ⟨b, 0, none⟩), .int .i64 lim] w fun e w' => e = .returned (.tuple #[.int .i64 (sCount lim st).1, .bool (sCount lim st).2.1]) ∧ Rd b (sCount lim st).2.2 w' ∧ w.grownBy w' (some b) := by
  have H := Lib.hid h
  clear h
  go_enter Tryz.func166, Tryz.ntmps166
  go_wp2_with fail
  refine (rnum_any b st w H.out hsz).mono ?_
  rintro e w1 ⟨rfl, h1, hg1⟩
  generalize hr : sNum st = r at h1 ⊢
  obtain ⟨n, s1, er⟩ := r
  simp only at h1 ⊢
  have HR := Lib.hid hr
  clear hr
  have hf1 := h1.free 1
  have hc1 := h1.err
  simp only at hc1
  have H1 := Lib.hid h1
  clear h1
  go_wp2_with fail
  refine (err_any b (s1, er) w1 H1.out).mono ?_
  rintro e w2 ⟨rfl, rfl⟩
  by_cases h0 : er = 0
  · subst h0
    by_cases hlt : lim < n
    · go_wp2
      go_ret2
      have hS : sCount lim st = (0, false, (s1, 3)) := by simp [sCount, HR.out, hlt]
      rw [hS]
      exact ⟨rfl, H1.out.setErr _, hg1.trans (grownBy_setCell _ _ _ _)⟩
    · go_wp2
      go_ret2
      have hS : sCount lim st = (n, true, (s1, 0)) := by simp [sCount, HR.out, hlt]
      rw [hS]
      exact ⟨rfl, H1.out, hg1⟩
  · have hb : (er != 0) = true := by simp [h0]
    go_wp2
    go_ret2
    have hS : sCount lim st = (0, false, (s1, er)) := by simp [sCount, HR.out, h0]
    rw [hS]
    exact ⟨rfl, H1.out, hg1⟩

set_option maxHeartbeats 1000000 in
set_option maxRecDepth 100000 in
theorem rtext_any (b : Nat) (st : ByteArray × Int) (w : World) (h : Rd b st w) (hsz : st.1.size ≤ 9223372036854775807) :
    Calls Tryz.prog 167 #[.pointer (some ⟨b, 0, none⟩)] w fun e w' => e = .returned (.string (sText st).1) ∧ Rd b (sText st).2 w' ∧ w.grownBy w' (some b) := by
  have hsc := sCount_size 65536 st
  have H := Lib.hid h
  clear h
  go_enter Tryz.func167, Tryz.ntmps167
  go_wp2_with fail
  refine (count_any b st 65536 (by omega) w H.out hsz).mono ?_
  rintro e w1 ⟨rfl, h1, hg1⟩
  have her : (sCount 65536 st).2.1 = true → (sCount 65536 st).2.2.2 = 0 := by
    unfold sCount
    split
    · intro h; cases h
    · split
      · intro h; cases h
      · intro _; simp only; omega
  generalize hr : sCount 65536 st = r at h1 hsc her ⊢
  obtain ⟨n, ok, s1, er⟩ := r
  simp only at h1 hsc her ⊢
  have HR := Lib.hid hr
  clear hr
  have hf0 := h1.free 0
  have hf1 := h1.free 1
  have hc0 := h1.left
  have hc1 := h1.err
  simp only at hc0 hc1
  have H1 := Lib.hid h1
  clear h1
  cases ok with
  | false =>
    clear her
    go_wp2
    go_ret
    have hS : sText st = (ByteArray.empty, (s1, er)) := by simp [sText, HR.out]
    rw [hS]
    exact ⟨rfl, H1.out, hg1⟩
  | true =>
    obtain rfl : er = 0 := her rfl
    clear her
    by_cases hlt : s1.size < n
    · go_wp2
      go_ret
      have hS : sText st = (ByteArray.empty, (s1, 4)) := by simp [sText, HR.out, hlt]
      rw [hS]
      exact ⟨rfl, H1.out.setErr _, hg1.trans (grownBy_setCell _ _ _ _)⟩
    · go_wp2
      go_ret
      have hS : sText st = (s1.extract 0 n, (s1.extract n s1.size, 0)) := by simp [sText, HR.out, hlt]
      rw [hS]
      exact ⟨rfl, H1.out.setLeft _, hg1.trans (grownBy_setCell _ _ _ _)⟩

set_option maxHeartbeats 1000000 in
set_option maxRecDepth 100000 in
theorem done_any (b : Nat) (st : ByteArray × Int) (w : World) (h : Rd b st w) (hsz : st.1.size ≤ 9223372036854775807) :
    Calls Tryz.prog 162 #[.pointer (some ⟨b, 0, none⟩)] w fun e w' => e = .returned (.int .i64 (if st.2 ≠ 0 then st.2 else if 0 < st.1.size then 5 else 0)) ∧ w = w' := by
  obtain ⟨s, er⟩ := st
  have hl := h.left
  simp only at hl hsz ⊢
  have H := Lib.hid h
  clear h
  go_enter Tryz.func162, Tryz.ntmps162
  go_wp2_with fail
  refine (err_any b (s, er) w H.out).mono ?_
  rintro e w1 ⟨rfl, rfl⟩
  by_cases h0 : er = 0
  · subst h0
    by_cases hs : 0 < s.size
    · go_wp2
      go_ret
      exact ⟨by simp, rfl⟩
    · go_wp2
      go_ret
      exact ⟨by simp, rfl⟩
  · have hb : (er != 0) = true := by simp [h0]
    go_wp2
    go_ret
    exact ⟨by simp, rfl⟩
end Go.Proofs.YtmnblpjdiplioaaGreat
