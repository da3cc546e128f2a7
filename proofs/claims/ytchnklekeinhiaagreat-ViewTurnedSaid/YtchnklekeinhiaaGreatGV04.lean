/-
  wire.New and the Reader's methods: what each call answers, and what becomes of the reader.
  The Reader's List: what it answers, and what becomes of the reader.
  almonryref01.Texts: are two lists of texts the same?
  Rows of texts that a call owns, as the call of Texts wants them.
-/
import Derived.Test.YtchnklekeinhiaaGreatGV03
import Derived.Lib.SmallJoins
import Derived.OneCell
import Derived.Maps.AppendAt
import Derived.Maps.Range
import Derived.Test.YtchnklekeinhiaaGreatGV01
import Derived.Deep.QuietTactic
import Derived.BigQuiet
namespace Go.Proofs.YtchnklekeinhiaaGreat
open Go.RowKit

/-- Block b is a reader in the state st. -/
def Rd (b : Nat) (st : ByteArray × Int) (w : World) : Prop := w.heap[b]? = some (.cells #[.string st.1, .int .i64 st.2] 142 (0, 0))

theorem Rd.lt {b : Nat} {st : ByteArray × Int} {w : World} (h : Rd b st w) : b < w.heap.size := lt_of_block h
theorem Rd.left {b : Nat} {st : ByteArray × Int} {w : World} (h : Rd b st w) : w.cell? ⟨b, 0, none⟩ = some (.string st.1) := by rw [Joins.cell_of_block h]; rfl
theorem Rd.err {b : Nat} {st : ByteArray × Int} {w : World} (h : Rd b st w) : w.cell? ⟨b, 1, none⟩ = some (.int .i64 st.2) := by rw [Joins.cell_of_block h]; rfl
theorem Rd.free {b : Nat} {st : ByteArray × Int} {w : World} (h : Rd b st w) (i : Nat) : w.frozen? ⟨b, i, none⟩ = false := Joins.unfrozen_of_block h i
theorem Rd.setLeft {b : Nat} {st : ByteArray × Int} {w : World} (h : Rd b st w) (s : ByteArray) : Rd b (s, st.2) (w.setCell ⟨b, 0, none⟩ (.string s)) := by
  have := Joins.block_setCell h (i := 0) (.string s); simpa [Rd] using this
theorem Rd.setErr {b : Nat} {st : ByteArray × Int} {w : World} (h : Rd b st w) (e : Int) : Rd b (st.1, e) (w.setCell ⟨b, 1, none⟩ (.int .i64 e)) := by
  have := Joins.block_setCell h (i := 1) (.int .i64 e); simpa [Rd] using this
theorem grownBy_setCell (w : World) (b i : Nat) (v : Value) : w.grownBy (w.setCell ⟨b, i, none⟩ v) (some b) :=
  ⟨rfl, rfl, rfl, by simp, fun k _ hk => Below.heap_setCell _ _ _ _ (fun e => hk (by rw [e]))⟩
theorem Rd.other {b c : Nat} {st : ByteArray × Int} {w w' : World} (h : Rd b st w) (hg : w.grownBy w' (some c)) (hne : b ≠ c) : Rd b st w' := by
  unfold Rd; rw [hg.block b h.lt (by simpa using hne)]; exact h
theorem Rd.grown {b : Nat} {row : Option Nat} {st : ByteArray × Int} {w w' : World} (h : Rd b st w) (hg : w.grownBy w' row) (hne : ∀ j, row = some j → b ≠ j) : Rd b st w' := by
  unfold Rd; rw [hg.block b h.lt (fun e => hne b e.symm rfl)]; exact h
theorem Rd.below {b B : Nat} {st : ByteArray × Int} {w w' : World} (h : Rd b st w) (hb : Below B w w') (hlt : b < B) : Rd b st w' := by
  unfold Rd; rw [hb.block b hlt]; exact h

set_option maxHeartbeats 1000000 in
set_option maxRecDepth 100000 in
theorem new_any (s : ByteArray) (w : World) :
    Calls Tryz.prog 84 #[.string s] w fun e w' => e = .returned (.pointer (some ⟨w.heap.size, 0, none⟩)) ∧ w.alloc (.cells #[.string s, .int .i64 0] 142) = w' := by
  go_enter Tryz.func84, Tryz.ntmps84
  go_wp2
  go_ret
  exact ⟨rfl, rfl⟩

theorem Rd.made (s : ByteArray) (w : World) : Rd w.heap.size (s, 0) (w.alloc (.cells #[.string s, .int .i64 0] 142)) := by
  simp [Rd, World.alloc, -World.alloc_eq]

set_option maxHeartbeats 1000000 in
set_option maxRecDepth 100000 in
theorem err_any (b : Nat) (st : ByteArray × Int) (w : World) (h : Rd b st w) :
    Calls Tryz.prog 113 #[.pointer (some ⟨b, 0, none⟩)] w fun e w' => e = .returned (.int .i64 st.2) ∧ w = w' := by
  have h1 := h.err
  go_enter Tryz.func113, Tryz.ntmps113
  go_wp2
  go_ret
  exact ⟨rfl, rfl⟩

set_option maxHeartbeats 1000000 in
set_option maxRecDepth 100000 in
theorem rnum_any (b : Nat) (st : ByteArray × Int) (w : World) (h : Rd b st w) (hsz : st.1.size ≤ 9223372036854775807) :
    Calls Tryz.prog 85 #[.pointer (some ⟨b, 0, none⟩)] w fun e w' => e = .returned (.int .i64 (sNum st).1) ∧ Rd b (sNum st).2 w' ∧ w.grownBy w' (some b) := by
  obtain ⟨s, er⟩ := st
  have hl := h.left
  have hl1 := h.err
  have hf0 := h.free 0
  have hf1 := h.free 1
  have hnb := fun h2 => numR_ok (l := s.data.toList) h2
  simp only at hl hl1 hsz
  by_cases her : er = 0
  · subst her
    have H := Lib.hid h
    clear h
    go_enter Tryz.func85, Tryz.ntmps85
    go_wp2_with fail
    refine (err_any b (s, 0) w H.out).mono ?_
    rintro e w1 ⟨rfl, rfl⟩
    go_wp2_with fail
    refine (number_any s hsz w).mono ?_
    rintro e w1 ⟨rfl, rfl⟩
    generalize hr : numR s.data.toList = r at hnb ⊢
    obtain ⟨n, k, er⟩ := r
    simp only at hnb ⊢
    have HR := Lib.hid hr
    clear hr
    by_cases h0 : er = 0
    · subst h0
      obtain ⟨h1, h2, h3⟩ := hnb rfl
      have hs1 : s.data.toList.length = s.size := by simp
      rw [hs1] at h1
      clear hnb hs1
      go_wp2
      go_ret
      have hS : sNum (s, 0) = (n, (s.extract k s.size, 0)) := by simp only [sNum, HR.out]; rfl
      rw [hS]
      exact ⟨rfl, H.out.setLeft _, grownBy_setCell _ _ _ _⟩
    · have hb : (er != 0) = true := by simp [h0]
      clear hnb
      go_wp2
      go_ret
      have hS : sNum (s, 0) = (0, (s, er)) := by simp only [sNum, HR.out, if_neg h0]; rfl
      rw [hS]
      exact ⟨rfl, H.out.setErr _, grownBy_setCell _ _ _ _⟩
  · have hS : sNum (s, er) = (0, (s, er)) := by simp [sNum, her]
    have hb : (er != 0) = true := by simp [her]
    rw [hS]
    have H := Lib.hid h
    clear h hS
    go_enter Tryz.func85, Tryz.ntmps85
    go_wp2_with fail
    refine (err_any b (s, er) w H.out).mono ?_
    rintro e w1 ⟨rfl, rfl⟩
    go_wp2
    go_ret
    exact ⟨rfl, H.out, World.grownBy.refl _ _⟩

set_option maxHeartbeats 1000000 in
set_option maxRecDepth 100000 in
theorem count_any (b : Nat) (st : ByteArray × Int) (lim : Nat) (_hlim : lim ≤ 9223372036854775807) (w : World) (h : Rd b st w) (hsz : st.1.size ≤ 9223372036854775807) :
    Calls Tryz.prog 115 #[.pointer (some ⟨b, 0, none⟩), .int .i64 lim] w fun e w' => e = .returned (.tuple #[.int .i64 (sCount lim st).1, .bool (sCount lim st).2.1]) ∧ Rd b (sCount lim st).2.2 w' ∧ w.grownBy w' (some b) := by
  have H := Lib.hid h
  clear h
  go_enter Tryz.func115, Tryz.ntmps115
  go_wp2_with fail
  refine (rnum_any b st w H.out hsz).mono ?_
  rintro e w1 ⟨rfl, h1, hg1⟩
  generalize hr : sNum st = r at h1 ⊢
  obtain ⟨n, s1, er⟩ := r
  simp only at h1 ⊢
  have HR := Lib.hid hr
  clear hr
  have hf1 := h1.free 1
  have hc1 := h1.err
  simp only at hc1
  have H1 := Lib.hid h1
  clear h1
  go_wp2_with fail
  refine (err_any b (s1, er) w1 H1.out).mono ?_
  rintro e w2 ⟨rfl, rfl⟩
  by_cases h0 : er = 0
  · subst h0
    by_cases hlt : lim < n
    · go_wp2
      go_ret2
      have hS : sCount lim st = (0, false, (s1, 3)) := by simp [sCount, HR.out, hlt]
      rw [hS]
      exact ⟨rfl, H1.out.setErr _, hg1.trans (grownBy_setCell _ _ _ _)⟩
    · go_wp2
      go_ret2
      have hS : sCount lim st = (n, true, (s1, 0)) := by simp [sCount, HR.out, hlt]
      rw [hS]
      exact ⟨rfl, H1.out, hg1⟩
  · have hb : (er != 0) = true := by simp [h0]
    go_wp2
    go_ret2
    have hS : sCount lim st = (0, false, (s1, er)) := by simp [sCount, HR.out, h0]
    rw [hS]
    exact ⟨rfl, H1.out, hg1⟩

set_option maxHeartbeats 1000000 in
set_option maxRecDepth 100000 in
theorem rtext_any (b : Nat) (st : ByteArray × Int) (w : World) (h : Rd b st w) (hsz : st.1.size ≤ 9223372036854775807) :
    Calls Tryz.prog 116 #[.pointer (some ⟨b, 0, none⟩)] w fun e w' => e = .returned (.string (sText st).1) ∧ Rd b (sText st).2 w' ∧ w.grownBy w' (some b) := by
  have hsc := sCount_size 65536 st
  have H := Lib.hid h
  clear h
  go_enter Tryz.func116, Tryz.ntmps116
  go_wp2_with fail
  refine (count_any b st 65536 (by omega) w H.out hsz).mono ?_
  rintro e w1 ⟨rfl, h1, hg1⟩
  have her : (sCount 65536 st).2.1 = true → (sCount 65536 st).2.2.2 = 0 := by
    unfold sCount
    split
    · intro h; cases h
    · split
      · intro h; cases h
      · intro _; simp only; omega
  generalize hr : sCount 65536 st = r at h1 hsc her ⊢
  obtain ⟨n, ok, s1, er⟩ := r
  simp only at h1 hsc her ⊢
  have HR := Lib.hid hr
  clear hr
  have hf0 := h1.free 0
  have hf1 := h1.free 1
  have hc0 := h1.left
  have hc1 := h1.err
  simp only at hc0 hc1
  have H1 := Lib.hid h1
  clear h1
  cases ok with
  | false =>
    clear her
    go_wp2
    go_ret
    have hS : sText st = (ByteArray.empty, (s1, er)) := by simp [sText, HR.out]
    rw [hS]
    exact ⟨rfl, H1.out, hg1⟩
  | true =>
    obtain rfl : er = 0 := her rfl
    clear her
    by_cases hlt : s1.size < n
    · go_wp2
      go_ret
      have hS : sText st = (ByteArray.empty, (s1, 4)) := by simp [sText, HR.out, hlt]
      rw [hS]
      exact ⟨rfl, H1.out.setErr _, hg1.trans (grownBy_setCell _ _ _ _)⟩
    · go_wp2
      go_ret
      have hS : sText st = (s1.extract 0 n, (s1.extract n s1.size, 0)) := by simp [sText, HR.out, hlt]
      rw [hS]
      exact ⟨rfl, H1.out.setLeft _, hg1.trans (grownBy_setCell _ _ _ _)⟩

set_option maxHeartbeats 1000000 in
set_option maxRecDepth 100000 in
theorem done_any (b : Nat) (st : ByteArray × Int) (w : World) (h : Rd b st w) (hsz : st.1.size ≤ 9223372036854775807) :
    Calls Tryz.prog 87 #[.pointer (some ⟨b, 0, none⟩)] w fun e w' => e = .returned (.int .i64 (if st.2 ≠ 0 then st.2 else if 0 < st.1.size then 5 else 0)) ∧ w = w' := by
  obtain ⟨s, er⟩ := st
  have hl := h.left
  simp only at hl hsz ⊢
  have H := Lib.hid h
  clear h
  go_enter Tryz.func87, Tryz.ntmps87
  go_wp2_with fail
  refine (err_any b (s, er) w H.out).mono ?_
  rintro e w1 ⟨rfl, rfl⟩
  by_cases h0 : er = 0
  · subst h0
    by_cases hs : 0 < s.size
    · go_wp2
      go_ret
      exact ⟨by simp, rfl⟩
    · go_wp2
      go_ret
      exact ⟨by simp, rfl⟩
  · have hb : (er != 0) = true := by simp [h0]
    go_wp2
    go_ret
    exact ⟨by simp, rfl⟩
end Go.Proofs.YtchnklekeinhiaaGreat

namespace Go.Proofs.YtchnklekeinhiaaGreat
open Go.RowKit

theorem strInfo : (Tryz.prog.info? 9).map (fun i => (i.zero, i.size, i.bytes)) = some (some (.string ByteArray.empty), 1, 16) := by kernel_rfl

/-- The slice v is the call's own, and holds the texts ss. -/
def OwnS (B : Nat) (v : Value) (ss : List ByteArray) (w : World) : Prop := w.ownsRow B 9 1 v ss.length (ss.map Value.string)

theorem ownS_nil (B : Nat) (w : World) : OwnS B (.slice none 0 0) [] w := World.ownsRow_nil _ _ _ _

theorem OwnS.keep {B b : Nat} {v : Value} {ss : List ByteArray} {w w' : World} (h : OwnS B v ss w) (hg : w.grownBy w' (some b)) (hb : b < B) : OwnS B v ss w' :=
  World.ownsRow.kept h hg (.inr fun e => by have := (World.ownsRow.lt h b e).1; omega)

set_option maxHeartbeats 2000000 in
set_option maxRecDepth 100000 in
theorem rlist_any (b : Nat) (st : ByteArray × Int) (w : World) (h : Rd b st w) (hsz : st.1.size ≤ 9223372036854775807) :
    Calls Tryz.prog 86 #[.pointer (some ⟨b, 0, none⟩)] w fun e w' => ∃ v, e = .returned v ∧ OwnS w.heap.size v (sList st).1 w' ∧ Rd b (sList st).2 w' ∧ w.grownBy w' (some b) := by
  obtain ⟨i0, hi, hz0, hz1, hz2⟩ := info_parts strInfo
  have hbw := h.lt
  have hsc := sCount_size 4096 st
  have H := Lib.hid h
  clear h
  go_enter Tryz.func86, Tryz.ntmps86
  go_wp2_with fail
  refine (count_any b st 4096 (by omega) w H.out hsz).mono ?_
  rintro e w1 ⟨rfl, h1, hg1⟩
  have her : (sCount 4096 st).2.1 = true → (sCount 4096 st).2.2.2 = 0 ∧ (sCount 4096 st).1 ≤ 4096 := by
    unfold sCount
    split
    · intro h; cases h
    · split
      · intro h; cases h
      · intro _; simp only; omega
  generalize hr : sCount 4096 st = r at h1 hsc her ⊢
  obtain ⟨n, ok, s1, er⟩ := r
  simp only at h1 hsc her ⊢
  have HR := Lib.hid hr
  clear hr
  have H1 := Lib.hid h1
  clear h1
  cases ok with
  | false =>
    clear her
    go_wp2
    go_ret
    have hS : sList st = ([], (s1, er)) := by simp [sList, HR.out]
    rw [hS]
    exact ⟨_, rfl, ownS_nil _ _, H1.out, hg1⟩
  | true =>
    obtain ⟨rfl, hn⟩ := her rfl
    clear her
    have hS : sList st = sTexts n (s1, 0) [] := by simp [sList, HR.out]
    have HS := Lib.hid hS
    clear hS
    go_wp2
    go_loopw [5, 15] (fun l i wr => ∃ (k : Nat) (acc : List ByteArray) (s : ByteArray), i = .int .i64 k ∧ k ≤ n ∧ acc.length = k ∧ s.size ≤ st.1.size ∧ sTexts (n - k) (s, 0) acc = sTexts n (s1, 0) [] ∧ OwnS w.heap.size l acc wr ∧ Rd b (s, 0) wr ∧ w.grownBy wr (some b)) (fun _ i _ => n - (intOf i).toNat)
    case atStart => exact ⟨0, [], s1, rfl, Nat.zero_le _, rfl, hsc, rfl, ownS_nil _ _, H1.out, hg1⟩
    case round =>
      obtain ⟨k, acc, s, rfl, hk, hacc, hss, heq, hown, hrd, hg⟩ := hrel
      have HQ := Lib.hid heq
      have HC := Lib.hid hacc
      have HRd := Lib.hid hrd
      have hBr := hg.size
      clear heq hacc hrd
      by_cases hlt : k < n
      · have hts := sText_size (s, 0)
        have hcut : n - k = (n - (k + 1)) + 1 := by omega
        have HU := Lib.hid hcut
        clear hcut
        go_wp2_with fail
        refine (rtext_any b (s, 0) wr HRd.out (by simp only; omega)).mono ?_
        rintro e w2 ⟨rfl, h2, hg2⟩
        generalize hq : sText (s, 0) = q at h2 hts ⊢
        obtain ⟨t, s2, e2⟩ := q
        simp only at h2 hts ⊢
        have HT := Lib.hid hq
        clear hq
        have hc1 := h2.err
        simp only at hc1
        have hown2 := OwnS.keep hown hg2 hbw
        have hB2 := hg2.size
        have H2 := Lib.hid h2
        clear h2 hown
        by_cases h0 : e2 = 0
        · subst h0
          go_wp2_with (at_builtin; refine wpList_append_own _ rfl _ _ 25 rfl w.heap.size 9 i0 (.string ByteArray.empty) 1 16 Tryz.underlying25 hi hz0 hz1 hz2 rfl (by decide) _ _ _ rfl (World.ownsRow.alloc hown2 _) ⟨w2.heap.size, 0, none⟩ 1 1 [Value.string t] rfl rfl ?c1 ?c2 ?c3 ?c4 ?c5 ?_)
          case c1 =>
            intro j u hj
            match j, hj with
            | 0, hj => simp at hj; subst hj; simp [Addr.add]
          case c2 => intro u hu; simp at hu; subst hu; rfl
          case c3 => have := HC.out; unfold maxLen; omega
          case c4 => have := HC.out; omega
          case c5 => simp; omega
          intro v' w3 hown3 hg3 _
          have hrd3 : Rd b (s2, 0) w3 := (H2.out.grown (World.grownBy_alloc _ _ none) (fun _ h => by cases h)).grown hg3 (fun j hj => by have := (World.ownsRow.lt hown2 j hj).1; omega)
          have hgg : w.grownBy w3 (some b) := ((hg.trans hg2).trans (World.grownBy_alloc _ _ _)).andThen hg3 (fun j hj => .inl ((World.ownsRow.lt hown2 j hj).1))
          have hown4 : OwnS w.heap.size v' (acc ++ [t]) w3 := by unfold OwnS; rw [List.length_append, List.map_append]; exact hown3
          have H3 := Lib.hid hrd3
          have H4 := Lib.hid hown4
          clear hown3 hown2 hrd3 hown4 hg3
          go_wp2
          go_roundw
          case rel =>
            refine ⟨k + 1, acc ++ [t], s2, by go_num, by omega, by rw [List.length_append, HC.out]; rfl, by omega, ?_, H4.out, H3.out, hgg⟩
            rw [← HQ.out, HU.out, sTexts, HT.out]
            rfl
          case measure => simp [intOf]; omega
        · have hb : (e2 != 0) = true := by simp [h0]
          go_wp2
          go_ret
          have hfin : sList st = ([], (s2, e2)) := by rw [HS.out, ← HQ.out, HU.out, sTexts, HT.out, if_pos h0]
          rw [hfin]
          exact ⟨_, rfl, ownS_nil _ _, H2.out, hg.trans hg2⟩
      · obtain rfl : k = n := by omega
        go_wp2
        go_ret
        have hfin : sList st = (acc, (s, 0)) := by rw [HS.out, ← HQ.out, Nat.sub_self]; rfl
        rw [hfin]
        exact ⟨_, rfl, hown, HRd.out, hg⟩
end Go.Proofs.YtchnklekeinhiaaGreat

namespace Go.Proofs.YtchnklekeinhiaaGreat
open Go.RowKit

theorem StrRow.drewN {w : World} {a : Option Addr} {ss : List ByteArray} (h : StrRow w a ss) (n : Nat) : StrRow (w.drewN n) a ss := by
  rcases h with h | ⟨b, off, rfl, hlt, hc⟩
  · exact .inl h
  · exact .inr ⟨b, off, rfl, hlt, fun j hj => hc j hj⟩

theorem bytes_inj {x y : ByteArray} (h : x.toList = y.toList) : x = y := by
  rw [ByteArray.toList_eq, ByteArray.toList_eq] at h
  exact ByteArray.ext (Array.toList_inj.1 h)
theorem bytes_eq {x y : ByteArray} (h : (!x.toList == y.toList) = false) : x = y := bytes_inj (by simpa using h)
theorem bytes_ne {x y : ByteArray} (h : (!x.toList == y.toList) = true) : x ≠ y := fun e => by subst e; simp at h

/-- what Texts answers -/
def TextsEnd (xs ys : List ByteArray) (w : World) (e : Ending) (w' : World) : Prop := e = .returned (.bool (decide (xs = ys))) ∧ ∃ n, w' = w.drewN n

theorem drewN_drewN (w : World) (a b : Nat) : (w.drewN a).drewN b = w.drewN (a + b) := by simp [World.drewN, Nat.add_assoc]

set_option maxHeartbeats 1000000 in
set_option maxRecDepth 100000 in
theorem texts_any (a b : Option Addr) (ca cb : Nat) (xs ys : List ByteArray) (w : World) (ha : StrRow w a xs) (hb : StrRow w b ys) (hla : xs.length ≤ maxLen) (hlb : ys.length ≤ maxLen) :
    Calls Tryz.prog 12 #[.slice a xs.length ca, .slice b ys.length cb] w (TextsEnd xs ys w) := by
  unfold maxLen at hla hlb
  by_cases hl : xs.length = ys.length
  · have hne : ((xs.length : Int) != (ys.length : Int)) = false := by simp [hl]
    have HL := Lib.hid hl
    clear hl
    go_enter Tryz.func12, Tryz.ntmps12
    go_wp2
    go_loopw [5] (fun i wr => ∃ k n : Nat, i = .int .i64 k ∧ k ≤ xs.length ∧ xs.take k = ys.take k ∧ wr = w.drewN n) (fun i _ => xs.length - (intOf i).toNat)
    case atStart => exact ⟨0, 0, rfl, Nat.zero_le _, rfl, rfl⟩
    case round =>
      obtain ⟨k, n, rfl, hk, heq, rfl⟩ := hrel
      have HQ := Lib.hid heq
      clear heq
      by_cases hlt : k < xs.length
      · have hlt2 : k < ys.length := by have := HL.out; omega
        obtain ⟨ba, oa, rfl, hla1, hca⟩ : ∃ b off, a = some ⟨b, off, none⟩ ∧ b < w.heap.size ∧ ∀ j, j < xs.length → w.cell? ⟨b, off + j, none⟩ = some (.string (xs.getD j ByteArray.empty)) := by
          rcases ha with h0 | h1
          · subst h0; simp at hlt
          · exact h1
        obtain ⟨bb, ob, rfl, hlb1, hcb⟩ : ∃ b' off, b = some ⟨b', off, none⟩ ∧ b' < w.heap.size ∧ ∀ j, j < ys.length → w.cell? ⟨b', off + j, none⟩ = some (.string (ys.getD j ByteArray.empty)) := by
          rcases hb with h0 | h1
          · subst h0; simp at hlt2
          · exact h1
        have h1 := hca k hlt
        have h2 := hcb k hlt2
        have e1 : xs.take (k + 1) = xs.take k ++ [xs.getD k ByteArray.empty] := by rw [List.take_add_one, List.getElem?_eq_getElem hlt, List.getD_eq_getElem?_getD, List.getElem?_eq_getElem hlt]; rfl
        have e2 : ys.take (k + 1) = ys.take k ++ [ys.getD k ByteArray.empty] := by rw [List.take_add_one, List.getElem?_eq_getElem hlt2, List.getD_eq_getElem?_getD, List.getElem?_eq_getElem hlt2]; rfl
        clear hca hcb ha hb
        generalize xs.getD k ByteArray.empty = x at h1 e1
        generalize ys.getD k ByteArray.empty = y at h2 e2
        have E1 := Lib.hid e1
        have E2 := Lib.hid e2
        clear e1 e2
        have hi1 : (k : Int) < (xs.length : Int) := by omega
        have hi2 : (k : Int) < (ys.length : Int) := by omega
        go_wp2
        go_quiet (fail)
        go_wp2
        · have hd : (!x.toList == y.toList) = true := by assumption
          go_ret
          refine ⟨?_, _, drewN_drewN _ _ _⟩
          have hne : xs ≠ ys := fun e => by
            have h3 := E1.out
            rw [e, E2.out, ← e, HQ.out] at h3
            exact bytes_ne hd (by simpa using h3.symm)
          rw [decide_eq_false hne]; rfl
        · have hd : (!x.toList == y.toList) = false := by assumption
          have hxy := bytes_eq hd
          go_roundw
          case rel => exact ⟨k + 1, _, by go_num, by omega, by rw [E1.out, E2.out, HQ.out, hxy], rfl⟩
          case measure => simp [intOf]; omega
      · go_wp2
        go_ret
        refine ⟨?_, _, rfl⟩
        have h3 := HQ.out
        have hk2 : k = xs.length := by omega
        rw [hk2, List.take_length, HL.out, List.take_length] at h3
        rw [decide_eq_true h3]; rfl
  · have hne : ((xs.length : Int) != (ys.length : Int)) = true := by simp; omega
    have HL := Lib.hid hl
    clear hl
    go_enter Tryz.func12, Tryz.ntmps12
    go_wp2
    go_ret
    refine ⟨?_, 0, rfl⟩
    rw [decide_eq_false fun e => HL.out (by rw [e])]; rfl
end Go.Proofs.YtchnklekeinhiaaGreat

namespace Go.Proofs.YtchnklekeinhiaaGreat
set_option maxRecDepth 100000
open Go.RowKit

theorem ownS_row {B : Nat} {v : Value} {ss : List ByteArray} {w : World} (h : OwnS B v ss w) : ∃ a cap, v = .slice a ss.length cap ∧ StrRow w a ss ∧ ss.length ≤ maxLen := by
  obtain ⟨_, hv⟩ := h
  rcases hv with ⟨rfl, h0⟩ | ⟨g, cap, cur, rfl, hB, hg, hn, hm, hs, htk⟩
  · exact ⟨none, 0, by rw [h0], .inl (List.length_eq_zero_iff.1 h0), by rw [h0]; simp [maxLen]⟩
  · refine ⟨_, cap, rfl, .inr ⟨g, 0, rfl, lt_of_block hg, fun j hj => ?_⟩, by omega⟩
    have h1 := Lib.cells_of_row hg (ss.length * 1) j (.string (ss.getD j ByteArray.empty)) (by rw [htk, List.getElem?_map, List.getD_eq_getElem?_getD, List.getElem?_eq_getElem hj]; rfl)
    have e1 : (⟨g, 0, none⟩ : Addr).add j = ⟨g, 0 + j, none⟩ := by cases j <;> simp [Addr.add]
    rw [e1] at h1
    exact h1
theorem strRow_one (w : World) (s : ByteArray) : StrRow (w.alloc (.cells #[.string s] 9)) (some ⟨w.heap.size, 0, none⟩) [s] :=
  .inr ⟨w.heap.size, 0, rfl, by simp, fun j hj => by
    match j, hj with
    | 0, _ => rw [Joins.cell_of_block (heap_alloc_new w _)]; rfl⟩
theorem texts_same (a b : Option Addr) (ca cb : Nat) (xs : List ByteArray) (w : World) (ha : StrRow w a xs) (hb : StrRow w b xs) (hl : xs.length ≤ maxLen) :
    Calls Tryz.prog 12 #[.slice a xs.length ca, .slice b xs.length cb] w fun e w' => e = .returned (.bool true) ∧ ∃ n, w' = w.drewN n :=
  (texts_any a b ca cb xs xs w ha hb hl hl).mono fun e w' h => by
    obtain ⟨h1, h2⟩ := h
    exact ⟨by rw [h1]; simp, h2⟩
end Go.Proofs.YtchnklekeinhiaaGreat
