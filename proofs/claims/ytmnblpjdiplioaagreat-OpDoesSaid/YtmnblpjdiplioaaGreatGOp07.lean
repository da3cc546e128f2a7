/-
  The Reader's List: what it answers, and what becomes of the reader.
  almonryref01.Texts: are two lists of texts the same?
  Rows of texts that a call owns, as the call of Texts wants them.
  A manifest in memory; a slice of the call's own, kept.
  Plain: the pieces of a text.
  chunk: isSize, count; the document's many.
  Digits: bytes as two digits each, and back; all as plain functions.
  hexa.Put: what the call answers.
  hexa.value; almonryref03's digit and half: what each call answers.
-/
import Derived.Test.YtmnblpjdiplioaaGreatGOp04
import Derived.Test.YtmnblpjdiplioaaGreatGOp01
import Derived.Deep.QuietTactic
import Derived.BigQuiet
import Derived.Deep.AppendLies
import Derived.Deep.RegionHeld3
namespace Go.Proofs.YtmnblpjdiplioaaGreat
open Go.RowKit

theorem strInfo : (Tryz.prog.info? 9).map (fun i => (i.zero, i.size, i.bytes)) = some (some (.string ByteArray.empty), 1, 16) := by kernel_rfl

/-- The slice v is the call's own, and holds the texts ss. -/
def OwnS (B : Nat) (v : Value) (ss : List ByteArray) (w : World) : Prop := w.ownsRow B 9 1 v ss.length (ss.map Value.string)

theorem ownS_nil (B : Nat) (w : World) : OwnS B (.slice none 0 0) [] w := World.ownsRow_nil _ _ _ _

theorem OwnS.keep {B b : Nat} {v : Value} {ss : List ByteArray} {w w' : World} (h : OwnS B v ss w) (hg : w.grownBy w' (some b)) (hb : b < B) : OwnS B v ss w' :=
  World.ownsRow.kept h hg (.inr fun e => by have := (World.ownsRow.lt h b e).1; omega)

set_option maxHeartbeats 2000000 in
set_option maxRecDepth 100000 in
theorem rlist_any (b : Nat) (st : ByteArray × Int) (w : World) (h : Rd b st w) (hsz : st.1.size ≤ 9223372036854775807) :
    Calls Tryz.prog 161 #[.pointer (some ⟨b, 0, none⟩)] w fun e w' => ∃ v, e = .returned v ∧ OwnS w.heap.size v (sList st).1 w' ∧ Rd b (sList st).2 w' ∧ w.grownBy w' (some b) := by
  obtain ⟨i0, hi, hz0, hz1, hz2⟩ := info_parts strInfo
  have hbw := h.lt
  have hsc := sCount_size 4096 st
  have H := Lib.hid h
  clear h
  go_enter Tryz.func161, Tryz.ntmps161
  go_wp2_with fail
  refine (count_any b st 4096 (by omega) w H.out hsz).mono ?_
  rintro e w1 ⟨rfl, h1, hg1⟩
  have her : (sCount 4096 st).2.1 = true → (sCount 4096 st).2.2.2 = 0 ∧ (sCount 4096 st).1 ≤ 4096 := by
    unfold sCount
    split
    · intro h; cases h
    · split
      · intro h; cases h
      · intro _; simp only; omega
  generalize hr : sCount 4096 st = r at h1 hsc her ⊢
  obtain ⟨n, ok, s1, er⟩ := r
  simp only at h1 hsc her ⊢
  have HR := Lib.hid hr
  clear hr
  have H1 := Lib.hid h1
  clear h1
  cases ok with
  | false =>
    clear her
    go_wp2
    go_ret
    have hS : sList st = ([], (s1, er)) := by simp [sList, HR.out]
    rw [hS]
    exact ⟨_, rfl, ownS_nil _ _, H1.out, hg1⟩
  | true =>
    obtain ⟨rfl, hn⟩ := her rfl
    clear her
    have hS : sList st = sTexts n (s1, 0) [] := by simp [sList, HR.out]
    have HS := Lib.hid hS
    clear hS
    go_wp2
    go_loopw [5, 15] (fun l i wr => ∃ (k : Nat) (acc : List ByteArray) (s : ByteArray), i = .int .i64 k ∧ k ≤ n ∧ acc.length = k ∧ s.size ≤ st.1.size ∧ sTexts (n - k) (s, 0) acc = sTexts n (s1, 0) [] ∧ OwnS w.heap.size l acc wr ∧ Rd b (s, 0) wr ∧ w.grownBy wr (some b)) (fun _ i _ => n - (intOf i).toNat)
    case atStart => exact ⟨0, [], s1, rfl, Nat.zero_le _, rfl, hsc, rfl, ownS_nil _ _, H1.out, hg1⟩
    case round =>
      obtain ⟨k, acc, s, rfl, hk, hacc, hss, heq, hown, hrd, hg⟩ := hrel
      have HQ := Lib.hid heq
      have HC := Lib.hid hacc
      have HRd := Lib.hid hrd
      have hBr := hg.size
      clear heq hacc hrd
      by_cases hlt : k < n
      · have hts := sText_size (s, 0)
        have hcut : n - k = (n - (k + 1)) + 1 := by omega
        have HU := Lib.hid hcut
        clear hcut
        go_wp2_with fail
        refine (rtext_any b (s, 0) wr HRd.out (by simp only; omega)).mono ?_
        rintro e w2 ⟨rfl, h2, hg2⟩
        generalize hq : sText (s, 0) = q at h2 hts ⊢
        obtain ⟨t, s2, e2⟩ := q
        simp only at h2 hts ⊢
        have HT := Lib.hid hq
        clear hq
        have hc1 := h2.err
        simp only at hc1
        have hown2 := OwnS.keep hown hg2 hbw
        have hB2 := hg2.size
        have H2 := Lib.hid h2
        clear h2 hown
        by_cases h0 : e2 = 0
        · subst h0
          go_wp2_with (at_builtin; refine wpList_append_own _ rfl _ _ 60 rfl w.heap.size 9 i0 (.string ByteArray.empty) 1 16 Tryz.underlying60 hi hz0 hz1 hz2 rfl (by decide) _ _ _ rfl (World.ownsRow.alloc hown2 _) ⟨w2.heap.size, 0, none⟩ 1 1 [Value.string t] rfl rfl ?c1 ?c2 ?c3 ?c4 ?c5 ?_)
          case c1 =>
            intro j u hj
            match j, hj with
            | 0, hj => simp at hj; subst hj; simp [Addr.add]
          case c2 => intro u hu; simp at hu; subst hu; rfl
          case c3 => have := HC.out; unfold maxLen; omega
          case c4 => have := HC.out; omega
          case c5 => simp; omega
          intro v' w3 hown3 hg3 _
          have hrd3 : Rd b (s2, 0) w3 := (H2.out.grown (World.grownBy_alloc _ _ none) (fun _ h => by cases h)).grown hg3 (fun j hj => by have := (World.ownsRow.lt hown2 j hj).1; omega)
          have hgg : w.grownBy w3 (some b) := ((hg.trans hg2).trans (World.grownBy_alloc _ _ _)).andThen hg3 (fun j hj => .inl ((World.ownsRow.lt hown2 j hj).1))
          have hown4 : OwnS w.heap.size v' (acc ++ [t]) w3 := by unfold OwnS; rw [List.length_append, List.map_append]; exact hown3
          have H3 := Lib.hid hrd3
          have H4 := Lib.hid hown4
          clear hown3 hown2 hrd3 hown4 hg3
          go_wp2
          go_roundw
          case rel =>
            refine ⟨k + 1, acc ++ [t], s2, by go_num, by omega, by rw [List.length_append, HC.out]; rfl, by omega, ?_, H4.out, H3.out, hgg⟩
            rw [← HQ.out, HU.out, sTexts, HT.out]
            rfl
          case measure => simp [intOf]; omega
        · have hb : (e2 != 0) = true := by simp [h0]
          go_wp2
          go_ret
          have hfin : sList st = ([], (s2, e2)) := by rw [HS.out, ← HQ.out, HU.out, sTexts, HT.out, if_pos h0]
          rw [hfin]
          exact ⟨_, rfl, ownS_nil _ _, H2.out, hg.trans hg2⟩
      · obtain rfl : k = n := by omega
        go_wp2
        go_ret
        have hfin : sList st = (acc, (s, 0)) := by rw [HS.out, ← HQ.out, Nat.sub_self]; rfl
        rw [hfin]
        exact ⟨_, rfl, hown, HRd.out, hg⟩
end Go.Proofs.YtmnblpjdiplioaaGreat

namespace Go.Proofs.YtmnblpjdiplioaaGreat
open Go.RowKit

theorem StrRow.drewN {w : World} {a : Option Addr} {ss : List ByteArray} (h : StrRow w a ss) (n : Nat) : StrRow (w.drewN n) a ss := by
  rcases h with h | ⟨b, off, rfl, hlt, hc⟩
  · exact .inl h
  · exact .inr ⟨b, off, rfl, hlt, fun j hj => hc j hj⟩

theorem bytes_inj {x y : ByteArray} (h : x.toList = y.toList) : x = y := by
  rw [ByteArray.toList_eq, ByteArray.toList_eq] at h
  exact ByteArray.ext (Array.toList_inj.1 h)
theorem drewN_drewN (w : World) (a b : Nat) : (w.drewN a).drewN b = w.drewN (a + b) := by simp [World.drewN, Nat.add_assoc]

end Go.Proofs.YtmnblpjdiplioaaGreat

namespace Go.Proofs.YtmnblpjdiplioaaGreat
set_option maxRecDepth 100000
open Go.RowKit

theorem ownS_row {B : Nat} {v : Value} {ss : List ByteArray} {w : World} (h : OwnS B v ss w) : ∃ a cap, v = .slice a ss.length cap ∧ StrRow w a ss ∧ ss.length ≤ maxLen := by
  obtain ⟨_, hv⟩ := h
  rcases hv with ⟨rfl, h0⟩ | ⟨g, cap, cur, rfl, hB, hg, hn, hm, hs, htk⟩
  · exact ⟨none, 0, by rw [h0], .inl (List.length_eq_zero_iff.1 h0), by rw [h0]; simp [maxLen]⟩
  · refine ⟨_, cap, rfl, .inr ⟨g, 0, rfl, lt_of_block hg, fun j hj => ?_⟩, by omega⟩
    have h1 := Lib.cells_of_row hg (ss.length * 1) j (.string (ss.getD j ByteArray.empty)) (by rw [htk, List.getElem?_map, List.getD_eq_getElem?_getD, List.getElem?_eq_getElem hj]; rfl)
    have e1 : (⟨g, 0, none⟩ : Addr).add j = ⟨g, 0 + j, none⟩ := by cases j <;> simp [Addr.add]
    rw [e1] at h1
    exact h1
theorem strRow_one (w : World) (s : ByteArray) : StrRow (w.alloc (.cells #[.string s] 9)) (some ⟨w.heap.size, 0, none⟩) [s] :=
  .inr ⟨w.heap.size, 0, rfl, by simp, fun j hj => by
    match j, hj with
    | 0, _ => rw [Joins.cell_of_block (heap_alloc_new w _)]; rfl⟩
end Go.Proofs.YtmnblpjdiplioaaGreat

namespace Go.Proofs.YtmnblpjdiplioaaGreat
open Go.RowKit

/-- a manifest -/
structure Man where
  size : Int
  chunk : Int
  ids : List ByteArray

/-- its value: v are its IDs -/
abbrev mv (m : Man) (v : Value) : Value := .agg #[.int .i64 m.size, .int .i64 m.chunk, v]

/-- a manifest in memory -/
def MBox (W : World) (B : Nat) (m : Man) (v : Value) : Prop := W.heap[B]? = some (.cells #[.int .i64 m.size, .int .i64 m.chunk, v] 86 (0, 0))
theorem MBox.lt {W : World} {B : Nat} {m : Man} {v : Value} (h : MBox W B m v) : B < W.heap.size := (Array.getElem?_eq_some_iff.1 h).1
theorem MBox.c0 {W : World} {B : Nat} {m : Man} {v : Value} (h : MBox W B m v) : W.cell? ⟨B, 0, none⟩ = some (.int .i64 m.size) := by rw [Joins.cell_of_block h]; rfl
theorem MBox.c1 {W : World} {B : Nat} {m : Man} {v : Value} (h : MBox W B m v) : W.cell? ⟨B, 1, none⟩ = some (.int .i64 m.chunk) := by rw [Joins.cell_of_block h]; rfl
theorem MBox.c2 {W : World} {B : Nat} {m : Man} {v : Value} (h : MBox W B m v) : W.cell? ⟨B, 2, none⟩ = some v := by rw [Joins.cell_of_block h]; rfl
theorem MBox.free {W : World} {B : Nat} {m : Man} {v : Value} (h : MBox W B m v) (i : Nat) : W.frozen? ⟨B, i, none⟩ = false := Joins.unfrozen_of_block h i
theorem MBox.new (W : World) (m : Man) (v : Value) : MBox (W.alloc (.cells #[.int .i64 m.size, .int .i64 m.chunk, v] 86)) W.heap.size m v := heap_alloc_new W _
theorem MBox.kept {W W' : World} {row : Option Nat} {B : Nat} {m : Man} {v : Value} (h : MBox W B m v) (hg : W.grownBy W' row) (hne : some B ≠ row) : MBox W' B m v := (hg.block B h.lt hne).trans h
theorem MBox.below {W W' : World} {C B : Nat} {m : Man} {v : Value} (h : MBox W B m v) (hb : Below C W W') (hC : B < C) : MBox W' B m v := (hb.block B hC).trans h
theorem MBox.alloc {W : World} {B : Nat} {m : Man} {v : Value} (h : MBox W B m v) (o : Obj) : MBox (W.alloc o) B m v := h.kept (World.grownBy_alloc W o none) (by simp)
theorem MBox.set {W : World} {B : Nat} {m : Man} {v : Value} (h : MBox W B m v) (v' : Value) : MBox (W.setCell ⟨B, 2, none⟩ v') B m v' := by
  obtain ⟨hlt, hk⟩ := Array.getElem?_eq_some_iff.1 h
  show (W.heap.modify B _)[B]? = _
  rw [Array.getElem?_eq_getElem (by rw [Array.size_modify]; exact hlt), Array.getElem_modify_self, hk]
  rfl

theorem MBox.put {W : World} {B : Nat} {m : Man} {v : Value} (h : MBox W B m v) (m' : Man) (v' : Value) : MBox (((W.setCell ⟨B, 0, none⟩ (.int .i64 m'.size)).setCell ⟨B, 1, none⟩ (.int .i64 m'.chunk)).setCell ⟨B, 2, none⟩ v') B m' v' := by
  have h0 := Joins.block_setCell (i := 0) h (.int .i64 m'.size)
  have h1 := Joins.block_setCell (i := 1) h0 (.int .i64 m'.chunk)
  have h2 := Joins.block_setCell (i := 2) h1 v'
  unfold MBox
  simpa using h2

theorem manInfo : (Tryz.prog.info? 86).map (·.size) = some 3 := by kernel_rfl

theorem results_man {P : Program} {fn : Func} {p u : Tmp} {ty : TypeId} (h : fn.results = #[.cell p ty, .tmp u]) (tmps : Array Value) (w : World) (g : Nat) (t : TypeId) (x0 x1 x2 : Value) (fr : Nat × Nat) (d : TypeDesc)
    (hp : tmps.getD p undef = .pointer (some ⟨g, 0, none⟩)) (hg : w.heap[g]? = some (.cells #[x0, x1, x2] t fr))
    (hu : P.underlying ty = some d) (hd : (match d with | .struct _ | .array _ _ => true | _ => false) = true) (hi : (P.info? ty).map (·.size) = some 3) :
    (results fn tmps).run P w = .ok (.tuple #[.agg #[x0, x1, x2], tmps.getD u undef]) w := by
  have hp' : tmps[p]?.getD undef = .pointer (some ⟨g, 0, none⟩) := by simpa using hp
  rw [results_cell_tmp h]
  simp [hp', asAddr, run_loadVar_row w g t ty #[x0, x1, x2] fr d hg hu hd hi, Result.andThen]

theorem row_below {W W' : World} {base e size k : Nat} {v : Value} {xs : List Value} (h : W.ownsRow base e size v k xs) (hb : Below W.heap.size W W') : W'.ownsRow base e size v k xs := by
  refine ⟨h.1, ?_⟩
  rcases h.2 with h0 | ⟨g, cap, cur, hv, hg, hh, r⟩
  · exact .inl h0
  · exact .inr ⟨g, cap, cur, hv, hg, by rw [hb.block g (Array.getElem?_eq_some_iff.1 hh).1]; exact hh, r⟩

theorem row_mono {W : World} {base base' e size k : Nat} {v : Value} {xs : List Value} (h : W.ownsRow base e size v k xs) (hle : base' ≤ base) : W.ownsRow base' e size v k xs := by
  refine ⟨h.1, ?_⟩
  rcases h.2 with h0 | ⟨g, cap, cur, hv, hg, r⟩
  · exact .inl h0
  · exact .inr ⟨g, cap, cur, hv, Nat.le_trans hle hg, r⟩

theorem below_put3 {B G : Nat} {w W : World} (h : Below B w W) (hG : B ≤ G) (x y z : Value) : Below B w (((W.setCell ⟨G, 0, none⟩ x).setCell ⟨G, 1, none⟩ y).setCell ⟨G, 2, none⟩ z) :=
  ((h.setCell (p := ⟨G, 0, none⟩) hG _).setCell (p := ⟨G, 1, none⟩) hG _).setCell (p := ⟨G, 2, none⟩) hG _
theorem row_put3 {W : World} {base e size k G : Nat} {v : Value} {xs : List Value} (h : W.ownsRow base e size v k xs) (hG : G < base) (x y z : Value) : (((W.setCell ⟨G, 0, none⟩ x).setCell ⟨G, 1, none⟩ y).setCell ⟨G, 2, none⟩ z).ownsRow base e size v k xs := by
  have ho : some G ≠ v.ownBlock := fun e => by have := (World.ownsRow.lt h _ e.symm).1; omega
  exact ((h.kept (grownBy_setCell W G 0 _) (.inr ho.symm)).kept (grownBy_setCell _ G 1 _) (.inr ho.symm)).kept (grownBy_setCell _ G 2 _) (.inr ho.symm)

end Go.Proofs.YtmnblpjdiplioaaGreat

namespace Go.Proofs.YtmnblpjdiplioaaGreat
open Go.RowKit

/-- how many pieces of n bytes a bytes have -/
def nP (a n : Nat) : Nat := (a + n - 1) / n
/-- the piece k -/
def piece (s : ByteArray) (n k : Nat) : ByteArray := s.extract (k * n) (min (k * n + n) s.size)
/-- all of them -/
def parts (s : ByteArray) (n : Nat) : List ByteArray := (List.range (nP s.size n)).map (piece s n)

theorem lt_nP {a n k : Nat} (hn : 1 ≤ n) : k < nP a n ↔ k * n < a := by
  unfold nP
  rw [Nat.lt_iff_add_one_le, Nat.le_div_iff_mul_le (by omega), Nat.add_mul]
  omega

theorem nP_many {a n : Nat} (hn : 1 ≤ n) : nP a n = if 0 < a % n then a / n + 1 else a / n := by
  have h1 := Nat.div_add_mod a n
  have h2 := Nat.mod_lt a hn
  apply Nat.le_antisymm
  · by_cases h : nP a n = 0
    · omega
    · have h3 : (nP a n - 1) * n < a := (lt_nP hn).1 (by omega)
      by_cases h0 : 0 < a % n
      · rw [if_pos h0]
        have : nP a n - 1 ≤ a / n := (Nat.le_div_iff_mul_le hn).2 (by omega)
        omega
      · rw [if_neg h0]
        have h4 : (nP a n - 1) * n < a / n * n := by rw [Nat.mul_comm (a / n) n]; omega
        have := Nat.lt_of_mul_lt_mul_right h4
        omega
  · by_cases h0 : 0 < a % n
    · rw [if_pos h0]
      have : a / n < nP a n := (lt_nP hn).2 (by rw [Nat.mul_comm]; omega)
      omega
    · rw [if_neg h0]
      by_cases h : a / n = 0
      · omega
      · have h5 : (a / n - 1) * n < a := by
          have : (a / n - 1) * n + n = a / n * n := by rw [← Nat.succ_mul, Nat.succ_eq_add_one, Nat.sub_add_cancel (Nat.one_le_iff_ne_zero.2 h)]
          have : a / n * n = n * (a / n) := Nat.mul_comm _ _
          omega
        have := (lt_nP hn).2 h5
        omega

theorem nP_le {a n : Nat} (hn : 1 ≤ n) : nP a n ≤ a := by
  by_cases h : nP a n = 0
  · omega
  · have h3 : (nP a n - 1) * n < a := (lt_nP hn).1 (by omega)
    have : nP a n - 1 ≤ (nP a n - 1) * n := Nat.le_mul_of_pos_right _ hn
    omega

/-- a text as its list -/
def tl (s : ByteArray) : List UInt8 := s.data.toList
theorem tl_inj {a b : ByteArray} (h : tl a = tl b) : a = b := by
  cases a; cases b
  simp only [tl] at h
  rw [Array.toList_inj.1 h]

end Go.Proofs.YtmnblpjdiplioaaGreat

namespace Go.Proofs.YtmnblpjdiplioaaGreat
open Go.RowKit

set_option maxHeartbeats 1000000 in
set_option maxRecDepth 100000 in
theorem isSizeC (n : Int) (w : World) :
    Calls Tryz.prog 168 #[.int .i64 n] w fun e w' => e = .returned (.bool (decide (1 ≤ n ∧ n ≤ 4096))) ∧ w = w' := by
  go_enter Tryz.func168, Tryz.ntmps168
  by_cases h1 : 1 ≤ n
  · by_cases h2 : n ≤ 4096
    · go_wp2
      go_ret
      exact ⟨by simp [h1, h2], rfl⟩
    · go_wp2
      go_ret
      exact ⟨by simp; omega, rfl⟩
  · go_wp2
    go_ret
    exact ⟨by simp; omega, rfl⟩

set_option maxHeartbeats 1000000 in
set_option maxRecDepth 100000 in
theorem countC (a n : Nat) (ha : a ≤ 4611686018427387904) (hn : 1 ≤ n) (hn2 : n ≤ 4096) (w : World) :
    Calls Tryz.prog 169 #[.int .i64 a, .int .i64 n] w fun e w' => e = .returned (.int .i64 (nP a n : Nat)) ∧ w = w' := by
  have e : Int.tdiv ((a : Int) + n - 1) n = (nP a n : Nat) := by
    unfold nP
    rw [Int.tdiv_eq_ediv_of_nonneg (by omega), Int.natCast_ediv]
    congr 1; omega
  have h0 : ((n : Int) == 0) = false := by simp; omega
  have hq : nP a n ≤ a := nP_le hn
  go_enter Tryz.func169, Tryz.ntmps169
  go_wp2
  go_ret
  exact ⟨by simp, rfl⟩

set_option maxHeartbeats 1000000 in
set_option maxRecDepth 100000 in
theorem manyR (a n : Nat) (ha : a ≤ 4611686018427387904) (hn : 1 ≤ n) (hn2 : n ≤ 4096) (w : World) :
    Calls Tryz.prog 98 #[.int .i64 a, .int .i64 n] w fun e w' => e = .returned (.int .i64 (nP a n : Nat)) ∧ w = w' := by
  have e1 : Int.tmod (a : Int) n = (a % n : Nat) := by rw [Int.tmod_eq_emod_of_nonneg (by omega), Int.natCast_emod]
  have e2 : Int.tdiv (a : Int) n = (a / n : Nat) := by rw [Int.tdiv_eq_ediv_of_nonneg (by omega), Int.natCast_ediv]
  have h0 : ((n : Int) == 0) = false := by simp; omega
  have hq := nP_many (a := a) hn
  have hle : a / n ≤ a := Nat.div_le_self _ _
  by_cases h : 0 < a % n
  · rw [if_pos h] at hq
    have hd : decide ((0 : Int) < Int.tmod (a : Int) n) = true := by rw [e1]; simp; omega
    go_enter Tryz.func98, Tryz.ntmps98
    go_wp2
    go_ret
    exact ⟨by rw [hq]; simp, rfl⟩
  · rw [if_neg h] at hq
    have hd : decide ((0 : Int) < Int.tmod (a : Int) n) = false := by rw [e1]; simp; omega
    go_enter Tryz.func98, Tryz.ntmps98
    go_wp2
    go_ret
    exact ⟨by rw [hq]; simp, rfl⟩
end Go.Proofs.YtmnblpjdiplioaaGreat

namespace Go.Proofs.YtmnblpjdiplioaaGreat
open Go.RowKit

def dg (n : Nat) : Nat := if n < 10 then 48 + n else 87 + n
def hv (c : Nat) : Nat := if 48 ≤ c ∧ c ≤ 57 then c - 48 else if 97 ≤ c ∧ c ≤ 102 then c - 87 else 16

theorem hv_cases (c : Nat) : (48 ≤ c ∧ c ≤ 57 ∧ hv c = c - 48) ∨ (97 ≤ c ∧ c ≤ 102 ∧ hv c = c - 87) ∨ (hv c = 16 ∧ ¬ (48 ≤ c ∧ c ≤ 57) ∧ ¬ (97 ≤ c ∧ c ≤ 102)) := by
  by_cases h1 : 48 ≤ c ∧ c ≤ 57
  · left; exact ⟨h1.1, h1.2, by unfold hv; rw [if_pos h1]⟩
  · by_cases h2 : 97 ≤ c ∧ c ≤ 102
    · right; left; exact ⟨h2.1, h2.2, by unfold hv; rw [if_neg h1, if_pos h2]⟩
    · right; right; exact ⟨by unfold hv; rw [if_neg h1, if_neg h2], h1, h2⟩
theorem dg_cases (n : Nat) : (n < 10 ∧ dg n = 48 + n) ∨ (10 ≤ n ∧ dg n = 87 + n) := by
  by_cases h : n < 10
  · left; exact ⟨h, by unfold dg; rw [if_pos h]⟩
  · right; exact ⟨by omega, by unfold dg; rw [if_neg h]⟩
theorem dg_lt (n : Nat) (h : n < 16) : dg n < 128 := by have := dg_cases n; omega
theorem hv_dg (n : Nat) (h : n < 16) : hv (dg n) = n := by have h1 := dg_cases n; have h2 := hv_cases (dg n); omega
theorem hv_le (c : Nat) : hv c ≤ 16 := by have := hv_cases c; omega
theorem dg_hv (c : Nat) (h : hv c < 16) : dg (hv c) = c := by have h1 := dg_cases (hv c); have h2 := hv_cases c; omega
theorem hv_small (c : Nat) (h : hv c < 16) : c < 128 := by have := hv_cases c; omega
def putL : List UInt8 → List UInt8
  | [] => []
  | c :: r => UInt8.ofNat (dg (c.toNat / 16)) :: UInt8.ofNat (dg (c.toNat % 16)) :: putL r

def readL : List UInt8 → Option (List UInt8)
  | [] => some []
  | [_] => none
  | a :: b :: r => if hv a.toNat < 16 ∧ hv b.toNat < 16 then (readL r).map (UInt8.ofNat (16 * hv a.toNat + hv b.toNat) :: ·) else none

theorem putL_len (l : List UInt8) : (putL l).length = 2 * l.length := by
  induction l with
  | nil => rfl
  | cons c r ih => simp [putL, ih]; omega

theorem hput_read : ∀ (l r : List UInt8), readL l = some r → putL r = l
  | [], r, h => by simp [readL] at h; subst h; rfl
  | [_], r, h => by simp [readL] at h
  | a :: b :: t, r, h => by
    simp only [readL] at h
    split at h
    · rename_i hc
      cases hr : readL t with
      | none => rw [hr] at h; simp at h
      | some q =>
        rw [hr] at h
        obtain rfl := Option.some.inj h
        have hq := hput_read t q hr
        simp only [putL]
        have h256 : 16 * hv a.toNat + hv b.toNat < 256 := by omega
        have e : (UInt8.ofNat (16 * hv a.toNat + hv b.toNat)).toNat = 16 * hv a.toNat + hv b.toNat := by simp; omega
        rw [e, hq]
        have e3 : (16 * hv a.toNat + hv b.toNat) / 16 = hv a.toNat := by omega
        have e4 : (16 * hv a.toNat + hv b.toNat) % 16 = hv b.toNat := by omega
        rw [e3, e4, dg_hv _ hc.1, dg_hv _ hc.2]
        simp
    · simp at h

theorem read_len : ∀ (l r : List UInt8), readL l = some r → l.length = 2 * r.length
  | l, r, h => by rw [← hput_read l r h, putL_len]

/-- the digits of the first part of a text that is read: all of them are digits, and there are as many as there are bytes -/
theorem read_odd : ∀ (l : List UInt8), l.length % 2 = 1 → readL l = none
  | [], h => by simp at h
  | [_], _ => rfl
  | a :: b :: t, h => by
    have ih := read_odd t (by simp at h; omega)
    simp only [readL, ih]; split <;> rfl

theorem read_append : ∀ (a b : List UInt8), a.length % 2 = 0 → readL (a ++ b) = (readL a).bind fun x => (readL b).map (x ++ ·)
  | [], b, _ => by simp [readL]
  | [_], b, h => by simp at h
  | x :: y :: t, b, h => by
    have ih := read_append t b (by simp at h; omega)
    simp only [List.cons_append, readL, ih]
    split
    · cases readL t <;> simp [Option.bind, Function.comp_def]
    · rfl

/-- a byte that is no digit: none is read -/
theorem read_bad : ∀ (l : List UInt8) (i : Nat) (h : i < l.length), ¬ hv (l[i]).toNat < 16 → readL l = none
  | [], i, h, _ => absurd h (by simp)
  | [_], _, _, _ => rfl
  | a :: b :: t, 0, h, hb => by simp only [readL]; rw [if_neg (fun hh => hb hh.1)]
  | a :: b :: t, 1, h, hb => by simp only [readL]; rw [if_neg (fun hh => hb hh.2)]
  | a :: b :: t, i + 2, h, hb => by
    have ih := read_bad t i (by simpa using h) (by simpa using hb)
    simp only [readL, ih]; split <;> rfl

end Go.Proofs.YtmnblpjdiplioaaGreat

namespace Go.Proofs.YtmnblpjdiplioaaGreat
open Go.RowKit

theorem run_index_at (s : ByteArray) (j : Nat) (h : j < s.size) (W : World) : (Instr.index 9 (.string s) (.int .i64 (j : Int))).run Tryz.prog W = .ok (.int .u8 (s[j].toNat : Nat)) W := by
  have h1 := run_index_string (P := Tryz.prog) (w := W) 9 s .i64 (j : Int) Tryz.underlying9
  rw [dif_pos ⟨by omega, by omega⟩] at h1
  exact h1

theorem take_snoc (s : ByteArray) (k : Nat) (h : k < s.size) : s.data.toList.take (k + 1) = s.data.toList.take k ++ [s[k]] := by
  rw [List.take_succ_eq_append_getElem (by simpa using h)]; rfl

end Go.Proofs.YtmnblpjdiplioaaGreat

namespace Go.Proofs.YtmnblpjdiplioaaGreat
open Go.RowKit

set_option maxRecDepth 100000 in
theorem value_yes (n : Nat) (h : hv n < 16) (w : World) :
    Calls Tryz.prog 173 #[.int .i32 n] w fun e w' => e = .returned (.tuple #[.int .u8 (hv n : Nat), .bool true]) ∧ w = w' := by
  rcases hv_cases n with ⟨h1, h2, h3⟩ | ⟨h1, h2, h3⟩ | ⟨h1, _⟩
  · rw [h3]
    have e : ((n - 48 : Nat) : Int) = (n : Int) - 48 := by omega
    rw [e]
    clear h h3 e
    go_enter Tryz.func173, Tryz.ntmps173
    go_wp2
    go_ret2
    exact ⟨rfl, rfl⟩
  · rw [h3]
    have e : ((n - 87 : Nat) : Int) = (n : Int) - 97 + 10 := by omega
    rw [e]
    have h4 : ¬ n ≤ 57 := by omega
    clear h h3 e
    go_enter Tryz.func173, Tryz.ntmps173
    go_wp2
    go_ret2
    exact ⟨rfl, rfl⟩
  · omega

set_option maxRecDepth 100000 in
theorem value_no (n : Nat) (h : ¬ hv n < 16) (w : World) :
    Calls Tryz.prog 173 #[.int .i32 n] w fun e w' => e = .returned (.tuple #[.int .u8 0, .bool false]) ∧ w = w' := by
  rcases hv_cases n with ⟨h1, h2, h3⟩ | ⟨h1, h2, h3⟩ | ⟨_, h1, h2⟩
  · omega
  · omega
  · clear h
    by_cases c1 : n < 48
    · have d1 : ¬ 97 ≤ n := by omega
      have d2 : ¬ 48 ≤ n := by omega
      clear h1 h2
      go_enter Tryz.func173, Tryz.ntmps173
      go_wp2
      go_ret2
      exact ⟨rfl, rfl⟩
    · by_cases c2 : n < 97
      · have d1 : 48 ≤ n := by omega
        have d2 : ¬ n ≤ 57 := by omega
        have d3 : ¬ 97 ≤ n := by omega
        clear h1 h2
        go_enter Tryz.func173, Tryz.ntmps173
        go_wp2
        go_ret2
        exact ⟨rfl, rfl⟩
      · have d1 : 48 ≤ n := by omega
        have d2 : ¬ n ≤ 57 := by omega
        have d3 : 97 ≤ n := by omega
        have d4 : ¬ n ≤ 102 := by omega
        clear h1 h2
        go_enter Tryz.func173, Tryz.ntmps173
        go_wp2
        go_ret2
        exact ⟨rfl, rfl⟩

set_option maxRecDepth 100000 in
theorem digit_any (n : Nat) (h : n < 16) (w : World) :
    Calls Tryz.prog 156 #[.int .u8 n] w fun e w' => e = .returned (.int .u8 (dg n : Nat)) ∧ w = w' := by
  rcases dg_cases n with ⟨h1, h2⟩ | ⟨h1, h2⟩
  · rw [h2]
    have e : ((48 + n : Nat) : Int) = 48 + (n : Int) := by omega
    rw [e]
    clear h2 e
    go_enter Tryz.func156, Tryz.ntmps156
    go_wp2
    go_ret
    exact ⟨rfl, rfl⟩
  · rw [h2]
    have e : ((87 + n : Nat) : Int) = 87 + (n : Int) := by omega
    rw [e]
    have h3 : ¬ n < 10 := by omega
    clear h2 e
    go_enter Tryz.func156, Tryz.ntmps156
    go_wp2
    go_ret
    exact ⟨rfl, rfl⟩

theorem hv_first (c n : Nat) (h : n ≤ hv c) (hn : n < 16) : dg n = c ↔ n = hv c := by
  constructor
  · intro e; rw [← e, hv_dg n hn]
  · rintro rfl; exact dg_hv c hn

set_option maxHeartbeats 1000000 in
set_option maxRecDepth 100000 in
theorem half_any (c : Nat) (_hc : c < 256) (w : World) :
    Calls Tryz.prog 140 #[.int .u8 c] w fun e w' => e = .returned (.int .u8 (hv c : Nat)) ∧ w = w' := by
  have hle := hv_le c
  go_enter Tryz.func140, Tryz.ntmps140
  go_wp2
  go_loop [3] (fun n => ∃ j : Nat, j ≤ hv c ∧ n = .int .u8 j) (fun n => 16 - (intOf n).toNat)
  case atStart => exact ⟨0, by omega, rfl⟩
  case round =>
    obtain ⟨j, hj, rfl⟩ := hrel
    by_cases hlt : j < 16
    · have hf := hv_first c j hj hlt
      have hlg := dg_lt j hlt
      by_cases hd : dg j = c
      · have he : ((dg j : Int) == (c : Int)) = true := by rw [hd]; simp
        have hjh : (j : Int) = (hv c : Int) := by rw [← hf.1 hd]
        have HJ := Lib.hid hjh
        clear hf hd hjh
        go_wp2_with fail
        refine (digit_any j hlt _).mono ?_
        rintro e w1 ⟨rfl, rfl⟩
        go_wp2
        go_ret
        exact ⟨by rw [HJ.out]; rfl, rfl⟩
      · have he : ((dg j : Int) == (c : Int)) = false := by simp; omega
        have hjh : j + 1 ≤ hv c := by have : j ≠ hv c := fun e => hd (hf.2 e); omega
        clear hf hd
        go_wp2_with fail
        refine (digit_any j hlt _).mono ?_
        rintro e w1 ⟨rfl, rfl⟩
        go_wp2
        go_round
        case rel => exact ⟨j + 1, hjh, by go_num⟩
        case measure => simp [intOf]; omega
    · have hj16 : hv c = 16 := by omega
      have HH := Lib.hid hj16
      clear hj16
      go_wp2
      go_ret
      exact ⟨by rw [HH.out]; rfl, rfl⟩
end Go.Proofs.YtmnblpjdiplioaaGreat
