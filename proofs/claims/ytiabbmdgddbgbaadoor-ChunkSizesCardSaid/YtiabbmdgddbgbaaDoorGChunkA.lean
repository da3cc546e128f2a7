/-
  Plain: the pieces of a text.
  chunk: isSize, count, mayCut, chunks; what the iterator hands over.
  chunk: whether bytes may be cut, both sides.
  Cut: the program's and the document's.
-/
import Derived.Test.YtiabbmdgddbgbaaDoorBase
import Derived.RangeFuncNested
import Derived.RangeFuncBound
import Derived.RangeFuncCalls
import Derived.RangeFuncLeaves
import Derived.RangeFuncBox
import Derived.Shelf.Abstract
import Derived.Shelf.RegionOpen
import Derived.WalkKit
import Derived.OwnWalkIn
import Derived.TacticsInMore
import Derived.LoopNIn
import Derived.LoopIn
import Derived.Maps.AppendAt
import Derived.Test.YtiabbmdgddbgbaaDoorGWireB
namespace Go.Proofs.YtiabbmdgddbgbaaDoor
open Go.RowKit

/-- how many pieces of n bytes a bytes have -/
def nP (a n : Nat) : Nat := (a + n - 1) / n
/-- the piece k -/
def piece (s : ByteArray) (n k : Nat) : ByteArray := s.extract (k * n) (min (k * n + n) s.size)
/-- all of them -/
def parts (s : ByteArray) (n : Nat) : List ByteArray := (List.range (nP s.size n)).map (piece s n)

theorem parts_length (s : ByteArray) (n : Nat) : (parts s n).length = nP s.size n := by simp [parts]

theorem lt_nP {a n k : Nat} (hn : 1 ≤ n) : k < nP a n ↔ k * n < a := by
  unfold nP
  rw [Nat.lt_iff_add_one_le, Nat.le_div_iff_mul_le (by omega), Nat.add_mul]
  omega

theorem nP_many {a n : Nat} (hn : 1 ≤ n) : nP a n = if 0 < a % n then a / n + 1 else a / n := by
  have h1 := Nat.div_add_mod a n
  have h2 := Nat.mod_lt a hn
  apply Nat.le_antisymm
  · by_cases h : nP a n = 0
    · omega
    · have h3 : (nP a n - 1) * n < a := (lt_nP hn).1 (by omega)
      by_cases h0 : 0 < a % n
      · rw [if_pos h0]
        have : nP a n - 1 ≤ a / n := (Nat.le_div_iff_mul_le hn).2 (by omega)
        omega
      · rw [if_neg h0]
        have h4 : (nP a n - 1) * n < a / n * n := by rw [Nat.mul_comm (a / n) n]; omega
        have := Nat.lt_of_mul_lt_mul_right h4
        omega
  · by_cases h0 : 0 < a % n
    · rw [if_pos h0]
      have : a / n < nP a n := (lt_nP hn).2 (by rw [Nat.mul_comm]; omega)
      omega
    · rw [if_neg h0]
      by_cases h : a / n = 0
      · omega
      · have h5 : (a / n - 1) * n < a := by
          have : (a / n - 1) * n + n = a / n * n := by rw [← Nat.succ_mul, Nat.succ_eq_add_one, Nat.sub_add_cancel (Nat.one_le_iff_ne_zero.2 h)]
          have : a / n * n = n * (a / n) := Nat.mul_comm _ _
          omega
        have := (lt_nP hn).2 h5
        omega

theorem nP_le {a n : Nat} (hn : 1 ≤ n) : nP a n ≤ a := by
  by_cases h : nP a n = 0
  · omega
  · have h3 : (nP a n - 1) * n < a := (lt_nP hn).1 (by omega)
    have : nP a n - 1 ≤ (nP a n - 1) * n := Nat.le_mul_of_pos_right _ hn
    omega

theorem piece_size_le (s : ByteArray) (n k : Nat) : (piece s n k).size ≤ n := by
  unfold piece; rw [ByteArray.size_extract]; omega

theorem piece_size {s : ByteArray} {n k : Nat} (h : k * n < s.size) : (piece s n k).size = min n (s.size - k * n) := by
  unfold piece; rw [ByteArray.size_extract]; omega

/-- a text as its list -/
def tl (s : ByteArray) : List UInt8 := s.data.toList
theorem tl_length (s : ByteArray) : (tl s).length = s.size := by simp [tl]
theorem tl_inj {a b : ByteArray} (h : tl a = tl b) : a = b := by
  cases a; cases b
  simp only [tl] at h
  rw [Array.toList_inj.1 h]

theorem tl_extract (s : ByteArray) (i j : Nat) : tl (s.extract i j) = ((tl s).drop i).take (j - i) := by
  unfold tl
  rw [ByteArray.data_extract, Array.toList_extract, List.extract_eq_take_drop]

theorem tl_piece (s : ByteArray) (n k : Nat) : tl (piece s n k) = ((tl s).drop (k * n)).take n := by
  unfold piece
  rw [tl_extract]
  by_cases h : k * n + n ≤ s.size
  · rw [Nat.min_eq_left h, show k * n + n - k * n = n by omega]
  · rw [Nat.min_eq_right (by omega), List.take_of_length_le (by rw [List.length_drop, tl_length]; omega), List.take_of_length_le (by rw [List.length_drop, tl_length]; omega)]

theorem flat_upto (s : ByteArray) (n m : Nat) : (((List.range m).map (piece s n)).map tl).flatten = (tl s).take (m * n) := by
  induction m with
  | zero => simp
  | succ m ih =>
    rw [List.range_succ, List.map_append, List.map_append, List.flatten_append, ih]
    simp only [List.map_cons, List.map_nil, List.flatten_cons, List.flatten_nil, List.append_nil]
    rw [tl_piece, Nat.succ_mul, List.take_add]

theorem parts_flat {s : ByteArray} {n : Nat} (hn : 1 ≤ n) : ((parts s n).map tl).flatten = tl s := by
  unfold parts
  rw [flat_upto, List.take_of_length_le]
  rw [tl_length]
  have h := (lt_nP (a := s.size) (n := n) (k := nP s.size n) hn)
  have : ¬ nP s.size n < nP s.size n := Nat.lt_irrefl _
  rw [h] at this
  omega

/-- the sizes of some texts together -/
def total (l : List ByteArray) : Nat := ((l.map tl).flatten).length
theorem total_nil : total [] = 0 := rfl
theorem total_snoc (l : List ByteArray) (x : ByteArray) : total (l ++ [x]) = total l + x.size := by simp [total, tl_length]
/-- all of them as one -/
def cat (l : List ByteArray) : ByteArray := ⟨((l.map tl).flatten).toArray⟩
theorem cat_size (l : List ByteArray) : (cat l).size = total l := by simp [cat, total, ByteArray.size]
theorem cat_parts {s : ByteArray} {n : Nat} (hn : 1 ≤ n) : cat (parts s n) = s := tl_inj (by unfold cat; show ((((parts s n).map tl).flatten).toArray).toList = tl s; rw [parts_flat hn])
theorem total_parts {s : ByteArray} {n : Nat} (hn : 1 ≤ n) : total (parts s n) = s.size := by rw [← cat_size, cat_parts hn]

/-- a piece that a body is handed -/
abbrev Pc := { x : ByteArray // x.size ≤ 4096 }
def pieceP (s : ByteArray) (n : Nat) (hn : n ≤ 4096) (k : Nat) : Pc := ⟨piece s n k, Nat.le_trans (piece_size_le s n k) hn⟩
def uptoP (s : ByteArray) (n : Nat) (hn : n ≤ 4096) (m : Nat) : List Pc := (List.range m).map (pieceP s n hn)
theorem uptoP_succ (s : ByteArray) (n : Nat) (hn : n ≤ 4096) (m : Nat) : uptoP s n hn (m + 1) = uptoP s n hn m ++ [pieceP s n hn m] := by simp [uptoP, List.range_succ]
theorem uptoP_length (s : ByteArray) (n : Nat) (hn : n ≤ 4096) (m : Nat) : (uptoP s n hn m).length = m := by simp [uptoP]
theorem uptoP_parts (s : ByteArray) (n : Nat) (hn : n ≤ 4096) : (uptoP s n hn (nP s.size n)).map Subtype.val = parts s n := by
  simp only [uptoP, parts, List.map_map]; rfl
end Go.Proofs.YtiabbmdgddbgbaaDoor

namespace Go.Proofs.YtiabbmdgddbgbaaDoor
open Go.RowKit Go.Shelf

attribute [local go_sem] Oper.semAt_some

set_option maxHeartbeats 1000000 in
set_option maxRecDepth 100000 in
theorem isSizeC (n : Int) (w : World) :
    Calls Tryd.prog 41 #[.int .i64 n] w fun e w' => e = .returned (.bool (decide (1 ≤ n ∧ n ≤ 4096))) ∧ w = w' := by
  go_enter Tryd.func41, Tryd.ntmps41
  by_cases h1 : 1 ≤ n
  · by_cases h2 : n ≤ 4096
    · go_wp2
      go_ret
      exact ⟨by simp [h1, h2], rfl⟩
    · go_wp2
      go_ret
      exact ⟨by simp; omega, rfl⟩
  · go_wp2
    go_ret
    exact ⟨by simp; omega, rfl⟩

set_option maxHeartbeats 1000000 in
set_option maxRecDepth 100000 in
theorem countC (a n : Nat) (ha : a ≤ 4611686018427387904) (hn : 1 ≤ n) (hn2 : n ≤ 4096) (w : World) :
    Calls Tryd.prog 24 #[.int .i64 a, .int .i64 n] w fun e w' => e = .returned (.int .i64 (nP a n : Nat)) ∧ w = w' := by
  have e : Int.tdiv ((a : Int) + n - 1) n = (nP a n : Nat) := by
    unfold nP
    rw [Int.tdiv_eq_ediv_of_nonneg (by omega), Int.natCast_ediv]
    congr 1; omega
  have h0 : ((n : Int) == 0) = false := by simp; omega
  have hq : nP a n ≤ a := nP_le hn
  go_enter Tryd.func24, Tryd.ntmps24
  go_wp2
  go_ret
  exact ⟨by simp, rfl⟩

/-- the two boxes lie as they lay -/
structure Keep2 (B1 B2 : Nat) (W W' : World) : Prop where
  size : W.heap.size ≤ W'.heap.size
  b1 : B1 < W.heap.size → W'.heap[B1]? = W.heap[B1]?
  b2 : B2 < W.heap.size → W'.heap[B2]? = W.heap[B2]?
theorem Keep2.refl (B1 B2 : Nat) (W : World) : Keep2 B1 B2 W W := ⟨Nat.le_refl _, fun _ => rfl, fun _ => rfl⟩
theorem Keep2.trans {B1 B2 : Nat} {A B C : World} (h : Keep2 B1 B2 A B) (k : Keep2 B1 B2 B C) : Keep2 B1 B2 A C :=
  ⟨Nat.le_trans h.size k.size, fun e => (k.b1 (Nat.lt_of_lt_of_le e h.size)).trans (h.b1 e), fun e => (k.b2 (Nat.lt_of_lt_of_le e h.size)).trans (h.b2 e)⟩
theorem Keep2.c1 {B1 B2 : Nat} {W W' : World} (h : Keep2 B1 B2 W W') {v : Value} (hc : W.cell? ⟨B1, 0, none⟩ = some v) : W'.cell? ⟨B1, 0, none⟩ = some v :=
  (World.cell?_of_block (a := ⟨B1, 0, none⟩) (h.b1 (World.block_lt_of_cell? W ⟨B1, 0, none⟩ hc))).trans hc
theorem Keep2.c2 {B1 B2 : Nat} {W W' : World} (h : Keep2 B1 B2 W W') {v : Value} (hc : W.cell? ⟨B2, 0, none⟩ = some v) : W'.cell? ⟨B2, 0, none⟩ = some v :=
  (World.cell?_of_block (a := ⟨B2, 0, none⟩) (h.b2 (World.block_lt_of_cell? W ⟨B2, 0, none⟩ hc))).trans hc
theorem Keep2.grown {B1 B2 : Nat} {W W' : World} {row : Option Nat} (h : W.grownBy W' row) (h1 : some B1 ≠ row) (h2 : some B2 ≠ row) : Keep2 B1 B2 W W' :=
  ⟨h.size, fun e => h.block B1 e h1, fun e => h.block B2 e h2⟩
theorem Keep2.below {B1 B2 : Nat} {W W' : World} (h : Below W.heap.size W W') : Keep2 B1 B2 W W' :=
  ⟨h.size, fun e => h.block B1 e, fun e => h.block B2 e⟩
theorem keep2_b {B1 B2 : Nat} {w : World} (h1 : B1 < w.heap.size) (h2 : B2 < w.heap.size) (W : World) (l : Nat) (o o' : Obj) (hl : w.heap.size ≤ l) (_ : W.heap[l]? = some o) (_ : o.isCells = false) (_ : o.isWalk = false) : Keep2 B1 B2 W (W.putObj l o') :=
  Keep2.grown (grownBy_putObj' W l o') (fun e => by cases e; omega) (fun e => by cases e; omega)

set_option maxHeartbeats 1000000 in
set_option maxRecDepth 100000 in
theorem chunks1_in (F : Fence) (n : Nat) (hF : F.fn 44) (hro : F.round = none) (hn : 1 ≤ n) (l B1 B2 : Nat) (s : ByteArray) (k : Nat) (hk : 1 ≤ k) (hk2 : k ≤ 4096) (hs : s.size ≤ 4611686018427387904) (J Jx : List Pc → World → Prop)
    (hY : ∀ pre x W, J pre W → pre.length < nP s.size k → YieldAt F (n - 1) Tryd.prog l #[.string x.1] W fun e W' =>
      (e = .returned (.bool true) ∧ J (pre ++ [x]) W' ∧ Keep2 B1 B2 W W') ∨ (e = .returned (.bool false) ∧ Jx (pre ++ [x]) W'))
    (W : World) (h1 : W.cell? ⟨B1, 0, none⟩ = some (.string s)) (h2 : W.cell? ⟨B2, 0, none⟩ = some (.int .i64 k)) (h0 : J [] W) :
    CallsIn F n Tryd.prog 44 #[.func (.yield l) #[] #[], .pointer (some ⟨B1, 0, none⟩), .pointer (some ⟨B2, 0, none⟩)] W fun e W' => (∃ v, e = .returned v) ∧
      ((∃ ys, ys = uptoP s k hk2 (nP s.size k) ∧ J ys W') ∨ (∃ pre, True ∧ Jx pre W')) := by
  refine callsIn_of_wp Tryd.func44 rfl hF ?_ hro
  simp only [Tryd.ntmps44, List.size_toArray, List.length_cons, List.length_nil, Nat.reduceAdd, Nat.reduceSub, Array.replicate_succ, Array.replicate_zero, List.push_toArray, List.append_toArray, List.nil_append, List.cons_append]
  gi_wp2
  gi_loopw [4] (fun p wr => ∃ m : Nat, m ≤ nP s.size k ∧ p = .int .i64 ((m * k : Nat) : Int) ∧ J (uptoP s k hk2 m) wr ∧ Keep2 B1 B2 W wr)
    (fun p _ => s.size - (intOf p).toNat)
  case atStart => exact ⟨0, Nat.zero_le _, by simp, h0, Keep2.refl _ _ _⟩
  case round =>
    obtain ⟨m, hm, rfl, hJs, hb⟩ := hrel
    have c1 := hb.c1 h1
    have c2 := hb.c2 h2
    by_cases hlt : m * k < s.size
    · have hlt' : m < nP s.size k := (lt_nP hk).2 hlt
      obtain ⟨fn, tmps, assign, body, hy, hR⟩ := hY _ (pieceP s k hk2 m) wr hJs (by rw [uptoP_length]; exact hlt')
      have he : (pieceP s k hk2 m).1 = s.extract (m * k) (min ((m : Int) * (k : Int) + (k : Int)) (s.size : Int)).toNat := by
        have e1 : (m : Int) * (k : Int) = ((m * k : Nat) : Int) := by simp
        rw [e1]
        show s.extract (m * k) _ = _
        congr 1
        omega
      rw [he] at hy
      gi_wp2
      refine hR.mono ?_
      rintro e W3 (⟨rfl, hJ3, hk3⟩ | ⟨rfl, hJx3⟩)
      · have c2' := hk3.c2 c2
        gi_wp2
        go_roundw
        case rel => exact ⟨m + 1, hlt', by simp [Nat.succ_mul], by rw [uptoP_succ]; exact hJ3, hb.trans hk3⟩
        case measure => simp [intOf]; omega
      · gi_wp2
        refine bodyPost_ret (results_none rfl _ _ _) rfl ?_
        exact ⟨⟨_, rfl⟩, .inr ⟨_, trivial, hJx3⟩⟩
    · obtain rfl : m = nP s.size k := by
        have := (lt_nP (a := s.size) (k := m) hk)
        omega
      gi_wp2
      go_end0
      exact ⟨⟨_, rfl⟩, .inl ⟨_, rfl, hJs⟩⟩

set_option maxHeartbeats 1000000 in
theorem chunksC (F : Fence) (n : Nat) (hF : F.fn 25) (hro : F.round = none) (s : ByteArray) (k : Nat) (w : World) :
    CallsIn F n Tryd.prog 25 #[.string s, .int .i64 k] w fun e w' => e = .returned (.func (.func 44) #[] #[.pointer (some ⟨w.heap.size, 0, none⟩), .pointer (some ⟨w.heap.size + 1, 0, none⟩)]) ∧ w' = (w.alloc (.cells #[.string s] 9)).alloc (.cells #[.int .i64 k] 3) := by
  refine callsIn_of_wp Tryd.func25 rfl hF ?_ hro
  simp only [Tryd.ntmps25, List.size_toArray, List.length_cons, List.length_nil, Nat.reduceAdd, Nat.reduceSub, Array.replicate_succ, Array.replicate_zero, List.push_toArray, List.append_toArray, List.nil_append, List.cons_append]
  gi_wp2
  go_ret
  exact ⟨rfl, rfl⟩

/-- the iterator hands over the pieces in their order -/
theorem chunks_stops (F : Fence) (n : Nat) (hF : F.fn 44) (hro : F.round = none) (hn : 1 ≤ n) (B1 B2 : Nat) (s : ByteArray) (k : Nat) (hk : 1 ≤ k) (hk2 : k ≤ 4096) (hs : s.size ≤ 4611686018427387904) (w : World)
    (hl1 : B1 < w.heap.size) (hl2 : B2 < w.heap.size) (h1 : w.cell? ⟨B1, 0, none⟩ = some (.string s)) (h2 : w.cell? ⟨B2, 0, none⟩ = some (.int .i64 k)) :
    SeqStopsK F n Tryd.prog 44 #[.pointer (some ⟨B1, 0, none⟩), .pointer (some ⟨B2, 0, none⟩)] (fun x : Pc => #[Value.string x.1]) (Keep2 B1 B2) (fun ys => ys = uptoP s k hk2 (nP s.size k)) (fun _ => True) (nP s.size k) w := fun l J Jx W hW _ _ hY h0 =>
  chunks1_in F n hF hro hn l B1 B2 s k hk hk2 hs J Jx hY W ((hW.cell (p := ⟨B1, 0, none⟩) hl1).trans h1) ((hW.cell (p := ⟨B2, 0, none⟩) hl2).trans h2) h0
end Go.Proofs.YtiabbmdgddbgbaaDoor

namespace Go.Proofs.YtiabbmdgddbgbaaDoor
open Go.RowKit Go.Shelf

/-- the error of so many bytes in pieces of this size -/
def cutE (a : Nat) (n : Int) : Int := if n < 1 ∨ 4096 < n then 1 else if 32768 < a ∨ 4096 < nP a n.toNat then 3 else 0

set_option maxHeartbeats 1000000 in
set_option maxRecDepth 100000 in
theorem mayCutC (a : Nat) (n : Int) (w : World) :
    Calls Tryd.prog 23 #[.int .i64 a, .int .i64 n] w fun e w' => e = .returned (.int .i64 (cutE a n)) ∧ w = w' := by
  have hi := isSizeC n w
  by_cases h : 1 ≤ n ∧ n ≤ 4096
  · rw [decide_eq_true h] at hi
    obtain ⟨m, rfl⟩ : ∃ m : Nat, n = m := ⟨n.toNat, by omega⟩
    have e : cutE a m = if 32768 < a ∨ 4096 < nP a m then 3 else 0 := by unfold cutE; rw [if_neg (by omega), Int.toNat_natCast]
    rw [e]
    clear e
    by_cases h1 : 32768 < a
    · have hd : decide ((32768 : Int) < (a : Int)) = true := by simp; omega
      rw [if_pos (.inl h1)]
      clear h1
      go_enter Tryd.func23, Tryd.ntmps23
      go_wp2_with (go_at_call 41; refine hi.mono ?_; rintro e w1 ⟨rfl, rfl⟩)
      go_ret
      exact ⟨rfl, rfl⟩
    · have hd : decide ((32768 : Int) < (a : Int)) = false := by simp; omega
      have hc := countC a m (by omega) (by omega) (by omega) w
      by_cases h2 : 4096 < nP a m
      · have hd2 : decide ((4096 : Int) < ((nP a m : Nat) : Int)) = true := by simp; omega
        rw [if_pos (.inr h2)]
        clear h1
        go_enter Tryd.func23, Tryd.ntmps23
        go_wp2_with (first | (go_at_call 41; refine hi.mono ?_; rintro e w1 ⟨rfl, rfl⟩) | (go_at_call 24; refine hc.mono ?_; rintro e w1 ⟨rfl, rfl⟩))
        go_ret
        exact ⟨rfl, rfl⟩
      · have hd2 : decide ((4096 : Int) < ((nP a m : Nat) : Int)) = false := by simp; omega
        rw [if_neg (by omega)]
        clear h1
        go_enter Tryd.func23, Tryd.ntmps23
        go_wp2_with (first | (go_at_call 41; refine hi.mono ?_; rintro e w1 ⟨rfl, rfl⟩) | (go_at_call 24; refine hc.mono ?_; rintro e w1 ⟨rfl, rfl⟩))
        go_ret
        exact ⟨rfl, rfl⟩
  · rw [decide_eq_false h] at hi
    have e : cutE a n = 1 := by unfold cutE; rw [if_pos (by omega)]
    rw [e]
    clear e
    go_enter Tryd.func23, Tryd.ntmps23
    go_wp2_with (go_at_call 41; refine hi.mono ?_; rintro e w1 ⟨rfl, rfl⟩)
    go_ret
    exact ⟨rfl, rfl⟩

set_option maxHeartbeats 1000000 in
set_option maxRecDepth 100000 in
theorem manyR (a n : Nat) (ha : a ≤ 4611686018427387904) (hn : 1 ≤ n) (hn2 : n ≤ 4096) (w : World) :
    Calls Tryd.prog 26 #[.int .i64 a, .int .i64 n] w fun e w' => e = .returned (.int .i64 (nP a n : Nat)) ∧ w = w' := by
  have e1 : Int.tmod (a : Int) n = (a % n : Nat) := by rw [Int.tmod_eq_emod_of_nonneg (by omega), Int.natCast_emod]
  have e2 : Int.tdiv (a : Int) n = (a / n : Nat) := by rw [Int.tdiv_eq_ediv_of_nonneg (by omega), Int.natCast_ediv]
  have h0 : ((n : Int) == 0) = false := by simp; omega
  have hq := nP_many (a := a) hn
  have hle : a / n ≤ a := Nat.div_le_self _ _
  by_cases h : 0 < a % n
  · rw [if_pos h] at hq
    have hd : decide ((0 : Int) < Int.tmod (a : Int) n) = true := by rw [e1]; simp; omega
    go_enter Tryd.func26, Tryd.ntmps26
    go_wp2
    go_ret
    exact ⟨by rw [hq]; simp, rfl⟩
  · rw [if_neg h] at hq
    have hd : decide ((0 : Int) < Int.tmod (a : Int) n) = false := by rw [e1]; simp; omega
    go_enter Tryd.func26, Tryd.ntmps26
    go_wp2
    go_ret
    exact ⟨by rw [hq]; simp, rfl⟩
end Go.Proofs.YtiabbmdgddbgbaaDoor

namespace Go.Proofs.YtiabbmdgddbgbaaDoor
open Go.RowKit Go.Shelf

attribute [local go_sem] Oper.semAt_some

/-- the pieces, where there is no error -/
def cutL (s : ByteArray) (n : Int) : List ByteArray := if cutE s.size n = 0 then parts s n.toNat else []

theorem cutE_ok {a : Nat} {n : Int} (h : cutE a n = 0) : ∃ m : Nat, n = m ∧ 1 ≤ m ∧ m ≤ 4096 ∧ a ≤ 32768 ∧ nP a m ≤ 4096 := by
  unfold cutE at h
  split at h
  · cases h
  · split at h
    · cases h
    · obtain ⟨m, rfl⟩ : ∃ m : Nat, n = m := ⟨n.toNat, by omega⟩
      rw [Int.toNat_natCast] at *
      exact ⟨m, rfl, by omega, by omega, by omega, by omega⟩

/-- the texts of the pieces that have come -/
def vals (pre : List Pc) : List ByteArray := pre.map Subtype.val
theorem vals_length (pre : List Pc) : (vals pre).length = pre.length := by simp [vals]
theorem vals_snoc (pre : List Pc) (x : Pc) : vals (pre ++ [x]) = vals pre ++ [x.1] := by simp [vals]

set_option maxHeartbeats 2000000 in
set_option maxRecDepth 100000 in
theorem cut_okC (s : ByteArray) (m : Nat) (h1 : 1 ≤ m) (h2 : m ≤ 4096) (ha : s.size ≤ 32768) (hn : nP s.size m ≤ 4096) (w : World) :
    Calls Tryd.prog 8 #[.string s, .int .i64 m] w fun e w' => ∃ v, e = .returned (.tuple #[v, .int .i64 0]) ∧ OwnS w.heap.size v (parts s m) w' ∧ Below w.heap.size w w' := by
  obtain ⟨i0, hi, hz0, hz1, hz2⟩ := info_parts strInfo
  have hE : cutE s.size (m : Int) = 0 := by unfold cutE; rw [if_neg (by omega), if_neg (by rw [Int.toNat_natCast]; omega)]
  have cM := fun W => mayCutC s.size m W
  rw [hE] at cM
  have cC := fun W => countC s.size m (by omega) h1 h2 W
  clear hE
  have hpm : (parts s m).length = nP s.size m := parts_length s m
  have hpp := uptoP_parts s m h2
  have hNl := uptoP_length s m h2 (nP s.size m)
  generalize hN : nP s.size m = N at hn cC hpm hpp hNl
  refine (callsIn_wide (n := 4)).1 ?_
  refine callsIn_of_wp_marks Tryd.func8 rfl trivial ?_ rfl
  simp only [Tryd.ntmps8, List.size_toArray, List.length_cons, List.length_nil, Nat.reduceAdd, Nat.reduceSub, Array.replicate_succ, Array.replicate_zero, List.push_toArray, List.append_toArray, List.nil_append, List.cons_append]
  have hb0 := Below.refl w.heap.size w
  gi_wp2_with (first
    | (refine ⟨trivial, ?_⟩; gi_at_call 23; refine (callsIn_wide.2 (cM _)).mono ?_; rintro e w1 ⟨rfl, rfl⟩)
    | (refine ⟨trivial, ?_⟩; gi_at_call 24; refine (callsIn_wide.2 (cC _)).mono ?_; rintro e w1 ⟨rfl, rfl⟩)
    | (gi_at_make; refine wpListIn_make_own _ rfl _ _ 23 rfl w.heap.size 9 i0 (.string ByteArray.empty) 1 Tryd.underlying23 hi hz0 hz1 .i64 .i64 (N : Int) N rfl rfl rfl (by rw [hz2]; omega) (by unfold maxLen; omega) (Nat.le_refl _) ?_; intro w1 hown1 hgrow1; have hsz1 : w.heap.size + 1 ≤ w1.heap.size := (World.ownsRow.lt hown1 w.heap.size rfl).2)
    | (refine ⟨trivial, ?_⟩; gi_at_call 25; refine (chunksC Fence.wide _ trivial rfl s m _).mono ?_; rintro e w2 ⟨rfl, rfl⟩))
  have bS := Boxed.new w1 23 (.slice (some ⟨w.heap.size, 0, none⟩) 0 N)
  have b1 := Boxed.new (w1.alloc (.cells #[.slice (some ⟨w.heap.size, 0, none⟩) 0 N] 23)) 9 (.string s)
  have b2 := Boxed.new ((w1.alloc (.cells #[.slice (some ⟨w.heap.size, 0, none⟩) 0 N] 23)).alloc (.cells #[.string s] 9)) 3 (.int .i64 m)
  simp only [World.size_alloc] at b1 b2
  have hbw1 : Below w.heap.size w w1 := hb0.grown hgrow1 (Nat.le_refl _) (fun k e => by cases e)
  obtain ⟨WL, hWL⟩ : ∃ WL, ((w1.alloc (.cells #[.slice (some ⟨w.heap.size, 0, none⟩) 0 N] 23)).alloc (.cells #[.string s] 9)).alloc (.cells #[.int .i64 m] 3) = WL := ⟨_, rfl⟩
  have hSL : WL.heap.size = w1.heap.size + 3 := by rw [← hWL]; simp
  have hbL : Below w.heap.size w WL := by rw [← hWL]; exact ((hbw1.alloc (by omega) _).alloc (by simp; omega) _).alloc (by simp; omega) _
  have hownL : WL.ownsRow w.heap.size 9 1 (.slice (some ⟨w.heap.size, 0, none⟩) 0 N) 0 [] := by rw [← hWL]; exact ((hown1.alloc _).alloc _).alloc _
  have bSL : Boxed WL w1.heap.size 23 (.slice (some ⟨w.heap.size, 0, none⟩) 0 N) := by rw [← hWL]; exact (bS.alloc _).alloc _
  have b1L : Boxed WL (w1.heap.size + 1) 9 (.string s) := by rw [← hWL]; exact b1.alloc _
  have b2L : Boxed WL (w1.heap.size + 1 + 1) 3 (.int .i64 m) := by rw [← hWL]; exact b2
  rw [hWL]
  clear hWL bS b1 b2 hown1 hgrow1 hbw1 cM cC hz0
  refine wpIn_rangeFunc_ownG rfl (by omega) (gf := 44) (lb := #[.pointer (some ⟨w1.heap.size + 1, 0, none⟩), .pointer (some ⟨w1.heap.size + 1 + 1, 0, none⟩)]) rfl trivial (enters_of Tryd.func44 (by kernel_rfl) rfl)
    (chunks_stops Fence.wide _ trivial rfl (by omega) (w1.heap.size + 1) (w1.heap.size + 1 + 1) s m h1 h2 (by omega) WL (by omega) (by omega) b1L.cell b2L.cell) (fun h k => h.trans k) (keep2_b (by omega) (by omega)) (Below.refl _ _) (fun _ => rfl)
    (fun pre W => (∃ v, Boxed W w1.heap.size 23 v ∧ W.ownsRow w.heap.size 9 1 v pre.length ((vals pre).map Value.string) ∧ v = .slice (some ⟨w.heap.size, 0, none⟩) pre.length N) ∧ Below w.heap.size w W)
    (fun _ _ _ => False)
    (OwnFrom.and (Own.from (holdsRow_own w.heap.size w1.heap.size 23 9 1 (fun pre => pre.length) (fun pre => (vals pre).map Value.string) (fun pre v => v = .slice (some ⟨w.heap.size, 0, none⟩) pre.length N)) _) (ownFrom_below (Nat.le_refl _) (by omega)))
    (fun _ _ _ _ _ hs _ _ => hs)
    ⟨⟨_, bSL, hownL, rfl⟩, hbL⟩
    (fun x => { tmps := #[.string s, .int .i64 m, undef, undef, .slice none 0 0, .int .i64 0, .int .i64 0, .pointer (some ⟨w1.heap.size, 0, none⟩), .string x.1, .string s, .int .i64 s.size, .int .i64 m, .int .i64 0, .int .i64 0, .bool false, undef, .string s, .int .i64 s.size, .int .i64 m, .int .i64 N, .slice (some ⟨w.heap.size, 0, none⟩) 0 N, .string s, .int .i64 m, .func (.func 44) #[] #[.pointer (some ⟨w1.heap.size + 1, 0, none⟩), .pointer (some ⟨w1.heap.size + 1 + 1, 0, none⟩)], .string x.1, undef, undef, undef, undef, undef], defers := [] }) ?assign ?body ?done ?stop
  case assign =>
    intro l x W K hK
    gi_wp2
    exact hK
  case body =>
    rintro l pre x W ⟨⟨v, hv, hrow, rfl⟩, hB⟩ hlt
    rw [hN] at hlt
    have hc := hv.cell
    have hWs := hB.size
    gi_wp2_with (gi_at_builtin; refine wpListIn_append_fits _ rfl _ _ 23 rfl w.heap.size 9 i0 1 Tryd.underlying23 hi hz1 w.heap.size pre.length N _ rfl (hrow.alloc _) ⟨W.heap.size, 0, none⟩ 1 1 [.string x.1] rfl rfl (cell_one_new _ _ _) (by simp [Value.oneCell']) (by omega) ?_; intro w3 hown' hgrow; obtain ⟨hv1, hv2, hr2, hk2, hb2⟩ := hv.appended (by decide) hrow hWs (by omega) hown' hgrow; have hc1 := hv1.cell; have hf1 := hv1.frozen)
    refine ⟨hk2.from _, ?_, ⟨_, hv2, by rw [vals_snoc, List.map_append, List.length_append]; exact hr2, by simp⟩, hB.trans hb2⟩
    exact (Keep2.grown (World.grownBy_alloc _ _ none) (by simp) (by simp)).trans ((Keep2.grown hgrow (fun e => by have := Option.some.inj e; omega) (fun e => by have := Option.some.inj e; omega)).trans (Keep2.grown (grownBy_setCell' _ _ _) (fun e => by have := Option.some.inj e; omega) (fun e => by have := Option.some.inj e; omega)))
  case done =>
    rintro D ys W hD rfl ⟨⟨v, hv, hrow, rfl⟩, hB⟩ hK
    have hc := hv.cell
    gi_wp2
    refine ⟨by simp, .inl ⟨_, _, rfl, run_takeDeferred hK, ?_⟩⟩
    refine ⟨_, results_tmp2 rfl _ _ _, ?_⟩
    rw [hN] at hrow
    refine ⟨_, rfl, ?_, hB.trans (belowK_b (w := w) (Nat.le_refl _) W D _ _ (by omega) hK rfl rfl)⟩
    have hr := ownsRow_putObj hrow (.deferred none) hK rfl
    unfold OwnS
    rw [hpm]
    rw [hNl, show vals (uptoP s m h2 N) = parts s m from hpp] at hr
    exact hr
  case stop =>
    rintro D c pre W _ _ h _
    exact h.elim

set_option maxHeartbeats 2000000 in
set_option maxRecDepth 100000 in
/-- Cut, the program's -/
theorem cutC (s : ByteArray) (n : Int) (w : World) :
    Calls Tryd.prog 8 #[.string s, .int .i64 n] w fun e w' => ∃ v, e = .returned (.tuple #[v, .int .i64 (cutE s.size n)]) ∧ OwnS w.heap.size v (cutL s n) w' ∧ Below w.heap.size w w' := by
  by_cases h : cutE s.size n = 0
  · obtain ⟨m, rfl, h1, h2, h3, h4⟩ := cutE_ok h
    have hl : cutL s (m : Int) = parts s m := by unfold cutL; rw [if_pos h, Int.toNat_natCast]
    rw [h, hl]
    exact cut_okC s m h1 h2 h3 h4 w
  · have hl : cutL s n = [] := by unfold cutL; rw [if_neg h]
    have hc := mayCutC s.size n w
    rw [hl]
    have hne : (cutE s.size n != 0) = true := by simp [h]
    generalize cutE s.size n = E at hc hne ⊢
    clear h hl
    go_enter Tryd.func8, Tryd.ntmps8
    go_wp2_with (go_at_call 23; refine hc.mono ?_; rintro e w1 ⟨rfl, rfl⟩)
    go_ret2
    exact ⟨_, rfl, ownS_nil _ _, Below.refl _ _⟩

theorem upto_append (s : ByteArray) (n k : Nat) : ((List.range (k + 1)).map (piece s n)).map Value.string = ((List.range k).map (piece s n)).map Value.string ++ [Value.string (piece s n k)] := by
  rw [List.range_succ, List.map_append, List.map_append]; rfl

set_option maxHeartbeats 2000000 in
set_option maxRecDepth 100000 in
/-- Cut, the document's -/
theorem cutR (s : ByteArray) (n : Int) (w : World) :
    Calls Tryd.prog 9 #[.string s, .int .i64 n] w fun e w' => ∃ v, e = .returned (.tuple #[v, .int .i64 (cutE s.size n)]) ∧ OwnS w.heap.size v (cutL s n) w' ∧ Below w.heap.size w w' := by
  obtain ⟨i0, hi, hz0, hz1, hz2⟩ := info_parts strInfo
  by_cases h1 : n < 1
  · have e : cutE s.size n = 1 := by unfold cutE; rw [if_pos (.inl h1)]
    have hl : cutL s n = [] := by unfold cutL; rw [if_neg (by rw [e]; decide)]
    rw [e, hl]
    have hd : decide (n < 1) = true := decide_eq_true h1
    clear h1 e hl
    go_enter Tryd.func9, Tryd.ntmps9
    go_wp2
    go_ret2
    exact ⟨_, rfl, ownS_nil _ _, Below.refl _ _⟩
  have hd1 : decide (n < 1) = false := decide_eq_false h1
  by_cases h2 : 4096 < n
  · have e : cutE s.size n = 1 := by unfold cutE; rw [if_pos (.inr h2)]
    have hl : cutL s n = [] := by unfold cutL; rw [if_neg (by rw [e]; decide)]
    rw [e, hl]
    have hd : decide (4096 < n) = true := decide_eq_true h2
    clear h1 h2 e hl
    go_enter Tryd.func9, Tryd.ntmps9
    go_wp2
    go_ret2
    exact ⟨_, rfl, ownS_nil _ _, Below.refl _ _⟩
  have hd2 : decide (4096 < n) = false := decide_eq_false h2
  obtain ⟨m, rfl⟩ : ∃ m : Nat, n = m := ⟨n.toNat, by omega⟩
  have e0 : cutE s.size (m : Int) = if 32768 < s.size ∨ 4096 < nP s.size m then 3 else 0 := by unfold cutE; rw [if_neg (by omega), Int.toNat_natCast]
  by_cases h3 : 32768 < s.size
  · have e : cutE s.size (m : Int) = 3 := by rw [e0, if_pos (.inl h3)]
    have hl : cutL s (m : Int) = [] := by unfold cutL; rw [if_neg (by rw [e]; decide)]
    rw [e, hl]
    have hd : decide ((32768 : Int) < (s.size : Int)) = true := by simp; omega
    clear h1 h2 h3 e hl e0
    go_enter Tryd.func9, Tryd.ntmps9
    go_wp2
    go_ret2
    exact ⟨_, rfl, ownS_nil _ _, Below.refl _ _⟩
  have hd3 : decide ((32768 : Int) < (s.size : Int)) = false := by simp; omega
  have hm := fun W => manyR s.size m (by omega) (by omega) (by omega) W
  by_cases h4 : 4096 < nP s.size m
  · have e : cutE s.size (m : Int) = 3 := by rw [e0, if_pos (.inr h4)]
    have hl : cutL s (m : Int) = [] := by unfold cutL; rw [if_neg (by rw [e]; decide)]
    rw [e, hl]
    have hd : decide ((4096 : Int) < ((nP s.size m : Nat) : Int)) = true := by simp; omega
    clear h1 h2 h3 e hl e0
    go_enter Tryd.func9, Tryd.ntmps9
    go_wp2_with (go_at_call 26; refine (hm _).mono ?_; rintro e w1 ⟨rfl, rfl⟩)
    go_ret2
    exact ⟨_, rfl, ownS_nil _ _, Below.refl _ _⟩
  have hd4 : decide ((4096 : Int) < ((nP s.size m : Nat) : Int)) = false := by simp; omega
  have e : cutE s.size (m : Int) = 0 := by rw [e0, if_neg (by omega)]
  have hl : cutL s (m : Int) = parts s m := by unfold cutL; rw [if_pos e, Int.toNat_natCast]
  rw [e, hl]
  have hN := Lib.hid (Nat.le_of_not_lt h4)
  have hm1 : 1 ≤ m := by omega
  have hm2 : m ≤ 4096 := by omega
  clear h1 h2 h4 e hl e0
  go_enter Tryd.func9, Tryd.ntmps9
  go_wp2_with (go_at_call 26; refine (hm _).mono ?_; rintro e w1 ⟨rfl, rfl⟩)
  go_loopw [6, 7] (fun o i wr => ∃ k : Nat, k ≤ nP s.size m ∧ i = .int .i64 ((k * m : Nat) : Int) ∧ wr.ownsRow w.heap.size 9 1 o k (((List.range k).map (piece s m)).map Value.string) ∧ Below w.heap.size w wr) (fun _ i _ => s.size - (intOf i).toNat)
  case atStart => exact ⟨0, Nat.zero_le _, by simp, World.ownsRow_nil _ _ _ _, Below.refl _ _⟩
  case round =>
    obtain ⟨k, hk, rfl, hown, hb⟩ := hrel
    have hbs := hb.size
    by_cases hlt : k * m < s.size
    · have hk' : k < nP s.size m := (lt_nP hm1).2 hlt
      have he : piece s m k = s.extract (k * m) (min (s.size : Int) ((k : Int) * (m : Int) + (m : Int))).toNat := by
        have e1 : (k : Int) * (m : Int) = ((k * m : Nat) : Int) := by simp
        rw [e1]
        show s.extract (k * m) _ = _
        congr 1
        omega
      go_wp2_with (at_builtin; refine wpList_append_own _ rfl _ _ 23 rfl w.heap.size 9 i0 (.string ByteArray.empty) 1 16 Tryd.underlying23 hi hz0 hz1 hz2 rfl (by decide) _ _ _ rfl (World.ownsRow.alloc hown _) ⟨wr.heap.size, 0, none⟩ 1 1 [Value.string (piece s m k)] rfl rfl ?c1 ?c2 ?c3 ?c4 ?c5 ?_)
      case c1 =>
        intro j u hj
        match j, hj with
        | 0, hj => simp at hj; subst hj; rw [he]; simp [Addr.add]
      case c2 => intro u hu; simp at hu; subst hu; rfl
      case c3 => have := hN.out; unfold maxLen; omega
      case c4 => have := hN.out; omega
      case c5 => simp; omega
      intro v' w3 hown3 hg3 _
      have hb3 : Below w.heap.size w w3 := (hb.alloc hbs _).grown hg3 (by simp; omega) (fun j hj => (World.ownsRow.lt hown j hj).1)
      have hown4 : w3.ownsRow w.heap.size 9 1 v' (k + 1) (((List.range (k + 1)).map (piece s m)).map Value.string) := by rw [upto_append, he, List.map_map]; exact hown3
      clear hown3 hg3 he
      go_wp2
      go_roundw
      case rel => exact ⟨k + 1, by omega, by simp [Nat.succ_mul], hown4, hb3⟩
      case measure => simp [intOf]; omega
    · obtain rfl : k = nP s.size m := by
        have := (lt_nP (a := s.size) (k := k) hm1)
        omega
      go_wp2
      go_ret2
      exact ⟨_, rfl, by unfold OwnS; rw [parts_length]; exact hown, hb⟩
end Go.Proofs.YtiabbmdgddbgbaaDoor
