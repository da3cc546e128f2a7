/-
  Plain: the pieces of a text.
  chunk: isSize, count; the document's many.
  A manifest in memory; a slice of the call's own, kept.
-/
import Derived.Test.YtkodololdjainaaGreatBase
import Derived.Test.YtkodololdjainaaGreatGDelE
namespace Go.Proofs.YtkodololdjainaaGreat
open Go.RowKit

/-- how many pieces of n bytes a bytes have -/
def nP (a n : Nat) : Nat := (a + n - 1) / n
/-- the piece k -/
def piece (s : ByteArray) (n k : Nat) : ByteArray := s.extract (k * n) (min (k * n + n) s.size)
/-- all of them -/
def parts (s : ByteArray) (n : Nat) : List ByteArray := (List.range (nP s.size n)).map (piece s n)

theorem parts_length (s : ByteArray) (n : Nat) : (parts s n).length = nP s.size n := by simp [parts]

theorem lt_nP {a n k : Nat} (hn : 1 ≤ n) : k < nP a n ↔ k * n < a := by
  unfold nP
  rw [Nat.lt_iff_add_one_le, Nat.le_div_iff_mul_le (by omega), Nat.add_mul]
  omega

theorem nP_many {a n : Nat} (hn : 1 ≤ n) : nP a n = if 0 < a % n then a / n + 1 else a / n := by
  have h1 := Nat.div_add_mod a n
  have h2 := Nat.mod_lt a hn
  apply Nat.le_antisymm
  · by_cases h : nP a n = 0
    · omega
    · have h3 : (nP a n - 1) * n < a := (lt_nP hn).1 (by omega)
      by_cases h0 : 0 < a % n
      · rw [if_pos h0]
        have : nP a n - 1 ≤ a / n := (Nat.le_div_iff_mul_le hn).2 (by omega)
        omega
      · rw [if_neg h0]
        have h4 : (nP a n - 1) * n < a / n * n := by rw [Nat.mul_comm (a / n) n]; omega
        have := Nat.lt_of_mul_lt_mul_right h4
        omega
  · by_cases h0 : 0 < a % n
    · rw [if_pos h0]
      have : a / n < nP a n := (lt_nP hn).2 (by rw [Nat.mul_comm]; omega)
      omega
    · rw [if_neg h0]
      by_cases h : a / n = 0
      · omega
      · have h5 : (a / n - 1) * n < a := by
          have : (a / n - 1) * n + n = a / n * n := by rw [← Nat.succ_mul, Nat.succ_eq_add_one, Nat.sub_add_cancel (Nat.one_le_iff_ne_zero.2 h)]
          have : a / n * n = n * (a / n) := Nat.mul_comm _ _
          omega
        have := (lt_nP hn).2 h5
        omega

theorem nP_le {a n : Nat} (hn : 1 ≤ n) : nP a n ≤ a := by
  by_cases h : nP a n = 0
  · omega
  · have h3 : (nP a n - 1) * n < a := (lt_nP hn).1 (by omega)
    have : nP a n - 1 ≤ (nP a n - 1) * n := Nat.le_mul_of_pos_right _ hn
    omega

theorem piece_size_le (s : ByteArray) (n k : Nat) : (piece s n k).size ≤ n := by
  unfold piece; rw [ByteArray.size_extract]; omega

theorem piece_size {s : ByteArray} {n k : Nat} (h : k * n < s.size) : (piece s n k).size = min n (s.size - k * n) := by
  unfold piece; rw [ByteArray.size_extract]; omega

/-- a text as its list -/
def tl (s : ByteArray) : List UInt8 := s.data.toList
theorem tl_length (s : ByteArray) : (tl s).length = s.size := by simp [tl]
theorem tl_inj {a b : ByteArray} (h : tl a = tl b) : a = b := by
  cases a; cases b
  simp only [tl] at h
  rw [Array.toList_inj.1 h]

theorem tl_extract (s : ByteArray) (i j : Nat) : tl (s.extract i j) = ((tl s).drop i).take (j - i) := by
  unfold tl
  rw [ByteArray.data_extract, Array.toList_extract, List.extract_eq_take_drop]

theorem tl_piece (s : ByteArray) (n k : Nat) : tl (piece s n k) = ((tl s).drop (k * n)).take n := by
  unfold piece
  rw [tl_extract]
  by_cases h : k * n + n ≤ s.size
  · rw [Nat.min_eq_left h, show k * n + n - k * n = n by omega]
  · rw [Nat.min_eq_right (by omega), List.take_of_length_le (by rw [List.length_drop, tl_length]; omega), List.take_of_length_le (by rw [List.length_drop, tl_length]; omega)]

theorem flat_upto (s : ByteArray) (n m : Nat) : (((List.range m).map (piece s n)).map tl).flatten = (tl s).take (m * n) := by
  induction m with
  | zero => simp
  | succ m ih =>
    rw [List.range_succ, List.map_append, List.map_append, List.flatten_append, ih]
    simp only [List.map_cons, List.map_nil, List.flatten_cons, List.flatten_nil, List.append_nil]
    rw [tl_piece, Nat.succ_mul, List.take_add]

theorem parts_flat {s : ByteArray} {n : Nat} (hn : 1 ≤ n) : ((parts s n).map tl).flatten = tl s := by
  unfold parts
  rw [flat_upto, List.take_of_length_le]
  rw [tl_length]
  have h := (lt_nP (a := s.size) (n := n) (k := nP s.size n) hn)
  have : ¬ nP s.size n < nP s.size n := Nat.lt_irrefl _
  rw [h] at this
  omega

/-- the sizes of some texts together -/
def total (l : List ByteArray) : Nat := ((l.map tl).flatten).length
theorem total_nil : total [] = 0 := rfl
theorem total_snoc (l : List ByteArray) (x : ByteArray) : total (l ++ [x]) = total l + x.size := by simp [total, tl_length]
/-- all of them as one -/
def cat (l : List ByteArray) : ByteArray := ⟨((l.map tl).flatten).toArray⟩
theorem cat_size (l : List ByteArray) : (cat l).size = total l := by simp [cat, total, ByteArray.size]
theorem cat_parts {s : ByteArray} {n : Nat} (hn : 1 ≤ n) : cat (parts s n) = s := tl_inj (by unfold cat; show ((((parts s n).map tl).flatten).toArray).toList = tl s; rw [parts_flat hn])
theorem total_parts {s : ByteArray} {n : Nat} (hn : 1 ≤ n) : total (parts s n) = s.size := by rw [← cat_size, cat_parts hn]

/-- a piece that a body is handed -/
abbrev Pc := { x : ByteArray // x.size ≤ 4096 }
def pieceP (s : ByteArray) (n : Nat) (hn : n ≤ 4096) (k : Nat) : Pc := ⟨piece s n k, Nat.le_trans (piece_size_le s n k) hn⟩
def uptoP (s : ByteArray) (n : Nat) (hn : n ≤ 4096) (m : Nat) : List Pc := (List.range m).map (pieceP s n hn)
theorem uptoP_succ (s : ByteArray) (n : Nat) (hn : n ≤ 4096) (m : Nat) : uptoP s n hn (m + 1) = uptoP s n hn m ++ [pieceP s n hn m] := by simp [uptoP, List.range_succ]
theorem uptoP_length (s : ByteArray) (n : Nat) (hn : n ≤ 4096) (m : Nat) : (uptoP s n hn m).length = m := by simp [uptoP]
theorem uptoP_parts (s : ByteArray) (n : Nat) (hn : n ≤ 4096) : (uptoP s n hn (nP s.size n)).map Subtype.val = parts s n := by
  simp only [uptoP, parts, List.map_map]; rfl
end Go.Proofs.YtkodololdjainaaGreat

namespace Go.Proofs.YtkodololdjainaaGreat
open Go.RowKit

set_option maxHeartbeats 1000000 in
set_option maxRecDepth 100000 in
theorem isSizeC (n : Int) (w : World) :
    Calls Tryz.prog 111 #[.int .i64 n] w fun e w' => e = .returned (.bool (decide (1 ≤ n ∧ n ≤ 4096))) ∧ w = w' := by
  go_enter Tryz.func111, Tryz.ntmps111
  by_cases h1 : 1 ≤ n
  · by_cases h2 : n ≤ 4096
    · go_wp2
      go_ret
      exact ⟨by simp [h1, h2], rfl⟩
    · go_wp2
      go_ret
      exact ⟨by simp; omega, rfl⟩
  · go_wp2
    go_ret
    exact ⟨by simp; omega, rfl⟩

set_option maxHeartbeats 1000000 in
set_option maxRecDepth 100000 in
theorem countC (a n : Nat) (ha : a ≤ 4611686018427387904) (hn : 1 ≤ n) (hn2 : n ≤ 4096) (w : World) :
    Calls Tryz.prog 112 #[.int .i64 a, .int .i64 n] w fun e w' => e = .returned (.int .i64 (nP a n : Nat)) ∧ w = w' := by
  have e : Int.tdiv ((a : Int) + n - 1) n = (nP a n : Nat) := by
    unfold nP
    rw [Int.tdiv_eq_ediv_of_nonneg (by omega), Int.natCast_ediv]
    congr 1; omega
  have h0 : ((n : Int) == 0) = false := by simp; omega
  have hq : nP a n ≤ a := nP_le hn
  go_enter Tryz.func112, Tryz.ntmps112
  go_wp2
  go_ret
  exact ⟨by simp, rfl⟩

set_option maxHeartbeats 1000000 in
set_option maxRecDepth 100000 in
theorem manyR (a n : Nat) (ha : a ≤ 4611686018427387904) (hn : 1 ≤ n) (hn2 : n ≤ 4096) (w : World) :
    Calls Tryz.prog 106 #[.int .i64 a, .int .i64 n] w fun e w' => e = .returned (.int .i64 (nP a n : Nat)) ∧ w = w' := by
  have e1 : Int.tmod (a : Int) n = (a % n : Nat) := by rw [Int.tmod_eq_emod_of_nonneg (by omega), Int.natCast_emod]
  have e2 : Int.tdiv (a : Int) n = (a / n : Nat) := by rw [Int.tdiv_eq_ediv_of_nonneg (by omega), Int.natCast_ediv]
  have h0 : ((n : Int) == 0) = false := by simp; omega
  have hq := nP_many (a := a) hn
  have hle : a / n ≤ a := Nat.div_le_self _ _
  by_cases h : 0 < a % n
  · rw [if_pos h] at hq
    have hd : decide ((0 : Int) < Int.tmod (a : Int) n) = true := by rw [e1]; simp; omega
    go_enter Tryz.func106, Tryz.ntmps106
    go_wp2
    go_ret
    exact ⟨by rw [hq]; simp, rfl⟩
  · rw [if_neg h] at hq
    have hd : decide ((0 : Int) < Int.tmod (a : Int) n) = false := by rw [e1]; simp; omega
    go_enter Tryz.func106, Tryz.ntmps106
    go_wp2
    go_ret
    exact ⟨by rw [hq]; simp, rfl⟩
end Go.Proofs.YtkodololdjainaaGreat

namespace Go.Proofs.YtkodololdjainaaGreat
open Go.RowKit

/-- a manifest -/
structure Man where
  size : Int
  chunk : Int
  ids : List ByteArray

/-- its value: v are its IDs -/
abbrev mv (m : Man) (v : Value) : Value := .agg #[.int .i64 m.size, .int .i64 m.chunk, v]

/-- a manifest in memory -/
def MBox (W : World) (B : Nat) (m : Man) (v : Value) : Prop := W.heap[B]? = some (.cells #[.int .i64 m.size, .int .i64 m.chunk, v] 135 (0, 0))
theorem MBox.lt {W : World} {B : Nat} {m : Man} {v : Value} (h : MBox W B m v) : B < W.heap.size := (Array.getElem?_eq_some_iff.1 h).1
theorem MBox.c0 {W : World} {B : Nat} {m : Man} {v : Value} (h : MBox W B m v) : W.cell? ⟨B, 0, none⟩ = some (.int .i64 m.size) := by rw [Joins.cell_of_block h]; rfl
theorem MBox.c1 {W : World} {B : Nat} {m : Man} {v : Value} (h : MBox W B m v) : W.cell? ⟨B, 1, none⟩ = some (.int .i64 m.chunk) := by rw [Joins.cell_of_block h]; rfl
theorem MBox.c2 {W : World} {B : Nat} {m : Man} {v : Value} (h : MBox W B m v) : W.cell? ⟨B, 2, none⟩ = some v := by rw [Joins.cell_of_block h]; rfl
theorem MBox.free {W : World} {B : Nat} {m : Man} {v : Value} (h : MBox W B m v) (i : Nat) : W.frozen? ⟨B, i, none⟩ = false := Joins.unfrozen_of_block h i
theorem MBox.new (W : World) (m : Man) (v : Value) : MBox (W.alloc (.cells #[.int .i64 m.size, .int .i64 m.chunk, v] 135)) W.heap.size m v := heap_alloc_new W _
theorem MBox.kept {W W' : World} {row : Option Nat} {B : Nat} {m : Man} {v : Value} (h : MBox W B m v) (hg : W.grownBy W' row) (hne : some B ≠ row) : MBox W' B m v := (hg.block B h.lt hne).trans h
theorem MBox.below {W W' : World} {C B : Nat} {m : Man} {v : Value} (h : MBox W B m v) (hb : Below C W W') (hC : B < C) : MBox W' B m v := (hb.block B hC).trans h
theorem MBox.alloc {W : World} {B : Nat} {m : Man} {v : Value} (h : MBox W B m v) (o : Obj) : MBox (W.alloc o) B m v := h.kept (World.grownBy_alloc W o none) (by simp)
theorem MBox.set {W : World} {B : Nat} {m : Man} {v : Value} (h : MBox W B m v) (v' : Value) : MBox (W.setCell ⟨B, 2, none⟩ v') B m v' := by
  obtain ⟨hlt, hk⟩ := Array.getElem?_eq_some_iff.1 h
  show (W.heap.modify B _)[B]? = _
  rw [Array.getElem?_eq_getElem (by rw [Array.size_modify]; exact hlt), Array.getElem_modify_self, hk]
  rfl

theorem MBox.put {W : World} {B : Nat} {m : Man} {v : Value} (h : MBox W B m v) (m' : Man) (v' : Value) : MBox (((W.setCell ⟨B, 0, none⟩ (.int .i64 m'.size)).setCell ⟨B, 1, none⟩ (.int .i64 m'.chunk)).setCell ⟨B, 2, none⟩ v') B m' v' := by
  have h0 := Joins.block_setCell (i := 0) h (.int .i64 m'.size)
  have h1 := Joins.block_setCell (i := 1) h0 (.int .i64 m'.chunk)
  have h2 := Joins.block_setCell (i := 2) h1 v'
  unfold MBox
  simpa using h2

theorem manInfo : (Tryz.prog.info? 135).map (·.size) = some 3 := by kernel_rfl

theorem results_man {P : Program} {fn : Func} {p u : Tmp} {ty : TypeId} (h : fn.results = #[.cell p ty, .tmp u]) (tmps : Array Value) (w : World) (g : Nat) (t : TypeId) (x0 x1 x2 : Value) (fr : Nat × Nat) (d : TypeDesc)
    (hp : tmps.getD p undef = .pointer (some ⟨g, 0, none⟩)) (hg : w.heap[g]? = some (.cells #[x0, x1, x2] t fr))
    (hu : P.underlying ty = some d) (hd : (match d with | .struct _ | .array _ _ => true | _ => false) = true) (hi : (P.info? ty).map (·.size) = some 3) :
    (results fn tmps).run P w = .ok (.tuple #[.agg #[x0, x1, x2], tmps.getD u undef]) w := by
  have hp' : tmps[p]?.getD undef = .pointer (some ⟨g, 0, none⟩) := by simpa using hp
  rw [results_cell_tmp h]
  simp [hp', asAddr, run_loadVar_row w g t ty #[x0, x1, x2] fr d hg hu hd hi, Result.andThen]

theorem row_below {W W' : World} {base e size k : Nat} {v : Value} {xs : List Value} (h : W.ownsRow base e size v k xs) (hb : Below W.heap.size W W') : W'.ownsRow base e size v k xs := by
  refine ⟨h.1, ?_⟩
  rcases h.2 with h0 | ⟨g, cap, cur, hv, hg, hh, r⟩
  · exact .inl h0
  · exact .inr ⟨g, cap, cur, hv, hg, by rw [hb.block g (Array.getElem?_eq_some_iff.1 hh).1]; exact hh, r⟩

theorem row_form {W : World} {base e size k : Nat} {v : Value} {xs : List Value} (h : W.ownsRow base e size v k xs) : ∃ a c, v = .slice a k c := by
  rcases h.2 with ⟨rfl, rfl⟩ | ⟨g, cap, cur, rfl, _⟩
  · exact ⟨none, 0, rfl⟩
  · exact ⟨_, cap, rfl⟩

theorem row_mono {W : World} {base base' e size k : Nat} {v : Value} {xs : List Value} (h : W.ownsRow base e size v k xs) (hle : base' ≤ base) : W.ownsRow base' e size v k xs := by
  refine ⟨h.1, ?_⟩
  rcases h.2 with h0 | ⟨g, cap, cur, hv, hg, r⟩
  · exact .inl h0
  · exact .inr ⟨g, cap, cur, hv, Nat.le_trans hle hg, r⟩

theorem below_put3 {B G : Nat} {w W : World} (h : Below B w W) (hG : B ≤ G) (x y z : Value) : Below B w (((W.setCell ⟨G, 0, none⟩ x).setCell ⟨G, 1, none⟩ y).setCell ⟨G, 2, none⟩ z) :=
  ((h.setCell (p := ⟨G, 0, none⟩) hG _).setCell (p := ⟨G, 1, none⟩) hG _).setCell (p := ⟨G, 2, none⟩) hG _
theorem row_put3 {W : World} {base e size k G : Nat} {v : Value} {xs : List Value} (h : W.ownsRow base e size v k xs) (hG : G < base) (x y z : Value) : (((W.setCell ⟨G, 0, none⟩ x).setCell ⟨G, 1, none⟩ y).setCell ⟨G, 2, none⟩ z).ownsRow base e size v k xs := by
  have ho : some G ≠ v.ownBlock := fun e => by have := (World.ownsRow.lt h _ e.symm).1; omega
  exact ((h.kept (grownBy_setCell W G 0 _) (.inr ho.symm)).kept (grownBy_setCell _ G 1 _) (.inr ho.symm)).kept (grownBy_setCell _ G 2 _) (.inr ho.symm)

end Go.Proofs.YtkodololdjainaaGreat
