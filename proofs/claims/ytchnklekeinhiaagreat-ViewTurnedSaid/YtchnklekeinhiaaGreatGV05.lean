/-
  A manifest in memory; a slice of the call's own, kept.
  Plain: the pieces of a text.
  chunk: isSize, count; the document's many.
  Digits: bytes as two digits each, and back; all as plain functions.
  hexa.Put: what the call answers.
  hexa.value; almonryref03's digit and half: what each call answers.
-/
import Derived.Test.YtchnklekeinhiaaGreatGV04
import Derived.Test.YtchnklekeinhiaaGreatGV01
import Derived.Deep.AppendLies
import Derived.Deep.RegionHeld3
namespace Go.Proofs.YtchnklekeinhiaaGreat
open Go.RowKit

/-- a manifest -/
structure Man where
  size : Int
  chunk : Int
  ids : List ByteArray

/-- its value: v are its IDs -/
abbrev mv (m : Man) (v : Value) : Value := .agg #[.int .i64 m.size, .int .i64 m.chunk, v]

/-- a manifest in memory -/
def MBox (W : World) (B : Nat) (m : Man) (v : Value) : Prop := W.heap[B]? = some (.cells #[.int .i64 m.size, .int .i64 m.chunk, v] 27 (0, 0))
theorem MBox.lt {W : World} {B : Nat} {m : Man} {v : Value} (h : MBox W B m v) : B < W.heap.size := (Array.getElem?_eq_some_iff.1 h).1
theorem MBox.c0 {W : World} {B : Nat} {m : Man} {v : Value} (h : MBox W B m v) : W.cell? ⟨B, 0, none⟩ = some (.int .i64 m.size) := by rw [Joins.cell_of_block h]; rfl
theorem MBox.c1 {W : World} {B : Nat} {m : Man} {v : Value} (h : MBox W B m v) : W.cell? ⟨B, 1, none⟩ = some (.int .i64 m.chunk) := by rw [Joins.cell_of_block h]; rfl
theorem MBox.c2 {W : World} {B : Nat} {m : Man} {v : Value} (h : MBox W B m v) : W.cell? ⟨B, 2, none⟩ = some v := by rw [Joins.cell_of_block h]; rfl
theorem MBox.free {W : World} {B : Nat} {m : Man} {v : Value} (h : MBox W B m v) (i : Nat) : W.frozen? ⟨B, i, none⟩ = false := Joins.unfrozen_of_block h i
theorem MBox.new (W : World) (m : Man) (v : Value) : MBox (W.alloc (.cells #[.int .i64 m.size, .int .i64 m.chunk, v] 27)) W.heap.size m v := heap_alloc_new W _
theorem MBox.kept {W W' : World} {row : Option Nat} {B : Nat} {m : Man} {v : Value} (h : MBox W B m v) (hg : W.grownBy W' row) (hne : some B ≠ row) : MBox W' B m v := (hg.block B h.lt hne).trans h
theorem MBox.below {W W' : World} {C B : Nat} {m : Man} {v : Value} (h : MBox W B m v) (hb : Below C W W') (hC : B < C) : MBox W' B m v := (hb.block B hC).trans h
theorem MBox.alloc {W : World} {B : Nat} {m : Man} {v : Value} (h : MBox W B m v) (o : Obj) : MBox (W.alloc o) B m v := h.kept (World.grownBy_alloc W o none) (by simp)
theorem MBox.set {W : World} {B : Nat} {m : Man} {v : Value} (h : MBox W B m v) (v' : Value) : MBox (W.setCell ⟨B, 2, none⟩ v') B m v' := by
  obtain ⟨hlt, hk⟩ := Array.getElem?_eq_some_iff.1 h
  show (W.heap.modify B _)[B]? = _
  rw [Array.getElem?_eq_getElem (by rw [Array.size_modify]; exact hlt), Array.getElem_modify_self, hk]
  rfl

theorem MBox.put {W : World} {B : Nat} {m : Man} {v : Value} (h : MBox W B m v) (m' : Man) (v' : Value) : MBox (((W.setCell ⟨B, 0, none⟩ (.int .i64 m'.size)).setCell ⟨B, 1, none⟩ (.int .i64 m'.chunk)).setCell ⟨B, 2, none⟩ v') B m' v' := by
  have h0 := Joins.block_setCell (i := 0) h (.int .i64 m'.size)
  have h1 := Joins.block_setCell (i := 1) h0 (.int .i64 m'.chunk)
  have h2 := Joins.block_setCell (i := 2) h1 v'
  unfold MBox
  simpa using h2

theorem manInfo : (Tryz.prog.info? 27).map (·.size) = some 3 := by kernel_rfl

theorem results_man {P : Program} {fn : Func} {p u : Tmp} {ty : TypeId} (h : fn.results = #[.cell p ty, .tmp u]) (tmps : Array Value) (w : World) (g : Nat) (t : TypeId) (x0 x1 x2 : Value) (fr : Nat × Nat) (d : TypeDesc)
    (hp : tmps.getD p undef = .pointer (some ⟨g, 0, none⟩)) (hg : w.heap[g]? = some (.cells #[x0, x1, x2] t fr))
    (hu : P.underlying ty = some d) (hd : (match d with | .struct _ | .array _ _ => true | _ => false) = true) (hi : (P.info? ty).map (·.size) = some 3) :
    (results fn tmps).run P w = .ok (.tuple #[.agg #[x0, x1, x2], tmps.getD u undef]) w := by
  have hp' : tmps[p]?.getD undef = .pointer (some ⟨g, 0, none⟩) := by simpa using hp
  rw [results_cell_tmp h]
  simp [hp', asAddr, run_loadVar_row w g t ty #[x0, x1, x2] fr d hg hu hd hi, Result.andThen]

theorem row_below {W W' : World} {base e size k : Nat} {v : Value} {xs : List Value} (h : W.ownsRow base e size v k xs) (hb : Below W.heap.size W W') : W'.ownsRow base e size v k xs := by
  refine ⟨h.1, ?_⟩
  rcases h.2 with h0 | ⟨g, cap, cur, hv, hg, hh, r⟩
  · exact .inl h0
  · exact .inr ⟨g, cap, cur, hv, hg, by rw [hb.block g (Array.getElem?_eq_some_iff.1 hh).1]; exact hh, r⟩

theorem row_form {W : World} {base e size k : Nat} {v : Value} {xs : List Value} (h : W.ownsRow base e size v k xs) : ∃ a c, v = .slice a k c := by
  rcases h.2 with ⟨rfl, rfl⟩ | ⟨g, cap, cur, rfl, _⟩
  · exact ⟨none, 0, rfl⟩
  · exact ⟨_, cap, rfl⟩

theorem row_mono {W : World} {base base' e size k : Nat} {v : Value} {xs : List Value} (h : W.ownsRow base e size v k xs) (hle : base' ≤ base) : W.ownsRow base' e size v k xs := by
  refine ⟨h.1, ?_⟩
  rcases h.2 with h0 | ⟨g, cap, cur, hv, hg, r⟩
  · exact .inl h0
  · exact .inr ⟨g, cap, cur, hv, Nat.le_trans hle hg, r⟩

theorem below_put3 {B G : Nat} {w W : World} (h : Below B w W) (hG : B ≤ G) (x y z : Value) : Below B w (((W.setCell ⟨G, 0, none⟩ x).setCell ⟨G, 1, none⟩ y).setCell ⟨G, 2, none⟩ z) :=
  ((h.setCell (p := ⟨G, 0, none⟩) hG _).setCell (p := ⟨G, 1, none⟩) hG _).setCell (p := ⟨G, 2, none⟩) hG _
theorem row_put3 {W : World} {base e size k G : Nat} {v : Value} {xs : List Value} (h : W.ownsRow base e size v k xs) (hG : G < base) (x y z : Value) : (((W.setCell ⟨G, 0, none⟩ x).setCell ⟨G, 1, none⟩ y).setCell ⟨G, 2, none⟩ z).ownsRow base e size v k xs := by
  have ho : some G ≠ v.ownBlock := fun e => by have := (World.ownsRow.lt h _ e.symm).1; omega
  exact ((h.kept (grownBy_setCell W G 0 _) (.inr ho.symm)).kept (grownBy_setCell _ G 1 _) (.inr ho.symm)).kept (grownBy_setCell _ G 2 _) (.inr ho.symm)

end Go.Proofs.YtchnklekeinhiaaGreat

namespace Go.Proofs.YtchnklekeinhiaaGreat
open Go.RowKit

/-- how many pieces of n bytes a bytes have -/
def nP (a n : Nat) : Nat := (a + n - 1) / n
/-- the piece k -/
def piece (s : ByteArray) (n k : Nat) : ByteArray := s.extract (k * n) (min (k * n + n) s.size)
/-- all of them -/
def parts (s : ByteArray) (n : Nat) : List ByteArray := (List.range (nP s.size n)).map (piece s n)

theorem parts_length (s : ByteArray) (n : Nat) : (parts s n).length = nP s.size n := by simp [parts]

theorem lt_nP {a n k : Nat} (hn : 1 ≤ n) : k < nP a n ↔ k * n < a := by
  unfold nP
  rw [Nat.lt_iff_add_one_le, Nat.le_div_iff_mul_le (by omega), Nat.add_mul]
  omega

theorem nP_many {a n : Nat} (hn : 1 ≤ n) : nP a n = if 0 < a % n then a / n + 1 else a / n := by
  have h1 := Nat.div_add_mod a n
  have h2 := Nat.mod_lt a hn
  apply Nat.le_antisymm
  · by_cases h : nP a n = 0
    · omega
    · have h3 : (nP a n - 1) * n < a := (lt_nP hn).1 (by omega)
      by_cases h0 : 0 < a % n
      · rw [if_pos h0]
        have : nP a n - 1 ≤ a / n := (Nat.le_div_iff_mul_le hn).2 (by omega)
        omega
      · rw [if_neg h0]
        have h4 : (nP a n - 1) * n < a / n * n := by rw [Nat.mul_comm (a / n) n]; omega
        have := Nat.lt_of_mul_lt_mul_right h4
        omega
  · by_cases h0 : 0 < a % n
    · rw [if_pos h0]
      have : a / n < nP a n := (lt_nP hn).2 (by rw [Nat.mul_comm]; omega)
      omega
    · rw [if_neg h0]
      by_cases h : a / n = 0
      · omega
      · have h5 : (a / n - 1) * n < a := by
          have : (a / n - 1) * n + n = a / n * n := by rw [← Nat.succ_mul, Nat.succ_eq_add_one, Nat.sub_add_cancel (Nat.one_le_iff_ne_zero.2 h)]
          have : a / n * n = n * (a / n) := Nat.mul_comm _ _
          omega
        have := (lt_nP hn).2 h5
        omega

theorem nP_le {a n : Nat} (hn : 1 ≤ n) : nP a n ≤ a := by
  by_cases h : nP a n = 0
  · omega
  · have h3 : (nP a n - 1) * n < a := (lt_nP hn).1 (by omega)
    have : nP a n - 1 ≤ (nP a n - 1) * n := Nat.le_mul_of_pos_right _ hn
    omega

theorem piece_size_le (s : ByteArray) (n k : Nat) : (piece s n k).size ≤ n := by
  unfold piece; rw [ByteArray.size_extract]; omega

/-- a text as its list -/
def tl (s : ByteArray) : List UInt8 := s.data.toList
theorem tl_inj {a b : ByteArray} (h : tl a = tl b) : a = b := by
  cases a; cases b
  simp only [tl] at h
  rw [Array.toList_inj.1 h]

/-- a piece that a body is handed -/
abbrev Pc := { x : ByteArray // x.size ≤ 4096 }
end Go.Proofs.YtchnklekeinhiaaGreat

namespace Go.Proofs.YtchnklekeinhiaaGreat
open Go.RowKit

set_option maxHeartbeats 1000000 in
set_option maxRecDepth 100000 in
theorem isSizeC (n : Int) (w : World) :
    Calls Tryz.prog 117 #[.int .i64 n] w fun e w' => e = .returned (.bool (decide (1 ≤ n ∧ n ≤ 4096))) ∧ w = w' := by
  go_enter Tryz.func117, Tryz.ntmps117
  by_cases h1 : 1 ≤ n
  · by_cases h2 : n ≤ 4096
    · go_wp2
      go_ret
      exact ⟨by simp [h1, h2], rfl⟩
    · go_wp2
      go_ret
      exact ⟨by simp; omega, rfl⟩
  · go_wp2
    go_ret
    exact ⟨by simp; omega, rfl⟩

set_option maxHeartbeats 1000000 in
set_option maxRecDepth 100000 in
theorem countC (a n : Nat) (ha : a ≤ 4611686018427387904) (hn : 1 ≤ n) (hn2 : n ≤ 4096) (w : World) :
    Calls Tryz.prog 118 #[.int .i64 a, .int .i64 n] w fun e w' => e = .returned (.int .i64 (nP a n : Nat)) ∧ w = w' := by
  have e : Int.tdiv ((a : Int) + n - 1) n = (nP a n : Nat) := by
    unfold nP
    rw [Int.tdiv_eq_ediv_of_nonneg (by omega), Int.natCast_ediv]
    congr 1; omega
  have h0 : ((n : Int) == 0) = false := by simp; omega
  have hq : nP a n ≤ a := nP_le hn
  go_enter Tryz.func118, Tryz.ntmps118
  go_wp2
  go_ret
  exact ⟨by simp, rfl⟩

set_option maxHeartbeats 1000000 in
set_option maxRecDepth 100000 in
theorem manyR (a n : Nat) (ha : a ≤ 4611686018427387904) (hn : 1 ≤ n) (hn2 : n ≤ 4096) (w : World) :
    Calls Tryz.prog 73 #[.int .i64 a, .int .i64 n] w fun e w' => e = .returned (.int .i64 (nP a n : Nat)) ∧ w = w' := by
  have e1 : Int.tmod (a : Int) n = (a % n : Nat) := by rw [Int.tmod_eq_emod_of_nonneg (by omega), Int.natCast_emod]
  have e2 : Int.tdiv (a : Int) n = (a / n : Nat) := by rw [Int.tdiv_eq_ediv_of_nonneg (by omega), Int.natCast_ediv]
  have h0 : ((n : Int) == 0) = false := by simp; omega
  have hq := nP_many (a := a) hn
  have hle : a / n ≤ a := Nat.div_le_self _ _
  by_cases h : 0 < a % n
  · rw [if_pos h] at hq
    have hd : decide ((0 : Int) < Int.tmod (a : Int) n) = true := by rw [e1]; simp; omega
    go_enter Tryz.func73, Tryz.ntmps73
    go_wp2
    go_ret
    exact ⟨by rw [hq]; simp, rfl⟩
  · rw [if_neg h] at hq
    have hd : decide ((0 : Int) < Int.tmod (a : Int) n) = false := by rw [e1]; simp; omega
    go_enter Tryz.func73, Tryz.ntmps73
    go_wp2
    go_ret
    exact ⟨by rw [hq]; simp, rfl⟩
end Go.Proofs.YtchnklekeinhiaaGreat

namespace Go.Proofs.YtchnklekeinhiaaGreat
open Go.RowKit

def dg (n : Nat) : Nat := if n < 10 then 48 + n else 87 + n
def hv (c : Nat) : Nat := if 48 ≤ c ∧ c ≤ 57 then c - 48 else if 97 ≤ c ∧ c ≤ 102 then c - 87 else 16

theorem hv_cases (c : Nat) : (48 ≤ c ∧ c ≤ 57 ∧ hv c = c - 48) ∨ (97 ≤ c ∧ c ≤ 102 ∧ hv c = c - 87) ∨ (hv c = 16 ∧ ¬ (48 ≤ c ∧ c ≤ 57) ∧ ¬ (97 ≤ c ∧ c ≤ 102)) := by
  by_cases h1 : 48 ≤ c ∧ c ≤ 57
  · left; exact ⟨h1.1, h1.2, by unfold hv; rw [if_pos h1]⟩
  · by_cases h2 : 97 ≤ c ∧ c ≤ 102
    · right; left; exact ⟨h2.1, h2.2, by unfold hv; rw [if_neg h1, if_pos h2]⟩
    · right; right; exact ⟨by unfold hv; rw [if_neg h1, if_neg h2], h1, h2⟩
theorem dg_cases (n : Nat) : (n < 10 ∧ dg n = 48 + n) ∨ (10 ≤ n ∧ dg n = 87 + n) := by
  by_cases h : n < 10
  · left; exact ⟨h, by unfold dg; rw [if_pos h]⟩
  · right; exact ⟨by omega, by unfold dg; rw [if_neg h]⟩
theorem dg_lt (n : Nat) (h : n < 16) : dg n < 128 := by have := dg_cases n; omega
theorem hv_dg (n : Nat) (h : n < 16) : hv (dg n) = n := by have h1 := dg_cases n; have h2 := hv_cases (dg n); omega
theorem hv_le (c : Nat) : hv c ≤ 16 := by have := hv_cases c; omega
theorem dg_hv (c : Nat) (h : hv c < 16) : dg (hv c) = c := by have h1 := dg_cases (hv c); have h2 := hv_cases c; omega
theorem hv_small (c : Nat) (h : hv c < 16) : c < 128 := by have := hv_cases c; omega
def putL : List UInt8 → List UInt8
  | [] => []
  | c :: r => UInt8.ofNat (dg (c.toNat / 16)) :: UInt8.ofNat (dg (c.toNat % 16)) :: putL r

def readL : List UInt8 → Option (List UInt8)
  | [] => some []
  | [_] => none
  | a :: b :: r => if hv a.toNat < 16 ∧ hv b.toNat < 16 then (readL r).map (UInt8.ofNat (16 * hv a.toNat + hv b.toNat) :: ·) else none

theorem putL_len (l : List UInt8) : (putL l).length = 2 * l.length := by
  induction l with
  | nil => rfl
  | cons c r ih => simp [putL, ih]; omega

theorem putL_append (a b : List UInt8) : putL (a ++ b) = putL a ++ putL b := by
  induction a with
  | nil => rfl
  | cons c r ih => simp [putL, ih]

theorem ofNat_toNat_dg (n : Nat) (h : n < 16) : (UInt8.ofNat (dg n)).toNat = dg n := by
  have := dg_lt n h
  simp; omega

theorem hread_put (l : List UInt8) : readL (putL l) = some l := by
  induction l with
  | nil => rfl
  | cons c r ih =>
    have h1 : c.toNat / 16 < 16 := by have := c.toNat_lt; omega
    have h2 : c.toNat % 16 < 16 := by omega
    simp only [putL, readL]
    rw [ofNat_toNat_dg _ h1, ofNat_toNat_dg _ h2, hv_dg _ h1, hv_dg _ h2, if_pos ⟨h1, h2⟩, ih]
    have e : 16 * (c.toNat / 16) + c.toNat % 16 = c.toNat := by omega
    rw [e]; simp

theorem hput_read : ∀ (l r : List UInt8), readL l = some r → putL r = l
  | [], r, h => by simp [readL] at h; subst h; rfl
  | [_], r, h => by simp [readL] at h
  | a :: b :: t, r, h => by
    simp only [readL] at h
    split at h
    · rename_i hc
      cases hr : readL t with
      | none => rw [hr] at h; simp at h
      | some q =>
        rw [hr] at h
        obtain rfl := Option.some.inj h
        have hq := hput_read t q hr
        simp only [putL]
        have h256 : 16 * hv a.toNat + hv b.toNat < 256 := by omega
        have e : (UInt8.ofNat (16 * hv a.toNat + hv b.toNat)).toNat = 16 * hv a.toNat + hv b.toNat := by simp; omega
        rw [e, hq]
        have e3 : (16 * hv a.toNat + hv b.toNat) / 16 = hv a.toNat := by omega
        have e4 : (16 * hv a.toNat + hv b.toNat) % 16 = hv b.toNat := by omega
        rw [e3, e4, dg_hv _ hc.1, dg_hv _ hc.2]
        simp
    · simp at h

theorem read_len : ∀ (l r : List UInt8), readL l = some r → l.length = 2 * r.length
  | l, r, h => by rw [← hput_read l r h, putL_len]

/-- the digits of the first part of a text that is read: all of them are digits, and there are as many as there are bytes -/
theorem read_odd : ∀ (l : List UInt8), l.length % 2 = 1 → readL l = none
  | [], h => by simp at h
  | [_], _ => rfl
  | a :: b :: t, h => by
    have ih := read_odd t (by simp at h; omega)
    simp only [readL, ih]; split <;> rfl

theorem read_append : ∀ (a b : List UInt8), a.length % 2 = 0 → readL (a ++ b) = (readL a).bind fun x => (readL b).map (x ++ ·)
  | [], b, _ => by simp [readL]
  | [_], b, h => by simp at h
  | x :: y :: t, b, h => by
    have ih := read_append t b (by simp at h; omega)
    simp only [List.cons_append, readL, ih]
    split
    · cases readL t <;> simp [Option.bind, Function.comp_def]
    · rfl

/-- a byte that is no digit: none is read -/
theorem read_bad : ∀ (l : List UInt8) (i : Nat) (h : i < l.length), ¬ hv (l[i]).toNat < 16 → readL l = none
  | [], i, h, _ => absurd h (by simp)
  | [_], _, _, _ => rfl
  | a :: b :: t, 0, h, hb => by simp only [readL]; rw [if_neg (fun hh => hb hh.1)]
  | a :: b :: t, 1, h, hb => by simp only [readL]; rw [if_neg (fun hh => hb hh.2)]
  | a :: b :: t, i + 2, h, hb => by
    have ih := read_bad t i (by simpa using h) (by simpa using hb)
    simp only [readL, ih]; split <;> rfl

end Go.Proofs.YtchnklekeinhiaaGreat

namespace Go.Proofs.YtchnklekeinhiaaGreat
open Go.RowKit

theorem run_index_at (s : ByteArray) (j : Nat) (h : j < s.size) (W : World) : (Instr.index 9 (.string s) (.int .i64 (j : Int))).run Tryz.prog W = .ok (.int .u8 (s[j].toNat : Nat)) W := by
  have h1 := run_index_string (P := Tryz.prog) (w := W) 9 s .i64 (j : Int) Tryz.underlying9
  rw [dif_pos ⟨by omega, by omega⟩] at h1
  exact h1

theorem take_snoc (s : ByteArray) (k : Nat) (h : k < s.size) : s.data.toList.take (k + 1) = s.data.toList.take k ++ [s[k]] := by
  rw [List.take_succ_eq_append_getElem (by simpa using h)]; rfl

theorem putL_take (s : ByteArray) (j : Nat) (h : j < s.size) : putL (s.data.toList.take (j + 1)) = putL (s.data.toList.take j) ++ [UInt8.ofNat (dg (s[j].toNat / 16)), UInt8.ofNat (dg (s[j].toNat % 16))] := by
  rw [take_snoc s j h, putL_append]; rfl

theorem own_two {w : World} {B a b : Nat} {v : Value} {l : List UInt8} (ha : a < 256) (hb : b < 256) (h : w.ownsRow B 5 1 v (l.length + 2) (Lib.byteCells l ++ [Value.int .u8 (a : Int), Value.int .u8 (b : Int)])) : OwnB B v (l ++ [UInt8.ofNat a, UInt8.ofNat b]) w := by
  have h2 : w.ownsRow B 5 1 v ((l ++ [UInt8.ofNat a]).length + 1) (Lib.byteCells (l ++ [UInt8.ofNat a]) ++ [Value.int .u8 (b : Int)]) := by
    have e : UInt8.ofNat a = a.toUInt8 := rfl
    rw [e, Lib.byteCells_snoc l ha, List.append_assoc, List.length_append]
    exact h
  have h3 := ownB_more hb rfl h2
  rwa [List.append_assoc] at h3

end Go.Proofs.YtchnklekeinhiaaGreat

namespace Go.Proofs.YtchnklekeinhiaaGreat
open Go.RowKit

set_option maxRecDepth 100000 in
theorem value_yes (n : Nat) (h : hv n < 16) (w : World) :
    Calls Tryz.prog 172 #[.int .i32 n] w fun e w' => e = .returned (.tuple #[.int .u8 (hv n : Nat), .bool true]) ∧ w = w' := by
  rcases hv_cases n with ⟨h1, h2, h3⟩ | ⟨h1, h2, h3⟩ | ⟨h1, _⟩
  · rw [h3]
    have e : ((n - 48 : Nat) : Int) = (n : Int) - 48 := by omega
    rw [e]
    clear h h3 e
    go_enter Tryz.func172, Tryz.ntmps172
    go_wp2
    go_ret2
    exact ⟨rfl, rfl⟩
  · rw [h3]
    have e : ((n - 87 : Nat) : Int) = (n : Int) - 97 + 10 := by omega
    rw [e]
    have h4 : ¬ n ≤ 57 := by omega
    clear h h3 e
    go_enter Tryz.func172, Tryz.ntmps172
    go_wp2
    go_ret2
    exact ⟨rfl, rfl⟩
  · omega

set_option maxRecDepth 100000 in
theorem value_no (n : Nat) (h : ¬ hv n < 16) (w : World) :
    Calls Tryz.prog 172 #[.int .i32 n] w fun e w' => e = .returned (.tuple #[.int .u8 0, .bool false]) ∧ w = w' := by
  rcases hv_cases n with ⟨h1, h2, h3⟩ | ⟨h1, h2, h3⟩ | ⟨_, h1, h2⟩
  · omega
  · omega
  · clear h
    by_cases c1 : n < 48
    · have d1 : ¬ 97 ≤ n := by omega
      have d2 : ¬ 48 ≤ n := by omega
      clear h1 h2
      go_enter Tryz.func172, Tryz.ntmps172
      go_wp2
      go_ret2
      exact ⟨rfl, rfl⟩
    · by_cases c2 : n < 97
      · have d1 : 48 ≤ n := by omega
        have d2 : ¬ n ≤ 57 := by omega
        have d3 : ¬ 97 ≤ n := by omega
        clear h1 h2
        go_enter Tryz.func172, Tryz.ntmps172
        go_wp2
        go_ret2
        exact ⟨rfl, rfl⟩
      · have d1 : 48 ≤ n := by omega
        have d2 : ¬ n ≤ 57 := by omega
        have d3 : 97 ≤ n := by omega
        have d4 : ¬ n ≤ 102 := by omega
        clear h1 h2
        go_enter Tryz.func172, Tryz.ntmps172
        go_wp2
        go_ret2
        exact ⟨rfl, rfl⟩

set_option maxRecDepth 100000 in
theorem digit_any (n : Nat) (h : n < 16) (w : World) :
    Calls Tryz.prog 106 #[.int .u8 n] w fun e w' => e = .returned (.int .u8 (dg n : Nat)) ∧ w = w' := by
  rcases dg_cases n with ⟨h1, h2⟩ | ⟨h1, h2⟩
  · rw [h2]
    have e : ((48 + n : Nat) : Int) = 48 + (n : Int) := by omega
    rw [e]
    clear h2 e
    go_enter Tryz.func106, Tryz.ntmps106
    go_wp2
    go_ret
    exact ⟨rfl, rfl⟩
  · rw [h2]
    have e : ((87 + n : Nat) : Int) = 87 + (n : Int) := by omega
    rw [e]
    have h3 : ¬ n < 10 := by omega
    clear h2 e
    go_enter Tryz.func106, Tryz.ntmps106
    go_wp2
    go_ret
    exact ⟨rfl, rfl⟩

theorem hv_first (c n : Nat) (h : n ≤ hv c) (hn : n < 16) : dg n = c ↔ n = hv c := by
  constructor
  · intro e; rw [← e, hv_dg n hn]
  · rintro rfl; exact dg_hv c hn

set_option maxHeartbeats 1000000 in
set_option maxRecDepth 100000 in
theorem half_any (c : Nat) (_hc : c < 256) (w : World) :
    Calls Tryz.prog 144 #[.int .u8 c] w fun e w' => e = .returned (.int .u8 (hv c : Nat)) ∧ w = w' := by
  have hle := hv_le c
  go_enter Tryz.func144, Tryz.ntmps144
  go_wp2
  go_loop [3] (fun n => ∃ j : Nat, j ≤ hv c ∧ n = .int .u8 j) (fun n => 16 - (intOf n).toNat)
  case atStart => exact ⟨0, by omega, rfl⟩
  case round =>
    obtain ⟨j, hj, rfl⟩ := hrel
    by_cases hlt : j < 16
    · have hf := hv_first c j hj hlt
      have hlg := dg_lt j hlt
      by_cases hd : dg j = c
      · have he : ((dg j : Int) == (c : Int)) = true := by rw [hd]; simp
        have hjh : (j : Int) = (hv c : Int) := by rw [← hf.1 hd]
        have HJ := Lib.hid hjh
        clear hf hd hjh
        go_wp2_with fail
        refine (digit_any j hlt _).mono ?_
        rintro e w1 ⟨rfl, rfl⟩
        go_wp2
        go_ret
        exact ⟨by rw [HJ.out]; rfl, rfl⟩
      · have he : ((dg j : Int) == (c : Int)) = false := by simp; omega
        have hjh : j + 1 ≤ hv c := by have : j ≠ hv c := fun e => hd (hf.2 e); omega
        clear hf hd
        go_wp2_with fail
        refine (digit_any j hlt _).mono ?_
        rintro e w1 ⟨rfl, rfl⟩
        go_wp2
        go_round
        case rel => exact ⟨j + 1, hjh, by go_num⟩
        case measure => simp [intOf]; omega
    · have hj16 : hv c = 16 := by omega
      have HH := Lib.hid hj16
      clear hj16
      go_wp2
      go_ret
      exact ⟨by rw [HH.out]; rfl, rfl⟩
end Go.Proofs.YtchnklekeinhiaaGreat
