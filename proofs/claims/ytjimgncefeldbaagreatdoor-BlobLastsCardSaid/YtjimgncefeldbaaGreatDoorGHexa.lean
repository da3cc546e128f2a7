/-
  Digits: bytes as two digits each, and back; all as plain functions.
  hexa.Put: what the call answers.
  hexa.value; almonryref03's digit and half: what each call answers.
  hexa.Read: what the call answers.
  almonryref03.Put and Read: what each call answers.
-/
import Derived.Test.YtjimgncefeldbaaGreatDoorBase
import Derived.Deep.AppendLies
import Derived.Deep.RegionHeld3
import Derived.Lib.OthersKept
import Derived.Laws.RangeAny
import Derived.Laws.BitsAllLaws
import Derived.Laws.OwnMore
import Derived.IntWalk
namespace Go.Proofs.YtjimgncefeldbaaGreatDoor
open Go.RowKit

def dg (n : Nat) : Nat := if n < 10 then 48 + n else 87 + n
def hv (c : Nat) : Nat := if 48 ≤ c ∧ c ≤ 57 then c - 48 else if 97 ≤ c ∧ c ≤ 102 then c - 87 else 16

theorem hv_cases (c : Nat) : (48 ≤ c ∧ c ≤ 57 ∧ hv c = c - 48) ∨ (97 ≤ c ∧ c ≤ 102 ∧ hv c = c - 87) ∨ (hv c = 16 ∧ ¬ (48 ≤ c ∧ c ≤ 57) ∧ ¬ (97 ≤ c ∧ c ≤ 102)) := by
  by_cases h1 : 48 ≤ c ∧ c ≤ 57
  · left; exact ⟨h1.1, h1.2, by unfold hv; rw [if_pos h1]⟩
  · by_cases h2 : 97 ≤ c ∧ c ≤ 102
    · right; left; exact ⟨h2.1, h2.2, by unfold hv; rw [if_neg h1, if_pos h2]⟩
    · right; right; exact ⟨by unfold hv; rw [if_neg h1, if_neg h2], h1, h2⟩
theorem dg_cases (n : Nat) : (n < 10 ∧ dg n = 48 + n) ∨ (10 ≤ n ∧ dg n = 87 + n) := by
  by_cases h : n < 10
  · left; exact ⟨h, by unfold dg; rw [if_pos h]⟩
  · right; exact ⟨by omega, by unfold dg; rw [if_neg h]⟩
theorem dg_lt (n : Nat) (h : n < 16) : dg n < 128 := by have := dg_cases n; omega
theorem hv_dg (n : Nat) (h : n < 16) : hv (dg n) = n := by have h1 := dg_cases n; have h2 := hv_cases (dg n); omega
theorem hv_le (c : Nat) : hv c ≤ 16 := by have := hv_cases c; omega
theorem dg_hv (c : Nat) (h : hv c < 16) : dg (hv c) = c := by have h1 := dg_cases (hv c); have h2 := hv_cases c; omega
theorem hv_small (c : Nat) (h : hv c < 16) : c < 128 := by have := hv_cases c; omega
theorem dg_mono (a b : Nat) (h : a < b) : dg a < dg b := by have := dg_cases a; have := dg_cases b; omega

def putL : List UInt8 → List UInt8
  | [] => []
  | c :: r => UInt8.ofNat (dg (c.toNat / 16)) :: UInt8.ofNat (dg (c.toNat % 16)) :: putL r

def readL : List UInt8 → Option (List UInt8)
  | [] => some []
  | [_] => none
  | a :: b :: r => if hv a.toNat < 16 ∧ hv b.toNat < 16 then (readL r).map (UInt8.ofNat (16 * hv a.toNat + hv b.toNat) :: ·) else none

theorem putL_len (l : List UInt8) : (putL l).length = 2 * l.length := by
  induction l with
  | nil => rfl
  | cons c r ih => simp [putL, ih]; omega

theorem putL_append (a b : List UInt8) : putL (a ++ b) = putL a ++ putL b := by
  induction a with
  | nil => rfl
  | cons c r ih => simp [putL, ih]

theorem ofNat_toNat_dg (n : Nat) (h : n < 16) : (UInt8.ofNat (dg n)).toNat = dg n := by
  have := dg_lt n h
  simp; omega

theorem read_put (l : List UInt8) : readL (putL l) = some l := by
  induction l with
  | nil => rfl
  | cons c r ih =>
    have h1 : c.toNat / 16 < 16 := by have := c.toNat_lt; omega
    have h2 : c.toNat % 16 < 16 := by omega
    simp only [putL, readL]
    rw [ofNat_toNat_dg _ h1, ofNat_toNat_dg _ h2, hv_dg _ h1, hv_dg _ h2, if_pos ⟨h1, h2⟩, ih]
    have e : 16 * (c.toNat / 16) + c.toNat % 16 = c.toNat := by omega
    rw [e]; simp

theorem put_read : ∀ (l r : List UInt8), readL l = some r → putL r = l
  | [], r, h => by simp [readL] at h; subst h; rfl
  | [_], r, h => by simp [readL] at h
  | a :: b :: t, r, h => by
    simp only [readL] at h
    split at h
    · rename_i hc
      cases hr : readL t with
      | none => rw [hr] at h; simp at h
      | some q =>
        rw [hr] at h
        obtain rfl := Option.some.inj h
        have hq := put_read t q hr
        simp only [putL]
        have h256 : 16 * hv a.toNat + hv b.toNat < 256 := by omega
        have e : (UInt8.ofNat (16 * hv a.toNat + hv b.toNat)).toNat = 16 * hv a.toNat + hv b.toNat := by simp; omega
        rw [e, hq]
        have e3 : (16 * hv a.toNat + hv b.toNat) / 16 = hv a.toNat := by omega
        have e4 : (16 * hv a.toNat + hv b.toNat) % 16 = hv b.toNat := by omega
        rw [e3, e4, dg_hv _ hc.1, dg_hv _ hc.2]
        simp
    · simp at h

theorem read_len : ∀ (l r : List UInt8), readL l = some r → l.length = 2 * r.length
  | l, r, h => by rw [← put_read l r h, putL_len]

/-- the digits of the first part of a text that is read: all of them are digits, and there are as many as there are bytes -/
theorem read_odd : ∀ (l : List UInt8), l.length % 2 = 1 → readL l = none
  | [], h => by simp at h
  | [_], _ => rfl
  | a :: b :: t, h => by
    have ih := read_odd t (by simp at h; omega)
    simp only [readL, ih]; split <;> rfl

theorem read_append : ∀ (a b : List UInt8), a.length % 2 = 0 → readL (a ++ b) = (readL a).bind fun x => (readL b).map (x ++ ·)
  | [], b, _ => by simp [readL]
  | [_], b, h => by simp at h
  | x :: y :: t, b, h => by
    have ih := read_append t b (by simp at h; omega)
    simp only [List.cons_append, readL, ih]
    split
    · cases readL t <;> simp [Option.bind, Function.comp_def]
    · rfl

/-- a byte that is no digit: none is read -/
theorem read_bad : ∀ (l : List UInt8) (i : Nat) (h : i < l.length), ¬ hv (l[i]).toNat < 16 → readL l = none
  | [], i, h, _ => absurd h (by simp)
  | [_], _, _, _ => rfl
  | a :: b :: t, 0, h, hb => by simp only [readL]; rw [if_neg (fun hh => hb hh.1)]
  | a :: b :: t, 1, h, hb => by simp only [readL]; rw [if_neg (fun hh => hb hh.2)]
  | a :: b :: t, i + 2, h, hb => by
    have ih := read_bad t i (by simpa using h) (by simpa using hb)
    simp only [readL, ih]; split <;> rfl

/-- the order of two rows -/
theorem putL_lt_cons (a b : UInt8) (x y : List UInt8) (ih : putL x < putL y ↔ x < y) : putL (a :: x) < putL (b :: y) ↔ a :: x < b :: y := by
  have ha := a.toNat_lt
  have hb := b.toNat_lt
  have e1 := ofNat_toNat_dg (a.toNat / 16) (by omega)
  have e2 := ofNat_toNat_dg (a.toNat % 16) (by omega)
  have e3 := ofNat_toNat_dg (b.toNat / 16) (by omega)
  have e4 := ofNat_toNat_dg (b.toNat % 16) (by omega)
  simp only [putL, List.cons_lt_cons_iff, UInt8.lt_iff_toNat_lt, ← UInt8.toNat_inj, e1, e2, e3, e4, ih]
  rcases Nat.lt_trichotomy (a.toNat / 16) (b.toNat / 16) with h | h | h
  · have := dg_mono _ _ h
    constructor
    · intro _; left; omega
    · intro _; left; exact this
  · rw [h]
    rcases Nat.lt_trichotomy (a.toNat % 16) (b.toNat % 16) with h2 | h2 | h2
    · have := dg_mono _ _ h2
      constructor
      · intro _; left; omega
      · intro _; right; exact ⟨rfl, .inl this⟩
    · rw [h2]
      have e : a.toNat = b.toNat := by omega
      rw [e]
      simp
    · have := dg_mono _ _ h2
      constructor
      · rintro (h | ⟨_, h | ⟨h, _⟩⟩) <;> omega
      · rintro (h | ⟨h, _⟩) <;> omega
  · have := dg_mono _ _ h
    constructor
    · rintro (h | ⟨h, _⟩) <;> omega
    · rintro (h | ⟨h, _⟩) <;> omega

theorem putL_lt : ∀ (x y : List UInt8), putL x < putL y ↔ x < y
  | [], [] => by simp [putL]
  | [], b :: y => by simp [putL]
  | a :: x, [] => by simp [putL]
  | a :: x, b :: y => putL_lt_cons a b x y (putL_lt x y)

theorem putL_inj (x y : List UInt8) (h : putL x = putL y) : x = y := by
  have h1 := read_put x
  rw [h, read_put] at h1
  simpa using h1.symm
end Go.Proofs.YtjimgncefeldbaaGreatDoor

namespace Go.Proofs.YtjimgncefeldbaaGreatDoor
open Go.RowKit

def digitsS : ByteArray := ⟨#[48, 49, 50, 51, 52, 53, 54, 55, 56, 57, 97, 98, 99, 100, 101, 102]⟩
theorem digits_get : ∀ n : Fin 16, ((digitsS.data.toList.getD n.val 0).toNat) = dg n.val := by decide +kernel

set_option maxRecDepth 100000 in
theorem run_digit (n : Nat) (h : n < 16) (W : World) : (Instr.index 9 (.string ⟨#[48, 49, 50, 51, 52, 53, 54, 55, 56, 57, 97, 98, 99, 100, 101, 102]⟩) (.int .u8 (n : Int))).run Tryz.prog W = .ok (.int .u8 (dg n : Nat)) W := by
  have hs : digitsS.size = 16 := rfl
  have h1 := run_index_string (P := Tryz.prog) (w := W) 9 digitsS .u8 (n : Int) Tryz.underlying9
  rw [dif_pos ⟨by omega, by rw [hs]; omega⟩] at h1
  refine Eq.trans h1 ?_
  congr 2
  have h2 := digits_get ⟨n, h⟩
  rw [← h2]
  show _ = (((digitsS.data.toList.getD n 0).toNat : Nat) : Int)
  have h3 : n < digitsS.data.toList.length := h
  have h4 : digitsS.data.toList.getD n 0 = digitsS.data.toList[n] := by rw [List.getD_eq_getElem?_getD, List.getElem?_eq_getElem h3]; rfl
  rw [h4]
  rfl

theorem run_index_at (s : ByteArray) (j : Nat) (h : j < s.size) (W : World) : (Instr.index 9 (.string s) (.int .i64 (j : Int))).run Tryz.prog W = .ok (.int .u8 (s[j].toNat : Nat)) W := by
  have h1 := run_index_string (P := Tryz.prog) (w := W) 9 s .i64 (j : Int) Tryz.underlying9
  rw [dif_pos ⟨by omega, by omega⟩] at h1
  exact h1

theorem take_snoc (s : ByteArray) (k : Nat) (h : k < s.size) : s.data.toList.take (k + 1) = s.data.toList.take k ++ [s[k]] := by
  rw [List.take_succ_eq_append_getElem (by simpa using h)]; rfl

theorem putL_take (s : ByteArray) (j : Nat) (h : j < s.size) : putL (s.data.toList.take (j + 1)) = putL (s.data.toList.take j) ++ [UInt8.ofNat (dg (s[j].toNat / 16)), UInt8.ofNat (dg (s[j].toNat % 16))] := by
  rw [take_snoc s j h, putL_append]; rfl

theorem own_made0 (W : World) (c : Nat) (hc : c ≤ 65536) : OwnB W.heap.size (.slice (some ⟨W.heap.size, 0, none⟩) 0 c) [] (W.alloc (.cells (List.replicate c (Value.int .u8 0)).toArray 5)) :=
  ⟨by simp [Lib.byteCells], .inr ⟨_, c, _, by simp, Nat.le_refl _, heap_alloc_new W _, by simp, by unfold maxLen; omega, by simp, by simp [Lib.byteCells]⟩⟩

theorem own_two {w : World} {B a b : Nat} {v : Value} {l : List UInt8} (ha : a < 256) (hb : b < 256) (h : w.ownsRow B 5 1 v (l.length + 2) (Lib.byteCells l ++ [Value.int .u8 (a : Int), Value.int .u8 (b : Int)])) : OwnB B v (l ++ [UInt8.ofNat a, UInt8.ofNat b]) w := by
  have h2 : w.ownsRow B 5 1 v ((l ++ [UInt8.ofNat a]).length + 1) (Lib.byteCells (l ++ [UInt8.ofNat a]) ++ [Value.int .u8 (b : Int)]) := by
    have e : UInt8.ofNat a = a.toUInt8 := rfl
    rw [e, Lib.byteCells_snoc l ha, List.append_assoc, List.length_append]
    exact h
  have h3 := ownB_more hb rfl h2
  rwa [List.append_assoc] at h3

set_option maxHeartbeats 1000000 in
set_option maxRecDepth 100000 in
theorem putC (s : ByteArray) (w : World) (hs : s.size ≤ 5000) :
    Calls Tryz.prog 95 #[.string s] w fun e w' => e = .returned (.string ⟨(putL s.data.toList).toArray⟩) ∧ Below w.heap.size w w' := by
  obtain ⟨i0, hi, hz0, hz1, hz2⟩ := info_parts bytesInfo
  have hmk := make_bytes 0 (2 * s.size) 0 (2 * (s.size : Int)) rfl (by omega) (by omega) (by omega) w
  go_enter Tryz.func95, Tryz.ntmps95
  go_wp2
  go_loopw [3, 4, 11] (fun v _ i wr => ∃ j : Nat, j ≤ s.size ∧ i = .int .i64 j ∧ OwnB w.heap.size v (putL (s.data.toList.take j)) wr ∧ Below w.heap.size w wr) (fun _ _ i _ => s.size - (intOf i).toNat)
  case atStart => exact ⟨0, by omega, rfl, own_made0 w _ (by omega), (Below.refl _ _).alloc (Nat.le_refl _) _⟩
  case round =>
    obtain ⟨j, hj, rfl, hown, hb⟩ := hrel
    by_cases hlt : j < s.size
    · have hix := fun W => run_index_at s j hlt W
      have hpt := putL_take s j hlt
      obtain ⟨c, hcc⟩ : ∃ c : Nat, c = s[j].toNat := ⟨_, rfl⟩
      have hc256 : c < 256 := by rw [hcc]; exact s[j].toNat_lt
      rw [← hcc] at hix hpt
      have hd1 := fun W => run_digit (c / 16) (by omega) W
      have hd2 := fun W => run_digit (c % 16) (by omega) W
      have ei1 : ((c / 16 : Nat) : Int) = (c : Int) / 16 := by omega
      have ei2 : ((c % 16 : Nat) : Int) = (c : Int) % 16 := by omega
      rw [ei1] at hd1
      rw [ei2] at hd2
      have q1 := dg_lt (c / 16) (by omega)
      have q2 := dg_lt (c % 16) (by omega)
      generalize hg1 : dg (c / 16) = d1 at hd1 hpt q1
      generalize hg2 : dg (c % 16) = d2 at hd2 hpt q2
      generalize hvv : u3 = v at hown
      have hol : (putL (s.data.toList.take j)).length ≤ 10000 := by rw [putL_len, List.length_take]; omega
      have hbs := hb.size
      have HB := Lib.hid hb
      have HPT := Lib.hid hpt
      have htm : (c : Int).tmod 16 = (c : Int) % 16 := Int.tmod_eq_emod_of_nonneg (by omega)
      clear hb hpt ei1 ei2 hg1 hg2 hcc
      generalize putL (s.data.toList.take j) = pre at hown hol HPT
      go_wp2_with fail
      go_region_held3 (fun _ => True) (first | go_keep | trivial)
            ((refine step_append_lies _ (by rfl) _ _ _ (by rfl) w.heap.size 5 i0 _ 1 1 Tryz.underlying34 hi hz0 hz1 hz2 rfl (by omega) v pre.length (Lib.byteCells pre) (by rfl) ((World.ownsRow.alloc hown _).drew)
                ⟨wr.heap.size, 0, none⟩ 2 2 [.int .u8 d1, .int .u8 d2] (by rfl) (by rfl) (World.news_of_block (cs := #[.int .u8 d1, .int .u8 d2]) (t := 5) (fr := (0, 0)) (heap_alloc_new wr _)) (by simp [Value.oneCell'])
                (by omega) (by unfold maxLen; omega) (by omega) (by simp; omega) (wr.heap.size + 1) (by simp) ?_; intro gg cap w1 hown1 hgrow hat hlt))
      all_goals
        have hb1 : Below w.heap.size w w1 := ((HB.out.alloc (by omega) _).drew).grown hgrow (by simp; omega) (fun i hi => (World.ownsRow.lt hown i hi).1)
        have hown2 := own_two (by omega) (by omega) hown1
        rw [← HPT.out] at hown2
        have HO2 := Lib.hid hown2
        have HB1 := Lib.hid hb1
        clear hown2 hb1 hown1 hgrow hat hown
        go_wp2
        exact ⟨⟨j + 1, by omega, by go_num, HO2.out, HB1.out⟩, by simp [intOf]; omega⟩
    · obtain rfl : j = s.size := by omega
      rw [List.take_of_length_le (by simp)] at hown
      have hconv := own_text hown
      have HB := Lib.hid hb
      clear hb
      go_wp2
      go_ret
      exact ⟨rfl, HB.out⟩
end Go.Proofs.YtjimgncefeldbaaGreatDoor

namespace Go.Proofs.YtjimgncefeldbaaGreatDoor
open Go.RowKit


set_option maxRecDepth 100000 in
theorem digit_any (n : Nat) (h : n < 16) (w : World) :
    Calls Tryz.prog 100 #[.int .u8 n] w fun e w' => e = .returned (.int .u8 (dg n : Nat)) ∧ w = w' := by
  rcases dg_cases n with ⟨h1, h2⟩ | ⟨h1, h2⟩
  · rw [h2]
    have e : ((48 + n : Nat) : Int) = 48 + (n : Int) := by omega
    rw [e]
    clear h2 e
    go_enter Tryz.func100, Tryz.ntmps100
    go_wp2
    go_ret
    exact ⟨rfl, rfl⟩
  · rw [h2]
    have e : ((87 + n : Nat) : Int) = 87 + (n : Int) := by omega
    rw [e]
    have h3 : ¬ n < 10 := by omega
    clear h2 e
    go_enter Tryz.func100, Tryz.ntmps100
    go_wp2
    go_ret
    exact ⟨rfl, rfl⟩

end Go.Proofs.YtjimgncefeldbaaGreatDoor

namespace Go.Proofs.YtjimgncefeldbaaGreatDoor
open Go.RowKit

/-- what is read of a text: its bytes (none beside an error), the error's number -/
def rdL (l : List UInt8) : List UInt8 := (readL l).getD []
def rdS (l : List UInt8) : ByteArray := ⟨(rdL l).toArray⟩
def rdE (l : List UInt8) : Int := if (readL l).isSome then 0 else 5

theorem rd_none {l : List UInt8} (h : readL l = none) : rdS l = ⟨#[]⟩ ∧ rdE l = 5 := by simp [rdS, rdE, rdL, h]
theorem rd_some {l r : List UInt8} (h : readL l = some r) : rdS l = ⟨r.toArray⟩ ∧ rdE l = 0 := by simp [rdS, rdE, rdL, h]

def hrv (l : List UInt8) (pos k : Nat) : Nat :=
  if 2 * k + 2 ≤ pos then 16 * hv (l.getD (2 * k) 0).toNat + hv (l.getD (2 * k + 1) 0).toNat else if 2 * k + 1 ≤ pos then hv (l.getD (2 * k) 0).toNat else 0
def rdRow (l : List UInt8) (n pos : Nat) : List UInt8 := (List.range n).map fun k => UInt8.ofNat (hrv l pos k)

theorem rdRow_len (l : List UInt8) (n pos : Nat) : (rdRow l n pos).length = n := by simp [rdRow]
theorem rdRow_zero (l : List UInt8) (n : Nat) : rdRow l n 0 = List.replicate n 0 := by
  apply List.ext_getElem (by simp [rdRow])
  intro i h1 h2
  simp [rdRow, hrv]

theorem rv_far (l : List UInt8) (pos k : Nat) (h : k ≠ pos / 2) : hrv l (pos + 1) k = hrv l pos k := by
  unfold hrv
  by_cases h1 : 2 * k + 2 ≤ pos
  · rw [if_pos h1, if_pos (by omega)]
  · rw [if_neg h1, if_neg (by omega)]
    by_cases h2 : 2 * k + 1 ≤ pos
    · rw [if_pos h2, if_pos (by omega)]
    · rw [if_neg h2, if_neg (by omega)]

theorem rdRow_set (l : List UInt8) (n pos : Nat) : (rdRow l n pos).set (pos / 2) (UInt8.ofNat (hrv l (pos + 1) (pos / 2))) = rdRow l n (pos + 1) := by
  apply List.ext_getElem (by simp [rdRow])
  intro i h1 h2
  rw [List.getElem_set]
  split
  · rename_i h; subst h; simp [rdRow]
  · rename_i h; simp only [rdRow, List.getElem_map, List.getElem_range]; rw [rv_far l pos i (fun e => h e.symm)]

theorem rv_even (l : List UInt8) (pos : Nat) (h : pos % 2 = 0) : hrv l pos (pos / 2) = 0 ∧ hrv l (pos + 1) (pos / 2) = hv (l.getD pos 0).toNat := by
  have e : 2 * (pos / 2) = pos := by omega
  unfold hrv
  constructor
  · rw [if_neg (by omega), if_neg (by omega)]
  · rw [if_neg (by omega), if_pos (by omega), e]

theorem rv_odd (l : List UInt8) (pos : Nat) (h : pos % 2 = 1) : hrv l pos (pos / 2) = hv (l.getD (pos - 1) 0).toNat ∧ hrv l (pos + 1) (pos / 2) = 16 * hv (l.getD (pos - 1) 0).toNat + hv (l.getD pos 0).toNat := by
  have e : 2 * (pos / 2) = pos - 1 := by omega
  have e2 : pos - 1 + 1 = pos := by omega
  unfold hrv
  constructor
  · rw [if_neg (by omega), if_pos (by omega), e]
  · rw [if_pos (by omega), e, e2]

theorem rv_small (l : List UInt8) (pos k : Nat) (h : ∀ k, k < pos → hv (l.getD k 0).toNat < 16) : hrv l pos k < 256 := by
  unfold hrv
  split
  · have h1 := h (2 * k) (by omega)
    have h2 := h (2 * k + 1) (by omega)
    omega
  · split
    · have h1 := h (2 * k) (by omega)
      omega
    · omega

theorem readL_row : ∀ (l : List UInt8), l.length % 2 = 0 → (∀ k, k < l.length → hv (l.getD k 0).toNat < 16) → readL l = some (rdRow l (l.length / 2) l.length)
  | [], _, _ => rfl
  | [_], h, _ => by simp at h
  | a :: b :: t, h, hd => by
    have h0 := hd 0 (by simp)
    have h1 := hd 1 (by simp)
    simp at h0 h1
    have ih := readL_row t (by simp at h; omega) (fun k hk => by have := hd (k + 2) (by simp; omega); simpa using this)
    simp only [readL]
    rw [if_pos ⟨h0, h1⟩, ih]
    simp only [Option.map_some, Option.some.injEq]
    have e : (a :: b :: t).length / 2 = t.length / 2 + 1 := by simp; omega
    rw [e]
    apply List.ext_getElem (by simp [rdRow])
    intro i hi1 hi2
    cases i with
    | zero => simp [rdRow, hrv]
    | succ i =>
      simp only [List.getElem_cons_succ, rdRow, List.getElem_map, List.getElem_range]
      congr 1
      unfold hrv
      have e1 : 2 * (i + 1) = 2 * i + 2 := by omega
      have e2 : 2 * i + 2 + 1 = 2 * i + 1 + 2 := by omega
      have hi3 : i < t.length / 2 := by simpa [rdRow] using hi2
      rw [if_pos (by omega), if_pos (by simp; omega), e1, e2]
      simp [List.getD]

theorem byteCells_set (l : List UInt8) (k a : Nat) (ha : a < 256) : (Lib.byteCells l).set k (.int .u8 (a : Int)) = Lib.byteCells (l.set k (UInt8.ofNat a)) := by
  unfold Lib.byteCells
  rw [List.map_set]
  congr 2
  have : (UInt8.ofNat a).toNat = a := by simp; omega
  rw [this]

theorem shl_or : ∀ a b : Fin 16, ((a.val * 16) ||| b.val) = 16 * a.val + b.val := by decide +kernel

theorem iter_laid (w : World) (o : Obj) (s : ByteArray) : ((w.alloc o).alloc (.stringIter s 0)).heap[w.heap.size + 1]? = some (.stringIter s 0) := by
  have h := heap_alloc_new (w.alloc o) (Obj.stringIter s 0)
  rw [show (w.alloc o).heap.size = w.heap.size + 1 by simp] at h
  exact h

theorem iterPos_of {w : World} {k : Nat} {s : ByteArray} {pos : Nat} (h : w.heap[k]? = some (.stringIter s pos)) : w.iterPos k = pos := by
  unfold World.iterPos; rw [h]

theorem dec_high (s : ByteArray) (pos : Nat) (h : pos < s.size) (hb : ¬ (s[pos]'h).toNat < 128) : ¬ hv (Utf8.decode s pos).1 < 16 := by
  have h1 := (decode_high s pos h (by omega)).1
  intro h2
  have h3 := hv_small _ h2
  omega

theorem ownB_iter {w : World} {B : Nat} {v : Value} {l : List UInt8} {k : Nat} {s : ByteArray} {pos : Nat} (h : OwnB B v l w) (hk : w.heap[k]? = some (.stringIter s pos)) (pos' : Nat) : OwnB B v l (w.iterAt k s pos') := by
  refine ⟨h.1, ?_⟩
  rcases h.2 with h0 | ⟨g, cap, cur, hv, hb, hg, rest⟩
  · exact .inl h0
  · refine .inr ⟨g, cap, cur, hv, hb, ?_, rest⟩
    rw [Lib.iterAt_other _ _ _ _ _ (fun e => by subst e; rw [hk] at hg; cases hg)]
    exact hg

end Go.Proofs.YtjimgncefeldbaaGreatDoor

namespace Go.Proofs.YtjimgncefeldbaaGreatDoor
open Go.RowKit

set_option maxHeartbeats 2000000 in
set_option maxRecDepth 100000 in
theorem putR (s : ByteArray) (w : World) (hs : s.size ≤ 5000) :
    Calls Tryz.prog 60 #[.string s] w fun e w' => e = .returned (.string ⟨(putL s.data.toList).toArray⟩) ∧ Below w.heap.size w w' := by
  obtain ⟨i0, hi, hz0, hz1, hz2⟩ := info_parts bytesInfo
  go_enter Tryz.func60, Tryz.ntmps60
  go_wp2
  go_loopw [3, 4] (fun v i wr => ∃ j : Nat, j ≤ s.size ∧ i = .int .i64 j ∧ OwnB w.heap.size v (putL (s.data.toList.take j)) wr ∧ Below w.heap.size w wr) (fun _ i _ => s.size - (intOf i).toNat)
  case atStart => exact ⟨0, by omega, rfl, ownB_nil _ _, Below.refl _ _⟩
  case round =>
    obtain ⟨j, hj, rfl, hown, hb⟩ := hrel
    by_cases hlt : j < s.size
    · have hix := fun W => run_index_at s j hlt W
      have hpt := putL_take s j hlt
      obtain ⟨c, hcc⟩ : ∃ c : Nat, c = s[j].toNat := ⟨_, rfl⟩
      have hc256 : c < 256 := by rw [hcc]; exact s[j].toNat_lt
      rw [← hcc] at hix hpt
      have hd1 := fun W => digit_any (c / 16) (by omega) W
      have hd2 := fun W => digit_any (c % 16) (by omega) W
      have ei1 : ((c / 16 : Nat) : Int) = (c : Int) / 16 := by omega
      have ei2 : ((c % 16 : Nat) : Int) = (c : Int) % 16 := by omega
      rw [ei1] at hd1
      rw [ei2] at hd2
      have q1 := dg_lt (c / 16) (by omega)
      have q2 := dg_lt (c % 16) (by omega)
      generalize hg1 : dg (c / 16) = d1 at hd1 hpt q1
      generalize hg2 : dg (c % 16) = d2 at hd2 hpt q2
      generalize hvv : u3 = v at hown
      have hol : (putL (s.data.toList.take j)).length ≤ 10000 := by rw [putL_len, List.length_take]; omega
      have hbs := hb.size
      have HB := Lib.hid hb
      have HPT := Lib.hid hpt
      have D1 := Lib.hid hd1
      have D2 := Lib.hid hd2
      have htm : (c : Int).tmod 16 = (c : Int) % 16 := Int.tmod_eq_emod_of_nonneg (by omega)
      have htd : (c : Int).tdiv 16 = (c : Int) / 16 := Int.tdiv_eq_ediv_of_nonneg (by omega)
      have hw1 : IntKind.u8.wrap ((c : Int) / 16) = (c : Int) / 16 := IntWalk.u8_in _ (by omega)
      have hw2 : IntKind.u8.wrap ((c : Int) % 16) = (c : Int) % 16 := IntWalk.u8_in _ (by omega)
      clear hb hpt ei1 ei2 hg1 hg2 hcc hd1 hd2
      generalize putL (s.data.toList.take j) = pre at hown hol HPT
      go_wp2_with fail
      go_region_held3 (fun _ => True) (first | go_keep | trivial)
            (first
             | ((with_reducible refine (D1.out _).mono ?_); rintro e w' ⟨rfl, rfl⟩)
             | ((with_reducible refine (D2.out _).mono ?_); rintro e w' ⟨rfl, rfl⟩)
             | (
                refine step_append_lies _ (by rfl) _ _ _ (by rfl) w.heap.size 5 i0 _ 1 1 Tryz.underlying34 hi hz0 hz1 hz2 rfl (by omega) v pre.length (Lib.byteCells pre) (by rfl) ((World.ownsRow.alloc hown _).drew)
                  ⟨wr.heap.size, 0, none⟩ 2 2 [.int .u8 d1, .int .u8 d2] (by rfl) (by rfl) (World.news_of_block (cs := #[.int .u8 d1, .int .u8 d2]) (t := 5) (fr := (0, 0)) (heap_alloc_new wr _)) (by simp [Value.oneCell'])
                  (by omega) (by unfold maxLen; omega) (by omega) (by simp; omega) (wr.heap.size + 1) (by simp) ?_; intro gg cap w1 hown1 hgrow hat hlt)
             | fail)
      all_goals
        have hb1 : Below w.heap.size w w1 := ((HB.out.alloc (by omega) _).drew).grown hgrow (by simp; omega) (fun i hi => (World.ownsRow.lt hown i hi).1)
        have hown2 := own_two (by omega) (by omega) hown1
        rw [← HPT.out] at hown2
        have HO2 := Lib.hid hown2
        have HB1 := Lib.hid hb1
        clear hown2 hb1 hown1 hgrow hat hown
        go_wp2
        exact ⟨⟨j + 1, by omega, by go_num, HO2.out, HB1.out⟩, by simp [intOf]; omega⟩
    · obtain rfl : j = s.size := by omega
      rw [List.take_of_length_le (by simp)] at hown
      have hconv := own_text hown
      have HB := Lib.hid hb
      clear hb
      go_wp2
      go_ret
      exact ⟨rfl, HB.out⟩

theorem readL_step {s : ByteArray} {j : Nat} {pre : List UInt8} (hj : j % 2 = 0) (h : j + 1 < s.size) (hr : readL (s.data.toList.take j) = some pre) (h1 : hv (s[j]'(by omega)).toNat < 16) (h2 : hv (s[j + 1]).toNat < 16) :
    readL (s.data.toList.take (j + 2)) = some (pre ++ [UInt8.ofNat (16 * hv (s[j]'(by omega)).toNat + hv (s[j + 1]).toNat)]) := by
  rw [show j + 2 = j + 1 + 1 from rfl, take_snoc s (j + 1) h, take_snoc s j (by omega), List.append_assoc, read_append _ _ (by rw [List.length_take]; simp; omega), hr]
  simp only [List.cons_append, List.nil_append, readL]
  rw [if_pos ⟨h1, h2⟩]
  rfl

end Go.Proofs.YtjimgncefeldbaaGreatDoor
