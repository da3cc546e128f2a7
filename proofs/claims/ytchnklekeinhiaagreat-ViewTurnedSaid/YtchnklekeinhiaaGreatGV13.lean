/-
  What is asked of an update, in three parts.
  Vectors as lists of sixteen numbers: whether they may be, the greater and the smaller ones, which is less, their bytes.
  Floats' bits as plain numbers: the one NaN, keys, and that the keys rise as the numbers do.
  A number's eight bytes, and the number of eight bytes, as plain functions.
  Chapter 19 in plain words: what clients ask for, as updates (ahead of its code).
  Chapter 20 in plain words: backups as they are seen.
  float.Clean, Key, Of, Less, the closure that Sort hands on, and the document's Bits, Key, Of, Clean, Less, Same: what each call answers.
-/
import Derived.Test.YtchnklekeinhiaaGreatGV10
import Derived.Test.YtchnklekeinhiaaGreatFactOrd
import Derived.Test.YtchnklekeinhiaaGreatGV01
import Derived.Test.YtchnklekeinhiaaGreatGV02
import Derived.Test.YtchnklekeinhiaaGreatRows
import Derived.KernelRfl
import Derived.Test.YtchnklekeinhiaaGreatGV03
import Derived.Laws.BitsAllLaws
import Derived.Laws.DeepNot64
import Derived.Laws.StandIn
namespace Go.Proofs.YtchnklekeinhiaaGreat
set_option linter.unusedSimpArgs false
set_option linter.unusedVariables false
set_option maxRecDepth 100000

/-- all say the update's name and stamp -/
def OwnE (e : Dl) : Prop := ∀ f ∈ e.l, f.d = e.d ∧ f.s = e.s
instance (e : Dl) : Decidable (OwnE e) := inferInstanceAs (Decidable (∀ f ∈ e.l, _))
end Go.Proofs.YtchnklekeinhiaaGreat

namespace Go.Proofs.YtchnklekeinhiaaGreat

def okN (x : Int) : Prop := 0 ≤ x ∧ x ≤ 1099511627776
instance (x : Int) : Decidable (okN x) := inferInstanceAs (Decidable (_ ∧ _))
/-! the document's Compare -/
/-! bytes -/
end Go.Proofs.YtchnklekeinhiaaGreat

namespace Go.Proofs.YtchnklekeinhiaaGreat
set_option maxRecDepth 100000

def isNb (b : Nat) : Bool := decide (9218868437227405312 < b % 9223372036854775808)
def cln (b : Nat) : Nat := if isNb b then 9221120237041090561 else b
def turnK (c : Nat) : Nat := if c < 9223372036854775808 then c + 9223372036854775808 else 18446744073709551615 - c
def keyB (b : Nat) : Nat := turnK (cln b)
def ofB (k : Nat) : Nat := cln (if k < 9223372036854775808 then 18446744073709551615 - k else k - 9223372036854775808)

theorem cln_of {b : Nat} (h : isNb b = true) : cln b = 9221120237041090561 := by simp [cln, h]
theorem cln_no {b : Nat} (h : isNb b = false) : cln b = b := by simp [cln, h]
theorem isNb_nan : isNb 9221120237041090561 = true := by decide
theorem cln_cln (b : Nat) : cln (cln b) = cln b := by
  cases h : isNb b
  · rw [cln_no h, cln_no h]
  · rw [cln_of h]; rfl
theorem cln_lt {b : Nat} (h : b < 18446744073709551616) : cln b < 18446744073709551616 := by
  cases hn : isNb b
  · rw [cln_no hn]; exact h
  · rw [cln_of hn]; omega
theorem turnK_inj {a b : Nat} (ha : a < 18446744073709551616) (hb : b < 18446744073709551616) (h : turnK a = turnK b) : a = b := by
  unfold turnK at h
  split at h <;> split at h <;> omega
theorem keyB_inj {a b : Nat} (ha : a < 18446744073709551616) (hb : b < 18446744073709551616) (h : keyB a = keyB b) : cln a = cln b := turnK_inj (cln_lt ha) (cln_lt hb) h
/-! how two numbers stand -/
/-- what a rung stands for, in the least units -/
def rungV (r : Nat) : Nat := if r < 4503599627370496 then r else (4503599627370496 + r % 4503599627370496) * 2 ^ (r / 4503599627370496 - 1)

def sgn (b : Nat) : Bool := b / 9223372036854775808 % 2 == 1

theorem read_cases (b : Nat) :
    (b % 9223372036854775808 < 9218868437227405312 ∧ ∃ (m e : Nat), Ieee.double.read b = .number (sgn b) m (-1074 + (e : Int)) ∧ m * 2 ^ e = rungV (b % 9223372036854775808)) ∨
    (b % 9223372036854775808 = 9218868437227405312 ∧ Ieee.double.read b = .infinity (sgn b)) ∨
    (isNb b = true ∧ ∃ s f, Ieee.double.read b = .nan s f) := by
  have h1 : Ieee.double.signWeight = 9223372036854775808 := by decide
  have h2 : Ieee.double.binade = 4503599627370496 := by decide
  have h3 : Ieee.double.infRung = 9218868437227405312 := by decide
  have h4 : Ieee.double.leastPlace = -1074 := by decide
  unfold Ieee.Format.read
  simp only [h1, h2, h3, h4]
  change (b % 9223372036854775808 < 9218868437227405312 ∧ _) ∨ _
  by_cases c1 : b % 9223372036854775808 < 4503599627370496
  · left
    refine ⟨by omega, b % 9223372036854775808, 0, ?_, ?_⟩
    · rw [if_pos c1]; rfl
    · unfold rungV; rw [if_pos c1]; simp
  · by_cases c2 : b % 9223372036854775808 < 9218868437227405312
    · left
      refine ⟨c2, 4503599627370496 + b % 9223372036854775808 % 4503599627370496, b % 9223372036854775808 / 4503599627370496 - 1, ?_, ?_⟩
      · rw [if_neg c1, if_pos c2]; rfl
      · unfold rungV; rw [if_neg c1]
    · by_cases c3 : b % 9223372036854775808 = 9218868437227405312
      · right; left
        refine ⟨c3, ?_⟩
        rw [if_neg c1, if_neg c2, if_pos c3]; rfl
      · right; right
        refine ⟨by unfold isNb; simp; omega, sgn b, b % 9223372036854775808 - 9218868437227405312, ?_⟩
        rw [if_neg c1, if_neg c2, if_neg c3]; rfl

theorem compare_self (x : Int) : compare x x = Ordering.eq := by simp [compare, compareOfLessAndEq]
theorem compareN_self (x : Nat) : compare x x = Ordering.eq := by simp [compare, compareOfLessAndEq]

theorem ord_self (b : Nat) : ((Ieee.double.order b b) == some Ordering.eq) = !isNb b := by
  unfold Ieee.Format.order
  rcases read_cases b with ⟨hb, m, e, hr, _⟩ | ⟨hb, hr⟩ | ⟨hb, s, f, hr⟩
  · rw [hr]
    have : isNb b = false := by unfold isNb; simp; omega
    rw [this]
    simp only [Ieee.Datum.order, compare_self]; rfl
  · rw [hr]
    have : isNb b = false := by unfold isNb; simp; omega
    rw [this]
    simp only [Ieee.Datum.order, compareN_self]; rfl
  · rw [hr, hb]; rfl

attribute [irreducible] isNb cln keyB ofB
end Go.Proofs.YtchnklekeinhiaaGreat

namespace Go.Proofs.YtchnklekeinhiaaGreat
set_option maxRecDepth 100000
open Go.RowKit

/-- the last k bytes of x, the highest first -/
def beL (x : Nat) : Nat → List UInt8
  | 0 => []
  | k + 1 => UInt8.ofNat (x / 2 ^ (8 * k)) :: beL x k
/-- the number of bytes, the highest first -/
def nrL (l : List UInt8) : Nat := l.foldl (fun n c => n * 256 + c.toNat) 0
theorem nrL_nil : nrL [] = 0 := rfl
theorem nrL_snoc (l : List UInt8) (c : UInt8) : nrL (l ++ [c]) = nrL l * 256 + c.toNat := by simp [nrL]
theorem nrL_lt : ∀ (k : Nat) (l : List UInt8), l.length = k → nrL l < 256 ^ k
  | 0, l, h => by
    obtain rfl : l = [] := List.length_eq_zero_iff.1 h
    decide
  | k + 1, l, h => by
    have hne : l ≠ [] := by intro e; subst e; simp at h
    have e := List.dropLast_concat_getLast hne
    have ih := nrL_lt k l.dropLast (by simp [h])
    rw [← e, nrL_snoc]
    have := (l.getLast hne).toNat_lt
    rw [Nat.pow_succ]
    omega
/-- what Put puts -/
def flPutB (b : Nat) : List UInt8 := beL (cln b) 8
/-- what Read answers: the number's bits, the error's number -/
def rdB (l : List UInt8) : Nat := if l.length = 8 ∧ cln (nrL l) = nrL l then nrL l else 0
def rdN (l : List UInt8) : Int := if l.length < 8 then 4 else if l.length = 8 ∧ cln (nrL l) = nrL l then 0 else 5
theorem rd_short {l : List UInt8} (h : l.length < 8) : rdB l = 0 ∧ rdN l = 4 := by
  unfold rdB rdN; rw [if_neg (by omega), if_pos h]; exact ⟨rfl, rfl⟩
theorem rd_long {l : List UInt8} (h : 8 < l.length) : rdB l = 0 ∧ rdN l = 5 := by
  unfold rdB rdN; rw [if_neg (by omega), if_neg (by omega), if_neg (by omega)]; exact ⟨rfl, rfl⟩
theorem rd_bad {l : List UInt8} (h : l.length = 8) (h2 : cln (nrL l) ≠ nrL l) : rdB l = 0 ∧ rdN l = 5 := by
  unfold rdB rdN; rw [if_neg (by simp [h2]), if_neg (by omega), if_neg (by simp [h2])]; exact ⟨rfl, rfl⟩
theorem rd_good {l : List UInt8} (h : l.length = 8) (h2 : cln (nrL l) = nrL l) : rdB l = nrL l ∧ rdN l = 0 := by
  unfold rdB rdN; rw [if_pos ⟨h, h2⟩, if_neg (by omega), if_pos ⟨h, h2⟩]; exact ⟨rfl, rfl⟩
theorem nrL8_lt {l : List UInt8} (h : l.length = 8) : nrL l < 18446744073709551616 := by
  have := nrL_lt 8 l h
  rwa [show 256 ^ 8 = 18446744073709551616 by decide] at this
theorem rdB_lt (l : List UInt8) : rdB l < 18446744073709551616 := by
  unfold rdB
  split
  · rename_i h; exact nrL8_lt h.1
  · omega
/-- the row, its first k bytes laid -/
def putRowF (x k : Nat) : List UInt8 := (List.range 8).map fun i => if i < k then UInt8.ofNat (x / 2 ^ (8 * (7 - i))) else 0
attribute [irreducible] beL nrL flPutB rdB rdN putRowF
end Go.Proofs.YtchnklekeinhiaaGreat

namespace Go.Proofs.YtchnklekeinhiaaGreat
set_option linter.unusedSimpArgs false
set_option linter.unusedVariables false

/-- what a client asks for: the kind, the name, the value, how long (a float's bits), the bytes -/
structure Opp where
  k : Int
  n : ByteArray
  v : ByteArray
  p : Nat
  b : ByteArray
deriving DecidableEq

theorem mem_ofR {k : Int} {n : ByteArray} {l : List Ft} {f : Ft} : f ∈ ofR k n l ↔ f ∈ l ∧ (k = 0 ∨ f.k = k) ∧ f.n = n := by simp [ofR]
theorem nodup_lenA {α : Type} [DecidableEq α] : ∀ {k m : List α}, k.Nodup → (∀ y ∈ k, y ∈ m) → k.length ≤ m.length := by
  intro k
  induction k with
  | nil => intro m _ _; simp
  | cons x r ih =>
    intro m hn hm
    obtain ⟨h1, h2⟩ := List.nodup_cons.1 hn
    have hx : x ∈ m := hm x (by simp)
    have h3 := ih (m := m.erase x) h2 (fun y hy => (List.mem_erase_of_ne (fun e => h1 (by rw [← e]; exact hy))).2 (hm y (by simp [hy])))
    have h4 := List.length_erase_of_mem hx
    have h5 : 0 < m.length := List.length_pos_of_mem hx
    rw [List.length_cons]
    omega
theorem elems_len {l : List Ft} {t : List ByteArray} (h : ElemsR l t) : t.length ≤ l.length := by
  have nd : t.Nodup := List.Pairwise.imp (fun {x y} k e => by subst e; rw [totX.irr] at k; cases k) h.rise
  have hs : ∀ y ∈ t, y ∈ l.map (·.v) := fun y hy => by
    obtain ⟨f, hf, e⟩ := (h.mem y).1 hy
    exact List.mem_map.2 ⟨f, hf, e⟩
  have := nodup_lenA nd hs
  rwa [List.length_map] at this
/-! what becomes of it -/
section does
variable {l J : List Ft} {o : Opp} {t : Nat} {d : Dt} {s : St} {m : ByteArray}
end does
end Go.Proofs.YtchnklekeinhiaaGreat

namespace Go.Proofs.YtchnklekeinhiaaGreat
set_option linter.unusedSimpArgs false
set_option linter.unusedVariables false

/-- texts of a list, each once, rising -/
structure SetX (s out : List ByteArray) : Prop where
  rise : RiseX out
  mem : ∀ x, x ∈ out ↔ x ∈ s
theorem SetX.same {s t a b : List ByteArray} (h : ∀ x, x ∈ s ↔ x ∈ t) (ha : SetX s a) (hb : SetX t b) : a = b :=
  riseX_same ha.rise hb.rise fun x => by rw [ha.mem, hb.mem, h]
theorem SetX.nil : SetX [] [] := ⟨.nil, fun x => by simp⟩
theorem SetX.skip {s out : List ByteArray} (h : SetX s out) {x : ByteArray} (hx : x ∈ out) : SetX (s ++ [x]) out :=
  ⟨h.rise, fun y => by
    rw [h.mem, List.mem_append, List.mem_singleton]
    constructor
    · exact .inl
    · rintro (h1 | rfl)
      · exact h1
      · exact (h.mem _).1 hx⟩
theorem SetX.put {s out : List ByteArray} (h : SetX s out) (x : ByteArray) (k : Nat) (h1 : ∀ y ∈ out.take k, ltX y x = true) (h2 : ∀ y ∈ out.drop k, ltX x y = true) : SetX (s ++ [x]) (out.take k ++ x :: out.drop k) := by
  constructor
  · have hw := h.rise
    unfold RiseX at hw ⊢
    rw [← List.take_append_drop k out, List.pairwise_append] at hw
    obtain ⟨ha, hb, hc⟩ := hw
    rw [List.pairwise_append, List.pairwise_cons]
    refine ⟨ha, ⟨h2, hb⟩, fun a hin b hb2 => ?_⟩
    rcases List.mem_cons.1 hb2 with rfl | hb2
    · exact h1 a hin
    · exact hc a hin b hb2
  · intro y
    have hm : y ∈ out ↔ y ∈ out.take k ∨ y ∈ out.drop k := by rw [← List.mem_append, List.take_append_drop]
    rw [List.mem_append, List.mem_cons, List.mem_append, List.mem_singleton, ← h.mem, hm]
    constructor
    · rintro (h1 | h1 | h1)
      · exact .inl (.inl h1)
      · exact .inr h1
      · exact .inl (.inr h1)
    · rintro ((h1 | h1) | h1)
      · exact .inl h1
      · exact .inr (.inr h1)
      · exact .inr (.inl h1)
theorem SetX.nodup {s out : List ByteArray} (h : SetX s out) : out.Nodup := List.Pairwise.imp (fun {x y} k e => by subst e; rw [totX.irr] at k; cases k) h.rise
theorem SetX.len {s out : List ByteArray} (h : SetX s out) : out.length ≤ s.length := nodup_lenA h.nodup fun y hy => (h.mem y).1 hy
theorem SetX.of {s t out : List ByteArray} (h : SetX s out) (ht : ∀ x, x ∈ s ↔ x ∈ t) : SetX t out := ⟨h.rise, fun x => by rw [h.mem, ht]⟩

/-- the names of backups, and all IDs -/
def namesS (l : List Ft) : List ByteArray := (l.filter (fun f => decide (f.k = 1))).map (·.n)
def idsS (l : List Ft) : List ByteArray := (l.filter (fun f => decide (f.k = 1))).flatMap (fun f => (readM f.v).1.ids)
theorem mem_namesS {l : List Ft} {x : ByteArray} : x ∈ namesS l ↔ ∃ f ∈ l, f.k = 1 ∧ f.n = x := by
  unfold namesS
  simp only [List.mem_map, List.mem_filter, decide_eq_true_eq]
  constructor
  · rintro ⟨f, ⟨h1, h2⟩, h3⟩; exact ⟨f, h1, h2, h3⟩
  · rintro ⟨f, h1, h2, h3⟩; exact ⟨f, ⟨h1, h2⟩, h3⟩
theorem mem_idsS {l : List Ft} {x : ByteArray} : x ∈ idsS l ↔ ∃ f ∈ l, f.k = 1 ∧ x ∈ (readM f.v).1.ids := by
  unfold idsS
  simp only [List.mem_flatMap, List.mem_filter, decide_eq_true_eq]
  constructor
  · rintro ⟨f, ⟨h1, h2⟩, h3⟩; exact ⟨f, h1, h2, h3⟩
  · rintro ⟨f, h1, h2, h3⟩; exact ⟨f, ⟨h1, h2⟩, h3⟩
theorem namesS_len (l : List Ft) : (namesS l).length ≤ l.length := by
  unfold namesS; rw [List.length_map]; exact List.length_filter_le _ _
theorem namesS_perm {l k : List Ft} (h : l.Perm k) (x : ByteArray) : x ∈ namesS l ↔ x ∈ namesS k := by
  rw [mem_namesS, mem_namesS]
  constructor
  · rintro ⟨f, h1, h2⟩; exact ⟨f, h.mem_iff.1 h1, h2⟩
  · rintro ⟨f, h1, h2⟩; exact ⟨f, h.mem_iff.2 h1, h2⟩
theorem idsS_perm {l k : List Ft} (h : l.Perm k) (x : ByteArray) : x ∈ idsS l ↔ x ∈ idsS k := by
  rw [mem_idsS, mem_idsS]
  constructor
  · rintro ⟨f, h1, h2⟩; exact ⟨f, h.mem_iff.1 h1, h2⟩
  · rintro ⟨f, h1, h2⟩; exact ⟨f, h.mem_iff.2 h1, h2⟩
theorem namesS_snoc (l : List Ft) (f : Ft) : namesS (l ++ [f]) = namesS l ++ if f.k = 1 then [f.n] else [] := by
  unfold namesS
  rw [List.filter_append, List.map_append]
  congr 1
  by_cases h : f.k = 1 <;> simp [h]
theorem idsS_snoc (l : List Ft) (f : Ft) : idsS (l ++ [f]) = idsS l ++ if f.k = 1 then (readM f.v).1.ids else [] := by
  unfold idsS
  rw [List.filter_append, List.flatMap_append]
  congr 1
  by_cases h : f.k = 1 <;> simp [h]
theorem ofR_perm {l k : List Ft} (h : l.Perm k) (i : Int) (n : ByteArray) : (ofR i n l).Perm (ofR i n k) := h.filter _
end Go.Proofs.YtchnklekeinhiaaGreat

namespace Go.Proofs.YtchnklekeinhiaaGreat
set_option maxRecDepth 100000
open Go.RowKit

theorem fbits (b : Nat) (w : World) : (callFunc 98 #[.float .f64 b]).run Tryz.prog w = .ok (.value (.int .u64 b)) w :=
  run_callFunc_extern (P := Tryz.prog) (e := Extern.MathFloatBits.float64bits) Tryz.func98 (by kernel_rfl) (by kernel_rfl) (by kernel_rfl) (by kernel_rfl) #[.float .f64 b] w
theorem ffrom (n : Nat) (w : World) : (callFunc 62 #[.int .u64 n]).run Tryz.prog w = .ok (.value (.float .f64 n)) w :=
  run_callFunc_extern (P := Tryz.prog) (e := Extern.MathFloatBits.float64frombits) Tryz.func62 (by kernel_rfl) (by kernel_rfl) (by kernel_rfl) (by kernel_rfl) #[.int .u64 n] w
theorem ffromN : ∀ w : World, (callFunc 62 #[.int .u64 9221120237041090561]).run Tryz.prog w = .ok (.value (.float .f64 9221120237041090561)) w := ffrom 9221120237041090561
theorem fneq (b : Nat) : (FloatKind.f64.format.order b b != some Ordering.eq) = isNb b := by
  have h : (FloatKind.f64.format.order b b == some Ordering.eq) = !isNb b := ord_self b
  rw [bne, h]; simp
theorem feql (b : Nat) : (FloatKind.f64.format.order b b == some Ordering.eq) = !isNb b := ord_self b

attribute [local go_sem] fbits ffrom ffromN fneq feql

theorem and_low (c : Nat) (h : c < 9223372036854775808) : bits .and .u64 (c : Int) 9223372036854775808 = 0 := by
  have h1 := u64_and_nat c 9223372036854775808 (by omega) (by omega)
  have h2 : c &&& 9223372036854775808 = 0 := by
    have e : c.testBit 63 = false := Nat.testBit_lt_two_pow (by omega)
    apply Nat.eq_of_testBit_eq
    intro i
    rw [Nat.testBit_and, show 9223372036854775808 = 2 ^ 63 by decide, Nat.testBit_two_pow, Nat.zero_testBit]
    by_cases hi : 63 = i
    · subst hi; rw [e]; rfl
    · simp [hi]
  rw [h2] at h1
  exact h1
theorem and_high (c : Nat) (h : 9223372036854775808 ≤ c) (h2 : c < 18446744073709551616) : bits .and .u64 (c : Int) 9223372036854775808 = 9223372036854775808 := by
  have h1 := u64_and_nat c 9223372036854775808 (by omega) (by omega)
  have h2 : c &&& 9223372036854775808 = 9223372036854775808 := by
    have e : c.testBit 63 = true := by
      rw [Nat.testBit_eq_decide_div_mod_eq]; simp; omega
    apply Nat.eq_of_testBit_eq
    intro i
    rw [Nat.testBit_and, show 9223372036854775808 = 2 ^ 63 by decide, Nat.testBit_two_pow]
    by_cases hi : 63 = i
    · subst hi; rw [e]; rfl
    · simp [hi]
  rw [h2] at h1
  exact h1
theorem or_low (c : Nat) (h : c < 9223372036854775808) : bits .or .u64 (c : Int) 9223372036854775808 = ((c + 9223372036854775808 : Nat) : Int) := by
  have h1 := u64_or_nat c 9223372036854775808 (by omega) (by omega)
  have h2 : c ||| 9223372036854775808 = c + 9223372036854775808 := by
    have e := Nat.two_pow_add_eq_or_of_lt (i := 63) (b := c) (by omega) 1
    rw [Nat.mul_one, show 2 ^ 63 = 9223372036854775808 by decide, Nat.or_comm] at e
    omega
  rw [h2] at h1
  exact h1
theorem not_u64 (c : Nat) (h : c < 18446744073709551616) : bits .xor .u64 IntKind.u64.max (c : Int) = ((18446744073709551615 - c : Nat) : Int) := by
  show IntKind.u64.wrap ((BitVec.ofInt 64 IntKind.u64.max ^^^ BitVec.ofInt 64 (c : Int)).toNat : Int) = _
  have h1 : BitVec.ofInt 64 IntKind.u64.max = BitVec.allOnes 64 := by decide
  rw [h1, BitVec.allOnes_xor, BitVec.toNat_not, ofInt_u64 c h]
  simp [IntKind.wrap, IntKind.bits, IntKind.signed]
  omega

set_option maxHeartbeats 1000000 in
theorem flCleanC (b : Nat) (w : World) : Calls Tryz.prog 91 #[.float .f64 b] w fun e w' => e = .returned (.float .f64 (cln b)) ∧ w = w' := by
  cases h : isNb b
  · rw [cln_no h]
    go_enter Tryz.func91, Tryz.ntmps91
    go_wp2
    go_ret
    exact ⟨rfl, rfl⟩
  · rw [cln_of h]
    go_enter Tryz.func91, Tryz.ntmps91
    go_wp2
    go_ret
    exact ⟨rfl, rfl⟩

set_option maxHeartbeats 1000000 in
theorem flKeyC (b : Nat) (hb : b < 18446744073709551616) (w : World) : Calls Tryz.prog 95 #[.float .f64 b] w fun e w' => e = .returned (.int .u64 (keyB b : Nat)) ∧ w = w' := by
  have hlt := cln_lt hb
  have hk : keyB b = turnK (cln b) := by unfold keyB; rfl
  rw [hk]
  generalize hc : cln b = c at hlt
  have HC := Lib.hid hc
  clear hc hk
  by_cases h : c < 9223372036854775808
  · have e1 : turnK c = c + 9223372036854775808 := if_pos h
    have e2 := and_low c h
    have e3 := or_low c h
    rw [e1]
    clear e1
    generalize c + 9223372036854775808 = z at e3 ⊢
    go_enter Tryz.func95, Tryz.ntmps95
    go_wp2_with fail
    refine (flCleanC b _).mono ?_
    rintro e w1 ⟨rfl, rfl⟩
    rw [HC.out]
    go_wp2
    go_ret
    exact ⟨rfl, rfl⟩
  · have e1 : turnK c = 18446744073709551615 - c := if_neg h
    have e2 := and_high c (by omega) hlt
    have e3 := not_u64 c hlt
    rw [e1]
    clear e1
    generalize 18446744073709551615 - c = z at e3 ⊢
    go_enter Tryz.func95, Tryz.ntmps95
    go_wp2_with fail
    refine (flCleanC b _).mono ?_
    rintro e w1 ⟨rfl, rfl⟩
    rw [HC.out]
    go_wp2
    go_ret
    exact ⟨rfl, rfl⟩

def cmpI (x y : Int) : Int := if x < y then -1 else if y < x then 1 else 0
def cmpK (a b : Nat) : Int := cmpI (keyB a : Nat) (keyB b : Nat)

theorem flCmpC (x y : Nat) (w : World) : Calls Tryz.prog 94 #[.int .u64 (x : Int), .int .u64 (y : Int)] w fun e w' => e = .returned (.int .i64 (cmpI (x : Int) (y : Int))) ∧ w = w' := by
  have hn : ∀ (z : Nat) (W : World), Calls Tryz.prog 132 #[.int .u64 (z : Int)] W fun e w' => e = .returned (.bool false) ∧ W = w' := by
    intro z W
    go_enter Tryz.func132, Tryz.ntmps132
    go_wp2
    go_ret
    exact ⟨by simp, rfl⟩
  unfold cmpI
  by_cases h1 : (x : Int) < y
  · rw [if_pos h1]
    go_enter Tryz.func94, Tryz.ntmps94
    go_wp2_with (refine (hn _ _).mono ?_; rintro e w1 ⟨rfl, rfl⟩)
    go_ret
    exact ⟨rfl, rfl⟩
  · rw [if_neg h1]
    by_cases h2 : (y : Int) < x
    · rw [if_pos h2]
      go_enter Tryz.func94, Tryz.ntmps94
      go_wp2_with (refine (hn _ _).mono ?_; rintro e w1 ⟨rfl, rfl⟩)
      go_ret
      exact ⟨rfl, rfl⟩
    · rw [if_neg h2]
      go_enter Tryz.func94, Tryz.ntmps94
      go_wp2_with (refine (hn _ _).mono ?_; rintro e w1 ⟨rfl, rfl⟩)
      go_ret
      exact ⟨rfl, rfl⟩

set_option maxHeartbeats 1000000 in
theorem cmpSort (a b : Nat) (ha : a < 18446744073709551616) (hb : b < 18446744073709551616) (w : World) : Calls Tryz.prog 93 #[.float .f64 a, .float .f64 b] w fun e w' => e = .returned (.int .i64 (cmpK a b)) ∧ w = w' := by
  have ka := fun W => flKeyC a ha W
  have kb := fun W => flKeyC b hb W
  unfold cmpK
  generalize keyB a = x at ka ⊢
  generalize keyB b = y at kb ⊢
  have kc := fun W => flCmpC x y W
  generalize cmpI (x : Int) (y : Int) = r at kc ⊢
  go_enter Tryz.func93, Tryz.ntmps93
  go_wp2_with fail
  refine (ka _).mono ?_
  rintro e w1 ⟨rfl, rfl⟩
  go_wp2_with fail
  refine (kb _).mono ?_
  rintro e w1 ⟨rfl, rfl⟩
  go_wp2_with fail
  refine (kc _).mono ?_
  rintro e w1 ⟨rfl, rfl⟩
  go_wp2
  go_ret
  exact ⟨rfl, rfl⟩
end Go.Proofs.YtchnklekeinhiaaGreat
