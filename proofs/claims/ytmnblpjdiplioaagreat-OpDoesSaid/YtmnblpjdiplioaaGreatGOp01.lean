/-
  Plain facts on digits of seven bits; nothing of the program. And a law for a label at the head of what is jumped over.
  What the walks of all stages share: rows of bytes that a call owns, texts made of them, worlds that only draws have moved.
  wire.appendText, wire.Text, wire.List: what each call answers, and what becomes of memory.
  Names of updates as plain pairs of numbers: their order, whether they may be, lists that rise, their bytes, and what is read of bytes.
-/
import Derived.WalkKit
import Derived.ScopeJumps
import Derived.Lib.Varint
import Derived.Lib.VarintMem
import Derived.Lib.QuoteBits
import Derived.Test.YtmnblpjdiplioaaGreatRows
import Derived.WalkSpells
import Derived.WalkLawsBesides
import Derived.Lib.Hide
import Derived.Lib.SmallJoins
import Derived.Lib.SlBytesRow
import Derived.Lib.BufferRead
import Derived.Lib.IndexBytes
import Derived.Deep.QuietTactic
import Derived.BigQuiet
import Derived.Laws.ResultCell
import Derived.Lib.AppendStr
namespace Go.Proofs.YtmnblpjdiplioaaGreat
open Go.RowKit

theorem wp_scope_head {P : Program} {a : Act} {w : World} {Q : Exit → Act → World → Prop} {c X : Code} (l : Nat) (J : Act → World → Prop) (μ : Act → World → Nat) (hf : findLabel c l = some (.seq .skip X))
    (a₁ : Act) (w₁ : World) (hJ : J a₁ w₁) (first : ∀ Q', X.wp P Q' a₁ w₁ → c.wp P Q' a w)
    (pass : ∀ a w, J a w → X.wp P (Exit.jump l (fun a' w' => J a' w' ∧ μ a' w' < μ a w) Q) a w) : (Code.scope c).wp P Q a w := by
  refine wp_scope_jumps l J μ hf (first _ (Code.wp_mono ?_ (pass a₁ w₁ hJ))) (fun a w h => wp_seq (wp_skip (pass a w h)))
  intro e a' w' h
  cases e <;> first | exact h | exact ⟨h.1, h.2.1⟩

def lev : List UInt8 → Nat
  | [] => 0
  | d :: r => d.toNat % 128 + 128 * lev r

theorem lev_snoc (l : List UInt8) (d : UInt8) : lev (l ++ [d]) = lev l + d.toNat % 128 * 128 ^ l.length := by
  induction l with
  | nil => simp [lev]
  | cons x r ih =>
    simp only [List.cons_append, lev, ih, List.length_cons, Nat.pow_succ]
    rw [Nat.mul_add, ← Nat.add_assoc]
    congr 1
    rw [Nat.mul_comm (128 ^ r.length) 128, Nat.mul_left_comm]

theorem lev_lt (l : List UInt8) : lev l < 128 ^ l.length := by
  induction l with
  | nil => simp [lev]
  | cons x r ih =>
    simp only [lev, List.length_cons, Nat.pow_succ]
    have : x.toNat % 128 < 128 := Nat.mod_lt _ (by omega)
    omega

def run : List UInt8 → Nat
  | [] => 0
  | d :: r => if 128 ≤ d.toNat then run r + 1 else 0

theorem run_le (l : List UInt8) : run l ≤ l.length := by
  induction l with
  | nil => simp [run]
  | cons d r ih => simp only [run]; split <;> simp <;> omega

theorem run_at (l : List UInt8) : ∀ k, k < run l → ∃ h : k < l.length, 128 ≤ l[k].toNat := by
  induction l with
  | nil => intro k hk; simp [run] at hk
  | cons d r ih =>
    intro k hk
    by_cases hd : 128 ≤ d.toNat
    · rw [run, if_pos hd] at hk
      cases k with
      | zero => exact ⟨by simp, hd⟩
      | succ k => obtain ⟨h1, h2⟩ := ih k (by omega); exact ⟨by simp; omega, h2⟩
    · rw [run, if_neg hd] at hk; omega

theorem run_end (l : List UInt8) (h : run l < l.length) : l[run l].toNat < 128 := by
  induction l with
  | nil => simp at h
  | cons d r ih =>
    by_cases hd : 128 ≤ d.toNat
    · have e : run (d :: r) = run r + 1 := by rw [run, if_pos hd]
      simp only [e, List.length_cons] at h ⊢
      simpa using ih (by omega)
    · have e : run (d :: r) = 0 := by rw [run, if_neg hd]
      simp only [e]
      simpa using hd

theorem run_of (l : List UInt8) (k : Nat) (hk : k < l.length) (h1 : ∀ j (h : j < l.length), j < k → 128 ≤ l[j].toNat) (h2 : l[k].toNat < 128) : run l = k := by
  rcases Nat.lt_trichotomy (run l) k with h | h | h
  · have h3 := run_end l (by omega)
    have h4 := h1 (run l) (by omega) h
    omega
  · exact h
  · obtain ⟨_, h4⟩ := run_at l k h
    omega

theorem run_all (l : List UInt8) (h1 : ∀ j (h : j < l.length), 128 ≤ l[j].toNat) : run l = l.length := by
  rcases Nat.lt_or_ge (run l) l.length with h | h
  · have h3 := run_end l h
    have h4 := h1 (run l) h
    omega
  · have := run_le l; omega

/-- what stands at the beginning, as a number: the number, its bytes' count, the error -/
def numR (l : List UInt8) : Nat × Nat × Int :=
  if run l = l.length then (0, 0, 4)
  else if 8 < run l + 1 ∨ 9007199254740992 < lev (l.take (run l + 1)) then (0, 0, 2)
  else if l.getD (run l) 0 = 0 ∧ 0 < run l then (0, 0, 5)
  else (lev (l.take (run l + 1)), run l + 1, 0)

theorem numR_ok {l : List UInt8} (h : (numR l).2.2 = 0) : (numR l).2.1 ≤ l.length ∧ 1 ≤ (numR l).2.1 ∧ (numR l).1 ≤ 9007199254740992 := by
  have h0 := run_le l
  unfold numR at h ⊢
  split at h
  · simp at h
  · split at h
    · simp at h
    · split at h
      · simp at h
      · rename_i a b c
        rw [if_neg a, if_neg b, if_neg c]
        simp only
        omega

theorem pow128 (k : Nat) : 2 ^ (7 * k) = 128 ^ k := by rw [Nat.pow_mul]

/-- one digit more -/
theorem or_step (n k d : Nat) (hk : k < 8) (hn : n < 128 ^ k) (hd : d < 128) : bits .or .i64 (n : Int) (wrap64 ((d : Int) * 2 ^ (7 * k))) = ((n + d * 128 ^ k : Nat) : Int) := by
  have h8 : 128 ^ k * 128 ≤ 72057594037927936 := by
    rw [← Nat.pow_succ]
    exact Nat.le_trans (Nat.pow_le_pow_right (by omega) (show k + 1 ≤ 8 by omega)) (by decide)
  have hm : d * 128 ^ k ≤ 127 * 128 ^ k := Nat.mul_le_mul_right _ (by omega)
  have e1 : (d : Int) * 2 ^ (7 * k) = ((d * 128 ^ k : Nat) : Int) := by
    rw [← pow128]; simp
  rw [e1]
  have e2 : wrap64 ((d * 128 ^ k : Nat) : Int) = ((d * 128 ^ k : Nat) : Int) := by unfold wrap64; omega
  rw [e2]
  have e3 : n ||| d * 128 ^ k = n + d * 128 ^ k := by
    rw [Nat.or_comm, ← pow128, ← Nat.shiftLeft_eq, ← Nat.shiftLeft_add_eq_or_of_lt (by rw [pow128]; exact hn), Nat.add_comm]
  show IntKind.i64.wrap ((BitVec.ofInt 64 (n : Int) ||| BitVec.ofInt 64 ((d * 128 ^ k : Nat) : Int)).toNat : Int) = _
  rw [BitVec.toNat_or, ofInt_u64 n (by omega), ofInt_u64 (d * 128 ^ k) (by omega), e3]
  exact Lib.wrap_i64_small _ (by omega)

/-! A reader's state: what is left, and the first error. -/

def sNum (st : ByteArray × Int) : Nat × (ByteArray × Int) :=
  if st.2 ≠ 0 then (0, st)
  else if (numR st.1.data.toList).2.2 = 0 then ((numR st.1.data.toList).1, (st.1.extract (numR st.1.data.toList).2.1 st.1.size, 0))
  else (0, (st.1, (numR st.1.data.toList).2.2))

def sCount (limit : Nat) (st : ByteArray × Int) : Nat × Bool × (ByteArray × Int) :=
  if (sNum st).2.2 ≠ 0 then (0, false, (sNum st).2)
  else if limit < (sNum st).1 then (0, false, ((sNum st).2.1, 3))
  else ((sNum st).1, true, (sNum st).2)

def sText (st : ByteArray × Int) : ByteArray × (ByteArray × Int) :=
  if (sCount 65536 st).2.1 = false then (ByteArray.empty, (sCount 65536 st).2.2)
  else if (sCount 65536 st).2.2.1.size < (sCount 65536 st).1 then (ByteArray.empty, ((sCount 65536 st).2.2.1, 4))
  else ((sCount 65536 st).2.2.1.extract 0 (sCount 65536 st).1, ((sCount 65536 st).2.2.1.extract (sCount 65536 st).1 (sCount 65536 st).2.2.1.size, 0))

def sTexts : Nat → (ByteArray × Int) → List ByteArray → List ByteArray × (ByteArray × Int)
  | 0, st, acc => (acc, st)
  | k + 1, st, acc => if (sText st).2.2 ≠ 0 then ([], (sText st).2) else sTexts k (sText st).2 (acc ++ [(sText st).1])

def sList (st : ByteArray × Int) : List ByteArray × (ByteArray × Int) :=
  if (sCount 4096 st).2.1 = false then ([], (sCount 4096 st).2.2)
  else sTexts (sCount 4096 st).1 (sCount 4096 st).2.2 []

theorem extract_size_le (s : ByteArray) (a b : Nat) : (s.extract a b).size ≤ s.size := by
  rw [ByteArray.size_extract]; omega

theorem sNum_size (st : ByteArray × Int) : (sNum st).2.1.size ≤ st.1.size := by
  unfold sNum
  split
  · exact Nat.le_refl _
  · split
    · exact extract_size_le _ _ _
    · exact Nat.le_refl _
theorem sCount_size (n : Nat) (st : ByteArray × Int) : (sCount n st).2.2.1.size ≤ st.1.size := by
  have h := sNum_size st
  unfold sCount
  split
  · exact h
  · split <;> exact h
theorem sText_size (st : ByteArray × Int) : (sText st).2.1.size ≤ st.1.size := by
  have h := sCount_size 65536 st
  unfold sText
  split
  · exact h
  · split
    · exact h
    · exact Nat.le_trans (extract_size_le _ _ _) h
theorem sTexts_size (k : Nat) : ∀ (st : ByteArray × Int) (acc : List ByteArray), (sTexts k st acc).2.1.size ≤ st.1.size := by
  induction k with
  | zero => intro st acc; exact Nat.le_refl _
  | succ k ih =>
    intro st acc
    have h := sText_size st
    unfold sTexts
    split
    · exact h
    · exact Nat.le_trans (ih _ _) h
theorem sList_size (st : ByteArray × Int) : (sList st).2.1.size ≤ st.1.size := by
  have h := sCount_size 4096 st
  unfold sList
  split
  · exact h
  · exact Nat.le_trans (sTexts_size _ _ _) h
end Go.Proofs.YtmnblpjdiplioaaGreat

namespace Go.Proofs.YtmnblpjdiplioaaGreat
open Go.RowKit

theorem bytesInfo : (Tryz.prog.info? 5).map (fun i => (i.zero, i.size, i.bytes)) = some (some (.int .u8 0), 1, 1) := by kernel_rfl

/-- The slice v is the call's own, and holds the bytes l. -/
def OwnB (B : Nat) (v : Value) (l : List UInt8) (w : World) : Prop := w.ownsRow B 5 1 v l.length (Lib.byteCells l)

theorem ownB_nil (B : Nat) (w : World) : OwnB B (.slice none 0 0) [] w := World.ownsRow_nil _ _ _ _

theorem ownB_more {w : World} {B a : Nat} {v : Value} {l : List UInt8} {i : Int} (ha : a < 256) (hi : i = (a : Int)) (h : w.ownsRow B 5 1 v (l.length + 1) (Lib.byteCells l ++ [Value.int .u8 i])) : OwnB B v (l ++ [UInt8.ofNat a]) w := by
  have e : UInt8.ofNat a = a.toUInt8 := rfl
  unfold OwnB
  rw [e, Lib.byteCells_snoc l ha, List.length_append, List.length_singleton, ← hi]
  exact h

theorem own_string {P : Program} {w : World} {B e : Nat} {src dst : TypeId} {v : Value} {l : List UInt8} (hs : P.underlying src = some (.slice e)) (he : P.underlying e = some (.int .u8)) (hd : P.underlying dst = some .string)
    (h : w.ownsRow B e 1 v l.length (Lib.byteCells l)) : (convert src dst v).run P w = .ok (.string ⟨l.toArray⟩) w := by
  obtain ⟨hl, hv⟩ := h
  rcases hv with ⟨rfl, h0⟩ | ⟨g, cap, cur, rfl, _, hg, hn, _, _, htk⟩
  · obtain rfl : l = [] := List.length_eq_zero_iff.1 h0
    exact Lib.run_convert_nil_bytes w src dst e 0 hs he hd
  · have hc : Lib.Bytes w g 0 ⟨l.toArray⟩ := by
      intro i hi
      have hi' : i < l.length := hi
      have h2 := Lib.bytes_of_row (l := l) hg (by simpa using htk) i hi'
      have e1 : (⟨g, 0, none⟩ : Addr).add i = ⟨g, 0 + i, none⟩ := by cases i <;> simp [Addr.add]
      rw [e1] at h2
      exact h2
    exact Lib.run_convert_whole (P := P) w src e dst hs he hd g 0 ⟨l.toArray⟩ hc cap

theorem own_text {w : World} {B : Nat} {v : Value} {l : List UInt8} (h : OwnB B v l w) : (convert 111 9 v).run Tryz.prog w = .ok (.string ⟨l.toArray⟩) w := by
  obtain ⟨hl, hv⟩ := h
  rcases hv with ⟨rfl, h0⟩ | ⟨g, cap, cur, rfl, _, hg, hn, _, _, htk⟩
  · obtain rfl : l = [] := List.length_eq_zero_iff.1 h0
    exact Lib.run_convert_nil_bytes w 111 9 5 0 Tryz.underlying111 Tryz.underlying5 Tryz.underlying9
  · have hc : Lib.Bytes w g 0 ⟨l.toArray⟩ := by
      intro i hi
      have hi' : i < l.length := hi
      have h2 := Lib.bytes_of_row (l := l) hg (by simpa using htk) i hi'
      have e1 : (⟨g, 0, none⟩ : Addr).add i = ⟨g, 0 + i, none⟩ := by cases i <;> simp [Addr.add]
      rw [e1] at h2
      exact h2
    exact Lib.run_convert_whole (P := Tryz.prog) w 111 5 9 Tryz.underlying111 Tryz.underlying5 Tryz.underlying9 g 0 ⟨l.toArray⟩ hc cap

set_option maxRecDepth 100000 in
/-- a new row of c bytes 0, the first of them n -/
theorem make_bytes (n c : Nat) (L C : Int) (hL : L = (n : Int)) (hC : C = (c : Int)) (hnc : n ≤ c) (hc : c ≤ 65536) (W : World) :
    (Instr.makeSlice 111 (.int .i64 L) (.int .i64 C)).run Tryz.prog W = .ok (.slice (some ⟨W.heap.size, 0, none⟩) n c) (W.alloc (.cells (List.replicate c (Value.int .u8 0)).toArray 5)) := by
  obtain ⟨i0, hi, hz0, hz1, hz2⟩ := info_parts bytesInfo
  subst hL hC
  have h := run_make (P := Tryz.prog) (w := W) 111 5 i0 (.int .u8 0) Tryz.underlying111 hi hz0 .i64 .i64 (n : Int) (c : Int) (by omega) (by omega) (by rw [hz2]; omega) (by omega)
  rw [h, hz1]
  congr 3
  apply Array.ext_getElem?
  intro j
  simp [madeCells]
  by_cases hj : j < c
  · simp [hj, Value.cells, Nat.mod_one]
  · simp [hj]

theorem belowN {B : Nat} {a w : World} (h : Below B a w) (n : Nat) : Below B a (w.drewN n) := ⟨h.os, h.tape, h.output, h.size, h.block⟩

theorem belowRow {B : Nat} {a w : World} (h : Below B a w) {g : Nat} (hg : B ≤ g) (c : Array Value) : Below B a (w.setRow g c) :=
  h.trans ⟨rfl, rfl, rfl, by simp, fun k hk => setRow_other w g k c (by omega)⟩

/-- The slice's elements are the texts ss. -/
def StrRow (w : World) (a : Option Addr) (ss : List ByteArray) : Prop :=
  ss = [] ∨ ∃ b off, a = some ⟨b, off, none⟩ ∧ b < w.heap.size ∧ ∀ j, j < ss.length → w.cell? ⟨b, off + j, none⟩ = some (.string (ss.getD j ByteArray.empty))

theorem StrRow.below {w w' : World} {a : Option Addr} {ss : List ByteArray} (h : StrRow w a ss) (hb : Below w.heap.size w w') : StrRow w' a ss := by
  rcases h with h | ⟨b, off, rfl, hlt, hc⟩
  · exact .inl h
  · exact .inr ⟨b, off, rfl, Nat.lt_of_lt_of_le hlt hb.size, fun j hj => by rw [hb.cell (p := ⟨b, off + j, none⟩) hlt]; exact hc j hj⟩
end Go.Proofs.YtmnblpjdiplioaaGreat

namespace Go.Proofs.YtmnblpjdiplioaaGreat
open Go.RowKit



def encTexts : List ByteArray → List UInt8
  | [] => []
  | s :: r => Lib.uvarint s.size ++ s.data.toList ++ encTexts r

theorem encTexts_append (a b : List ByteArray) : encTexts (a ++ b) = encTexts a ++ encTexts b := by
  induction a with
  | nil => rfl
  | cons s r ih => simp [encTexts, ih]

theorem encTexts_take (ss : List ByteArray) (k : Nat) (hk : k < ss.length) : encTexts (ss.take (k + 1)) = encTexts (ss.take k) ++ (Lib.uvarint (ss.getD k ByteArray.empty).size ++ (ss.getD k ByteArray.empty).data.toList) := by
  rw [List.take_add_one, List.getElem?_eq_getElem hk, encTexts_append]
  simp [encTexts, List.getD, hk]

theorem encTexts_len (ss : List ByteArray) (h : ∀ s ∈ ss, s.size ≤ 65536) : (encTexts ss).length ≤ ss.length * 65546 := by
  induction ss with
  | nil => simp [encTexts]
  | cons s r ih =>
    have h1 := h s (List.mem_cons_self ..)
    have h2 := ih (fun x hx => h x (List.mem_cons_of_mem _ hx))
    have h3 := Lib.uvarint_length64 (x := s.size) (by omega)
    have h4 : s.data.toList.length = s.size := by simp
    simp only [encTexts, List.length_append, List.length_cons, h4]
    omega

/-- what wire.List answers of texts of which there are not too many -/
def ListEnd (ss : List ByteArray) (e : Ending) : Prop :=
  ((∃ s ∈ ss, 65536 < s.size) ∧ e = .returned (.tuple #[.string ⟨#[]⟩, .int .i64 3])) ∨
  ((∀ s ∈ ss, s.size ≤ 65536) ∧ e = .returned (.tuple #[.string ⟨(Lib.uvarint ss.length ++ encTexts ss).toArray⟩, .int .i64 0]))

end Go.Proofs.YtmnblpjdiplioaaGreat

namespace Go.Proofs.YtmnblpjdiplioaaGreat

/-- a name: its replica, its number -/
abbrev Dt := Int × Int

def chkD (d : Dt) : Int := if d.1 < 0 ∨ 15 < d.1 ∨ d.2 < 1 ∨ 1099511627776 < d.2 then 2 else 0
def ltD (a b : Dt) : Bool := decide (a.1 < b.1) || (decide (a.1 = b.1) && decide (a.2 < b.2))

theorem ltD_iff {a b : Dt} : ltD a b = true ↔ (a.1 < b.1 ∨ (a.1 = b.1 ∧ a.2 < b.2)) := by simp [ltD]
theorem ltD_no {a b : Dt} : ltD a b = false ↔ ¬ (a.1 < b.1 ∨ (a.1 = b.1 ∧ a.2 < b.2)) := by
  rw [← ltD_iff]; simp
theorem ltD_irr (a : Dt) : ltD a a = false := by rw [ltD_no]; omega
theorem ltD_trans {a b c : Dt} (h1 : ltD a b = true) (h2 : ltD b c = true) : ltD a c = true := by rw [ltD_iff] at *; omega
theorem ltD_asym {a b : Dt} (h : ltD a b = true) : ltD b a = false := by rw [ltD_no]; rw [ltD_iff] at h; omega
theorem ltD_tri (a b : Dt) : ltD a b = true ∨ a = b ∨ ltD b a = true := by
  rw [ltD_iff, ltD_iff, Prod.ext_iff]; omega
theorem ltD_of {a b : Dt} (h1 : ltD b a = false) (h2 : a ≠ b) : ltD a b = true := by
  rcases ltD_tri a b with h | h | h
  · exact h
  · exact absurd h h2
  · rw [h] at h1; cases h1

/-- They rise. -/
def Rise (l : List Dt) : Prop := l.Pairwise (fun a b => ltD a b = true)
instance (l : List Dt) : Decidable (Rise l) := inferInstanceAs (Decidable (l.Pairwise _))

theorem rise_near : ∀ (l : List Dt), (∀ j (h : j + 1 < l.length), ltD l[j] l[j + 1] = true) → Rise l := by
  intro l
  induction l with
  | nil => intro _; exact .nil
  | cons a r ih =>
    intro h
    have hr : Rise r := ih (fun j hj => h (j + 1) (by simp; omega))
    refine List.pairwise_cons.2 ⟨fun b hb => ?_, hr⟩
    cases r with
    | nil => simp at hb
    | cons c t =>
      have h0 := h 0 (by simp)
      simp only [List.getElem_cons_zero, List.getElem_cons_succ] at h0
      rcases List.mem_cons.1 hb with rfl | hb
      · exact h0
      · exact ltD_trans h0 ((List.pairwise_cons.1 hr).1 b hb)
theorem Rise.near {l : List Dt} (h : Rise l) (j : Nat) (hj : j + 1 < l.length) : ltD l[j] l[j + 1] = true := (List.pairwise_iff_getElem.1 h) j (j + 1) (by omega) hj (by omega)

/-- what a list's first error is -/
def chkL (l : List Dt) : Int := if ∃ d ∈ l, chkD d ≠ 0 then 2 else if Rise l then 0 else 5

theorem chkD_cases (d : Dt) : chkD d = 0 ∨ chkD d = 2 := by unfold chkD; split <;> simp
theorem chkL_bad {l : List Dt} {d : Dt} (h : d ∈ l) (hd : chkD d ≠ 0) : chkL l = chkD d := by
  unfold chkL
  rw [if_pos ⟨d, h, hd⟩]
  rcases chkD_cases d with h | h
  · exact absurd h hd
  · exact h.symm
theorem chkL_flat {l : List Dt} (h : ∀ d ∈ l, chkD d = 0) (hr : ¬ Rise l) : chkL l = 5 := by
  unfold chkL
  rw [if_neg (fun ⟨d, h1, h2⟩ => h2 (h d h1)), if_neg hr]
theorem chkL_good {l : List Dt} (h : ∀ d ∈ l, chkD d = 0) (hr : Rise l) : chkL l = 0 := by
  unfold chkL
  rw [if_neg (fun ⟨d, h1, h2⟩ => h2 (h d h1)), if_pos hr]
theorem chkL_ok {l : List Dt} (h : chkL l = 0) : (∀ d ∈ l, chkD d = 0) ∧ Rise l := by
  unfold chkL at h
  split at h
  · cases h
  · rename_i h1
    split at h
    · rename_i h2
      exact ⟨fun d hd => Classical.byContradiction fun hc => h1 ⟨d, hd, hc⟩, h2⟩
    · cases h
theorem chkD_ok {d : Dt} (h : chkD d = 0) : 0 ≤ d.1 ∧ d.1 ≤ 15 ∧ 1 ≤ d.2 ∧ d.2 ≤ 1099511627776 := by
  unfold chkD at h
  split at h
  · cases h
  · omega

/-! lists that rise are told by what is in them -/
theorem rise_same : ∀ {a b : List Dt}, Rise a → Rise b → (∀ x, x ∈ a ↔ x ∈ b) → a = b := by
  intro a
  induction a with
  | nil =>
    intro b _ _ h
    cases b with
    | nil => rfl
    | cons y t => exact absurd ((h y).2 (by simp)) (by simp)
  | cons x s ih =>
    intro b ha hb h
    cases b with
    | nil => exact absurd ((h x).1 (by simp)) (by simp)
    | cons y t =>
      have ha' := List.pairwise_cons.1 ha
      have hb' := List.pairwise_cons.1 hb
      have hxy : x = y := by
        rcases List.mem_cons.1 ((h x).1 (by simp)) with e | e
        · exact e
        · rcases List.mem_cons.1 ((h y).2 (by simp)) with e2 | e2
          · exact e2.symm
          · have h1 := ha'.1 y e2
            have h2 := hb'.1 x e
            rw [ltD_asym h1] at h2
            cases h2
      subst hxy
      have hst : s = t := ih ha'.2 hb'.2 fun z => by
        constructor
        · intro hz
          rcases List.mem_cons.1 ((h z).1 (by simp [hz])) with e | e
          · subst e; have := ha'.1 z hz; rw [ltD_irr] at this; cases this
          · exact e
        · intro hz
          rcases List.mem_cons.1 ((h z).2 (by simp [hz])) with e | e
          · subst e; have := hb'.1 z hz; rw [ltD_irr] at this; cases this
          · exact e
      rw [hst]

/-- a name, laid into a list that rises -/
def insD (d : Dt) : List Dt → List Dt
  | [] => [d]
  | x :: r => if ltD x d = true then x :: insD d r else if x = d then x :: r else d :: x :: r
/-- each once, rising -/
def sortD (l : List Dt) : List Dt := l.foldl (fun acc d => insD d acc) []

theorem mem_insD {d z : Dt} : ∀ {l : List Dt}, z ∈ insD d l ↔ z = d ∨ z ∈ l := by
  intro l
  induction l with
  | nil => simp [insD]
  | cons x r ih =>
    unfold insD
    split
    · simp only [List.mem_cons, ih]; constructor <;> (rintro (h | h | h) <;> simp [h])
    · split
      · rename_i h1 h2; subst h2; simp
      · simp
theorem rise_insD {d : Dt} : ∀ {l : List Dt}, Rise l → Rise (insD d l) := by
  intro l
  induction l with
  | nil => intro _; simp [insD, Rise]
  | cons x r ih =>
    intro h
    have h' := List.pairwise_cons.1 h
    unfold insD
    split
    · rename_i h1
      refine List.pairwise_cons.2 ⟨fun b hb => ?_, ih h'.2⟩
      rcases mem_insD.1 hb with rfl | hb
      · exact h1
      · exact h'.1 b hb
    · rename_i h1
      split
      · exact h
      · rename_i h2
        have hdx : ltD d x = true := ltD_of (by simpa using h1) (fun e => h2 e.symm)
        refine List.pairwise_cons.2 ⟨fun b hb => ?_, h⟩
        rcases List.mem_cons.1 hb with rfl | hb
        · exact hdx
        · exact ltD_trans hdx (h'.1 b hb)
theorem sortD_snoc (l : List Dt) (d : Dt) : sortD (l ++ [d]) = insD d (sortD l) := by simp [sortD]
theorem foldD_spec : ∀ (l acc : List Dt), Rise acc → Rise (l.foldl (fun acc d => insD d acc) acc) ∧ ∀ z, z ∈ l.foldl (fun acc d => insD d acc) acc ↔ z ∈ acc ∨ z ∈ l := by
  intro l
  induction l with
  | nil => intro acc h; exact ⟨h, fun z => by simp⟩
  | cons d r ih =>
    intro acc h
    obtain ⟨h1, h2⟩ := ih (insD d acc) (rise_insD h)
    refine ⟨h1, fun z => ?_⟩
    rw [List.foldl_cons, h2, mem_insD, List.mem_cons]
    constructor <;> rintro h
    · rcases h with (h | h) | h <;> simp [h]
    · rcases h with h | h | h <;> simp [h]
theorem rise_sortD (l : List Dt) : Rise (sortD l) := (foldD_spec l [] .nil).1
theorem mem_sortD {l : List Dt} {z : Dt} : z ∈ sortD l ↔ z ∈ l := by
  have h := (foldD_spec l [] .nil).2 z
  simpa [sortD] using h
theorem insD_len (d : Dt) : ∀ l : List Dt, (insD d l).length ≤ l.length + 1 := by
  intro l
  induction l with
  | nil => simp [insD]
  | cons x r ih => unfold insD; split <;> (try split) <;> simp <;> omega
theorem sortD_len (l : List Dt) : (sortD l).length ≤ l.length := by
  have : ∀ (l acc : List Dt), (l.foldl (fun acc d => insD d acc) acc).length ≤ acc.length + l.length := by
    intro l
    induction l with
    | nil => simp
    | cons d r ih => intro acc; have h1 := ih (insD d acc); have h2 := insD_len d acc; simp only [List.foldl_cons, List.length_cons]; omega
  simpa [sortD] using this l []

/-- a name that is in a list that rises is not laid in again -/
theorem insD_in {d : Dt} {l : List Dt} (h : Rise l) (hd : d ∈ l) : insD d l = l :=
  rise_same (rise_insD h) h fun z => by rw [mem_insD]; exact ⟨fun hz => hz.elim (fun e => e ▸ hd) id, Or.inr⟩
/-- one that is not stands behind those that are less -/
theorem insD_at {d : Dt} {l : List Dt} (h : Rise l) (hd : d ∉ l) (k : Nat) (hk : k ≤ l.length) (h1 : ∀ j (hj : j < l.length), j < k → ltD l[j] d = true) (h2 : ∀ hk : k < l.length, ltD l[k] d = false) :
    l.take k ++ [d] ++ l.drop k = insD d l := by
  have hp := List.pairwise_iff_getElem.1 h
  have hb : ∀ x ∈ l.drop k, ltD d x = true := by
    intro x hx
    obtain ⟨i, hi, rfl⟩ := List.mem_iff_getElem.1 hx
    rw [List.getElem_drop]
    rw [List.length_drop] at hi
    have h3 : ltD d l[k] = true := ltD_of (h2 (by omega)) (fun e => hd (by rw [e]; exact List.getElem_mem _))
    by_cases hi0 : i = 0
    · subst hi0; exact h3
    · exact ltD_trans h3 (hp k (k + i) (by omega) (by omega) (by omega))
  have ha : ∀ x ∈ l.take k, ltD x d = true := by
    intro x hx
    obtain ⟨i, hi, rfl⟩ := List.mem_iff_getElem.1 hx
    rw [List.length_take] at hi
    rw [List.getElem_take]
    exact h1 i (by omega) (by omega)
  refine rise_same ?_ (rise_insD h) fun z => ?_
  · unfold Rise
    rw [List.append_assoc, List.pairwise_append]
    refine ⟨List.Pairwise.sublist (List.take_sublist _ _) h, ?_, ?_⟩
    · rw [List.singleton_append, List.pairwise_cons]
      exact ⟨hb, List.Pairwise.sublist (List.drop_sublist _ _) h⟩
    · intro x hx y hy
      rcases List.mem_append.1 hy with hy | hy
      · obtain rfl := List.mem_singleton.1 hy; exact ha x hx
      · exact ltD_trans (ha x hx) (hb y hy)
  · rw [mem_insD]
    have e : z ∈ l ↔ z ∈ l.take k ∨ z ∈ l.drop k := by rw [← List.mem_append, List.take_append_drop]
    rw [e]
    simp only [List.mem_append, List.mem_singleton]
    constructor
    · rintro ((h | h) | h) <;> simp [h]
    · rintro (h | h | h) <;> simp [h]

/-! of neighbours that are the same one is kept -/
/-- what was kept of the first k of s -/
structure Kept (s : List Dt) (k : Nat) (out : List Dt) : Prop where
  rise : Rise out
  mem : ∀ z, z ∈ out ↔ z ∈ s.take k
  len : out.length ≤ k
theorem Kept.start (s : List Dt) : Kept s 0 [] := ⟨.nil, fun z => by simp, Nat.le_refl _⟩
theorem Kept.same {s out : List Dt} {k : Nat} (h : Kept s (k + 1) out) (hk : k + 1 < s.length) (he : s[k + 1] = s[k]) : Kept s (k + 1 + 1) out := by
  refine ⟨h.rise, fun z => ?_, Nat.le_succ_of_le h.len⟩
  rw [h.mem z, List.take_succ_eq_append_getElem hk, List.mem_append, List.mem_singleton]
  constructor
  · exact .inl
  · rintro (hz | rfl)
    · exact hz
    · rw [he]; exact List.mem_take_iff_getElem.2 ⟨k, by omega, rfl⟩
theorem Kept.more {s out : List Dt} {k : Nat} (h : Kept s k out) (hs : s.Pairwise (fun a b => ltD b a = false)) (hk : k < s.length) (hne : ∀ j (hj : j + 1 = k), s[k] ≠ s[j]) : Kept s (k + 1) (out ++ [s[k]]) := by
  refine ⟨?_, fun z => ?_, by have := h.len; simp; omega⟩
  · unfold Rise
    rw [List.pairwise_append]
    refine ⟨h.rise, by simp, fun x hx y hy => ?_⟩
    obtain rfl := List.mem_singleton.1 hy
    obtain ⟨j, hj, rfl⟩ := List.mem_take_iff_getElem.1 ((h.mem x).1 hx)
    have hp := List.pairwise_iff_getElem.1 hs
    obtain ⟨m, rfl⟩ : ∃ m, k = m + 1 := ⟨k - 1, by omega⟩
    have hm : ltD s[m] s[m + 1] = true := ltD_of (hp m (m + 1) (by omega) hk (by omega)) (fun e => hne m rfl e.symm)
    by_cases hjm : j = m
    · subst hjm; exact hm
    · have h1 := hp j m (by omega) (by omega) (by omega)
      rcases ltD_tri s[j] s[m] with h2 | h2 | h2
      · exact ltD_trans h2 hm
      · rw [h2]; exact hm
      · rw [h2] at h1; cases h1
  · rw [List.take_succ_eq_append_getElem hk, List.mem_append, List.mem_append, h.mem z]
theorem Kept.all {s l out : List Dt} {k : Nat} (h : Kept s k out) (hk : s.length ≤ k) (hp : ∀ z, z ∈ s ↔ z ∈ l) : out = sortD l :=
  rise_same h.rise (rise_sortD l) fun z => by rw [h.mem z, List.take_of_length_le hk, mem_sortD, hp]

/-! bytes -/
/-- what Done answers -/
def doneS (st : ByteArray × Int) : Int := if st.2 ≠ 0 then st.2 else if 0 < st.1.size then 5 else 0
/-! what is put comes back -/
end Go.Proofs.YtmnblpjdiplioaaGreat
