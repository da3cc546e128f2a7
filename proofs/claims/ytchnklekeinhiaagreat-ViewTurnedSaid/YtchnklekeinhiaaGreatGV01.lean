/-
  Plain facts on digits of seven bits; nothing of the program. And a law for a label at the head of what is jumped over.
  What the walks of all stages share: rows of bytes that a call owns, texts made of them, worlds that only draws have moved.
  wire.appendText, wire.Text, wire.List: what each call answers, and what becomes of memory.
  Plain facts: what is put comes back, and what is read is what would be put. Nothing of the program.
-/
import Derived.WalkKit
import Derived.ScopeJumps
import Derived.Lib.Varint
import Derived.Lib.VarintMem
import Derived.Lib.QuoteBits
import Derived.Test.YtchnklekeinhiaaGreatRows
import Derived.WalkSpells
import Derived.WalkLawsBesides
import Derived.Lib.Hide
import Derived.Lib.SmallJoins
import Derived.Lib.SlBytesRow
import Derived.Lib.BufferRead
import Derived.Lib.IndexBytes
import Derived.Deep.QuietTactic
import Derived.BigQuiet
import Derived.Laws.ResultCell
import Derived.Lib.AppendStr
namespace Go.Proofs.YtchnklekeinhiaaGreat
open Go.RowKit

theorem wp_scope_head {P : Program} {a : Act} {w : World} {Q : Exit → Act → World → Prop} {c X : Code} (l : Nat) (J : Act → World → Prop) (μ : Act → World → Nat) (hf : findLabel c l = some (.seq .skip X))
    (a₁ : Act) (w₁ : World) (hJ : J a₁ w₁) (first : ∀ Q', X.wp P Q' a₁ w₁ → c.wp P Q' a w)
    (pass : ∀ a w, J a w → X.wp P (Exit.jump l (fun a' w' => J a' w' ∧ μ a' w' < μ a w) Q) a w) : (Code.scope c).wp P Q a w := by
  refine wp_scope_jumps l J μ hf (first _ (Code.wp_mono ?_ (pass a₁ w₁ hJ))) (fun a w h => wp_seq (wp_skip (pass a w h)))
  intro e a' w' h
  cases e <;> first | exact h | exact ⟨h.1, h.2.1⟩

def lev : List UInt8 → Nat
  | [] => 0
  | d :: r => d.toNat % 128 + 128 * lev r

theorem lev_snoc (l : List UInt8) (d : UInt8) : lev (l ++ [d]) = lev l + d.toNat % 128 * 128 ^ l.length := by
  induction l with
  | nil => simp [lev]
  | cons x r ih =>
    simp only [List.cons_append, lev, ih, List.length_cons, Nat.pow_succ]
    rw [Nat.mul_add, ← Nat.add_assoc]
    congr 1
    rw [Nat.mul_comm (128 ^ r.length) 128, Nat.mul_left_comm]

theorem lev_lt (l : List UInt8) : lev l < 128 ^ l.length := by
  induction l with
  | nil => simp [lev]
  | cons x r ih =>
    simp only [lev, List.length_cons, Nat.pow_succ]
    have : x.toNat % 128 < 128 := Nat.mod_lt _ (by omega)
    omega

def run : List UInt8 → Nat
  | [] => 0
  | d :: r => if 128 ≤ d.toNat then run r + 1 else 0

theorem run_le (l : List UInt8) : run l ≤ l.length := by
  induction l with
  | nil => simp [run]
  | cons d r ih => simp only [run]; split <;> simp <;> omega

theorem run_at (l : List UInt8) : ∀ k, k < run l → ∃ h : k < l.length, 128 ≤ l[k].toNat := by
  induction l with
  | nil => intro k hk; simp [run] at hk
  | cons d r ih =>
    intro k hk
    by_cases hd : 128 ≤ d.toNat
    · rw [run, if_pos hd] at hk
      cases k with
      | zero => exact ⟨by simp, hd⟩
      | succ k => obtain ⟨h1, h2⟩ := ih k (by omega); exact ⟨by simp; omega, h2⟩
    · rw [run, if_neg hd] at hk; omega

theorem run_end (l : List UInt8) (h : run l < l.length) : l[run l].toNat < 128 := by
  induction l with
  | nil => simp at h
  | cons d r ih =>
    by_cases hd : 128 ≤ d.toNat
    · have e : run (d :: r) = run r + 1 := by rw [run, if_pos hd]
      simp only [e, List.length_cons] at h ⊢
      simpa using ih (by omega)
    · have e : run (d :: r) = 0 := by rw [run, if_neg hd]
      simp only [e]
      simpa using hd

theorem run_of (l : List UInt8) (k : Nat) (hk : k < l.length) (h1 : ∀ j (h : j < l.length), j < k → 128 ≤ l[j].toNat) (h2 : l[k].toNat < 128) : run l = k := by
  rcases Nat.lt_trichotomy (run l) k with h | h | h
  · have h3 := run_end l (by omega)
    have h4 := h1 (run l) (by omega) h
    omega
  · exact h
  · obtain ⟨_, h4⟩ := run_at l k h
    omega

theorem run_all (l : List UInt8) (h1 : ∀ j (h : j < l.length), 128 ≤ l[j].toNat) : run l = l.length := by
  rcases Nat.lt_or_ge (run l) l.length with h | h
  · have h3 := run_end l h
    have h4 := h1 (run l) h
    omega
  · have := run_le l; omega

/-- what stands at the beginning, as a number: the number, its bytes' count, the error -/
def numR (l : List UInt8) : Nat × Nat × Int :=
  if run l = l.length then (0, 0, 4)
  else if 8 < run l + 1 ∨ 9007199254740992 < lev (l.take (run l + 1)) then (0, 0, 2)
  else if l.getD (run l) 0 = 0 ∧ 0 < run l then (0, 0, 5)
  else (lev (l.take (run l + 1)), run l + 1, 0)

theorem numR_ok {l : List UInt8} (h : (numR l).2.2 = 0) : (numR l).2.1 ≤ l.length ∧ 1 ≤ (numR l).2.1 ∧ (numR l).1 ≤ 9007199254740992 := by
  have h0 := run_le l
  unfold numR at h ⊢
  split at h
  · simp at h
  · split at h
    · simp at h
    · split at h
      · simp at h
      · rename_i a b c
        rw [if_neg a, if_neg b, if_neg c]
        simp only
        omega

theorem pow128 (k : Nat) : 2 ^ (7 * k) = 128 ^ k := by rw [Nat.pow_mul]

/-- one digit more -/
theorem or_step (n k d : Nat) (hk : k < 8) (hn : n < 128 ^ k) (hd : d < 128) : bits .or .i64 (n : Int) (wrap64 ((d : Int) * 2 ^ (7 * k))) = ((n + d * 128 ^ k : Nat) : Int) := by
  have h8 : 128 ^ k * 128 ≤ 72057594037927936 := by
    rw [← Nat.pow_succ]
    exact Nat.le_trans (Nat.pow_le_pow_right (by omega) (show k + 1 ≤ 8 by omega)) (by decide)
  have hm : d * 128 ^ k ≤ 127 * 128 ^ k := Nat.mul_le_mul_right _ (by omega)
  have e1 : (d : Int) * 2 ^ (7 * k) = ((d * 128 ^ k : Nat) : Int) := by
    rw [← pow128]; simp
  rw [e1]
  have e2 : wrap64 ((d * 128 ^ k : Nat) : Int) = ((d * 128 ^ k : Nat) : Int) := by unfold wrap64; omega
  rw [e2]
  have e3 : n ||| d * 128 ^ k = n + d * 128 ^ k := by
    rw [Nat.or_comm, ← pow128, ← Nat.shiftLeft_eq, ← Nat.shiftLeft_add_eq_or_of_lt (by rw [pow128]; exact hn), Nat.add_comm]
  show IntKind.i64.wrap ((BitVec.ofInt 64 (n : Int) ||| BitVec.ofInt 64 ((d * 128 ^ k : Nat) : Int)).toNat : Int) = _
  rw [BitVec.toNat_or, ofInt_u64 n (by omega), ofInt_u64 (d * 128 ^ k) (by omega), e3]
  exact Lib.wrap_i64_small _ (by omega)

/-! A reader's state: what is left, and the first error. -/

def sNum (st : ByteArray × Int) : Nat × (ByteArray × Int) :=
  if st.2 ≠ 0 then (0, st)
  else if (numR st.1.data.toList).2.2 = 0 then ((numR st.1.data.toList).1, (st.1.extract (numR st.1.data.toList).2.1 st.1.size, 0))
  else (0, (st.1, (numR st.1.data.toList).2.2))

def sCount (limit : Nat) (st : ByteArray × Int) : Nat × Bool × (ByteArray × Int) :=
  if (sNum st).2.2 ≠ 0 then (0, false, (sNum st).2)
  else if limit < (sNum st).1 then (0, false, ((sNum st).2.1, 3))
  else ((sNum st).1, true, (sNum st).2)

def sText (st : ByteArray × Int) : ByteArray × (ByteArray × Int) :=
  if (sCount 65536 st).2.1 = false then (ByteArray.empty, (sCount 65536 st).2.2)
  else if (sCount 65536 st).2.2.1.size < (sCount 65536 st).1 then (ByteArray.empty, ((sCount 65536 st).2.2.1, 4))
  else ((sCount 65536 st).2.2.1.extract 0 (sCount 65536 st).1, ((sCount 65536 st).2.2.1.extract (sCount 65536 st).1 (sCount 65536 st).2.2.1.size, 0))

def sTexts : Nat → (ByteArray × Int) → List ByteArray → List ByteArray × (ByteArray × Int)
  | 0, st, acc => (acc, st)
  | k + 1, st, acc => if (sText st).2.2 ≠ 0 then ([], (sText st).2) else sTexts k (sText st).2 (acc ++ [(sText st).1])

def sList (st : ByteArray × Int) : List ByteArray × (ByteArray × Int) :=
  if (sCount 4096 st).2.1 = false then ([], (sCount 4096 st).2.2)
  else sTexts (sCount 4096 st).1 (sCount 4096 st).2.2 []

theorem extract_size_le (s : ByteArray) (a b : Nat) : (s.extract a b).size ≤ s.size := by
  rw [ByteArray.size_extract]; omega

theorem sNum_size (st : ByteArray × Int) : (sNum st).2.1.size ≤ st.1.size := by
  unfold sNum
  split
  · exact Nat.le_refl _
  · split
    · exact extract_size_le _ _ _
    · exact Nat.le_refl _
theorem sCount_size (n : Nat) (st : ByteArray × Int) : (sCount n st).2.2.1.size ≤ st.1.size := by
  have h := sNum_size st
  unfold sCount
  split
  · exact h
  · split <;> exact h
theorem sText_size (st : ByteArray × Int) : (sText st).2.1.size ≤ st.1.size := by
  have h := sCount_size 65536 st
  unfold sText
  split
  · exact h
  · split
    · exact h
    · exact Nat.le_trans (extract_size_le _ _ _) h
theorem sTexts_size (k : Nat) : ∀ (st : ByteArray × Int) (acc : List ByteArray), (sTexts k st acc).2.1.size ≤ st.1.size := by
  induction k with
  | zero => intro st acc; exact Nat.le_refl _
  | succ k ih =>
    intro st acc
    have h := sText_size st
    unfold sTexts
    split
    · exact h
    · exact Nat.le_trans (ih _ _) h
theorem sList_size (st : ByteArray × Int) : (sList st).2.1.size ≤ st.1.size := by
  have h := sCount_size 4096 st
  unfold sList
  split
  · exact h
  · exact Nat.le_trans (sTexts_size _ _ _) h
end Go.Proofs.YtchnklekeinhiaaGreat

namespace Go.Proofs.YtchnklekeinhiaaGreat
open Go.RowKit

theorem bytesInfo : (Tryz.prog.info? 5).map (fun i => (i.zero, i.size, i.bytes)) = some (some (.int .u8 0), 1, 1) := by kernel_rfl

/-- The slice v is the call's own, and holds the bytes l. -/
def OwnB (B : Nat) (v : Value) (l : List UInt8) (w : World) : Prop := w.ownsRow B 5 1 v l.length (Lib.byteCells l)

theorem ownB_nil (B : Nat) (w : World) : OwnB B (.slice none 0 0) [] w := World.ownsRow_nil _ _ _ _

theorem ownB_more {w : World} {B a : Nat} {v : Value} {l : List UInt8} {i : Int} (ha : a < 256) (hi : i = (a : Int)) (h : w.ownsRow B 5 1 v (l.length + 1) (Lib.byteCells l ++ [Value.int .u8 i])) : OwnB B v (l ++ [UInt8.ofNat a]) w := by
  have e : UInt8.ofNat a = a.toUInt8 := rfl
  unfold OwnB
  rw [e, Lib.byteCells_snoc l ha, List.length_append, List.length_singleton, ← hi]
  exact h

theorem own_string {P : Program} {w : World} {B e : Nat} {src dst : TypeId} {v : Value} {l : List UInt8} (hs : P.underlying src = some (.slice e)) (he : P.underlying e = some (.int .u8)) (hd : P.underlying dst = some .string)
    (h : w.ownsRow B e 1 v l.length (Lib.byteCells l)) : (convert src dst v).run P w = .ok (.string ⟨l.toArray⟩) w := by
  obtain ⟨hl, hv⟩ := h
  rcases hv with ⟨rfl, h0⟩ | ⟨g, cap, cur, rfl, _, hg, hn, _, _, htk⟩
  · obtain rfl : l = [] := List.length_eq_zero_iff.1 h0
    exact Lib.run_convert_nil_bytes w src dst e 0 hs he hd
  · have hc : Lib.Bytes w g 0 ⟨l.toArray⟩ := by
      intro i hi
      have hi' : i < l.length := hi
      have h2 := Lib.bytes_of_row (l := l) hg (by simpa using htk) i hi'
      have e1 : (⟨g, 0, none⟩ : Addr).add i = ⟨g, 0 + i, none⟩ := by cases i <;> simp [Addr.add]
      rw [e1] at h2
      exact h2
    exact Lib.run_convert_whole (P := P) w src e dst hs he hd g 0 ⟨l.toArray⟩ hc cap

theorem own_text {w : World} {B : Nat} {v : Value} {l : List UInt8} (h : OwnB B v l w) : (convert 107 9 v).run Tryz.prog w = .ok (.string ⟨l.toArray⟩) w := by
  obtain ⟨hl, hv⟩ := h
  rcases hv with ⟨rfl, h0⟩ | ⟨g, cap, cur, rfl, _, hg, hn, _, _, htk⟩
  · obtain rfl : l = [] := List.length_eq_zero_iff.1 h0
    exact Lib.run_convert_nil_bytes w 107 9 5 0 Tryz.underlying107 Tryz.underlying5 Tryz.underlying9
  · have hc : Lib.Bytes w g 0 ⟨l.toArray⟩ := by
      intro i hi
      have hi' : i < l.length := hi
      have h2 := Lib.bytes_of_row (l := l) hg (by simpa using htk) i hi'
      have e1 : (⟨g, 0, none⟩ : Addr).add i = ⟨g, 0 + i, none⟩ := by cases i <;> simp [Addr.add]
      rw [e1] at h2
      exact h2
    exact Lib.run_convert_whole (P := Tryz.prog) w 107 5 9 Tryz.underlying107 Tryz.underlying5 Tryz.underlying9 g 0 ⟨l.toArray⟩ hc cap

set_option maxRecDepth 100000 in
/-- a new row of c bytes 0, the first of them n -/
theorem make_bytes (n c : Nat) (L C : Int) (hL : L = (n : Int)) (hC : C = (c : Int)) (hnc : n ≤ c) (hc : c ≤ 65536) (W : World) :
    (Instr.makeSlice 107 (.int .i64 L) (.int .i64 C)).run Tryz.prog W = .ok (.slice (some ⟨W.heap.size, 0, none⟩) n c) (W.alloc (.cells (List.replicate c (Value.int .u8 0)).toArray 5)) := by
  obtain ⟨i0, hi, hz0, hz1, hz2⟩ := info_parts bytesInfo
  subst hL hC
  have h := run_make (P := Tryz.prog) (w := W) 107 5 i0 (.int .u8 0) Tryz.underlying107 hi hz0 .i64 .i64 (n : Int) (c : Int) (by omega) (by omega) (by rw [hz2]; omega) (by omega)
  rw [h, hz1]
  congr 3
  apply Array.ext_getElem?
  intro j
  simp [madeCells]
  by_cases hj : j < c
  · simp [hj, Value.cells, Nat.mod_one]
  · simp [hj]

theorem own_made (W : World) (z c : Nat) (hz : z + 1 ≤ c) (hc : c ≤ 65536) (a : Nat) (ha : a < 256) :
    OwnB W.heap.size (.slice (some ⟨W.heap.size, 0, none⟩) (z + 1) c) (UInt8.ofNat a :: List.replicate z 0) (W.alloc (.cells ((List.replicate c (Value.int .u8 0)).toArray.setIfInBounds 0 (.int .u8 (a : Int))) 5)) := by
  refine ⟨by simp [Lib.byteCells], .inr ⟨_, c, _, by simp, Nat.le_refl _, heap_alloc_new W _, by simpa using hz, by unfold maxLen; omega, by simp, ?_⟩⟩
  have e : ((List.replicate c (Value.int .u8 0)).toArray.setIfInBounds 0 (.int .u8 (a : Int))).toList = Value.int .u8 (a : Int) :: List.replicate (c - 1) (Value.int .u8 0) := by
    obtain ⟨d, rfl⟩ : ∃ d, c = d + 1 := ⟨c - 1, by omega⟩
    simp [List.replicate_succ]
  rw [e]
  have e2 : (UInt8.ofNat a :: List.replicate z (0 : UInt8)).length * 1 = z + 1 := by simp
  rw [e2, List.take_succ_cons, List.take_replicate, show min z (c - 1) = z from by omega]
  have e3 : (UInt8.ofNat a).toNat = a := by simp; omega
  simp [Lib.byteCells, e3]

/-- a callee that leaves the world alone, met in a region that only reads: at its first draws, and behind others -/
theorem still1 {f : FuncId} {args : Array Value} {w : World} {n : Nat} {v : Value} (h : Calls Tryz.prog f args (w.drewN n) fun e w' => e = .returned v ∧ w.drewN n = w') :
    Calls Tryz.prog f args (w.drewN n) fun e w' => e = .returned v ∧ ∃ m, w' = w.drewN m := h.mono fun _ _ hh => ⟨hh.1, n, hh.2.symm⟩

theorem still2 {f : FuncId} {args : Array Value} {w : World} {k n : Nat} {v : Value} (h : Calls Tryz.prog f args (w.drewN (k + n)) fun e w' => e = .returned v ∧ w.drewN (k + n) = w') :
    Calls Tryz.prog f args (w.drewN (k + n)) fun e w' => e = .returned v ∧ ∃ m, w' = w.drewN (k + m) := h.mono fun _ _ hh => ⟨hh.1, n, hh.2.symm⟩

theorem belowN {B : Nat} {a w : World} (h : Below B a w) (n : Nat) : Below B a (w.drewN n) := ⟨h.os, h.tape, h.output, h.size, h.block⟩

theorem drop_str (t : ByteArray) (k : Nat) : (t.extract k t.size).data.toList = t.data.toList.drop k := Lib.extract_to_end t k

theorem undrew {B : Nat} {w w1 : World} (h : Below B w.drew w1) : Below B w w1 := ⟨h.os, h.tape, h.output, h.size, h.block⟩

theorem ownB_form {B : Nat} {v : Value} {l : List UInt8} {w : World} (h : OwnB B v l w) (hl : 0 < l.length) : ∃ g cap, v = .slice (some ⟨g, 0, none⟩) l.length cap := Joins.ownsRow_form h hl

def lenOf : Value → Nat | .slice _ l _ => l | _ => 0

theorem belowRow {B : Nat} {a w : World} (h : Below B a w) {g : Nat} (hg : B ≤ g) (c : Array Value) : Below B a (w.setRow g c) :=
  h.trans ⟨rfl, rfl, rfl, by simp, fun k hk => setRow_other w g k c (by omega)⟩

/-- The slice's elements are the texts ss. -/
def StrRow (w : World) (a : Option Addr) (ss : List ByteArray) : Prop :=
  ss = [] ∨ ∃ b off, a = some ⟨b, off, none⟩ ∧ b < w.heap.size ∧ ∀ j, j < ss.length → w.cell? ⟨b, off + j, none⟩ = some (.string (ss.getD j ByteArray.empty))

theorem StrRow.below {w w' : World} {a : Option Addr} {ss : List ByteArray} (h : StrRow w a ss) (hb : Below w.heap.size w w') : StrRow w' a ss := by
  rcases h with h | ⟨b, off, rfl, hlt, hc⟩
  · exact .inl h
  · exact .inr ⟨b, off, rfl, Nat.lt_of_lt_of_le hlt hb.size, fun j hj => by rw [hb.cell (p := ⟨b, off + j, none⟩) hlt]; exact hc j hj⟩
end Go.Proofs.YtchnklekeinhiaaGreat

namespace Go.Proofs.YtchnklekeinhiaaGreat
open Go.RowKit



def encTexts : List ByteArray → List UInt8
  | [] => []
  | s :: r => Lib.uvarint s.size ++ s.data.toList ++ encTexts r

theorem encTexts_append (a b : List ByteArray) : encTexts (a ++ b) = encTexts a ++ encTexts b := by
  induction a with
  | nil => rfl
  | cons s r ih => simp [encTexts, ih]

theorem encTexts_take (ss : List ByteArray) (k : Nat) (hk : k < ss.length) : encTexts (ss.take (k + 1)) = encTexts (ss.take k) ++ (Lib.uvarint (ss.getD k ByteArray.empty).size ++ (ss.getD k ByteArray.empty).data.toList) := by
  rw [List.take_add_one, List.getElem?_eq_getElem hk, encTexts_append]
  simp [encTexts, List.getD, hk]

theorem encTexts_len (ss : List ByteArray) (h : ∀ s ∈ ss, s.size ≤ 65536) : (encTexts ss).length ≤ ss.length * 65546 := by
  induction ss with
  | nil => simp [encTexts]
  | cons s r ih =>
    have h1 := h s (List.mem_cons_self ..)
    have h2 := ih (fun x hx => h x (List.mem_cons_of_mem _ hx))
    have h3 := Lib.uvarint_length64 (x := s.size) (by omega)
    have h4 : s.data.toList.length = s.size := by simp
    simp only [encTexts, List.length_append, List.length_cons, h4]
    omega

/-- what wire.List answers of texts of which there are not too many -/
def ListEnd (ss : List ByteArray) (e : Ending) : Prop :=
  ((∃ s ∈ ss, 65536 < s.size) ∧ e = .returned (.tuple #[.string ⟨#[]⟩, .int .i64 3])) ∨
  ((∀ s ∈ ss, s.size ≤ 65536) ∧ e = .returned (.tuple #[.string ⟨(Lib.uvarint ss.length ++ encTexts ss).toArray⟩, .int .i64 0]))

end Go.Proofs.YtchnklekeinhiaaGreat

namespace Go.Proofs.YtchnklekeinhiaaGreat

theorem run_big (d : UInt8) (r : List UInt8) (h : 128 ≤ d.toNat) : run (d :: r) = run r + 1 := by rw [run, if_pos h]
theorem run_small (d : UInt8) (r : List UInt8) (h : d.toNat < 128) : run (d :: r) = 0 := by rw [run, if_neg (by omega)]

theorem run_uv : ∀ n (r : List UInt8), run (Lib.uvarint n ++ r) + 1 = (Lib.uvarint n).length := by
  intro n
  induction n using Nat.strongRecOn with
  | _ n ih =>
    intro r
    by_cases h : n < 128
    · rw [Lib.uvarint_small h, List.singleton_append, run_small _ _ (by rw [Lib.toUInt8_toNat (by omega)]; exact h)]; rfl
    · rw [Lib.uvarint_big (x := n) (by omega), List.cons_append, run_big _ _ (by rw [Lib.toUInt8_toNat (by omega)]; omega), ih (n / 128) (by omega), List.length_cons]

theorem lev_uv : ∀ n, lev (Lib.uvarint n) = n := by
  intro n
  induction n using Nat.strongRecOn with
  | _ n ih =>
    by_cases h : n < 128
    · rw [Lib.uvarint_small h]; simp only [lev]; rw [Lib.toUInt8_toNat (by omega)]; omega
    · rw [Lib.uvarint_big (x := n) (by omega)]; simp only [lev]; rw [ih (n / 128) (by omega), Lib.toUInt8_toNat (by omega)]; omega

theorem last_uv : ∀ n (r : List UInt8), 1 ≤ n → (Lib.uvarint n ++ r).getD (run (Lib.uvarint n ++ r)) 0 ≠ 0 := by
  intro n
  induction n using Nat.strongRecOn with
  | _ n ih =>
    intro r hn
    by_cases h : n < 128
    · rw [Lib.uvarint_small h, List.singleton_append, run_small _ _ (by rw [Lib.toUInt8_toNat (by omega)]; exact h)]
      intro e
      have h2 : (n.toUInt8 : UInt8) = 0 := by simpa using e
      have := congrArg UInt8.toNat h2
      rw [Lib.toUInt8_toNat (by omega)] at this
      simp at this; omega
    · rw [Lib.uvarint_big (x := n) (by omega), List.cons_append, run_big _ _ (by rw [Lib.toUInt8_toNat (by omega)]; omega)]
      have := ih (n / 128) (by omega) r (by omega)
      simpa using this

theorem uv_len8 (n : Nat) (hn : n ≤ 9007199254740992) : (Lib.uvarint n).length ≤ 8 := Lib.uvarint_length 7 n (by omega)

theorem numR_uv (n : Nat) (hn : n ≤ 9007199254740992) (r : List UInt8) : numR (Lib.uvarint n ++ r) = (n, (Lib.uvarint n).length, 0) := by
  have h1 := run_uv n r
  have h2 := uv_len8 n hn
  have h3 : (Lib.uvarint n ++ r).take (run (Lib.uvarint n ++ r) + 1) = Lib.uvarint n := by rw [h1]; simp
  have h4 : lev ((Lib.uvarint n ++ r).take (run (Lib.uvarint n ++ r) + 1)) = n := by rw [h3, lev_uv]
  unfold numR
  rw [if_neg (by rw [List.length_append]; omega), h4, if_neg (by omega)]
  by_cases h5 : n < 128
  · rw [if_neg (by rw [Lib.uvarint_small h5] at h1 ⊢; simp at h1; simp [h1]), h1]
  · rw [if_neg (fun h => last_uv n r (by omega) h.1), h1]

theorem extract_list (a : List UInt8) (i : Nat) : (⟨a.toArray⟩ : ByteArray).extract i (⟨a.toArray⟩ : ByteArray).size = ⟨(a.drop i).toArray⟩ := by
  apply ByteArray.ext
  apply Array.toList_inj.1
  rw [Lib.extract_data]
  show (a.drop i).take (a.length - i) = a.drop i
  exact List.take_of_length_le (by simp)
theorem extract_list0 (a : List UInt8) (n : Nat) : (⟨a.toArray⟩ : ByteArray).extract 0 n = ⟨(a.take n).toArray⟩ := by
  apply ByteArray.ext
  apply Array.toList_inj.1
  rw [Lib.extract_data]
  simp

theorem sNum_uv (n : Nat) (hn : n ≤ 9007199254740992) (r : List UInt8) : sNum (⟨(Lib.uvarint n ++ r).toArray⟩, 0) = (n, (⟨r.toArray⟩, 0)) := by
  have h := numR_uv n hn r
  unfold sNum
  simp only [h]
  rw [extract_list]
  simp

theorem sText_enc (s : ByteArray) (hs : s.size ≤ 65536) (r : List UInt8) : sText (⟨(Lib.uvarint s.size ++ s.data.toList ++ r).toArray⟩, 0) = (s, (⟨r.toArray⟩, 0)) := by
  have h := sNum_uv s.size (by omega) (s.data.toList ++ r)
  rw [← List.append_assoc] at h
  have hc : sCount 65536 (⟨(Lib.uvarint s.size ++ s.data.toList ++ r).toArray⟩, 0) = (s.size, true, (⟨(s.data.toList ++ r).toArray⟩, 0)) := by
    unfold sCount
    rw [h]
    simp only
    rw [if_neg (by simp), if_neg (by omega)]
  have hl : s.data.toList.length = s.size := by simp
  have hz : (ByteArray.mk (s.data.toList ++ r).toArray).size = s.size + r.length := by
    show (s.data.toList ++ r).length = _
    rw [List.length_append, hl]
  unfold sText
  rw [hc]
  simp only
  rw [if_neg (by simp), if_neg (by omega), extract_list, extract_list0]
  have e1 : (s.data.toList ++ r).take s.size = s.data.toList := by rw [← hl]; exact List.take_left
  have e2 : (s.data.toList ++ r).drop s.size = r := by rw [← hl]; exact List.drop_left
  rw [e1, e2]

theorem sTexts_enc : ∀ (ss : List ByteArray) (r : List UInt8) (acc : List ByteArray), (∀ s ∈ ss, s.size ≤ 65536) → sTexts ss.length (⟨(encTexts ss ++ r).toArray⟩, 0) acc = (acc ++ ss, (⟨r.toArray⟩, 0)) := by
  intro ss
  induction ss with
  | nil => intro r acc _; simp [sTexts, encTexts]
  | cons s t ih =>
    intro r acc h
    have h1 := sText_enc s (h s (List.mem_cons_self ..)) (encTexts t ++ r)
    have e : encTexts (s :: t) ++ r = Lib.uvarint s.size ++ s.data.toList ++ (encTexts t ++ r) := by simp [encTexts]
    rw [List.length_cons, sTexts, e, h1]
    simp only
    rw [if_neg (by simp), ih r _ (fun x hx => h x (List.mem_cons_of_mem _ hx))]
    simp

theorem sList_enc (ss : List ByteArray) (hl : ss.length ≤ 4096) (h : ∀ s ∈ ss, s.size ≤ 65536) (r : List UInt8) : sList (⟨(Lib.uvarint ss.length ++ encTexts ss ++ r).toArray⟩, 0) = (ss, (⟨r.toArray⟩, 0)) := by
  have h0 := sNum_uv ss.length (by omega) (encTexts ss ++ r)
  rw [← List.append_assoc] at h0
  have hc : sCount 4096 (⟨(Lib.uvarint ss.length ++ encTexts ss ++ r).toArray⟩, 0) = (ss.length, true, (⟨(encTexts ss ++ r).toArray⟩, 0)) := by
    unfold sCount
    rw [h0]
    simp only
    rw [if_neg (by simp), if_neg (by omega)]
  unfold sList
  rw [hc]
  simp only
  rw [if_neg (by simp), sTexts_enc ss r [] h]
  simp

end Go.Proofs.YtchnklekeinhiaaGreat
