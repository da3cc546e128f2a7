/-
  Plain facts on digits of seven bits; nothing of the program. And a law for a label at the head of what is jumped over.
  Plain facts on a number's bytes: as many as needed, and none begins as another one is. Nothing of the program.
  What the walks of all stages share: rows of bytes that a call owns, texts made of them, worlds that only draws have moved.
  wire.appendNum and wire.Num: what each call answers, and what becomes of memory.
  Small laws that wire's walks share: a row of bytes that the call owns, turned into a text.
-/
import Derived.WalkKit
import Derived.ScopeJumps
import Derived.Lib.Varint
import Derived.Lib.VarintMem
import Derived.Lib.QuoteBits
import Derived.Test.YtcedliaeipabnaaGreatRows
import Derived.WalkSpells
import Derived.WalkLawsBesides
import Derived.Lib.Hide
import Derived.Lib.SmallJoins
import Derived.Lib.SlBytesRow
import Derived.Lib.BufferRead
import Derived.Lib.IndexBytes
import Derived.Deep.QuietTactic
import Derived.BigQuiet
import Derived.Laws.ResultCell
namespace Go.Proofs.YtcedliaeipabnaaGreat
open Go.RowKit

theorem wp_scope_head {P : Program} {a : Act} {w : World} {Q : Exit → Act → World → Prop} {c X : Code} (l : Nat) (J : Act → World → Prop) (μ : Act → World → Nat) (hf : findLabel c l = some (.seq .skip X))
    (a₁ : Act) (w₁ : World) (hJ : J a₁ w₁) (first : ∀ Q', X.wp P Q' a₁ w₁ → c.wp P Q' a w)
    (pass : ∀ a w, J a w → X.wp P (Exit.jump l (fun a' w' => J a' w' ∧ μ a' w' < μ a w) Q) a w) : (Code.scope c).wp P Q a w := by
  refine wp_scope_jumps l J μ hf (first _ (Code.wp_mono ?_ (pass a₁ w₁ hJ))) (fun a w h => wp_seq (wp_skip (pass a w h)))
  intro e a' w' h
  cases e <;> first | exact h | exact ⟨h.1, h.2.1⟩

def lev : List UInt8 → Nat
  | [] => 0
  | d :: r => d.toNat % 128 + 128 * lev r

theorem lev_snoc (l : List UInt8) (d : UInt8) : lev (l ++ [d]) = lev l + d.toNat % 128 * 128 ^ l.length := by
  induction l with
  | nil => simp [lev]
  | cons x r ih =>
    simp only [List.cons_append, lev, ih, List.length_cons, Nat.pow_succ]
    rw [Nat.mul_add, ← Nat.add_assoc]
    congr 1
    rw [Nat.mul_comm (128 ^ r.length) 128, Nat.mul_left_comm]

theorem lev_lt (l : List UInt8) : lev l < 128 ^ l.length := by
  induction l with
  | nil => simp [lev]
  | cons x r ih =>
    simp only [lev, List.length_cons, Nat.pow_succ]
    have : x.toNat % 128 < 128 := Nat.mod_lt _ (by omega)
    omega

def run : List UInt8 → Nat
  | [] => 0
  | d :: r => if 128 ≤ d.toNat then run r + 1 else 0

theorem run_le (l : List UInt8) : run l ≤ l.length := by
  induction l with
  | nil => simp [run]
  | cons d r ih => simp only [run]; split <;> simp <;> omega

theorem run_at (l : List UInt8) : ∀ k, k < run l → ∃ h : k < l.length, 128 ≤ l[k].toNat := by
  induction l with
  | nil => intro k hk; simp [run] at hk
  | cons d r ih =>
    intro k hk
    by_cases hd : 128 ≤ d.toNat
    · rw [run, if_pos hd] at hk
      cases k with
      | zero => exact ⟨by simp, hd⟩
      | succ k => obtain ⟨h1, h2⟩ := ih k (by omega); exact ⟨by simp; omega, h2⟩
    · rw [run, if_neg hd] at hk; omega

theorem run_end (l : List UInt8) (h : run l < l.length) : l[run l].toNat < 128 := by
  induction l with
  | nil => simp at h
  | cons d r ih =>
    by_cases hd : 128 ≤ d.toNat
    · have e : run (d :: r) = run r + 1 := by rw [run, if_pos hd]
      simp only [e, List.length_cons] at h ⊢
      simpa using ih (by omega)
    · have e : run (d :: r) = 0 := by rw [run, if_neg hd]
      simp only [e]
      simpa using hd

theorem run_of (l : List UInt8) (k : Nat) (hk : k < l.length) (h1 : ∀ j (h : j < l.length), j < k → 128 ≤ l[j].toNat) (h2 : l[k].toNat < 128) : run l = k := by
  rcases Nat.lt_trichotomy (run l) k with h | h | h
  · have h3 := run_end l (by omega)
    have h4 := h1 (run l) (by omega) h
    omega
  · exact h
  · obtain ⟨_, h4⟩ := run_at l k h
    omega

theorem run_all (l : List UInt8) (h1 : ∀ j (h : j < l.length), 128 ≤ l[j].toNat) : run l = l.length := by
  rcases Nat.lt_or_ge (run l) l.length with h | h
  · have h3 := run_end l h
    have h4 := h1 (run l) h
    omega
  · have := run_le l; omega

/-- what stands at the beginning, as a number: the number, its bytes' count, the error -/
def numR (l : List UInt8) : Nat × Nat × Int :=
  if run l = l.length then (0, 0, 4)
  else if 8 < run l + 1 ∨ 9007199254740992 < lev (l.take (run l + 1)) then (0, 0, 2)
  else if l.getD (run l) 0 = 0 ∧ 0 < run l then (0, 0, 5)
  else (lev (l.take (run l + 1)), run l + 1, 0)

theorem numR_ok {l : List UInt8} (h : (numR l).2.2 = 0) : (numR l).2.1 ≤ l.length ∧ 1 ≤ (numR l).2.1 ∧ (numR l).1 ≤ 9007199254740992 := by
  have h0 := run_le l
  unfold numR at h ⊢
  split at h
  · simp at h
  · split at h
    · simp at h
    · split at h
      · simp at h
      · rename_i a b c
        rw [if_neg a, if_neg b, if_neg c]
        simp only
        omega

theorem numR_err {l : List UInt8} (h : (numR l).2.2 ≠ 0) : (numR l).1 = 0 ∧ (numR l).2.1 = 0 := by
  unfold numR at h ⊢
  split
  · simp
  · split
    · simp
    · split
      · simp
      · rename_i a b c
        rw [if_neg a, if_neg b, if_neg c] at h
        simp at h

theorem pow128 (k : Nat) : 2 ^ (7 * k) = 128 ^ k := by rw [Nat.pow_mul]

/-- one digit more -/
theorem or_step (n k d : Nat) (hk : k < 8) (hn : n < 128 ^ k) (hd : d < 128) : bits .or .i64 (n : Int) (wrap64 ((d : Int) * 2 ^ (7 * k))) = ((n + d * 128 ^ k : Nat) : Int) := by
  have h8 : 128 ^ k * 128 ≤ 72057594037927936 := by
    rw [← Nat.pow_succ]
    exact Nat.le_trans (Nat.pow_le_pow_right (by omega) (show k + 1 ≤ 8 by omega)) (by decide)
  have hm : d * 128 ^ k ≤ 127 * 128 ^ k := Nat.mul_le_mul_right _ (by omega)
  have e1 : (d : Int) * 2 ^ (7 * k) = ((d * 128 ^ k : Nat) : Int) := by
    rw [← pow128]; simp
  rw [e1]
  have e2 : wrap64 ((d * 128 ^ k : Nat) : Int) = ((d * 128 ^ k : Nat) : Int) := by unfold wrap64; omega
  rw [e2]
  have e3 : n ||| d * 128 ^ k = n + d * 128 ^ k := by
    rw [Nat.or_comm, ← pow128, ← Nat.shiftLeft_eq, ← Nat.shiftLeft_add_eq_or_of_lt (by rw [pow128]; exact hn), Nat.add_comm]
  show IntKind.i64.wrap ((BitVec.ofInt 64 (n : Int) ||| BitVec.ofInt 64 ((d * 128 ^ k : Nat) : Int)).toNat : Int) = _
  rw [BitVec.toNat_or, ofInt_u64 n (by omega), ofInt_u64 (d * 128 ^ k) (by omega), e3]
  exact Lib.wrap_i64_small _ (by omega)

/-! A reader's state: what is left, and the first error. -/

def sNum (st : ByteArray × Int) : Nat × (ByteArray × Int) :=
  if st.2 ≠ 0 then (0, st)
  else if (numR st.1.data.toList).2.2 = 0 then ((numR st.1.data.toList).1, (st.1.extract (numR st.1.data.toList).2.1 st.1.size, 0))
  else (0, (st.1, (numR st.1.data.toList).2.2))

def sCount (limit : Nat) (st : ByteArray × Int) : Nat × Bool × (ByteArray × Int) :=
  if (sNum st).2.2 ≠ 0 then (0, false, (sNum st).2)
  else if limit < (sNum st).1 then (0, false, ((sNum st).2.1, 3))
  else ((sNum st).1, true, (sNum st).2)

def sText (st : ByteArray × Int) : ByteArray × (ByteArray × Int) :=
  if (sCount 65536 st).2.1 = false then (ByteArray.empty, (sCount 65536 st).2.2)
  else if (sCount 65536 st).2.2.1.size < (sCount 65536 st).1 then (ByteArray.empty, ((sCount 65536 st).2.2.1, 4))
  else ((sCount 65536 st).2.2.1.extract 0 (sCount 65536 st).1, ((sCount 65536 st).2.2.1.extract (sCount 65536 st).1 (sCount 65536 st).2.2.1.size, 0))

def sTexts : Nat → (ByteArray × Int) → List ByteArray → List ByteArray × (ByteArray × Int)
  | 0, st, acc => (acc, st)
  | k + 1, st, acc => if (sText st).2.2 ≠ 0 then ([], (sText st).2) else sTexts k (sText st).2 (acc ++ [(sText st).1])

def sList (st : ByteArray × Int) : List ByteArray × (ByteArray × Int) :=
  if (sCount 4096 st).2.1 = false then ([], (sCount 4096 st).2.2)
  else sTexts (sCount 4096 st).1 (sCount 4096 st).2.2 []

theorem extract_size_le (s : ByteArray) (a b : Nat) : (s.extract a b).size ≤ s.size := by
  rw [ByteArray.size_extract]; omega

theorem sNum_size (st : ByteArray × Int) : (sNum st).2.1.size ≤ st.1.size := by
  unfold sNum
  split
  · exact Nat.le_refl _
  · split
    · exact extract_size_le _ _ _
    · exact Nat.le_refl _
theorem sCount_size (n : Nat) (st : ByteArray × Int) : (sCount n st).2.2.1.size ≤ st.1.size := by
  have h := sNum_size st
  unfold sCount
  split
  · exact h
  · split <;> exact h
theorem sText_size (st : ByteArray × Int) : (sText st).2.1.size ≤ st.1.size := by
  have h := sCount_size 65536 st
  unfold sText
  split
  · exact h
  · split
    · exact h
    · exact Nat.le_trans (extract_size_le _ _ _) h
theorem sTexts_size (k : Nat) : ∀ (st : ByteArray × Int) (acc : List ByteArray), (sTexts k st acc).2.1.size ≤ st.1.size := by
  induction k with
  | zero => intro st acc; exact Nat.le_refl _
  | succ k ih =>
    intro st acc
    have h := sText_size st
    unfold sTexts
    split
    · exact h
    · exact Nat.le_trans (ih _ _) h
theorem sList_size (st : ByteArray × Int) : (sList st).2.1.size ≤ st.1.size := by
  have h := sCount_size 4096 st
  unfold sList
  split
  · exact h
  · exact Nat.le_trans (sTexts_size _ _ _) h
end Go.Proofs.YtcedliaeipabnaaGreat

namespace Go.Proofs.YtcedliaeipabnaaGreat

theorem uv_mono : ∀ b a, a ≤ b → (Lib.uvarint a).length ≤ (Lib.uvarint b).length := by
  intro b
  induction b using Nat.strongRecOn with
  | _ b ih =>
    intro a hab
    by_cases ha : a < 128
    · rw [Lib.uvarint_small ha]; exact Lib.uvarint_pos b
    · rw [Lib.uvarint_big (x := a) (by omega), Lib.uvarint_big (x := b) (by omega)]
      simp only [List.length_cons]
      have := ih (b / 128) (by omega) (a / 128) (Nat.div_le_div_right hab)
      omega

theorem u8_inj {a b : Nat} (ha : a < 256) (hb : b < 256) (h : a.toUInt8 = b.toUInt8) : a = b := by
  have := congrArg UInt8.toNat h
  rw [Lib.toUInt8_toNat ha, Lib.toUInt8_toNat hb] at this
  exact this

theorem uv_inj : ∀ a b (r q : List UInt8), Lib.uvarint a ++ r = Lib.uvarint b ++ q → a = b ∧ r = q := by
  intro a
  induction a using Nat.strongRecOn with
  | _ a ih =>
    intro b r q h
    by_cases ha : a < 128
    · by_cases hb : b < 128
      · rw [Lib.uvarint_small ha, Lib.uvarint_small hb] at h
        simp only [List.singleton_append, List.cons.injEq] at h
        exact ⟨u8_inj (by omega) (by omega) h.1, h.2⟩
      · rw [Lib.uvarint_small ha, Lib.uvarint_big (x := b) (by omega)] at h
        simp only [List.cons_append, List.cons.injEq] at h
        have := u8_inj (by omega) (by omega) h.1
        omega
    · by_cases hb : b < 128
      · rw [Lib.uvarint_small hb, Lib.uvarint_big (x := a) (by omega)] at h
        simp only [List.cons_append, List.cons.injEq] at h
        have := u8_inj (by omega) (by omega) h.1
        omega
      · rw [Lib.uvarint_big (x := a) (by omega), Lib.uvarint_big (x := b) (by omega)] at h
        simp only [List.cons_append, List.cons.injEq] at h
        have h1 := u8_inj (by omega) (by omega) h.1
        have h2 := ih (a / 128) (by omega) (b / 128) r q h.2
        exact ⟨by have := h2.1; omega, h2.2⟩

theorem uv_eq {a b : Nat} (h : Lib.uvarint a = Lib.uvarint b) : a = b := (uv_inj a b [] [] (by rw [h])).1

/-- no number's bytes begin as another one's -/
theorem uv_prefix {a b : Nat} (h : (Lib.uvarint b).take (Lib.uvarint a).length = Lib.uvarint a) : a = b := by
  have := List.take_append_drop (Lib.uvarint a).length (Lib.uvarint b)
  rw [h] at this
  exact (uv_inj a b _ [] (by rw [this, List.append_nil])).1
end Go.Proofs.YtcedliaeipabnaaGreat

namespace Go.Proofs.YtcedliaeipabnaaGreat
open Go.RowKit

theorem bytesInfo : (Tryz.prog.info? 5).map (fun i => (i.zero, i.size, i.bytes)) = some (some (.int .u8 0), 1, 1) := by kernel_rfl

/-- The slice v is the call's own, and holds the bytes l. -/
def OwnB (B : Nat) (v : Value) (l : List UInt8) (w : World) : Prop := w.ownsRow B 5 1 v l.length (Lib.byteCells l)

theorem ownB_nil (B : Nat) (w : World) : OwnB B (.slice none 0 0) [] w := World.ownsRow_nil _ _ _ _

theorem ownB_more {w : World} {B a : Nat} {v : Value} {l : List UInt8} {i : Int} (ha : a < 256) (hi : i = (a : Int)) (h : w.ownsRow B 5 1 v (l.length + 1) (Lib.byteCells l ++ [Value.int .u8 i])) : OwnB B v (l ++ [UInt8.ofNat a]) w := by
  have e : UInt8.ofNat a = a.toUInt8 := rfl
  unfold OwnB
  rw [e, Lib.byteCells_snoc l ha, List.length_append, List.length_singleton, ← hi]
  exact h

theorem own_string {P : Program} {w : World} {B e : Nat} {src dst : TypeId} {v : Value} {l : List UInt8} (hs : P.underlying src = some (.slice e)) (he : P.underlying e = some (.int .u8)) (hd : P.underlying dst = some .string)
    (h : w.ownsRow B e 1 v l.length (Lib.byteCells l)) : (convert src dst v).run P w = .ok (.string ⟨l.toArray⟩) w := by
  obtain ⟨hl, hv⟩ := h
  rcases hv with ⟨rfl, h0⟩ | ⟨g, cap, cur, rfl, _, hg, hn, _, _, htk⟩
  · obtain rfl : l = [] := List.length_eq_zero_iff.1 h0
    exact Lib.run_convert_nil_bytes w src dst e 0 hs he hd
  · have hc : Lib.Bytes w g 0 ⟨l.toArray⟩ := by
      intro i hi
      have hi' : i < l.length := hi
      have h2 := Lib.bytes_of_row (l := l) hg (by simpa using htk) i hi'
      have e1 : (⟨g, 0, none⟩ : Addr).add i = ⟨g, 0 + i, none⟩ := by cases i <;> simp [Addr.add]
      rw [e1] at h2
      exact h2
    exact Lib.run_convert_whole (P := P) w src e dst hs he hd g 0 ⟨l.toArray⟩ hc cap

theorem own_text {w : World} {B : Nat} {v : Value} {l : List UInt8} (h : OwnB B v l w) : (convert 44 9 v).run Tryz.prog w = .ok (.string ⟨l.toArray⟩) w := by
  obtain ⟨hl, hv⟩ := h
  rcases hv with ⟨rfl, h0⟩ | ⟨g, cap, cur, rfl, _, hg, hn, _, _, htk⟩
  · obtain rfl : l = [] := List.length_eq_zero_iff.1 h0
    exact Lib.run_convert_nil_bytes w 44 9 5 0 Tryz.underlying44 Tryz.underlying5 Tryz.underlying9
  · have hc : Lib.Bytes w g 0 ⟨l.toArray⟩ := by
      intro i hi
      have hi' : i < l.length := hi
      have h2 := Lib.bytes_of_row (l := l) hg (by simpa using htk) i hi'
      have e1 : (⟨g, 0, none⟩ : Addr).add i = ⟨g, 0 + i, none⟩ := by cases i <;> simp [Addr.add]
      rw [e1] at h2
      exact h2
    exact Lib.run_convert_whole (P := Tryz.prog) w 44 5 9 Tryz.underlying44 Tryz.underlying5 Tryz.underlying9 g 0 ⟨l.toArray⟩ hc cap

set_option maxRecDepth 100000 in
/-- a new row of c bytes 0, the first of them n -/
theorem make_bytes (n c : Nat) (L C : Int) (hL : L = (n : Int)) (hC : C = (c : Int)) (hnc : n ≤ c) (hc : c ≤ 65536) (W : World) :
    (Instr.makeSlice 44 (.int .i64 L) (.int .i64 C)).run Tryz.prog W = .ok (.slice (some ⟨W.heap.size, 0, none⟩) n c) (W.alloc (.cells (List.replicate c (Value.int .u8 0)).toArray 5)) := by
  obtain ⟨i0, hi, hz0, hz1, hz2⟩ := info_parts bytesInfo
  subst hL hC
  have h := run_make (P := Tryz.prog) (w := W) 44 5 i0 (.int .u8 0) Tryz.underlying44 hi hz0 .i64 .i64 (n : Int) (c : Int) (by omega) (by omega) (by rw [hz2]; omega) (by omega)
  rw [h, hz1]
  congr 3
  apply Array.ext_getElem?
  intro j
  simp [madeCells]
  by_cases hj : j < c
  · simp [hj, Value.cells, Nat.mod_one]
  · simp [hj]

theorem own_made (W : World) (z c : Nat) (hz : z + 1 ≤ c) (hc : c ≤ 65536) (a : Nat) (ha : a < 256) :
    OwnB W.heap.size (.slice (some ⟨W.heap.size, 0, none⟩) (z + 1) c) (UInt8.ofNat a :: List.replicate z 0) (W.alloc (.cells ((List.replicate c (Value.int .u8 0)).toArray.setIfInBounds 0 (.int .u8 (a : Int))) 5)) := by
  refine ⟨by simp [Lib.byteCells], .inr ⟨_, c, _, by simp, Nat.le_refl _, heap_alloc_new W _, by simpa using hz, by unfold maxLen; omega, by simp, ?_⟩⟩
  have e : ((List.replicate c (Value.int .u8 0)).toArray.setIfInBounds 0 (.int .u8 (a : Int))).toList = Value.int .u8 (a : Int) :: List.replicate (c - 1) (Value.int .u8 0) := by
    obtain ⟨d, rfl⟩ : ∃ d, c = d + 1 := ⟨c - 1, by omega⟩
    simp [List.replicate_succ]
  rw [e]
  have e2 : (UInt8.ofNat a :: List.replicate z (0 : UInt8)).length * 1 = z + 1 := by simp
  rw [e2, List.take_succ_cons, List.take_replicate, show min z (c - 1) = z from by omega]
  have e3 : (UInt8.ofNat a).toNat = a := by simp; omega
  simp [Lib.byteCells, e3]

/-- a callee that leaves the world alone, met in a region that only reads: at its first draws, and behind others -/
theorem still1 {f : FuncId} {args : Array Value} {w : World} {n : Nat} {v : Value} (h : Calls Tryz.prog f args (w.drewN n) fun e w' => e = .returned v ∧ w.drewN n = w') :
    Calls Tryz.prog f args (w.drewN n) fun e w' => e = .returned v ∧ ∃ m, w' = w.drewN m := h.mono fun _ _ hh => ⟨hh.1, n, hh.2.symm⟩

theorem still2 {f : FuncId} {args : Array Value} {w : World} {k n : Nat} {v : Value} (h : Calls Tryz.prog f args (w.drewN (k + n)) fun e w' => e = .returned v ∧ w.drewN (k + n) = w') :
    Calls Tryz.prog f args (w.drewN (k + n)) fun e w' => e = .returned v ∧ ∃ m, w' = w.drewN (k + m) := h.mono fun _ _ hh => ⟨hh.1, n, hh.2.symm⟩

theorem belowN {B : Nat} {a w : World} (h : Below B a w) (n : Nat) : Below B a (w.drewN n) := ⟨h.os, h.tape, h.output, h.size, h.block⟩

theorem some_str {t : ByteArray} (h : 0 < t.size) : t.toList.isEmpty = false ∧ (t.toList = []) = False := by
  rw [ByteArray.toList_eq]
  have h2 : t.data.toList.length = t.size := by simp
  cases h3 : t.data.toList with
  | nil => rw [h3] at h2; simp at h2; omega
  | cons x r => exact ⟨rfl, by simp⟩

theorem no_str {t : ByteArray} (h : t.size = 0) : t.toList.isEmpty = true ∧ t.toList = [] := by
  rw [ByteArray.toList_eq]
  have h2 : t.data.toList.length = t.size := by simp
  have h3 : t.data.toList = [] := List.length_eq_zero_iff.1 (by omega)
  rw [h3]; exact ⟨rfl, rfl⟩

theorem drop_str (t : ByteArray) (k : Nat) : (t.extract k t.size).data.toList = t.data.toList.drop k := Lib.extract_to_end t k

theorem belowReads {W w1 : World} (hb : Below W.heap.size W w1) : (∀ b o, b < W.heap.size → w1.cell? ⟨b, o, none⟩ = W.cell? ⟨b, o, none⟩) ∧ (∀ b o, b < W.heap.size → w1.frozen? ⟨b, o, none⟩ = W.frozen? ⟨b, o, none⟩) ∧ W.heap.size ≤ w1.heap.size :=
  ⟨fun _ _ h => hb.cell h, fun _ _ h => hb.frozen h, hb.size⟩

theorem undrew {B : Nat} {w w1 : World} (h : Below B w.drew w1) : Below B w w1 := ⟨h.os, h.tape, h.output, h.size, h.block⟩

theorem own_empty (W : World) : OwnB W.heap.size (.slice (some ⟨W.heap.size, 0, none⟩) 0 32) [] (W.alloc (.cells (List.replicate 32 (Value.int .u8 0)).toArray 5)) :=
  ⟨by simp [Lib.byteCells], .inr ⟨_, 32, _, by simp, Nat.le_refl _, heap_alloc_new W _, by simp, by unfold maxLen; omega, by simp, by simp [Lib.byteCells]⟩⟩

theorem ownB_form {B : Nat} {v : Value} {l : List UInt8} {w : World} (h : OwnB B v l w) (hl : 0 < l.length) : ∃ g cap, v = .slice (some ⟨g, 0, none⟩) l.length cap := Joins.ownsRow_form h hl

def lenOf : Value → Nat | .slice _ l _ => l | _ => 0

theorem belowRow {B : Nat} {a w : World} (h : Below B a w) {g : Nat} (hg : B ≤ g) (c : Array Value) : Below B a (w.setRow g c) :=
  h.trans ⟨rfl, rfl, rfl, by simp, fun k hk => setRow_other w g k c (by omega)⟩

/-- The slice's elements are the texts ss. -/
def StrRow (w : World) (a : Option Addr) (ss : List ByteArray) : Prop :=
  ss = [] ∨ ∃ b off, a = some ⟨b, off, none⟩ ∧ b < w.heap.size ∧ ∀ j, j < ss.length → w.cell? ⟨b, off + j, none⟩ = some (.string (ss.getD j ByteArray.empty))

theorem StrRow.below {w w' : World} {a : Option Addr} {ss : List ByteArray} (h : StrRow w a ss) (hb : Below w.heap.size w w') : StrRow w' a ss := by
  rcases h with h | ⟨b, off, rfl, hlt, hc⟩
  · exact .inl h
  · exact .inr ⟨b, off, rfl, Nat.lt_of_lt_of_le hlt hb.size, fun j hj => by rw [hb.cell (p := ⟨b, off + j, none⟩) hlt]; exact hc j hj⟩
end Go.Proofs.YtcedliaeipabnaaGreat

namespace Go.Proofs.YtcedliaeipabnaaGreat
open Go.RowKit

theorem own_more {w : World} {B n a : Nat} {v : Value} {xs : List Value} {pre : List UInt8} {i : Int} (ha : a < 256) (hi : i = (a : Int))
    (h : w.ownsRow B 5 1 v (n + pre.length + 1) (xs ++ (Lib.byteCells pre ++ [Value.int .u8 i]))) : w.ownsRow B 5 1 v (n + (pre ++ [a.toUInt8]).length) (xs ++ Lib.byteCells (pre ++ [a.toUInt8])) := by
  rw [Lib.byteCells_snoc pre ha, List.length_append, List.length_singleton, ← Nat.add_assoc, ← hi]
  exact h

end Go.Proofs.YtcedliaeipabnaaGreat

namespace Go.Proofs.YtcedliaeipabnaaGreat
open Go.RowKit

end Go.Proofs.YtcedliaeipabnaaGreat
