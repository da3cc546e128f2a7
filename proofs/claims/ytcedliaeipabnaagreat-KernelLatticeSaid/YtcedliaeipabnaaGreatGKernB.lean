/-
  wire.appendText, wire.Text, wire.List: what each call answers, and what becomes of memory.
  Plain facts: what is put comes back, and what is read is what would be put. Nothing of the program.
  Names of updates as plain pairs of numbers: their order, whether they may be, lists that rise, their bytes, and what is read of bytes.
  A name by value: Check, of the program and of the document.
  Rows of elements of any size that a call owns: append, copy, clear; each as one step of a walk, and of a region that draws its order.
-/
import Derived.Test.YtcedliaeipabnaaGreatGKernA
import Derived.Lib.AppendStr
import Derived.Deep.AppendSrc
import Derived.Deep.RegionLaw
import Derived.Laws.CopyRow
import Derived.Laws.OwnMore
namespace Go.Proofs.YtcedliaeipabnaaGreat
open Go.RowKit

def encTexts : List ByteArray → List UInt8
  | [] => []
  | s :: r => Lib.uvarint s.size ++ s.data.toList ++ encTexts r

theorem encTexts_append (a b : List ByteArray) : encTexts (a ++ b) = encTexts a ++ encTexts b := by
  induction a with
  | nil => rfl
  | cons s r ih => simp [encTexts, ih]

theorem encTexts_take (ss : List ByteArray) (k : Nat) (hk : k < ss.length) : encTexts (ss.take (k + 1)) = encTexts (ss.take k) ++ (Lib.uvarint (ss.getD k ByteArray.empty).size ++ (ss.getD k ByteArray.empty).data.toList) := by
  rw [List.take_add_one, List.getElem?_eq_getElem hk, encTexts_append]
  simp [encTexts, List.getD, hk]

theorem encTexts_len (ss : List ByteArray) (h : ∀ s ∈ ss, s.size ≤ 65536) : (encTexts ss).length ≤ ss.length * 65546 := by
  induction ss with
  | nil => simp [encTexts]
  | cons s r ih =>
    have h1 := h s (List.mem_cons_self ..)
    have h2 := ih (fun x hx => h x (List.mem_cons_of_mem _ hx))
    have h3 := Lib.uvarint_length64 (x := s.size) (by omega)
    have h4 : s.data.toList.length = s.size := by simp
    simp only [encTexts, List.length_append, List.length_cons, h4]
    omega

/-- what wire.List answers of texts of which there are not too many -/
def ListEnd (ss : List ByteArray) (e : Ending) : Prop :=
  ((∃ s ∈ ss, 65536 < s.size) ∧ e = .returned (.tuple #[.string ⟨#[]⟩, .int .i64 3])) ∨
  ((∀ s ∈ ss, s.size ≤ 65536) ∧ e = .returned (.tuple #[.string ⟨(Lib.uvarint ss.length ++ encTexts ss).toArray⟩, .int .i64 0]))

end Go.Proofs.YtcedliaeipabnaaGreat

namespace Go.Proofs.YtcedliaeipabnaaGreat

theorem run_big (d : UInt8) (r : List UInt8) (h : 128 ≤ d.toNat) : run (d :: r) = run r + 1 := by rw [run, if_pos h]
theorem run_small (d : UInt8) (r : List UInt8) (h : d.toNat < 128) : run (d :: r) = 0 := by rw [run, if_neg (by omega)]

theorem run_uv : ∀ n (r : List UInt8), run (Lib.uvarint n ++ r) + 1 = (Lib.uvarint n).length := by
  intro n
  induction n using Nat.strongRecOn with
  | _ n ih =>
    intro r
    by_cases h : n < 128
    · rw [Lib.uvarint_small h, List.singleton_append, run_small _ _ (by rw [Lib.toUInt8_toNat (by omega)]; exact h)]; rfl
    · rw [Lib.uvarint_big (x := n) (by omega), List.cons_append, run_big _ _ (by rw [Lib.toUInt8_toNat (by omega)]; omega), ih (n / 128) (by omega), List.length_cons]

theorem lev_uv : ∀ n, lev (Lib.uvarint n) = n := by
  intro n
  induction n using Nat.strongRecOn with
  | _ n ih =>
    by_cases h : n < 128
    · rw [Lib.uvarint_small h]; simp only [lev]; rw [Lib.toUInt8_toNat (by omega)]; omega
    · rw [Lib.uvarint_big (x := n) (by omega)]; simp only [lev]; rw [ih (n / 128) (by omega), Lib.toUInt8_toNat (by omega)]; omega

theorem last_uv : ∀ n (r : List UInt8), 1 ≤ n → (Lib.uvarint n ++ r).getD (run (Lib.uvarint n ++ r)) 0 ≠ 0 := by
  intro n
  induction n using Nat.strongRecOn with
  | _ n ih =>
    intro r hn
    by_cases h : n < 128
    · rw [Lib.uvarint_small h, List.singleton_append, run_small _ _ (by rw [Lib.toUInt8_toNat (by omega)]; exact h)]
      intro e
      have h2 : (n.toUInt8 : UInt8) = 0 := by simpa using e
      have := congrArg UInt8.toNat h2
      rw [Lib.toUInt8_toNat (by omega)] at this
      simp at this; omega
    · rw [Lib.uvarint_big (x := n) (by omega), List.cons_append, run_big _ _ (by rw [Lib.toUInt8_toNat (by omega)]; omega)]
      have := ih (n / 128) (by omega) r (by omega)
      simpa using this

theorem uv_len8 (n : Nat) (hn : n ≤ 9007199254740992) : (Lib.uvarint n).length ≤ 8 := Lib.uvarint_length 7 n (by omega)

theorem numR_uv (n : Nat) (hn : n ≤ 9007199254740992) (r : List UInt8) : numR (Lib.uvarint n ++ r) = (n, (Lib.uvarint n).length, 0) := by
  have h1 := run_uv n r
  have h2 := uv_len8 n hn
  have h3 : (Lib.uvarint n ++ r).take (run (Lib.uvarint n ++ r) + 1) = Lib.uvarint n := by rw [h1]; simp
  have h4 : lev ((Lib.uvarint n ++ r).take (run (Lib.uvarint n ++ r) + 1)) = n := by rw [h3, lev_uv]
  unfold numR
  rw [if_neg (by rw [List.length_append]; omega), h4, if_neg (by omega)]
  by_cases h5 : n < 128
  · rw [if_neg (by rw [Lib.uvarint_small h5] at h1 ⊢; simp at h1; simp [h1]), h1]
  · rw [if_neg (fun h => last_uv n r (by omega) h.1), h1]

theorem extract_list (a : List UInt8) (i : Nat) : (⟨a.toArray⟩ : ByteArray).extract i (⟨a.toArray⟩ : ByteArray).size = ⟨(a.drop i).toArray⟩ := by
  apply ByteArray.ext
  apply Array.toList_inj.1
  rw [Lib.extract_data]
  show (a.drop i).take (a.length - i) = a.drop i
  exact List.take_of_length_le (by simp)
theorem extract_list0 (a : List UInt8) (n : Nat) : (⟨a.toArray⟩ : ByteArray).extract 0 n = ⟨(a.take n).toArray⟩ := by
  apply ByteArray.ext
  apply Array.toList_inj.1
  rw [Lib.extract_data]
  simp

theorem sNum_uv (n : Nat) (hn : n ≤ 9007199254740992) (r : List UInt8) : sNum (⟨(Lib.uvarint n ++ r).toArray⟩, 0) = (n, (⟨r.toArray⟩, 0)) := by
  have h := numR_uv n hn r
  unfold sNum
  simp only [h]
  rw [extract_list]
  simp

theorem sText_enc (s : ByteArray) (hs : s.size ≤ 65536) (r : List UInt8) : sText (⟨(Lib.uvarint s.size ++ s.data.toList ++ r).toArray⟩, 0) = (s, (⟨r.toArray⟩, 0)) := by
  have h := sNum_uv s.size (by omega) (s.data.toList ++ r)
  rw [← List.append_assoc] at h
  have hc : sCount 65536 (⟨(Lib.uvarint s.size ++ s.data.toList ++ r).toArray⟩, 0) = (s.size, true, (⟨(s.data.toList ++ r).toArray⟩, 0)) := by
    unfold sCount
    rw [h]
    simp only
    rw [if_neg (by simp), if_neg (by omega)]
  have hl : s.data.toList.length = s.size := by simp
  have hz : (ByteArray.mk (s.data.toList ++ r).toArray).size = s.size + r.length := by
    show (s.data.toList ++ r).length = _
    rw [List.length_append, hl]
  unfold sText
  rw [hc]
  simp only
  rw [if_neg (by simp), if_neg (by omega), extract_list, extract_list0]
  have e1 : (s.data.toList ++ r).take s.size = s.data.toList := by rw [← hl]; exact List.take_left
  have e2 : (s.data.toList ++ r).drop s.size = r := by rw [← hl]; exact List.drop_left
  rw [e1, e2]

theorem sTexts_enc : ∀ (ss : List ByteArray) (r : List UInt8) (acc : List ByteArray), (∀ s ∈ ss, s.size ≤ 65536) → sTexts ss.length (⟨(encTexts ss ++ r).toArray⟩, 0) acc = (acc ++ ss, (⟨r.toArray⟩, 0)) := by
  intro ss
  induction ss with
  | nil => intro r acc _; simp [sTexts, encTexts]
  | cons s t ih =>
    intro r acc h
    have h1 := sText_enc s (h s (List.mem_cons_self ..)) (encTexts t ++ r)
    have e : encTexts (s :: t) ++ r = Lib.uvarint s.size ++ s.data.toList ++ (encTexts t ++ r) := by simp [encTexts]
    rw [List.length_cons, sTexts, e, h1]
    simp only
    rw [if_neg (by simp), ih r _ (fun x hx => h x (List.mem_cons_of_mem _ hx))]
    simp

theorem sList_enc (ss : List ByteArray) (hl : ss.length ≤ 4096) (h : ∀ s ∈ ss, s.size ≤ 65536) (r : List UInt8) : sList (⟨(Lib.uvarint ss.length ++ encTexts ss ++ r).toArray⟩, 0) = (ss, (⟨r.toArray⟩, 0)) := by
  have h0 := sNum_uv ss.length (by omega) (encTexts ss ++ r)
  rw [← List.append_assoc] at h0
  have hc : sCount 4096 (⟨(Lib.uvarint ss.length ++ encTexts ss ++ r).toArray⟩, 0) = (ss.length, true, (⟨(encTexts ss ++ r).toArray⟩, 0)) := by
    unfold sCount
    rw [h0]
    simp only
    rw [if_neg (by simp), if_neg (by omega)]
  unfold sList
  rw [hc]
  simp only
  rw [if_neg (by simp), sTexts_enc ss r [] h]
  simp

theorem uv_lev : ∀ (l : List UInt8), run l + 1 = l.length → (l.getD (run l) 0 ≠ 0 ∨ run l = 0) → Lib.uvarint (lev l) = l ∧ (run l ≠ 0 → 1 ≤ lev l) := by
  intro l
  induction l with
  | nil => intro h; simp [run] at h
  | cons d r ih =>
    intro h hz
    by_cases hd : 128 ≤ d.toNat
    · rw [run_big d r hd, List.length_cons] at h
      rw [run_big d r hd] at hz ⊢
      have hz' : r.getD (run r) 0 ≠ 0 ∨ run r = 0 := by
        rcases hz with hz | hz
        · exact .inl (by simpa using hz)
        · omega
      obtain ⟨h1, h2⟩ := ih (by omega) hz'
      have hpos : 1 ≤ lev r := by
        by_cases h0 : run r = 0
        · have hl : r.length = 1 := by omega
          obtain ⟨x, rfl⟩ := List.length_eq_one_iff.1 hl
          have hx : x ≠ 0 := by
            rcases hz with hz | hz
            · rw [h0] at hz; simpa using hz
            · omega
          have hx2 : x.toNat < 128 := by
            rcases Nat.lt_or_ge x.toNat 128 with h3 | h3
            · exact h3
            · rw [run_big x [] h3] at h0; omega
          have hx3 : x.toNat ≠ 0 := fun e => hx (UInt8.toNat_inj.1 (by simpa using e))
          simp only [lev]; omega
        · exact h2 h0
      have hb : d.toNat < 256 := UInt8.toNat_lt _
      refine ⟨?_, fun _ => by simp only [lev]; omega⟩
      have e1 : lev (d :: r) = d.toNat % 128 + 128 * lev r := rfl
      rw [e1, Lib.uvarint_big (by omega)]
      have e2 : (d.toNat % 128 + 128 * lev r) / 128 = lev r := by omega
      have e3 : (d.toNat % 128 + 128 * lev r) % 128 + 128 = d.toNat := by omega
      rw [e2, e3, h1]
      congr 1
      exact UInt8.toNat_inj.1 (Lib.toUInt8_toNat hb)
    · rw [run_small d r (by omega)] at h ⊢
      have hr : r = [] := List.length_eq_zero_iff.1 (by simpa using h.symm)
      subst hr
      refine ⟨?_, fun h => absurd rfl h⟩
      have e1 : lev [d] = d.toNat := by simp only [lev]; omega
      rw [e1, Lib.uvarint_small (by omega)]
      congr 1
      exact UInt8.toNat_inj.1 (Lib.toUInt8_toNat (by omega))

theorem run_take (l : List UInt8) : ∀ k, run l < k → run (l.take k) = run l := by
  induction l with
  | nil => intro k _; simp
  | cons d r ih =>
    intro k hk
    cases k with
    | zero => omega
    | succ k =>
      rw [List.take_succ_cons]
      by_cases hd : 128 ≤ d.toNat
      · rw [run_big d r hd] at hk ⊢; rw [run_big _ _ hd, ih k (by omega)]
      · rw [run_small d r (by omega), run_small _ _ (by omega)]

/-- what is read is what would be put -/
theorem numR_put {l : List UInt8} (h : (numR l).2.2 = 0) : Lib.uvarint (numR l).1 = l.take (numR l).2.1 := by
  have h0 := run_le l
  unfold numR at h ⊢
  split at h
  · simp at h
  · split at h
    · simp at h
    · split at h
      · simp at h
      · rename_i a b c
        rw [if_neg a, if_neg b, if_neg c]
        simp only
        have hr := run_take l (run l + 1) (by omega)
        refine (uv_lev (l.take (run l + 1)) (by rw [hr, List.length_take]; omega) ?_).1
        rw [hr]
        by_cases hz : run l = 0
        · exact .inr hz
        · refine .inl ?_
          rw [List.getD_eq_getElem?_getD, List.getElem?_take_of_lt (by omega), ← List.getD_eq_getElem?_getD]
          exact fun e => c ⟨e, by omega⟩
end Go.Proofs.YtcedliaeipabnaaGreat

namespace Go.Proofs.YtcedliaeipabnaaGreat

/-- a name: its replica, its number -/
abbrev Dt := Int × Int

def chkD (d : Dt) : Int := if d.1 < 0 ∨ 15 < d.1 ∨ d.2 < 1 ∨ 1099511627776 < d.2 then 2 else 0
def ltD (a b : Dt) : Bool := decide (a.1 < b.1) || (decide (a.1 = b.1) && decide (a.2 < b.2))

theorem ltD_iff {a b : Dt} : ltD a b = true ↔ (a.1 < b.1 ∨ (a.1 = b.1 ∧ a.2 < b.2)) := by simp [ltD]
theorem ltD_no {a b : Dt} : ltD a b = false ↔ ¬ (a.1 < b.1 ∨ (a.1 = b.1 ∧ a.2 < b.2)) := by
  rw [← ltD_iff]; simp
theorem ltD_irr (a : Dt) : ltD a a = false := by rw [ltD_no]; omega
theorem ltD_trans {a b c : Dt} (h1 : ltD a b = true) (h2 : ltD b c = true) : ltD a c = true := by rw [ltD_iff] at *; omega
theorem ltD_asym {a b : Dt} (h : ltD a b = true) : ltD b a = false := by rw [ltD_no]; rw [ltD_iff] at h; omega
theorem ltD_tri (a b : Dt) : ltD a b = true ∨ a = b ∨ ltD b a = true := by
  rw [ltD_iff, ltD_iff, Prod.ext_iff]; omega
theorem ltD_of {a b : Dt} (h1 : ltD b a = false) (h2 : a ≠ b) : ltD a b = true := by
  rcases ltD_tri a b with h | h | h
  · exact h
  · exact absurd h h2
  · rw [h] at h1; cases h1

/-- They rise. -/
def Rise (l : List Dt) : Prop := l.Pairwise (fun a b => ltD a b = true)
instance (l : List Dt) : Decidable (Rise l) := inferInstanceAs (Decidable (l.Pairwise _))

theorem rise_near : ∀ (l : List Dt), (∀ j (h : j + 1 < l.length), ltD l[j] l[j + 1] = true) → Rise l := by
  intro l
  induction l with
  | nil => intro _; exact .nil
  | cons a r ih =>
    intro h
    have hr : Rise r := ih (fun j hj => h (j + 1) (by simp; omega))
    refine List.pairwise_cons.2 ⟨fun b hb => ?_, hr⟩
    cases r with
    | nil => simp at hb
    | cons c t =>
      have h0 := h 0 (by simp)
      simp only [List.getElem_cons_zero, List.getElem_cons_succ] at h0
      rcases List.mem_cons.1 hb with rfl | hb
      · exact h0
      · exact ltD_trans h0 ((List.pairwise_cons.1 hr).1 b hb)
theorem Rise.near {l : List Dt} (h : Rise l) (j : Nat) (hj : j + 1 < l.length) : ltD l[j] l[j + 1] = true := (List.pairwise_iff_getElem.1 h) j (j + 1) (by omega) hj (by omega)

/-- what a list's first error is -/
def chkL (l : List Dt) : Int := if ∃ d ∈ l, chkD d ≠ 0 then 2 else if Rise l then 0 else 5

theorem chkD_cases (d : Dt) : chkD d = 0 ∨ chkD d = 2 := by unfold chkD; split <;> simp
theorem chkL_bad {l : List Dt} {d : Dt} (h : d ∈ l) (hd : chkD d ≠ 0) : chkL l = chkD d := by
  unfold chkL
  rw [if_pos ⟨d, h, hd⟩]
  rcases chkD_cases d with h | h
  · exact absurd h hd
  · exact h.symm
theorem chkL_flat {l : List Dt} (h : ∀ d ∈ l, chkD d = 0) (hr : ¬ Rise l) : chkL l = 5 := by
  unfold chkL
  rw [if_neg (fun ⟨d, h1, h2⟩ => h2 (h d h1)), if_neg hr]
theorem chkL_good {l : List Dt} (h : ∀ d ∈ l, chkD d = 0) (hr : Rise l) : chkL l = 0 := by
  unfold chkL
  rw [if_neg (fun ⟨d, h1, h2⟩ => h2 (h d h1)), if_pos hr]
theorem chkL_ok {l : List Dt} (h : chkL l = 0) : (∀ d ∈ l, chkD d = 0) ∧ Rise l := by
  unfold chkL at h
  split at h
  · cases h
  · rename_i h1
    split at h
    · rename_i h2
      exact ⟨fun d hd => Classical.byContradiction fun hc => h1 ⟨d, hd, hc⟩, h2⟩
    · cases h
theorem chkD_ok {d : Dt} (h : chkD d = 0) : 0 ≤ d.1 ∧ d.1 ≤ 15 ∧ 1 ≤ d.2 ∧ d.2 ≤ 1099511627776 := by
  unfold chkD at h
  split at h
  · cases h
  · omega

/-! lists that rise are told by what is in them -/
theorem rise_same : ∀ {a b : List Dt}, Rise a → Rise b → (∀ x, x ∈ a ↔ x ∈ b) → a = b := by
  intro a
  induction a with
  | nil =>
    intro b _ _ h
    cases b with
    | nil => rfl
    | cons y t => exact absurd ((h y).2 (by simp)) (by simp)
  | cons x s ih =>
    intro b ha hb h
    cases b with
    | nil => exact absurd ((h x).1 (by simp)) (by simp)
    | cons y t =>
      have ha' := List.pairwise_cons.1 ha
      have hb' := List.pairwise_cons.1 hb
      have hxy : x = y := by
        rcases List.mem_cons.1 ((h x).1 (by simp)) with e | e
        · exact e
        · rcases List.mem_cons.1 ((h y).2 (by simp)) with e2 | e2
          · exact e2.symm
          · have h1 := ha'.1 y e2
            have h2 := hb'.1 x e
            rw [ltD_asym h1] at h2
            cases h2
      subst hxy
      have hst : s = t := ih ha'.2 hb'.2 fun z => by
        constructor
        · intro hz
          rcases List.mem_cons.1 ((h z).1 (by simp [hz])) with e | e
          · subst e; have := ha'.1 z hz; rw [ltD_irr] at this; cases this
          · exact e
        · intro hz
          rcases List.mem_cons.1 ((h z).2 (by simp [hz])) with e | e
          · subst e; have := hb'.1 z hz; rw [ltD_irr] at this; cases this
          · exact e
      rw [hst]

/-- a name, laid into a list that rises -/
def insD (d : Dt) : List Dt → List Dt
  | [] => [d]
  | x :: r => if ltD x d = true then x :: insD d r else if x = d then x :: r else d :: x :: r
/-- each once, rising -/
def sortD (l : List Dt) : List Dt := l.foldl (fun acc d => insD d acc) []

theorem mem_insD {d z : Dt} : ∀ {l : List Dt}, z ∈ insD d l ↔ z = d ∨ z ∈ l := by
  intro l
  induction l with
  | nil => simp [insD]
  | cons x r ih =>
    unfold insD
    split
    · simp only [List.mem_cons, ih]; constructor <;> (rintro (h | h | h) <;> simp [h])
    · split
      · rename_i h1 h2; subst h2; simp
      · simp
theorem rise_insD {d : Dt} : ∀ {l : List Dt}, Rise l → Rise (insD d l) := by
  intro l
  induction l with
  | nil => intro _; simp [insD, Rise]
  | cons x r ih =>
    intro h
    have h' := List.pairwise_cons.1 h
    unfold insD
    split
    · rename_i h1
      refine List.pairwise_cons.2 ⟨fun b hb => ?_, ih h'.2⟩
      rcases mem_insD.1 hb with rfl | hb
      · exact h1
      · exact h'.1 b hb
    · rename_i h1
      split
      · exact h
      · rename_i h2
        have hdx : ltD d x = true := ltD_of (by simpa using h1) (fun e => h2 e.symm)
        refine List.pairwise_cons.2 ⟨fun b hb => ?_, h⟩
        rcases List.mem_cons.1 hb with rfl | hb
        · exact hdx
        · exact ltD_trans hdx (h'.1 b hb)
theorem sortD_snoc (l : List Dt) (d : Dt) : sortD (l ++ [d]) = insD d (sortD l) := by simp [sortD]
theorem foldD_spec : ∀ (l acc : List Dt), Rise acc → Rise (l.foldl (fun acc d => insD d acc) acc) ∧ ∀ z, z ∈ l.foldl (fun acc d => insD d acc) acc ↔ z ∈ acc ∨ z ∈ l := by
  intro l
  induction l with
  | nil => intro acc h; exact ⟨h, fun z => by simp⟩
  | cons d r ih =>
    intro acc h
    obtain ⟨h1, h2⟩ := ih (insD d acc) (rise_insD h)
    refine ⟨h1, fun z => ?_⟩
    rw [List.foldl_cons, h2, mem_insD, List.mem_cons]
    constructor <;> rintro h
    · rcases h with (h | h) | h <;> simp [h]
    · rcases h with h | h | h <;> simp [h]
theorem rise_sortD (l : List Dt) : Rise (sortD l) := (foldD_spec l [] .nil).1
theorem mem_sortD {l : List Dt} {z : Dt} : z ∈ sortD l ↔ z ∈ l := by
  have h := (foldD_spec l [] .nil).2 z
  simpa [sortD] using h
theorem insD_len (d : Dt) : ∀ l : List Dt, (insD d l).length ≤ l.length + 1 := by
  intro l
  induction l with
  | nil => simp [insD]
  | cons x r ih => unfold insD; split <;> (try split) <;> simp <;> omega
theorem sortD_len (l : List Dt) : (sortD l).length ≤ l.length := by
  have : ∀ (l acc : List Dt), (l.foldl (fun acc d => insD d acc) acc).length ≤ acc.length + l.length := by
    intro l
    induction l with
    | nil => simp
    | cons d r ih => intro acc; have h1 := ih (insD d acc); have h2 := insD_len d acc; simp only [List.foldl_cons, List.length_cons]; omega
  simpa [sortD] using this l []

/-- a name that is in a list that rises is not laid in again -/
theorem insD_in {d : Dt} {l : List Dt} (h : Rise l) (hd : d ∈ l) : insD d l = l :=
  rise_same (rise_insD h) h fun z => by rw [mem_insD]; exact ⟨fun hz => hz.elim (fun e => e ▸ hd) id, Or.inr⟩
/-- one that is not stands behind those that are less -/
theorem insD_at {d : Dt} {l : List Dt} (h : Rise l) (hd : d ∉ l) (k : Nat) (hk : k ≤ l.length) (h1 : ∀ j (hj : j < l.length), j < k → ltD l[j] d = true) (h2 : ∀ hk : k < l.length, ltD l[k] d = false) :
    l.take k ++ [d] ++ l.drop k = insD d l := by
  have hp := List.pairwise_iff_getElem.1 h
  have hb : ∀ x ∈ l.drop k, ltD d x = true := by
    intro x hx
    obtain ⟨i, hi, rfl⟩ := List.mem_iff_getElem.1 hx
    rw [List.getElem_drop]
    rw [List.length_drop] at hi
    have h3 : ltD d l[k] = true := ltD_of (h2 (by omega)) (fun e => hd (by rw [e]; exact List.getElem_mem _))
    by_cases hi0 : i = 0
    · subst hi0; exact h3
    · exact ltD_trans h3 (hp k (k + i) (by omega) (by omega) (by omega))
  have ha : ∀ x ∈ l.take k, ltD x d = true := by
    intro x hx
    obtain ⟨i, hi, rfl⟩ := List.mem_iff_getElem.1 hx
    rw [List.length_take] at hi
    rw [List.getElem_take]
    exact h1 i (by omega) (by omega)
  refine rise_same ?_ (rise_insD h) fun z => ?_
  · unfold Rise
    rw [List.append_assoc, List.pairwise_append]
    refine ⟨List.Pairwise.sublist (List.take_sublist _ _) h, ?_, ?_⟩
    · rw [List.singleton_append, List.pairwise_cons]
      exact ⟨hb, List.Pairwise.sublist (List.drop_sublist _ _) h⟩
    · intro x hx y hy
      rcases List.mem_append.1 hy with hy | hy
      · obtain rfl := List.mem_singleton.1 hy; exact ha x hx
      · exact ltD_trans (ha x hx) (hb y hy)
  · rw [mem_insD]
    have e : z ∈ l ↔ z ∈ l.take k ∨ z ∈ l.drop k := by rw [← List.mem_append, List.take_append_drop]
    rw [e]
    simp only [List.mem_append, List.mem_singleton]
    constructor
    · rintro ((h | h) | h) <;> simp [h]
    · rintro (h | h | h) <;> simp [h]

/-! of neighbours that are the same one is kept -/
/-- what was kept of the first k of s -/
structure Kept (s : List Dt) (k : Nat) (out : List Dt) : Prop where
  rise : Rise out
  mem : ∀ z, z ∈ out ↔ z ∈ s.take k
  len : out.length ≤ k
theorem Kept.start (s : List Dt) : Kept s 0 [] := ⟨.nil, fun z => by simp, Nat.le_refl _⟩
theorem Kept.same {s out : List Dt} {k : Nat} (h : Kept s (k + 1) out) (hk : k + 1 < s.length) (he : s[k + 1] = s[k]) : Kept s (k + 1 + 1) out := by
  refine ⟨h.rise, fun z => ?_, Nat.le_succ_of_le h.len⟩
  rw [h.mem z, List.take_succ_eq_append_getElem hk, List.mem_append, List.mem_singleton]
  constructor
  · exact .inl
  · rintro (hz | rfl)
    · exact hz
    · rw [he]; exact List.mem_take_iff_getElem.2 ⟨k, by omega, rfl⟩
theorem Kept.more {s out : List Dt} {k : Nat} (h : Kept s k out) (hs : s.Pairwise (fun a b => ltD b a = false)) (hk : k < s.length) (hne : ∀ j (hj : j + 1 = k), s[k] ≠ s[j]) : Kept s (k + 1) (out ++ [s[k]]) := by
  refine ⟨?_, fun z => ?_, by have := h.len; simp; omega⟩
  · unfold Rise
    rw [List.pairwise_append]
    refine ⟨h.rise, by simp, fun x hx y hy => ?_⟩
    obtain rfl := List.mem_singleton.1 hy
    obtain ⟨j, hj, rfl⟩ := List.mem_take_iff_getElem.1 ((h.mem x).1 hx)
    have hp := List.pairwise_iff_getElem.1 hs
    obtain ⟨m, rfl⟩ : ∃ m, k = m + 1 := ⟨k - 1, by omega⟩
    have hm : ltD s[m] s[m + 1] = true := ltD_of (hp m (m + 1) (by omega) hk (by omega)) (fun e => hne m rfl e.symm)
    by_cases hjm : j = m
    · subst hjm; exact hm
    · have h1 := hp j m (by omega) (by omega) (by omega)
      rcases ltD_tri s[j] s[m] with h2 | h2 | h2
      · exact ltD_trans h2 hm
      · rw [h2]; exact hm
      · rw [h2] at h1; cases h1
  · rw [List.take_succ_eq_append_getElem hk, List.mem_append, List.mem_append, h.mem z]
theorem Kept.all {s l out : List Dt} {k : Nat} (h : Kept s k out) (hk : s.length ≤ k) (hp : ∀ z, z ∈ s ↔ z ∈ l) : out = sortD l :=
  rise_same h.rise (rise_sortD l) fun z => by rw [h.mem z, List.take_of_length_le hk, mem_sortD, hp]

/-! bytes -/
def encD : List Dt → List UInt8
  | [] => []
  | d :: r => Lib.uvarint d.1.toNat ++ Lib.uvarint d.2.toNat ++ encD r
def encDs (l : List Dt) : List UInt8 := Lib.uvarint l.length ++ encD l
def putD (l : List Dt) : ByteArray × Int := if 4096 < l.length then (⟨#[]⟩, 3) else if chkL l = 0 then (⟨(encDs l).toArray⟩, 0) else (⟨#[]⟩, chkL l)
theorem encD_append : ∀ (a b : List Dt), encD (a ++ b) = encD a ++ encD b := by
  intro a b
  induction a with
  | nil => rfl
  | cons x r ih => simp [encD, ih]
theorem encD_snoc (a : List Dt) (d : Dt) : encD (a ++ [d]) = encD a ++ (Lib.uvarint d.1.toNat ++ Lib.uvarint d.2.toNat) := by rw [encD_append]; simp [encD]

/-- what Done answers -/
def doneS (st : ByteArray × Int) : Int := if st.2 ≠ 0 then st.2 else if 0 < st.1.size then 5 else 0
/-- n names read, behind those that are there -/
def sDots : Nat → ByteArray × Int → List Dt → List Dt × (ByteArray × Int)
  | 0, st, acc => (acc, st)
  | n + 1, st, acc => sDots n (sNum (sNum st).2).2 (acc ++ [((((sNum st).1 : Nat) : Int), (((sNum (sNum st).2).1 : Nat) : Int))])
def rdD (s : ByteArray) : List Dt × (ByteArray × Int) := sDots (sNum (s, 0)).1 (sNum (s, 0)).2 []
def readD (s : ByteArray) : List Dt × Int :=
  if 4096 < (sNum (s, 0)).1 then ([], 3) else if doneS (rdD s).2 ≠ 0 then ([], doneS (rdD s).2) else if chkL (rdD s).1 ≠ 0 then ([], chkL (rdD s).1) else ((rdD s).1, 0)

theorem sNum_bad {st : ByteArray × Int} (h : st.2 ≠ 0) : sNum st = (0, st) := by simp [sNum, h]
theorem sDots_size : ∀ (n : Nat) (st : ByteArray × Int) (acc : List Dt), (sDots n st acc).2.1.size ≤ st.1.size := by
  intro n
  induction n with
  | zero => intro st acc; exact Nat.le_refl _
  | succ n ih =>
    intro st acc
    have h1 := ih (sNum (sNum st).2).2 (acc ++ [((((sNum st).1 : Nat) : Int), (((sNum (sNum st).2).1 : Nat) : Int))])
    have h2 := sNum_size st
    have h3 := sNum_size (sNum st).2
    simp only [sDots]
    omega
theorem sDots_bad : ∀ (n : Nat) (st : ByteArray × Int) (acc : List Dt), st.2 ≠ 0 → (sDots n st acc).2 = st := by
  intro n
  induction n with
  | zero => intro st acc _; rfl
  | succ n ih =>
    intro st acc h
    have h1 : sNum st = (0, st) := sNum_bad h
    simp only [sDots, h1]
    exact ih st _ h
theorem sDots_len : ∀ (n : Nat) (st : ByteArray × Int) (acc : List Dt), (sDots n st acc).1.length = acc.length + n := by
  intro n
  induction n with
  | zero => intro st acc; rfl
  | succ n ih => intro st acc; simp only [sDots]; rw [ih]; simp; omega

/-! what is put comes back -/
theorem sDots_enc : ∀ (l : List Dt) (r : List UInt8) (acc : List Dt), (∀ d ∈ l, chkD d = 0) → sDots l.length (⟨(encD l ++ r).toArray⟩, 0) acc = (acc ++ l, (⟨r.toArray⟩, 0)) := by
  intro l
  induction l with
  | nil => intro r acc _; simp [sDots, encD]
  | cons d t ih =>
    intro r acc h
    obtain ⟨h1, h2, h3, h4⟩ := chkD_ok (h d (by simp))
    have e1 : sNum (⟨(encD (d :: t) ++ r).toArray⟩, 0) = (d.1.toNat, (⟨(Lib.uvarint d.2.toNat ++ (encD t ++ r)).toArray⟩, 0)) := by
      have := sNum_uv d.1.toNat (by omega) (Lib.uvarint d.2.toNat ++ (encD t ++ r))
      simpa [encD, List.append_assoc] using this
    have e2 := sNum_uv d.2.toNat (by omega) (encD t ++ r)
    simp only [List.length_cons, sDots, e1, e2]
    rw [ih r _ (fun x hx => h x (by simp [hx]))]
    have e3 : ((d.1.toNat : Int), (d.2.toNat : Int)) = d := by ext <;> simp <;> omega
    rw [e3]
    simp
theorem read_put {l : List Dt} {c : ByteArray} (h : putD l = (c, 0)) : readD c = (l, 0) := by
  unfold putD at h
  split at h
  · cases h
  · rename_i hl
    split at h
    · rename_i hc
      obtain ⟨hg, -⟩ := chkL_ok hc
      cases h
      have e1 := sNum_uv l.length (by omega) (encD l)
      have e2 := sDots_enc l [] [] hg
      rw [List.append_nil, List.nil_append] at e2
      unfold readD rdD
      unfold encDs
      rw [e1]
      simp only [e2]
      rw [if_neg hl, if_neg (by simp [doneS, ByteArray.size]), if_neg (by rw [hc]; simp)]
    · rename_i hc
      exact absurd (Prod.ext_iff.1 h).2 hc

theorem sNum_put {st : ByteArray × Int} {n : Nat} {s1 : ByteArray} (h : sNum st = (n, (s1, 0))) : st.2 = 0 ∧ st.1.data.toList = Lib.uvarint n ++ s1.data.toList := by
  obtain ⟨s, e⟩ := st
  by_cases he : e = 0
  · subst he
    refine ⟨rfl, ?_⟩
    generalize hr : numR s.data.toList = r
    obtain ⟨m, k, e1⟩ := r
    by_cases h1 : e1 = 0
    · subst h1
      have hp := numR_put (l := s.data.toList) (by rw [hr])
      rw [hr] at hp
      simp only [sNum, hr] at h
      simp at h
      obtain ⟨rfl, rfl⟩ := h
      simp only at hp ⊢
      rw [hp, drop_str]
      exact (List.take_append_drop _ _).symm
    · simp only [sNum, hr] at h
      simp [h1] at h
  · rw [sNum_bad he] at h
    simp at h
    exact absurd h.2.2 he
theorem sDots_put : ∀ (n : Nat) (st : ByteArray × Int) (acc l : List Dt) (s1 : ByteArray), sDots n st acc = (l, (s1, 0)) → ∃ t, l = acc ++ t ∧ st.2 = 0 ∧ st.1.data.toList = encD t ++ s1.data.toList := by
  intro n
  induction n with
  | zero => intro st acc l s1 h; simp only [sDots, Prod.mk.injEq] at h; obtain ⟨rfl, rfl⟩ := h; exact ⟨[], by simp, rfl, by simp [encD]⟩
  | succ n ih =>
    intro st acc l s1 h
    simp only [sDots] at h
    obtain ⟨t, ht, h2, h3⟩ := ih _ _ _ _ h
    obtain ⟨h4, h5⟩ := sNum_put (st := (sNum st).2) (n := (sNum (sNum st).2).1) (s1 := (sNum (sNum st).2).2.1) (Prod.ext rfl (Prod.ext rfl h2))
    obtain ⟨h6, h7⟩ := sNum_put (st := st) (n := (sNum st).1) (s1 := (sNum st).2.1) (Prod.ext rfl (Prod.ext rfl h4))
    refine ⟨((((sNum st).1 : Nat) : Int), (((sNum (sNum st).2).1 : Nat) : Int)) :: t, by rw [ht]; simp, h6, ?_⟩
    rw [h7, h5, h3]
    simp [encD]
theorem done_ok {st : ByteArray × Int} (h : doneS st = 0) : st = (⟨#[]⟩, 0) := by
  obtain ⟨s, e⟩ := st
  unfold doneS at h
  simp only at h
  split at h
  · rename_i h1; exact absurd h h1
  · rename_i h1
    split at h
    · cases h
    · rename_i h2
      have h3 : s = ⟨#[]⟩ := by
        obtain ⟨a⟩ := s
        have h5 : a.size = 0 := by
          have : ¬ 0 < a.size := h2
          omega
        rw [Array.eq_empty_of_size_eq_zero h5]
      have h4 : e = 0 := Classical.byContradiction h1
      rw [h3, h4]
theorem put_read {s : ByteArray} {l : List Dt} (h : readD s = (l, 0)) : putD l = (s, 0) := by
  unfold readD at h
  split at h
  · cases h
  · rename_i hl
    split at h
    · rename_i hd
      exact absurd (Prod.ext_iff.1 h).2 hd
    · rename_i hd
      split at h
      · rename_i hc
        exact absurd (Prod.ext_iff.1 h).2 hc
      · rename_i hc
        have hd' := done_ok (by simpa using hd)
        have hc' : chkL (rdD s).1 = 0 := by simpa using hc
        obtain ⟨rfl, -⟩ := Prod.ext_iff.1 h
        simp only
        obtain ⟨t, ht, h2, h3⟩ := sDots_put (sNum (s, 0)).1 (sNum (s, 0)).2 [] (rdD s).1 ⟨#[]⟩ (by rw [← hd']; rfl)
        rw [List.nil_append] at ht
        obtain ⟨-, h7⟩ := sNum_put (st := (s, 0)) (n := (sNum (s, 0)).1) (s1 := (sNum (s, 0)).2.1) (Prod.ext rfl (Prod.ext rfl h2))
        have hlen : (rdD s).1.length = (sNum (s, 0)).1 := by
          have := sDots_len (sNum (s, 0)).1 (sNum (s, 0)).2 []
          simpa [rdD] using this
        unfold putD
        rw [hlen, if_neg hl, if_pos hc']
        congr 1
        unfold encDs
        rw [hlen]
        simp only at h7
        rw [h3, ← ht] at h7
        simp only [List.append_nil] at h7
        rw [← h7]

theorem encD_len : ∀ (l : List Dt), (∀ d ∈ l, chkD d = 0) → (encD l).length ≤ l.length * 20 := by
  intro l
  induction l with
  | nil => intro _; simp [encD]
  | cons d r ih =>
    intro h
    have h1 := ih (fun x hx => h x (by simp [hx]))
    obtain ⟨a, b, c, e⟩ := chkD_ok (h d (by simp))
    have h2 := Lib.uvarint_length64 (x := d.1.toNat) (by omega)
    have h3 := Lib.uvarint_length64 (x := d.2.toNat) (by omega)
    simp only [encD, List.length_append, List.length_cons]
    omega
end Go.Proofs.YtcedliaeipabnaaGreat

namespace Go.Proofs.YtcedliaeipabnaaGreat
open Go.RowKit

def dcs (d : Dt) : List Value := [.int .i64 d.1, .int .i64 d.2]
def dv (d : Dt) : Value := .agg #[.int .i64 d.1, .int .i64 d.2]

def boxD (w : World) (d : Dt) : World := w.alloc (.cells #[.int .i64 d.1, .int .i64 d.2] 50)
theorem boxD_below (w : World) (d : Dt) : Below w.heap.size w (boxD w d) := (Below.refl _ _).alloc (Nat.le_refl _) _
theorem boxD_size (w : World) (d : Dt) : (boxD w d).heap.size = w.heap.size + 1 := by simp [boxD]
theorem boxD2_below (w : World) (a b : Dt) : Below w.heap.size w (boxD (boxD w a) b) := (boxD_below w a).trans ((boxD_below _ b).mono (by rw [boxD_size]; omega))

set_option maxHeartbeats 1000000 in
set_option maxRecDepth 100000 in
theorem checkC (d : Dt) (w : World) : Calls Tryz.prog 58 #[.agg #[.int .i64 d.1, .int .i64 d.2]] w fun e w' => e = .returned (.int .i64 (chkD d)) ∧ boxD w d = w' := by
  obtain ⟨r, n⟩ := d
  have hd : chkD (r, n) = if r < 0 ∨ 15 < r ∨ n < 1 ∨ 1099511627776 < n then 2 else 0 := rfl
  unfold boxD
  simp only at *
  by_cases h0 : r < 0
  · rw [if_pos (.inl h0)] at hd
    rw [hd]; clear hd
    go_enter Tryz.func58, Tryz.ntmps58
    go_wp2
    go_ret
    exact ⟨rfl, rfl⟩
  · have g0 : decide (r < 0) = false := by simp; omega
    by_cases h1 : 15 < r
    · rw [if_pos (.inr (.inl h1))] at hd
      rw [hd]; clear hd
      have g1 : decide ((16 : Int) ≤ r) = true := by simp; omega
      go_enter Tryz.func58, Tryz.ntmps58
      go_wp2
      go_ret
      exact ⟨rfl, rfl⟩
    · have g1 : decide ((16 : Int) ≤ r) = false := by simp; omega
      by_cases h2 : n < 1
      · rw [if_pos (.inr (.inr (.inl h2)))] at hd
        rw [hd]; clear hd
        have g2 : decide (n < 1) = true := by simp; omega
        go_enter Tryz.func58, Tryz.ntmps58
        go_wp2
        go_ret
        exact ⟨rfl, rfl⟩
      · have g2 : decide (n < 1) = false := by simp; omega
        by_cases h3 : 1099511627776 < n
        · rw [if_pos (.inr (.inr (.inr h3)))] at hd
          rw [hd]; clear hd
          have g3 : decide ((1099511627776 : Int) < n) = true := by simp; omega
          go_enter Tryz.func58, Tryz.ntmps58
          go_wp2
          go_ret
          exact ⟨rfl, rfl⟩
        · rw [if_neg (by omega)] at hd
          rw [hd]; clear hd
          have g3 : decide ((1099511627776 : Int) < n) = false := by simp; omega
          go_enter Tryz.func58, Tryz.ntmps58
          go_wp2
          go_ret
          exact ⟨rfl, rfl⟩

set_option maxHeartbeats 1000000 in
set_option maxRecDepth 100000 in
theorem checkR (d : Dt) (w : World) : Calls Tryz.prog 53 #[.agg #[.int .i64 d.1, .int .i64 d.2]] w fun e w' => e = .returned (.int .i64 (chkD d)) ∧ boxD w d = w' := by
  obtain ⟨r, n⟩ := d
  have hd : chkD (r, n) = if r < 0 ∨ 15 < r ∨ n < 1 ∨ 1099511627776 < n then 2 else 0 := rfl
  unfold boxD
  simp only at *
  by_cases h0 : r < 0
  · rw [if_pos (.inl h0)] at hd
    rw [hd]; clear hd
    go_enter Tryz.func53, Tryz.ntmps53
    go_wp2
    go_ret
    exact ⟨rfl, rfl⟩
  · have g0 : decide (r < 0) = false := by simp; omega
    by_cases h1 : 15 < r
    · rw [if_pos (.inr (.inl h1))] at hd
      rw [hd]; clear hd
      have g1 : decide ((15 : Int) < r) = true := by simp; omega
      go_enter Tryz.func53, Tryz.ntmps53
      go_wp2
      go_ret
      exact ⟨rfl, rfl⟩
    · have g1 : decide ((15 : Int) < r) = false := by simp; omega
      by_cases h2 : n < 1
      · rw [if_pos (.inr (.inr (.inl h2)))] at hd
        rw [hd]; clear hd
        have g2 : decide (n < 1) = true := by simp; omega
        go_enter Tryz.func53, Tryz.ntmps53
        go_wp2
        go_ret
        exact ⟨rfl, rfl⟩
      · have g2 : decide (n < 1) = false := by simp; omega
        by_cases h3 : 1099511627776 < n
        · rw [if_pos (.inr (.inr (.inr h3)))] at hd
          rw [hd]; clear hd
          have g3 : decide ((1099511627776 : Int) < n) = true := by simp; omega
          go_enter Tryz.func53, Tryz.ntmps53
          go_wp2
          go_ret
          exact ⟨rfl, rfl⟩
        · rw [if_neg (by omega)] at hd
          rw [hd]; clear hd
          have g3 : decide ((1099511627776 : Int) < n) = false := by simp; omega
          go_enter Tryz.func53, Tryz.ntmps53
          go_wp2
          go_ret
          exact ⟨rfl, rfl⟩
end Go.Proofs.YtcedliaeipabnaaGreat

namespace Go.Proofs.YtcedliaeipabnaaGreat
set_option maxRecDepth 100000
open Go.RowKit

/-- The row's block is the one it was, or a new one. -/
def SF (w : World) (v v' : Value) : Prop := v'.ownBlock = v.ownBlock ∨ ∃ g, v'.ownBlock = some g ∧ w.heap.size ≤ g

section
variable {P : Program}

theorem run_append_room_row (w : World) (t tx ty e : TypeId) (i : TypeInfo) (ht : P.underlying t = some (.slice e)) (hi : P.info? e = some i) (g n cap : Nat) (cur : Array Value) (hg : w.heap[g]? = some (.cells cur e (0, 0)))
    (x : Value) (m : Nat) (news : List Value) (hs : Src P i.size tx x m news w) (hroom : n + m ≤ cap) (hfit : n * i.size + news.length ≤ cur.size) :
    (Builtin.append_ #[t, tx] ty #[.slice (some ⟨g, 0, none⟩) n cap, x]).run P w =
      .ok (.slice (some ⟨g, 0, none⟩) (n + m) cap) (w.setRow g (cur.toList.take (n * i.size) ++ news ++ cur.toList.drop (n * i.size + news.length)).toArray) := by
  have hst := run_storeCells_at P g (n * i.size) e news 0 cur w hg (by simpa using hfit) hs.one
  simp only [Nat.add_zero] at hst
  rcases hs.kind with ⟨e', hk⟩ | hk <;> simp [Builtin.append_, run_underlying ht, run_underlying hk, sizeOf, typeInfo, hi, hs.len, hroom, hs.cells, Addr.add_lit, hst]

theorem run_append_sf (w : World) (B : Nat) (t tx ty e : TypeId) (i : TypeInfo) (z : Value) (size bytes : Nat) (ht : P.underlying t = some (.slice e)) (hi : P.info? e = some i) (hz : i.zero = some z)
    (hsize : i.size = size) (hby : i.bytes = bytes) (hzs : z.cells.size = size)
    (v : Value) (n : Nat) (xs : List Value) (hown : w.ownsRow B e size v n xs) (x : Value) (m : Nat) (news : List Value) (hs : Src P size tx x m news w)
    (h63 : n + m ≤ maxLen) (hbytes : (n + m) * bytes ≤ 140737488355328) (hB : B ≤ w.heap.size) :
    ∃ v' w', (Builtin.append_ #[t, tx] ty #[v, x]).run P w = .ok v' w' ∧ w'.ownsRow B e size v' (n + m) (xs ++ news) ∧ w.grownBy w' v.ownBlock ∧ SF w v v' ∧ (0 < m → ∃ g c, v' = .slice (some ⟨g, 0, none⟩) (n + m) c) := by
  subst hsize
  subst hby
  have hl := hs.newsLen
  have hsmall : ((n + m : Nat) : Int) ≤ 9223372036854775807 := by simp only [maxLen] at h63; omega
  have hlen : (xs ++ news).length = (n + m) * i.size := by rw [List.length_append, hown.1, hl, Nat.add_mul]
  have grown : ∀ (old : Nat), old < n + m → ∀ (row : Option Nat),
      (w.drew.alloc (.cells ((xs ++ news).toArray ++ Builtin.zeroCells z.cells (grownCap w (n + m) old e - (n + m))) e)).ownsRow B e i.size
        (.slice (some ⟨w.heap.size, 0, none⟩) (n + m) (grownCap w (n + m) old e)) (n + m) (xs ++ news) ∧
      w.grownBy (w.drew.alloc (.cells ((xs ++ news).toArray ++ Builtin.zeroCells z.cells (grownCap w (n + m) old e - (n + m))) e)) row := by
    intro old ho row
    have hge := grownCap_ge w (n + m) old e
    have hcm : grownCap w (n + m) old e ≤ maxLen := grownCap_le_maxLen w (n + m) old e h63
    refine ⟨⟨hlen, .inr ⟨w.heap.size, _, _, rfl, hB, heap_alloc_new w.drew _, hge, hcm, ?_, ?_⟩⟩, ⟨rfl, rfl, rfl, by simp, fun k hk _ => Below.heap_alloc w.drew _ k hk⟩⟩
    · simp only [Array.size_append, List.size_toArray, size_zeroCells, hzs, hlen, ← Nat.add_mul]
      congr 1
      omega
    · simp only [Array.toList_append]
      rw [← hlen]
      exact List.take_left
  rcases hown.2 with ⟨rfl, rfl⟩ | ⟨g, cap, cur, rfl, hbg, hg, hnc, hcm, hcs, htake⟩
  · have hx : xs = [] := List.eq_nil_of_length_eq_zero (by simpa using hown.1)
    subst hx
    by_cases hm : m = 0
    · subst hm
      have hn : news = [] := List.eq_nil_of_length_eq_zero (by simpa using hl)
      subst hn
      refine ⟨.slice none 0 0, w, ?_, World.ownsRow_nil w B e i.size, ⟨rfl, rfl, rfl, Nat.le_refl _, fun _ _ _ => rfl⟩, .inl rfl, fun h => absurd h (Nat.lt_irrefl _)⟩
      rcases hs.kind with ⟨e', hk⟩ | hk <;> simp [Builtin.append_, run_underlying ht, run_underlying hk, sizeOf, typeInfo, hi, hs.len, hs.cells]
    · have hr := run_append_grow_src (P := P) w t tx ty e i z ht hi hz none 0 0 [] (run_firstCells_none w.drew i.size 0 0 0) x m news hs (by omega) (by omega) (growslice_fits (by omega) hbytes)
      have hgr := grown 0 (by omega) (Value.ownBlock (.slice none 0 0))
      exact ⟨_, _, hr, hgr.1, hgr.2, .inr ⟨w.heap.size, rfl, Nat.le_refl _⟩, fun _ => ⟨_, _, rfl⟩⟩
  · by_cases hroom : n + m ≤ cap
    · have hfit : n * i.size + news.length ≤ cur.size := by rw [hl, hcs, ← Nat.add_mul]; exact Nat.mul_le_mul_right _ hroom
      have hr := run_append_room_row (P := P) w t tx ty e i ht hi g n cap cur hg x m news hs hroom hfit
      refine ⟨_, _, hr, ⟨hlen, .inr ⟨g, cap, _, rfl, hbg, setRow_heap w g cur _ e _ hg, hroom, hcm, ?_, ?_⟩⟩, ⟨rfl, rfl, rfl, by simp, fun k _ hk => setRow_other w g k _ (fun e => hk (by simp [Value.ownBlock, e]))⟩, .inl rfl, fun _ => ⟨_, _, rfl⟩⟩
      · simp only [List.size_toArray, List.length_append, List.length_take, List.length_drop, Array.length_toList]
        omega
      · rw [htake, ← hlen]
        exact List.take_left
    · have holds : ∀ j u, xs[j]? = some u → w.drew.cell? ((⟨g, 0, none⟩ : Addr).add j) = some u := hown.cells (g := g) rfl
      have hr := run_append_grow_src (P := P) w t tx ty e i z ht hi hz (some ⟨g, 0, none⟩) n cap xs (run_firstCells_some w.drew i.size n ⟨g, 0, none⟩ n cap xs hown.1 holds) x m news hs (by omega) (by omega) (growslice_fits (by omega) hbytes)
      have hgr := grown cap (by omega) (Value.ownBlock (.slice (some ⟨g, 0, none⟩) n cap))
      exact ⟨_, _, hr, hgr.1, hgr.2, .inr ⟨w.heap.size, rfl, Nat.le_refl _⟩, fun _ => ⟨_, _, rfl⟩⟩

/-- copy, of elements of any size -/
theorem run_copy_cells (w : World) (dT sT ty elem : TypeId) (i : TypeInfo) (g o dLen dCap : Nat) (a : Addr) (sLen sCap : Nat) (cur : Array Value) (t : TypeId) (cs : List Value)
    (hu : P.underlying dT = some (.slice elem)) (hi : P.info? elem = some i) (hg : w.heap[g]? = some (.cells cur t (0, 0))) (hn : cs.length = Nat.min sLen dLen * i.size)
    (hsrc : ∀ j v, cs[j]? = some v → w.cell? (a.add j) = some v) (hfit : o + cs.length ≤ cur.size) (h1 : ∀ v ∈ cs, v.oneCell' = true) :
    (Builtin.copy_ #[dT, sT] ty #[.slice (some ⟨g, o, none⟩) dLen dCap, .slice (some a) sLen sCap]).run P w =
      .ok (goInt (Nat.min sLen dLen : Nat)) (w.setRow g (cur.toList.take o ++ cs ++ cur.toList.drop (o + cs.length)).toArray) := by
  have hl := run_loadCells_list (P := P) w a cs hsrc
  have hst := run_storeCells_at P g o t cs 0 cur w hg (by simpa using hfit) h1
  simp [Builtin.copy_, run_underlying hu, Builtin.lenOf, Builtin.firstCells, sizeOf, typeInfo, hi, ← hn, hl, hst]

/-- clear, of a part of a row -/
theorem run_clear_cells (w : World) (t ty elem : TypeId) (z : Value) (i : TypeInfo) (g o n cap : Nat) (cur : Array Value) (e : TypeId) (ht : P.underlying t = some (.slice elem)) (hi : P.info? elem = some i) (hz : i.zero = some z)
    (hg : w.heap[g]? = some (.cells cur e (0, 0))) (hfit : o + n * z.cells.size ≤ cur.size) (h1 : ∀ v ∈ (Builtin.zeroCells z.cells n).toList, v.oneCell' = true) (hn : 0 < n) :
    (Builtin.clear_ #[t] ty #[.slice (some ⟨g, o, none⟩) n cap]).run P w =
      .ok (.tuple #[]) (w.setRow g (cur.toList.take o ++ (Builtin.zeroCells z.cells n).toList ++ cur.toList.drop (o + (Builtin.zeroCells z.cells n).toList.length)).toArray) := by
  have hst := run_storeCells_at P g o e (Builtin.zeroCells z.cells n).toList 0 cur w hg (by simpa [size_zeroCells] using hfit) h1
  obtain ⟨n, rfl⟩ : ∃ k, n = k + 1 := ⟨n - 1, by omega⟩
  simp [Builtin.clear_, run_underlying ht, zeroValue, typeInfo, hi, hz, hst]

theorem wpList_append_run {w : World} {ops : Array Oper} {rest : List Oper} {o : Oper} {a : Act} {Q : Exit → Act → World → Prop} (hgd : o.guard = none) (s x : Operand) (t tx : TypeId)
    (ho : o.op = .call { callee := .builtin .append, args := #[s, x], argTypes := #[t, tx] }) (vs vx v : Value) (w' : World) (hs : a.eval s = vs) (hx : a.eval x = vx)
    (hrun : (Builtin.append_ #[t, tx] o.type #[vs, vx]).run P w = .ok v w') (h : wpList P ops Q rest (a.put o.dst v) w') : wpList P ops Q (o :: rest) a w := by
  refine wpList_plain hgd fun K hK => ?_
  unfold Oper.wp
  simp [execOp, ho, resolve, invoke, builtin, hs, hx, hrun, Result.andThen]
  exact hK _ _ h

theorem wpList_copy_run {w : World} {ops : Array Oper} {rest : List Oper} {o : Oper} {a : Act} {Q : Exit → Act → World → Prop} (hgd : o.guard = none) (s x : Operand) (t tx : TypeId)
    (ho : o.op = .call { callee := .builtin .copy, args := #[s, x], argTypes := #[t, tx] }) (vs vx v : Value) (w' : World) (hs : a.eval s = vs) (hx : a.eval x = vx)
    (hrun : (Builtin.copy_ #[t, tx] o.type #[vs, vx]).run P w = .ok v w') (h : wpList P ops Q rest (a.put o.dst v) w') : wpList P ops Q (o :: rest) a w := by
  refine wpList_plain hgd fun K hK => ?_
  unfold Oper.wp
  simp [execOp, ho, resolve, invoke, builtin, hs, hx, hrun, Result.andThen]
  exact hK _ _ h

theorem wpList_clear_run {w : World} {ops : Array Oper} {rest : List Oper} {o : Oper} {a : Act} {Q : Exit → Act → World → Prop} (hgd : o.guard = none) (s : Operand) (t : TypeId)
    (ho : o.op = .call { callee := .builtin .clear, args := #[s], argTypes := #[t] }) (vs v : Value) (w' : World) (hs : a.eval s = vs)
    (hrun : (Builtin.clear_ #[t] o.type #[vs]).run P w = .ok v w') (h : wpList P ops Q rest (a.put o.dst v) w') : wpList P ops Q (o :: rest) a w := by
  refine wpList_plain hgd fun K hK => ?_
  unfold Oper.wp
  simp [execOp, ho, resolve, invoke, builtin, hs, hrun, Result.andThen]
  exact hK _ _ h

theorem step_append_run {w : World} {ops : Array Oper} {o : Oper} {a : Act} {K : Act → World → Prop} {Q : Exit → Act → World → Prop} {E : Prop} (hgd : o.guard = none) (s x : Operand) (t tx : TypeId)
    (ho : o.op = .call { callee := .builtin .append, args := #[s, x], argTypes := #[t, tx] }) (vs vx v : Value) (w' : World) (hs : a.eval s = vs) (hx : a.eval x = vx)
    (hrun : (Builtin.append_ #[t, tx] o.type #[vs, vx]).run P w = .ok v w') (h : K (a.put o.dst v) w') : if Region.wanted o (yielded ops a.tmps) = true then Oper.wp P o a w K Q else E := by
  have hw : Region.wanted o (yielded ops a.tmps) = true := by simp [Region.wanted, hgd]
  rw [if_pos hw]
  unfold Oper.wp
  simp [execOp, ho, resolve, invoke, builtin, hs, hx, hrun, Result.andThen]
  exact h

theorem step_copy_run {w : World} {ops : Array Oper} {o : Oper} {a : Act} {K : Act → World → Prop} {Q : Exit → Act → World → Prop} {E : Prop} (hgd : o.guard = none) (s x : Operand) (t tx : TypeId)
    (ho : o.op = .call { callee := .builtin .copy, args := #[s, x], argTypes := #[t, tx] }) (vs vx v : Value) (w' : World) (hs : a.eval s = vs) (hx : a.eval x = vx)
    (hrun : (Builtin.copy_ #[t, tx] o.type #[vs, vx]).run P w = .ok v w') (h : K (a.put o.dst v) w') : if Region.wanted o (yielded ops a.tmps) = true then Oper.wp P o a w K Q else E := by
  have hw : Region.wanted o (yielded ops a.tmps) = true := by simp [Region.wanted, hgd]
  rw [if_pos hw]
  unfold Oper.wp
  simp [execOp, ho, resolve, invoke, builtin, hs, hx, hrun, Result.andThen]
  exact h
end
end Go.Proofs.YtcedliaeipabnaaGreat
