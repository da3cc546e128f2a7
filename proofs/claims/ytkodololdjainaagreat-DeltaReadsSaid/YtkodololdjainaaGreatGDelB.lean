/-
  Names of updates as plain pairs of numbers: their order, whether they may be, lists that rise, their bytes, and what is read of bytes.
  Stamps as plain values: what may be, which is less, the next one, and one behind another one that was seen.
  What updates say, as plain values: their order, whether they may be, lists that rise, their bytes, and what is read of bytes. What a list of chunks' bytes tell (9.2's Read) is a word that is handed in (rd): its error.
  Updates as bytes, in plain words (chapter 18): whether an update may be, its bytes, and what is read of bytes. What 9.2's Read tells of a list of chunks is handed in (rd): its error.
  What a call leaves that only draws and makes memory: so many draws, these blocks.
  Numbers' bytes, one behind the other; nothing of the program.
-/
import Derived.Test.YtkodololdjainaaGreatGDelA
import Derived.Test.YtkodololdjainaaGreatBase
import Derived.Lib.QuietBelow
namespace Go.Proofs.YtkodololdjainaaGreat

/-- a name: its replica, its number -/
abbrev Dt := Int × Int

def chkD (d : Dt) : Int := if d.1 < 0 ∨ 15 < d.1 ∨ d.2 < 1 ∨ 1099511627776 < d.2 then 2 else 0
def ltD (a b : Dt) : Bool := decide (a.1 < b.1) || (decide (a.1 = b.1) && decide (a.2 < b.2))

theorem ltD_iff {a b : Dt} : ltD a b = true ↔ (a.1 < b.1 ∨ (a.1 = b.1 ∧ a.2 < b.2)) := by simp [ltD]
theorem ltD_no {a b : Dt} : ltD a b = false ↔ ¬ (a.1 < b.1 ∨ (a.1 = b.1 ∧ a.2 < b.2)) := by
  rw [← ltD_iff]; simp
theorem ltD_irr (a : Dt) : ltD a a = false := by rw [ltD_no]; omega
theorem ltD_trans {a b c : Dt} (h1 : ltD a b = true) (h2 : ltD b c = true) : ltD a c = true := by rw [ltD_iff] at *; omega
theorem ltD_asym {a b : Dt} (h : ltD a b = true) : ltD b a = false := by rw [ltD_no]; rw [ltD_iff] at h; omega
theorem ltD_tri (a b : Dt) : ltD a b = true ∨ a = b ∨ ltD b a = true := by
  rw [ltD_iff, ltD_iff, Prod.ext_iff]; omega
theorem ltD_of {a b : Dt} (h1 : ltD b a = false) (h2 : a ≠ b) : ltD a b = true := by
  rcases ltD_tri a b with h | h | h
  · exact h
  · exact absurd h h2
  · rw [h] at h1; cases h1

/-- They rise. -/
def Rise (l : List Dt) : Prop := l.Pairwise (fun a b => ltD a b = true)
instance (l : List Dt) : Decidable (Rise l) := inferInstanceAs (Decidable (l.Pairwise _))

theorem rise_near : ∀ (l : List Dt), (∀ j (h : j + 1 < l.length), ltD l[j] l[j + 1] = true) → Rise l := by
  intro l
  induction l with
  | nil => intro _; exact .nil
  | cons a r ih =>
    intro h
    have hr : Rise r := ih (fun j hj => h (j + 1) (by simp; omega))
    refine List.pairwise_cons.2 ⟨fun b hb => ?_, hr⟩
    cases r with
    | nil => simp at hb
    | cons c t =>
      have h0 := h 0 (by simp)
      simp only [List.getElem_cons_zero, List.getElem_cons_succ] at h0
      rcases List.mem_cons.1 hb with rfl | hb
      · exact h0
      · exact ltD_trans h0 ((List.pairwise_cons.1 hr).1 b hb)
theorem Rise.near {l : List Dt} (h : Rise l) (j : Nat) (hj : j + 1 < l.length) : ltD l[j] l[j + 1] = true := (List.pairwise_iff_getElem.1 h) j (j + 1) (by omega) hj (by omega)

/-- what a list's first error is -/
def chkL (l : List Dt) : Int := if ∃ d ∈ l, chkD d ≠ 0 then 2 else if Rise l then 0 else 5

theorem chkD_cases (d : Dt) : chkD d = 0 ∨ chkD d = 2 := by unfold chkD; split <;> simp
theorem chkL_bad {l : List Dt} {d : Dt} (h : d ∈ l) (hd : chkD d ≠ 0) : chkL l = chkD d := by
  unfold chkL
  rw [if_pos ⟨d, h, hd⟩]
  rcases chkD_cases d with h | h
  · exact absurd h hd
  · exact h.symm
theorem chkL_flat {l : List Dt} (h : ∀ d ∈ l, chkD d = 0) (hr : ¬ Rise l) : chkL l = 5 := by
  unfold chkL
  rw [if_neg (fun ⟨d, h1, h2⟩ => h2 (h d h1)), if_neg hr]
theorem chkL_good {l : List Dt} (h : ∀ d ∈ l, chkD d = 0) (hr : Rise l) : chkL l = 0 := by
  unfold chkL
  rw [if_neg (fun ⟨d, h1, h2⟩ => h2 (h d h1)), if_pos hr]
theorem chkL_ok {l : List Dt} (h : chkL l = 0) : (∀ d ∈ l, chkD d = 0) ∧ Rise l := by
  unfold chkL at h
  split at h
  · cases h
  · rename_i h1
    split at h
    · rename_i h2
      exact ⟨fun d hd => Classical.byContradiction fun hc => h1 ⟨d, hd, hc⟩, h2⟩
    · cases h
theorem chkD_ok {d : Dt} (h : chkD d = 0) : 0 ≤ d.1 ∧ d.1 ≤ 15 ∧ 1 ≤ d.2 ∧ d.2 ≤ 1099511627776 := by
  unfold chkD at h
  split at h
  · cases h
  · omega

/-! lists that rise are told by what is in them -/
theorem rise_same : ∀ {a b : List Dt}, Rise a → Rise b → (∀ x, x ∈ a ↔ x ∈ b) → a = b := by
  intro a
  induction a with
  | nil =>
    intro b _ _ h
    cases b with
    | nil => rfl
    | cons y t => exact absurd ((h y).2 (by simp)) (by simp)
  | cons x s ih =>
    intro b ha hb h
    cases b with
    | nil => exact absurd ((h x).1 (by simp)) (by simp)
    | cons y t =>
      have ha' := List.pairwise_cons.1 ha
      have hb' := List.pairwise_cons.1 hb
      have hxy : x = y := by
        rcases List.mem_cons.1 ((h x).1 (by simp)) with e | e
        · exact e
        · rcases List.mem_cons.1 ((h y).2 (by simp)) with e2 | e2
          · exact e2.symm
          · have h1 := ha'.1 y e2
            have h2 := hb'.1 x e
            rw [ltD_asym h1] at h2
            cases h2
      subst hxy
      have hst : s = t := ih ha'.2 hb'.2 fun z => by
        constructor
        · intro hz
          rcases List.mem_cons.1 ((h z).1 (by simp [hz])) with e | e
          · subst e; have := ha'.1 z hz; rw [ltD_irr] at this; cases this
          · exact e
        · intro hz
          rcases List.mem_cons.1 ((h z).2 (by simp [hz])) with e | e
          · subst e; have := hb'.1 z hz; rw [ltD_irr] at this; cases this
          · exact e
      rw [hst]

/-- a name, laid into a list that rises -/
def insD (d : Dt) : List Dt → List Dt
  | [] => [d]
  | x :: r => if ltD x d = true then x :: insD d r else if x = d then x :: r else d :: x :: r
/-- each once, rising -/
def sortD (l : List Dt) : List Dt := l.foldl (fun acc d => insD d acc) []

theorem mem_insD {d z : Dt} : ∀ {l : List Dt}, z ∈ insD d l ↔ z = d ∨ z ∈ l := by
  intro l
  induction l with
  | nil => simp [insD]
  | cons x r ih =>
    unfold insD
    split
    · simp only [List.mem_cons, ih]; constructor <;> (rintro (h | h | h) <;> simp [h])
    · split
      · rename_i h1 h2; subst h2; simp
      · simp
theorem rise_insD {d : Dt} : ∀ {l : List Dt}, Rise l → Rise (insD d l) := by
  intro l
  induction l with
  | nil => intro _; simp [insD, Rise]
  | cons x r ih =>
    intro h
    have h' := List.pairwise_cons.1 h
    unfold insD
    split
    · rename_i h1
      refine List.pairwise_cons.2 ⟨fun b hb => ?_, ih h'.2⟩
      rcases mem_insD.1 hb with rfl | hb
      · exact h1
      · exact h'.1 b hb
    · rename_i h1
      split
      · exact h
      · rename_i h2
        have hdx : ltD d x = true := ltD_of (by simpa using h1) (fun e => h2 e.symm)
        refine List.pairwise_cons.2 ⟨fun b hb => ?_, h⟩
        rcases List.mem_cons.1 hb with rfl | hb
        · exact hdx
        · exact ltD_trans hdx (h'.1 b hb)
theorem sortD_snoc (l : List Dt) (d : Dt) : sortD (l ++ [d]) = insD d (sortD l) := by simp [sortD]
theorem foldD_spec : ∀ (l acc : List Dt), Rise acc → Rise (l.foldl (fun acc d => insD d acc) acc) ∧ ∀ z, z ∈ l.foldl (fun acc d => insD d acc) acc ↔ z ∈ acc ∨ z ∈ l := by
  intro l
  induction l with
  | nil => intro acc h; exact ⟨h, fun z => by simp⟩
  | cons d r ih =>
    intro acc h
    obtain ⟨h1, h2⟩ := ih (insD d acc) (rise_insD h)
    refine ⟨h1, fun z => ?_⟩
    rw [List.foldl_cons, h2, mem_insD, List.mem_cons]
    constructor <;> rintro h
    · rcases h with (h | h) | h <;> simp [h]
    · rcases h with h | h | h <;> simp [h]
theorem rise_sortD (l : List Dt) : Rise (sortD l) := (foldD_spec l [] .nil).1
theorem mem_sortD {l : List Dt} {z : Dt} : z ∈ sortD l ↔ z ∈ l := by
  have h := (foldD_spec l [] .nil).2 z
  simpa [sortD] using h
theorem insD_len (d : Dt) : ∀ l : List Dt, (insD d l).length ≤ l.length + 1 := by
  intro l
  induction l with
  | nil => simp [insD]
  | cons x r ih => unfold insD; split <;> (try split) <;> simp <;> omega
theorem sortD_len (l : List Dt) : (sortD l).length ≤ l.length := by
  have : ∀ (l acc : List Dt), (l.foldl (fun acc d => insD d acc) acc).length ≤ acc.length + l.length := by
    intro l
    induction l with
    | nil => simp
    | cons d r ih => intro acc; have h1 := ih (insD d acc); have h2 := insD_len d acc; simp only [List.foldl_cons, List.length_cons]; omega
  simpa [sortD] using this l []

/-- a name that is in a list that rises is not laid in again -/
theorem insD_in {d : Dt} {l : List Dt} (h : Rise l) (hd : d ∈ l) : insD d l = l :=
  rise_same (rise_insD h) h fun z => by rw [mem_insD]; exact ⟨fun hz => hz.elim (fun e => e ▸ hd) id, Or.inr⟩
/-- one that is not stands behind those that are less -/
theorem insD_at {d : Dt} {l : List Dt} (h : Rise l) (hd : d ∉ l) (k : Nat) (hk : k ≤ l.length) (h1 : ∀ j (hj : j < l.length), j < k → ltD l[j] d = true) (h2 : ∀ hk : k < l.length, ltD l[k] d = false) :
    l.take k ++ [d] ++ l.drop k = insD d l := by
  have hp := List.pairwise_iff_getElem.1 h
  have hb : ∀ x ∈ l.drop k, ltD d x = true := by
    intro x hx
    obtain ⟨i, hi, rfl⟩ := List.mem_iff_getElem.1 hx
    rw [List.getElem_drop]
    rw [List.length_drop] at hi
    have h3 : ltD d l[k] = true := ltD_of (h2 (by omega)) (fun e => hd (by rw [e]; exact List.getElem_mem _))
    by_cases hi0 : i = 0
    · subst hi0; exact h3
    · exact ltD_trans h3 (hp k (k + i) (by omega) (by omega) (by omega))
  have ha : ∀ x ∈ l.take k, ltD x d = true := by
    intro x hx
    obtain ⟨i, hi, rfl⟩ := List.mem_iff_getElem.1 hx
    rw [List.length_take] at hi
    rw [List.getElem_take]
    exact h1 i (by omega) (by omega)
  refine rise_same ?_ (rise_insD h) fun z => ?_
  · unfold Rise
    rw [List.append_assoc, List.pairwise_append]
    refine ⟨List.Pairwise.sublist (List.take_sublist _ _) h, ?_, ?_⟩
    · rw [List.singleton_append, List.pairwise_cons]
      exact ⟨hb, List.Pairwise.sublist (List.drop_sublist _ _) h⟩
    · intro x hx y hy
      rcases List.mem_append.1 hy with hy | hy
      · obtain rfl := List.mem_singleton.1 hy; exact ha x hx
      · exact ltD_trans (ha x hx) (hb y hy)
  · rw [mem_insD]
    have e : z ∈ l ↔ z ∈ l.take k ∨ z ∈ l.drop k := by rw [← List.mem_append, List.take_append_drop]
    rw [e]
    simp only [List.mem_append, List.mem_singleton]
    constructor
    · rintro ((h | h) | h) <;> simp [h]
    · rintro (h | h | h) <;> simp [h]

/-! of neighbours that are the same one is kept -/
/-- what was kept of the first k of s -/
structure Kept (s : List Dt) (k : Nat) (out : List Dt) : Prop where
  rise : Rise out
  mem : ∀ z, z ∈ out ↔ z ∈ s.take k
  len : out.length ≤ k
theorem Kept.start (s : List Dt) : Kept s 0 [] := ⟨.nil, fun z => by simp, Nat.le_refl _⟩
theorem Kept.same {s out : List Dt} {k : Nat} (h : Kept s (k + 1) out) (hk : k + 1 < s.length) (he : s[k + 1] = s[k]) : Kept s (k + 1 + 1) out := by
  refine ⟨h.rise, fun z => ?_, Nat.le_succ_of_le h.len⟩
  rw [h.mem z, List.take_succ_eq_append_getElem hk, List.mem_append, List.mem_singleton]
  constructor
  · exact .inl
  · rintro (hz | rfl)
    · exact hz
    · rw [he]; exact List.mem_take_iff_getElem.2 ⟨k, by omega, rfl⟩
theorem Kept.more {s out : List Dt} {k : Nat} (h : Kept s k out) (hs : s.Pairwise (fun a b => ltD b a = false)) (hk : k < s.length) (hne : ∀ j (hj : j + 1 = k), s[k] ≠ s[j]) : Kept s (k + 1) (out ++ [s[k]]) := by
  refine ⟨?_, fun z => ?_, by have := h.len; simp; omega⟩
  · unfold Rise
    rw [List.pairwise_append]
    refine ⟨h.rise, by simp, fun x hx y hy => ?_⟩
    obtain rfl := List.mem_singleton.1 hy
    obtain ⟨j, hj, rfl⟩ := List.mem_take_iff_getElem.1 ((h.mem x).1 hx)
    have hp := List.pairwise_iff_getElem.1 hs
    obtain ⟨m, rfl⟩ : ∃ m, k = m + 1 := ⟨k - 1, by omega⟩
    have hm : ltD s[m] s[m + 1] = true := ltD_of (hp m (m + 1) (by omega) hk (by omega)) (fun e => hne m rfl e.symm)
    by_cases hjm : j = m
    · subst hjm; exact hm
    · have h1 := hp j m (by omega) (by omega) (by omega)
      rcases ltD_tri s[j] s[m] with h2 | h2 | h2
      · exact ltD_trans h2 hm
      · rw [h2]; exact hm
      · rw [h2] at h1; cases h1
  · rw [List.take_succ_eq_append_getElem hk, List.mem_append, List.mem_append, h.mem z]
theorem Kept.all {s l out : List Dt} {k : Nat} (h : Kept s k out) (hk : s.length ≤ k) (hp : ∀ z, z ∈ s ↔ z ∈ l) : out = sortD l :=
  rise_same h.rise (rise_sortD l) fun z => by rw [h.mem z, List.take_of_length_le hk, mem_sortD, hp]

/-! bytes -/
def encD : List Dt → List UInt8
  | [] => []
  | d :: r => Lib.uvarint d.1.toNat ++ Lib.uvarint d.2.toNat ++ encD r
def encDs (l : List Dt) : List UInt8 := Lib.uvarint l.length ++ encD l
def putD (l : List Dt) : ByteArray × Int := if 4096 < l.length then (⟨#[]⟩, 3) else if chkL l = 0 then (⟨(encDs l).toArray⟩, 0) else (⟨#[]⟩, chkL l)
theorem encD_append : ∀ (a b : List Dt), encD (a ++ b) = encD a ++ encD b := by
  intro a b
  induction a with
  | nil => rfl
  | cons x r ih => simp [encD, ih]
theorem encD_snoc (a : List Dt) (d : Dt) : encD (a ++ [d]) = encD a ++ (Lib.uvarint d.1.toNat ++ Lib.uvarint d.2.toNat) := by rw [encD_append]; simp [encD]

/-- what Done answers -/
def doneS (st : ByteArray × Int) : Int := if st.2 ≠ 0 then st.2 else if 0 < st.1.size then 5 else 0
/-- n names read, behind those that are there -/
def sDots : Nat → ByteArray × Int → List Dt → List Dt × (ByteArray × Int)
  | 0, st, acc => (acc, st)
  | n + 1, st, acc => sDots n (sNum (sNum st).2).2 (acc ++ [((((sNum st).1 : Nat) : Int), (((sNum (sNum st).2).1 : Nat) : Int))])
def rdD (s : ByteArray) : List Dt × (ByteArray × Int) := sDots (sNum (s, 0)).1 (sNum (s, 0)).2 []
def readD (s : ByteArray) : List Dt × Int :=
  if 4096 < (sNum (s, 0)).1 then ([], 3) else if doneS (rdD s).2 ≠ 0 then ([], doneS (rdD s).2) else if chkL (rdD s).1 ≠ 0 then ([], chkL (rdD s).1) else ((rdD s).1, 0)

theorem sNum_bad {st : ByteArray × Int} (h : st.2 ≠ 0) : sNum st = (0, st) := by simp [sNum, h]
theorem sDots_size : ∀ (n : Nat) (st : ByteArray × Int) (acc : List Dt), (sDots n st acc).2.1.size ≤ st.1.size := by
  intro n
  induction n with
  | zero => intro st acc; exact Nat.le_refl _
  | succ n ih =>
    intro st acc
    have h1 := ih (sNum (sNum st).2).2 (acc ++ [((((sNum st).1 : Nat) : Int), (((sNum (sNum st).2).1 : Nat) : Int))])
    have h2 := sNum_size st
    have h3 := sNum_size (sNum st).2
    simp only [sDots]
    omega
theorem sDots_bad : ∀ (n : Nat) (st : ByteArray × Int) (acc : List Dt), st.2 ≠ 0 → (sDots n st acc).2 = st := by
  intro n
  induction n with
  | zero => intro st acc _; rfl
  | succ n ih =>
    intro st acc h
    have h1 : sNum st = (0, st) := sNum_bad h
    simp only [sDots, h1]
    exact ih st _ h
theorem sDots_len : ∀ (n : Nat) (st : ByteArray × Int) (acc : List Dt), (sDots n st acc).1.length = acc.length + n := by
  intro n
  induction n with
  | zero => intro st acc; rfl
  | succ n ih => intro st acc; simp only [sDots]; rw [ih]; simp; omega

/-! what is put comes back -/
theorem sDots_enc : ∀ (l : List Dt) (r : List UInt8) (acc : List Dt), (∀ d ∈ l, chkD d = 0) → sDots l.length (⟨(encD l ++ r).toArray⟩, 0) acc = (acc ++ l, (⟨r.toArray⟩, 0)) := by
  intro l
  induction l with
  | nil => intro r acc _; simp [sDots, encD]
  | cons d t ih =>
    intro r acc h
    obtain ⟨h1, h2, h3, h4⟩ := chkD_ok (h d (by simp))
    have e1 : sNum (⟨(encD (d :: t) ++ r).toArray⟩, 0) = (d.1.toNat, (⟨(Lib.uvarint d.2.toNat ++ (encD t ++ r)).toArray⟩, 0)) := by
      have := sNum_uv d.1.toNat (by omega) (Lib.uvarint d.2.toNat ++ (encD t ++ r))
      simpa [encD, List.append_assoc] using this
    have e2 := sNum_uv d.2.toNat (by omega) (encD t ++ r)
    simp only [List.length_cons, sDots, e1, e2]
    rw [ih r _ (fun x hx => h x (by simp [hx]))]
    have e3 : ((d.1.toNat : Int), (d.2.toNat : Int)) = d := by ext <;> simp <;> omega
    rw [e3]
    simp
theorem read_put {l : List Dt} {c : ByteArray} (h : putD l = (c, 0)) : readD c = (l, 0) := by
  unfold putD at h
  split at h
  · cases h
  · rename_i hl
    split at h
    · rename_i hc
      obtain ⟨hg, -⟩ := chkL_ok hc
      cases h
      have e1 := sNum_uv l.length (by omega) (encD l)
      have e2 := sDots_enc l [] [] hg
      rw [List.append_nil, List.nil_append] at e2
      unfold readD rdD
      unfold encDs
      rw [e1]
      simp only [e2]
      rw [if_neg hl, if_neg (by simp [doneS, ByteArray.size]), if_neg (by rw [hc]; simp)]
    · rename_i hc
      exact absurd (Prod.ext_iff.1 h).2 hc

theorem sNum_put {st : ByteArray × Int} {n : Nat} {s1 : ByteArray} (h : sNum st = (n, (s1, 0))) : st.2 = 0 ∧ st.1.data.toList = Lib.uvarint n ++ s1.data.toList := by
  obtain ⟨s, e⟩ := st
  by_cases he : e = 0
  · subst he
    refine ⟨rfl, ?_⟩
    generalize hr : numR s.data.toList = r
    obtain ⟨m, k, e1⟩ := r
    by_cases h1 : e1 = 0
    · subst h1
      have hp := numR_put (l := s.data.toList) (by rw [hr])
      rw [hr] at hp
      simp only [sNum, hr] at h
      simp at h
      obtain ⟨rfl, rfl⟩ := h
      simp only at hp ⊢
      rw [hp, drop_str]
      exact (List.take_append_drop _ _).symm
    · simp only [sNum, hr] at h
      simp [h1] at h
  · rw [sNum_bad he] at h
    simp at h
    exact absurd h.2.2 he
theorem sDots_put : ∀ (n : Nat) (st : ByteArray × Int) (acc l : List Dt) (s1 : ByteArray), sDots n st acc = (l, (s1, 0)) → ∃ t, l = acc ++ t ∧ st.2 = 0 ∧ st.1.data.toList = encD t ++ s1.data.toList := by
  intro n
  induction n with
  | zero => intro st acc l s1 h; simp only [sDots, Prod.mk.injEq] at h; obtain ⟨rfl, rfl⟩ := h; exact ⟨[], by simp, rfl, by simp [encD]⟩
  | succ n ih =>
    intro st acc l s1 h
    simp only [sDots] at h
    obtain ⟨t, ht, h2, h3⟩ := ih _ _ _ _ h
    obtain ⟨h4, h5⟩ := sNum_put (st := (sNum st).2) (n := (sNum (sNum st).2).1) (s1 := (sNum (sNum st).2).2.1) (Prod.ext rfl (Prod.ext rfl h2))
    obtain ⟨h6, h7⟩ := sNum_put (st := st) (n := (sNum st).1) (s1 := (sNum st).2.1) (Prod.ext rfl (Prod.ext rfl h4))
    refine ⟨((((sNum st).1 : Nat) : Int), (((sNum (sNum st).2).1 : Nat) : Int)) :: t, by rw [ht]; simp, h6, ?_⟩
    rw [h7, h5, h3]
    simp [encD]
theorem done_ok {st : ByteArray × Int} (h : doneS st = 0) : st = (⟨#[]⟩, 0) := by
  obtain ⟨s, e⟩ := st
  unfold doneS at h
  simp only at h
  split at h
  · rename_i h1; exact absurd h h1
  · rename_i h1
    split at h
    · cases h
    · rename_i h2
      have h3 : s = ⟨#[]⟩ := by
        obtain ⟨a⟩ := s
        have h5 : a.size = 0 := by
          have : ¬ 0 < a.size := h2
          omega
        rw [Array.eq_empty_of_size_eq_zero h5]
      have h4 : e = 0 := Classical.byContradiction h1
      rw [h3, h4]
theorem put_read {s : ByteArray} {l : List Dt} (h : readD s = (l, 0)) : putD l = (s, 0) := by
  unfold readD at h
  split at h
  · cases h
  · rename_i hl
    split at h
    · rename_i hd
      exact absurd (Prod.ext_iff.1 h).2 hd
    · rename_i hd
      split at h
      · rename_i hc
        exact absurd (Prod.ext_iff.1 h).2 hc
      · rename_i hc
        have hd' := done_ok (by simpa using hd)
        have hc' : chkL (rdD s).1 = 0 := by simpa using hc
        obtain ⟨rfl, -⟩ := Prod.ext_iff.1 h
        simp only
        obtain ⟨t, ht, h2, h3⟩ := sDots_put (sNum (s, 0)).1 (sNum (s, 0)).2 [] (rdD s).1 ⟨#[]⟩ (by rw [← hd']; rfl)
        rw [List.nil_append] at ht
        obtain ⟨-, h7⟩ := sNum_put (st := (s, 0)) (n := (sNum (s, 0)).1) (s1 := (sNum (s, 0)).2.1) (Prod.ext rfl (Prod.ext rfl h2))
        have hlen : (rdD s).1.length = (sNum (s, 0)).1 := by
          have := sDots_len (sNum (s, 0)).1 (sNum (s, 0)).2 []
          simpa [rdD] using this
        unfold putD
        rw [hlen, if_neg hl, if_pos hc']
        congr 1
        unfold encDs
        rw [hlen]
        simp only at h7
        rw [h3, ← ht] at h7
        simp only [List.append_nil] at h7
        rw [← h7]

theorem encD_len : ∀ (l : List Dt), (∀ d ∈ l, chkD d = 0) → (encD l).length ≤ l.length * 20 := by
  intro l
  induction l with
  | nil => intro _; simp [encD]
  | cons d r ih =>
    intro h
    have h1 := ih (fun x hx => h x (by simp [hx]))
    obtain ⟨a, b, c, e⟩ := chkD_ok (h d (by simp))
    have h2 := Lib.uvarint_length64 (x := d.1.toNat) (by omega)
    have h3 := Lib.uvarint_length64 (x := d.2.toNat) (by omega)
    simp only [encD, List.length_append, List.length_cons]
    omega
end Go.Proofs.YtkodololdjainaaGreat

namespace Go.Proofs.YtkodololdjainaaGreat

structure St where
  t : Int
  c : Int
  r : Int
deriving DecidableEq

def zS : St := ⟨0, 0, 0⟩
def chkS (s : St) : Int := if s.t < 0 ∨ 1099511627776 < s.t ∨ s.c < 0 ∨ 1099511627776 < s.c ∨ s.r < 0 ∨ 15 < s.r then 2 else 0
def ltS (a b : St) : Bool := if a.t ≠ b.t then decide (a.t < b.t) else if a.c ≠ b.c then decide (a.c < b.c) else decide (a.r < b.r)
def badN (now : Int) : Prop := now < 0 ∨ 1099511627776 < now
def badR (r : Int) : Prop := r < 0 ∨ 15 < r
instance (n : Int) : Decidable (badN n) := by unfold badN; infer_instance
instance (n : Int) : Decidable (badR n) := by unfold badR; infer_instance
def nextS (l : St) (now r : Int) : St × Int :=
  if chkS l ≠ 0 ∨ badN now ∨ badR r then (zS, 2) else if l.t < now then (⟨now, 0, r⟩, 0) else if l.c = 1099511627776 then (zS, 13) else (⟨l.t, l.c + 1, r⟩, 0)
/-- the greater of both, by time, then count -/
def topS (a b : St) : St := if a.t < b.t ∨ (a.t = b.t ∧ a.c < b.c) then b else a
def seenS (l o : St) (now : Int) : St × Int :=
  if chkS l ≠ 0 ∨ chkS o ≠ 0 ∨ badN now then (zS, 2) else (if (topS l o).t < now then ⟨now, 0, l.r⟩ else ⟨(topS l o).t, (topS l o).c, l.r⟩, 0)

theorem chkS_cases (s : St) : chkS s = 0 ∨ chkS s = 2 := by unfold chkS; split <;> simp
theorem chkS_ok {s : St} (h : chkS s = 0) : 0 ≤ s.t ∧ s.t ≤ 1099511627776 ∧ 0 ≤ s.c ∧ s.c ≤ 1099511627776 ∧ 0 ≤ s.r ∧ s.r ≤ 15 := by
  unfold chkS at h
  split at h
  · cases h
  · omega
theorem chkS_of {s : St} (h : 0 ≤ s.t ∧ s.t ≤ 1099511627776 ∧ 0 ≤ s.c ∧ s.c ≤ 1099511627776 ∧ 0 ≤ s.r ∧ s.r ≤ 15) : chkS s = 0 := by
  unfold chkS
  rw [if_neg]
  omega
theorem ltS_iff {a b : St} : ltS a b = true ↔ a.t < b.t ∨ (a.t = b.t ∧ (a.c < b.c ∨ (a.c = b.c ∧ a.r < b.r))) := by
  unfold ltS
  split
  · rw [decide_eq_true_eq]; omega
  · split
    · rw [decide_eq_true_eq]; omega
    · rw [decide_eq_true_eq]; omega
theorem ltS_no {a b : St} : ltS a b = false ↔ ¬ (a.t < b.t ∨ (a.t = b.t ∧ (a.c < b.c ∨ (a.c = b.c ∧ a.r < b.r)))) := by
  rw [← ltS_iff]; simp
theorem ltS_irr (a : St) : ltS a a = false := by rw [ltS_no]; omega
theorem ltS_asym {a b : St} (h : ltS a b = true) : ltS b a = false := by rw [ltS_no]; rw [ltS_iff] at h; omega
theorem ltS_trans {a b c : St} (h : ltS a b = true) (k : ltS b c = true) : ltS a c = true := by rw [ltS_iff] at *; omega
theorem ltS_tri (a b : St) : (ltS a b = true ∧ ltS b a = false ∧ decide (a = b) = false) ∨ (ltS a b = false ∧ ltS b a = true ∧ decide (a = b) = false) ∨ (ltS a b = false ∧ ltS b a = false ∧ decide (a = b) = true) := by
  by_cases e : a = b
  · subst e
    exact .inr (.inr ⟨ltS_irr a, ltS_irr a, decide_eq_true rfl⟩)
  · have hd := decide_eq_false e
    rcases hab : ltS a b with _ | _
    · rcases hba : ltS b a with _ | _
      · exfalso
        rw [ltS_no] at hab hba
        apply e
        obtain ⟨t, c, r⟩ := a
        obtain ⟨t', c', r'⟩ := b
        simp only [St.mk.injEq] at *
        omega
      · exact .inr (.inl ⟨rfl, rfl, hd⟩)
    · exact .inl ⟨rfl, ltS_asym hab, hd⟩
theorem topS_le (a b : St) : ((topS a b).t = a.t ∧ (topS a b).c = a.c ∧ (b.t < a.t ∨ (b.t = a.t ∧ b.c ≤ a.c))) ∨ ((topS a b).t = b.t ∧ (topS a b).c = b.c ∧ (a.t < b.t ∨ (a.t = b.t ∧ a.c < b.c))) := by
  unfold topS
  split
  · rename_i h; exact .inr ⟨rfl, rfl, h⟩
  · exact .inl ⟨rfl, rfl, by omega⟩
/-- what was seen may be -/
theorem seenS_ok {l o x : St} {now : Int} (h : seenS l o now = (x, 0)) : chkS x = 0 ∧ x.r = l.r ∧ ¬ badN now ∧ ¬ badR l.r ∧ (l.t < x.t ∨ (l.t = x.t ∧ l.c ≤ x.c)) ∧ (o.t < x.t ∨ (o.t = x.t ∧ o.c ≤ x.c)) ∧ now ≤ x.t := by
  unfold seenS at h
  split at h
  · exact absurd (Prod.ext_iff.1 h).2 (by simp)
  · rename_i hn
    have h1 : chkS l = 0 := Classical.byContradiction fun k => hn (.inl k)
    have h2 : chkS o = 0 := Classical.byContradiction fun k => hn (.inr (.inl k))
    have h3 : ¬ badN now := fun k => hn (.inr (.inr k))
    have k1 := chkS_ok h1
    have k2 := chkS_ok h2
    have hx := (Prod.ext_iff.1 h).1
    have ht := topS_le l o
    have hr : ¬ badR l.r := by unfold badR; omega
    refine ⟨?_, ?_, h3, hr, ?_⟩
    all_goals
      unfold badN at h3
      simp only at hx
      split at hx <;> subst hx
    · exact chkS_of (by simp only; omega)
    · exact chkS_of (by simp only; omega)
    · rfl
    · rfl
    · simp only; omega
    · simp only; omega
/-- the next one is greater than all that were made, and seen -/
theorem nextS_rise {l o x y : St} {now f : Int} (h : seenS l o now = (x, 0)) (k : nextS x now l.r = (y, f)) :
    f = 13 ∨ (f = 0 ∧ ltS l y = true ∧ (o.t < y.t ∨ (o.t = y.t ∧ o.c < y.c)) ∧ y.r = l.r ∧ chkS y = 0) := by
  obtain ⟨h1, h2, h3, h4, h5, h6, h7⟩ := seenS_ok h
  have k1 := chkS_ok h1
  unfold nextS at k
  rw [if_neg (by rintro (e | e | e); exact e h1; exact h3 e; exact h4 e)] at k
  split at k
  · omega
  · split at k
    · exact .inl (Prod.ext_iff.1 k).2.symm
    · have hy := (Prod.ext_iff.1 k).1
      have hf := (Prod.ext_iff.1 k).2
      simp only at hy hf
      subst hy
      refine .inr ⟨hf.symm, ?_, ?_, rfl, ?_⟩
      · rw [ltS_iff]; simp only; omega
      · simp only; omega
      · unfold badR at h4
        exact chkS_of (by simp only; omega)
end Go.Proofs.YtkodololdjainaaGreat

namespace Go.Proofs.YtkodololdjainaaGreat

/-! orders -/
/-- an order of all -/
structure TotO {α : Type} (lt : α → α → Bool) : Prop where
  irr : ∀ a, lt a a = false
  trans : ∀ {a b c}, lt a b = true → lt b c = true → lt a c = true
  tri : ∀ a b, lt a b = true ∨ a = b ∨ lt b a = true
/-- by the first, then by the rest -/
def lexL {α β : Type} [DecidableEq α] (l1 : α → α → Bool) (l2 : β → β → Bool) (a b : α × β) : Bool := if a.1 ≠ b.1 then l1 a.1 b.1 else l2 a.2 b.2
theorem lexL_ne {α β : Type} [DecidableEq α] {l1 : α → α → Bool} {l2 : β → β → Bool} {a b : α × β} (h : a.1 ≠ b.1) : lexL l1 l2 a b = l1 a.1 b.1 := if_pos h
theorem lexL_eq {α β : Type} [DecidableEq α] {l1 : α → α → Bool} {l2 : β → β → Bool} {a b : α × β} (h : a.1 = b.1) : lexL l1 l2 a b = l2 a.2 b.2 := if_neg (fun k => k h)
theorem TotO.lex {α β : Type} [DecidableEq α] {l1 : α → α → Bool} {l2 : β → β → Bool} (h1 : TotO l1) (h2 : TotO l2) : TotO (lexL l1 l2) where
  irr a := by rw [lexL_eq rfl]; exact h2.irr _
  trans {a b c} hab hbc := by
    by_cases e1 : a.1 = b.1
    · by_cases e2 : b.1 = c.1
      · rw [lexL_eq e1] at hab
        rw [lexL_eq e2] at hbc
        rw [lexL_eq (e1.trans e2)]
        exact h2.trans hab hbc
      · rw [lexL_ne e2] at hbc
        rw [lexL_ne (by rw [e1]; exact e2), e1]
        exact hbc
    · rw [lexL_ne e1] at hab
      by_cases e2 : b.1 = c.1
      · rw [lexL_ne (by rw [← e2]; exact e1), ← e2]
        exact hab
      · rw [lexL_ne e2] at hbc
        have h := h1.trans hab hbc
        have e3 : a.1 ≠ c.1 := fun e => by rw [e, h1.irr] at h; cases h
        rw [lexL_ne e3]
        exact h
  tri a b := by
    by_cases e : a.1 = b.1
    · rw [lexL_eq e, lexL_eq e.symm]
      rcases h2.tri a.2 b.2 with h | h | h
      · exact .inl h
      · exact .inr (.inl (Prod.ext e h))
      · exact .inr (.inr h)
    · rw [lexL_ne e, lexL_ne (fun k => e k.symm)]
      rcases h1.tri a.1 b.1 with h | h | h
      · exact .inl h
      · exact absurd h e
      · exact .inr (.inr h)
theorem totI : TotO (fun a b : Int => decide (a < b)) where
  irr a := by simp
  trans {a b c} h k := by simp only [decide_eq_true_eq] at *; omega
  tri a b := by simp only [decide_eq_true_eq]; omega
theorem totD : TotO ltD := ⟨ltD_irr, ltD_trans, ltD_tri⟩
theorem totS : TotO ltS := ⟨ltS_irr, ltS_trans, fun a b => by
  rcases ltS_tri a b with ⟨h, -, -⟩ | ⟨-, h, -⟩ | ⟨-, -, h⟩
  · exact .inl h
  · exact .inr (.inr h)
  · exact .inr (.inl (of_decide_eq_true h))⟩
theorem less_irr : ∀ a : List UInt8, Op.bytesLess a a = false
  | [] => rfl
  | x :: r => by simp [Op.bytesLess, less_irr r, UInt8.lt_irrefl]
theorem less_trans : ∀ a b c : List UInt8, Op.bytesLess a b = true → Op.bytesLess b c = true → Op.bytesLess a c = true
  | _, _, [] => fun _ h => by simp [Op.bytesLess] at h
  | [], _, _ :: _ => fun _ _ => rfl
  | _ :: _, [], _ :: _ => fun h _ => by simp [Op.bytesLess] at h
  | x :: a, y :: b, z :: c => fun h k => by
    simp only [Op.bytesLess, Bool.or_eq_true, decide_eq_true_eq, Bool.and_eq_true, beq_iff_eq, UInt8.lt_iff_toNat_lt, ← UInt8.toNat_inj] at *
    rcases h with h | ⟨h, h2⟩
    · rcases k with k | ⟨k, -⟩
      · exact .inl (by omega)
      · exact .inl (by omega)
    · rcases k with k | ⟨k, k2⟩
      · exact .inl (by omega)
      · exact .inr ⟨by omega, less_trans a b c h2 k2⟩
theorem less_tri : ∀ a b : List UInt8, Op.bytesLess a b = true ∨ a = b ∨ Op.bytesLess b a = true
  | [], [] => .inr (.inl rfl)
  | [], _ :: _ => .inl rfl
  | _ :: _, [] => .inr (.inr rfl)
  | x :: a, y :: b => by
    have ih := less_tri a b
    simp only [Op.bytesLess, Bool.or_eq_true, decide_eq_true_eq, Bool.and_eq_true, beq_iff_eq, UInt8.lt_iff_toNat_lt, ← UInt8.toNat_inj, List.cons.injEq]
    rcases Nat.lt_trichotomy x.toNat y.toNat with h | h | h
    · exact .inl (.inl h)
    · rcases ih with k | k | k
      · exact .inl (.inr ⟨h, k⟩)
      · exact .inr (.inl ⟨h, k⟩)
      · exact .inr (.inr (.inr ⟨h.symm, k⟩))
    · exact .inr (.inr (.inl h))
/-- '<' of texts -/
def ltX (a b : ByteArray) : Bool := Op.bytesLess a.toList b.toList
theorem totX : TotO ltX where
  irr a := less_irr _
  trans h k := less_trans _ _ _ h k
  tri a b := by
    rcases less_tri a.toList b.toList with h | h | h
    · exact .inl h
    · refine .inr (.inl ?_)
      rw [ByteArray.toList_eq, ByteArray.toList_eq] at h
      obtain ⟨⟨x⟩⟩ := a
      obtain ⟨⟨y⟩⟩ := b
      simp only at h
      rw [h]
    · exact .inr (.inr h)

/-! facts -/
structure Ft where
  d : Dt
  s : St
  k : Int
  n : ByteArray
  v : ByteArray
deriving DecidableEq

def keyF (f : Ft) : ByteArray × Int × Dt × St × ByteArray := (f.n, f.k, f.d, f.s, f.v)
theorem keyF_inj {a b : Ft} (h : keyF a = keyF b) : a = b := by
  obtain ⟨d, s, k, n, v⟩ := a
  obtain ⟨d', s', k', n', v'⟩ := b
  simp only [keyF, Prod.mk.injEq] at h
  obtain ⟨rfl, rfl, rfl, rfl, rfl⟩ := h
  rfl
/-- by name, kind, name of the update, stamp, value -/
def ltF (a b : Ft) : Bool := lexL ltX (lexL (fun x y : Int => decide (x < y)) (lexL ltD (lexL ltS ltX))) (keyF a) (keyF b)
theorem totK : TotO (lexL ltX (lexL (fun x y : Int => decide (x < y)) (lexL ltD (lexL ltS ltX)))) := totX.lex (totI.lex (totD.lex (totS.lex totX)))
theorem ltF_irr (a : Ft) : ltF a a = false := totK.irr _
theorem ltF_trans {a b c : Ft} (h1 : ltF a b = true) (h2 : ltF b c = true) : ltF a c = true := totK.trans h1 h2
theorem ltF_asym {a b : Ft} (h : ltF a b = true) : ltF b a = false := by
  rcases e : ltF b a with _ | _
  · rfl
  · have := ltF_trans h e
    rw [ltF_irr] at this
    cases this
theorem ltF_tri (a b : Ft) : ltF a b = true ∨ a = b ∨ ltF b a = true := by
  rcases totK.tri (keyF a) (keyF b) with h | h | h
  · exact .inl h
  · exact .inr (.inl (keyF_inj h))
  · exact .inr (.inr h)
theorem ltF_of {a b : Ft} (h1 : ltF b a = false) (h2 : a ≠ b) : ltF a b = true := by
  rcases ltF_tri a b with h | h | h
  · exact h
  · exact absurd h h2
  · rw [h] at h1; cases h1
/-- as the document tells it -/
theorem ltF_if (a b : Ft) : ltF a b = if a.n ≠ b.n then ltX a.n b.n else if a.k ≠ b.k then decide (a.k < b.k) else if a.d ≠ b.d then ltD a.d b.d else if a.s ≠ b.s then ltS a.s b.s else ltX a.v b.v := rfl
/-- for the statement on three -/
theorem ltF_three (a b : Ft) : (ltF a b = true ∧ ltF b a = false ∧ decide (a = b) = false) ∨ (ltF a b = false ∧ ltF b a = true ∧ decide (a = b) = false) ∨ (ltF a b = false ∧ ltF b a = false ∧ decide (a = b) = true) := by
  rcases ltF_tri a b with h | h | h
  · exact .inl ⟨h, ltF_asym h, decide_eq_false fun e => by rw [e, ltF_irr] at h; cases h⟩
  · subst h; exact .inr (.inr ⟨ltF_irr a, ltF_irr a, decide_eq_true rfl⟩)
  · exact .inr (.inl ⟨ltF_asym h, h, decide_eq_false fun e => by rw [e, ltF_irr] at h; cases h⟩)

/-- what a fact's error is -/
def chkF (rd : ByteArray → Int) (f : Ft) : Int :=
  if chkD f.d ≠ 0 then chkD f.d else if chkS f.s ≠ 0 then chkS f.s else if f.d.1 ≠ f.s.r then 5 else if f.k < 1 ∨ 4 < f.k then 1 else if f.n.size < 1 ∨ 64 < f.n.size then 14
  else if f.k = 1 then (if 16384 < f.v.size then 3 else rd f.v)
  else if f.k = 2 then (if 256 < f.v.size then 3 else 0)
  else if f.k = 3 then (if f.v.size < 1 ∨ 64 < f.v.size then 14 else 0)
  else (if f.v.size ≠ 8 then 5 else 0)
theorem chkF_ok {rd : ByteArray → Int} {f : Ft} (h : chkF rd f = 0) : chkD f.d = 0 ∧ chkS f.s = 0 ∧ f.d.1 = f.s.r ∧ 1 ≤ f.k ∧ f.k ≤ 4 ∧ f.n.size ≤ 64 ∧ f.v.size ≤ 16384 := by
  unfold chkF at h
  split at h
  · rename_i h1; exact absurd h h1
  rename_i h1
  split at h
  · rename_i h2; exact absurd h h2
  rename_i h2
  split at h
  · cases h
  rename_i h3
  split at h
  · cases h
  rename_i h4
  split at h
  · cases h
  rename_i h5
  have g1 : chkD f.d = 0 := Classical.byContradiction h1
  have g2 : chkS f.s = 0 := Classical.byContradiction h2
  have g3 : f.d.1 = f.s.r := Classical.byContradiction h3
  refine ⟨g1, g2, g3, by omega, by omega, by omega, ?_⟩
  split at h
  · split at h
    · cases h
    · omega
  · split at h
    · split at h
      · cases h
      · omega
    · split at h
      · split at h
        · cases h
        · omega
      · split at h
        · cases h
        · omega

/-- They rise. -/
def RiseF (l : List Ft) : Prop := l.Pairwise (fun a b => ltF a b = true)
instance (l : List Ft) : Decidable (RiseF l) := inferInstanceAs (Decidable (l.Pairwise _))

theorem riseF_near : ∀ (l : List Ft), (∀ j (h : j + 1 < l.length), ltF l[j] l[j + 1] = true) → RiseF l := by
  intro l
  induction l with
  | nil => intro _; exact .nil
  | cons a r ih =>
    intro h
    have hr : RiseF r := ih (fun j hj => h (j + 1) (by simp; omega))
    refine List.pairwise_cons.2 ⟨fun b hb => ?_, hr⟩
    cases r with
    | nil => simp at hb
    | cons c t =>
      have h0 := h 0 (by simp)
      simp only [List.getElem_cons_zero, List.getElem_cons_succ] at h0
      rcases List.mem_cons.1 hb with rfl | hb
      · exact h0
      · exact ltF_trans h0 ((List.pairwise_cons.1 hr).1 b hb)
theorem RiseF.near {l : List Ft} (h : RiseF l) (j : Nat) (hj : j + 1 < l.length) : ltF l[j] l[j + 1] = true := (List.pairwise_iff_getElem.1 h) j (j + 1) (by omega) hj (by omega)

/-! lists that rise are told by what is in them -/
theorem riseF_same : ∀ {a b : List Ft}, RiseF a → RiseF b → (∀ x, x ∈ a ↔ x ∈ b) → a = b := by
  intro a
  induction a with
  | nil =>
    intro b _ _ h
    cases b with
    | nil => rfl
    | cons y t => exact absurd ((h y).2 (by simp)) (by simp)
  | cons x s ih =>
    intro b ha hb h
    cases b with
    | nil => exact absurd ((h x).1 (by simp)) (by simp)
    | cons y t =>
      have ha' := List.pairwise_cons.1 ha
      have hb' := List.pairwise_cons.1 hb
      have hxy : x = y := by
        rcases List.mem_cons.1 ((h x).1 (by simp)) with e | e
        · exact e
        · rcases List.mem_cons.1 ((h y).2 (by simp)) with e2 | e2
          · exact e2.symm
          · have h1 := ha'.1 y e2
            have h2 := hb'.1 x e
            rw [ltF_asym h1] at h2
            cases h2
      subst hxy
      have hst : s = t := ih ha'.2 hb'.2 fun z => by
        constructor
        · intro hz
          rcases List.mem_cons.1 ((h z).1 (by simp [hz])) with e | e
          · subst e; have := ha'.1 z hz; rw [ltF_irr] at this; cases this
          · exact e
        · intro hz
          rcases List.mem_cons.1 ((h z).2 (by simp [hz])) with e | e
          · subst e; have := hb'.1 z hz; rw [ltF_irr] at this; cases this
          · exact e
      rw [hst]

/-- a fact, laid into a list that rises -/
def insF (d : Ft) : List Ft → List Ft
  | [] => [d]
  | x :: r => if ltF x d = true then x :: insF d r else if x = d then x :: r else d :: x :: r
/-- each once, rising -/
def sortF (l : List Ft) : List Ft := l.foldl (fun acc d => insF d acc) []

theorem mem_insF {d z : Ft} : ∀ {l : List Ft}, z ∈ insF d l ↔ z = d ∨ z ∈ l := by
  intro l
  induction l with
  | nil => simp [insF]
  | cons x r ih =>
    unfold insF
    split
    · simp only [List.mem_cons, ih]; constructor <;> (rintro (h | h | h) <;> simp [h])
    · split
      · rename_i h1 h2; subst h2; simp
      · simp
theorem riseF_insF {d : Ft} : ∀ {l : List Ft}, RiseF l → RiseF (insF d l) := by
  intro l
  induction l with
  | nil => intro _; simp [insF, RiseF]
  | cons x r ih =>
    intro h
    have h' := List.pairwise_cons.1 h
    unfold insF
    split
    · rename_i h1
      refine List.pairwise_cons.2 ⟨fun b hb => ?_, ih h'.2⟩
      rcases mem_insF.1 hb with rfl | hb
      · exact h1
      · exact h'.1 b hb
    · rename_i h1
      split
      · exact h
      · rename_i h2
        have hdx : ltF d x = true := ltF_of (by simpa using h1) (fun e => h2 e.symm)
        refine List.pairwise_cons.2 ⟨fun b hb => ?_, h⟩
        rcases List.mem_cons.1 hb with rfl | hb
        · exact hdx
        · exact ltF_trans hdx (h'.1 b hb)
theorem sortF_snoc (l : List Ft) (d : Ft) : sortF (l ++ [d]) = insF d (sortF l) := by simp [sortF]
theorem foldF_spec : ∀ (l acc : List Ft), RiseF acc → RiseF (l.foldl (fun acc d => insF d acc) acc) ∧ ∀ z, z ∈ l.foldl (fun acc d => insF d acc) acc ↔ z ∈ acc ∨ z ∈ l := by
  intro l
  induction l with
  | nil => intro acc h; exact ⟨h, fun z => by simp⟩
  | cons d r ih =>
    intro acc h
    obtain ⟨h1, h2⟩ := ih (insF d acc) (riseF_insF h)
    refine ⟨h1, fun z => ?_⟩
    rw [List.foldl_cons, h2, mem_insF, List.mem_cons]
    constructor <;> rintro h
    · rcases h with (h | h) | h <;> simp [h]
    · rcases h with h | h | h <;> simp [h]
theorem riseF_sortF (l : List Ft) : RiseF (sortF l) := (foldF_spec l [] .nil).1
theorem mem_sortF {l : List Ft} {z : Ft} : z ∈ sortF l ↔ z ∈ l := by
  have h := (foldF_spec l [] .nil).2 z
  simpa [sortF] using h
theorem insF_len (d : Ft) : ∀ l : List Ft, (insF d l).length ≤ l.length + 1 := by
  intro l
  induction l with
  | nil => simp [insF]
  | cons x r ih => unfold insF; split <;> (try split) <;> simp <;> omega
theorem sortF_len (l : List Ft) : (sortF l).length ≤ l.length := by
  have : ∀ (l acc : List Ft), (l.foldl (fun acc d => insF d acc) acc).length ≤ acc.length + l.length := by
    intro l
    induction l with
    | nil => simp
    | cons d r ih => intro acc; have h1 := ih (insF d acc); have h2 := insF_len d acc; simp only [List.foldl_cons, List.length_cons]; omega
  simpa [sortF] using this l []

/-- a fact that is in a list that rises is not laid in again -/
theorem insF_in {d : Ft} {l : List Ft} (h : RiseF l) (hd : d ∈ l) : insF d l = l :=
  riseF_same (riseF_insF h) h fun z => by rw [mem_insF]; exact ⟨fun hz => hz.elim (fun e => e ▸ hd) id, Or.inr⟩
/-- one that is not stands behind those that are less -/
theorem insF_at {d : Ft} {l : List Ft} (h : RiseF l) (hd : d ∉ l) (k : Nat) (hk : k ≤ l.length) (h1 : ∀ j (hj : j < l.length), j < k → ltF l[j] d = true) (h2 : ∀ hk : k < l.length, ltF l[k] d = false) :
    l.take k ++ [d] ++ l.drop k = insF d l := by
  have hp := List.pairwise_iff_getElem.1 h
  have hb : ∀ x ∈ l.drop k, ltF d x = true := by
    intro x hx
    obtain ⟨i, hi, rfl⟩ := List.mem_iff_getElem.1 hx
    rw [List.getElem_drop]
    rw [List.length_drop] at hi
    have h3 : ltF d l[k] = true := ltF_of (h2 (by omega)) (fun e => hd (by rw [e]; exact List.getElem_mem _))
    by_cases hi0 : i = 0
    · subst hi0; exact h3
    · exact ltF_trans h3 (hp k (k + i) (by omega) (by omega) (by omega))
  have ha : ∀ x ∈ l.take k, ltF x d = true := by
    intro x hx
    obtain ⟨i, hi, rfl⟩ := List.mem_iff_getElem.1 hx
    rw [List.length_take] at hi
    rw [List.getElem_take]
    exact h1 i (by omega) (by omega)
  refine riseF_same ?_ (riseF_insF h) fun z => ?_
  · unfold RiseF
    rw [List.append_assoc, List.pairwise_append]
    refine ⟨List.Pairwise.sublist (List.take_sublist _ _) h, ?_, ?_⟩
    · rw [List.singleton_append, List.pairwise_cons]
      exact ⟨hb, List.Pairwise.sublist (List.drop_sublist _ _) h⟩
    · intro x hx y hy
      rcases List.mem_append.1 hy with hy | hy
      · obtain rfl := List.mem_singleton.1 hy; exact ha x hx
      · exact ltF_trans (ha x hx) (hb y hy)
  · rw [mem_insF]
    have e : z ∈ l ↔ z ∈ l.take k ∨ z ∈ l.drop k := by rw [← List.mem_append, List.take_append_drop]
    rw [e]
    simp only [List.mem_append, List.mem_singleton]
    constructor
    · rintro ((h | h) | h) <;> simp [h]
    · rintro (h | h | h) <;> simp [h]

/-! of neighbours that are the same one is kept -/
/-- what was kept of the first k of s -/
structure KeptF (s : List Ft) (k : Nat) (out : List Ft) : Prop where
  rise : RiseF out
  mem : ∀ z, z ∈ out ↔ z ∈ s.take k
  len : out.length ≤ k
theorem KeptF.start (s : List Ft) : KeptF s 0 [] := ⟨.nil, fun z => by simp, Nat.le_refl _⟩
theorem KeptF.same {s out : List Ft} {k : Nat} (h : KeptF s (k + 1) out) (hk : k + 1 < s.length) (he : s[k + 1] = s[k]) : KeptF s (k + 1 + 1) out := by
  refine ⟨h.rise, fun z => ?_, Nat.le_succ_of_le h.len⟩
  rw [h.mem z, List.take_succ_eq_append_getElem hk, List.mem_append, List.mem_singleton]
  constructor
  · exact .inl
  · rintro (hz | rfl)
    · exact hz
    · rw [he]; exact List.mem_take_iff_getElem.2 ⟨k, by omega, rfl⟩
theorem KeptF.more {s out : List Ft} {k : Nat} (h : KeptF s k out) (hs : s.Pairwise (fun a b => ltF b a = false)) (hk : k < s.length) (hne : ∀ j (hj : j + 1 = k), s[k] ≠ s[j]) : KeptF s (k + 1) (out ++ [s[k]]) := by
  refine ⟨?_, fun z => ?_, by have := h.len; simp; omega⟩
  · unfold RiseF
    rw [List.pairwise_append]
    refine ⟨h.rise, by simp, fun x hx y hy => ?_⟩
    obtain rfl := List.mem_singleton.1 hy
    obtain ⟨j, hj, rfl⟩ := List.mem_take_iff_getElem.1 ((h.mem x).1 hx)
    have hp := List.pairwise_iff_getElem.1 hs
    obtain ⟨m, rfl⟩ : ∃ m, k = m + 1 := ⟨k - 1, by omega⟩
    have hm : ltF s[m] s[m + 1] = true := ltF_of (hp m (m + 1) (by omega) hk (by omega)) (fun e => hne m rfl e.symm)
    by_cases hjm : j = m
    · subst hjm; exact hm
    · have h1 := hp j m (by omega) (by omega) (by omega)
      rcases ltF_tri s[j] s[m] with h2 | h2 | h2
      · exact ltF_trans h2 hm
      · rw [h2]; exact hm
      · rw [h2] at h1; cases h1
  · rw [List.take_succ_eq_append_getElem hk, List.mem_append, List.mem_append, h.mem z]
theorem KeptF.all {s l out : List Ft} {k : Nat} (h : KeptF s k out) (hk : s.length ≤ k) (hp : ∀ z, z ∈ s ↔ z ∈ l) : out = sortF l :=
  riseF_same h.rise (riseF_sortF l) fun z => by rw [h.mem z, List.take_of_length_le hk, mem_sortF, hp]


/-- what a list's first error is -/
def firstF (rd : ByteArray → Int) : List Ft → Int
  | [] => 0
  | f :: r => if chkF rd f ≠ 0 then chkF rd f else firstF rd r
def chkFs (rd : ByteArray → Int) (l : List Ft) : Int := if firstF rd l ≠ 0 then firstF rd l else if RiseF l then 0 else 5
theorem firstF_ok {rd : ByteArray → Int} : ∀ {l : List Ft}, firstF rd l = 0 ↔ ∀ f ∈ l, chkF rd f = 0 := by
  intro l
  induction l with
  | nil => simp [firstF]
  | cons f r ih =>
    unfold firstF
    split
    · rename_i h
      exact ⟨fun e => absurd e h, fun e => e f (by simp)⟩
    · rename_i h
      rw [ih, List.forall_mem_cons]
      exact ⟨fun e => ⟨Classical.byContradiction h, e⟩, fun e => e.2⟩
theorem firstF_at {rd : ByteArray → Int} : ∀ {l : List Ft} {j : Nat} {f : Ft}, l[j]? = some f → chkF rd f ≠ 0 → (∀ i g, i < j → l[i]? = some g → chkF rd g = 0) → firstF rd l = chkF rd f := by
  intro l
  induction l with
  | nil => intro j f h; simp at h
  | cons x r ih =>
    intro j f h hf hb
    cases j with
    | zero =>
      simp only [List.getElem?_cons_zero, Option.some.injEq] at h
      subst h
      unfold firstF
      rw [if_pos hf]
    | succ j =>
      have hx := hb 0 x (by omega) rfl
      unfold firstF
      rw [if_neg (by simp [hx])]
      exact ih (by simpa using h) hf fun i g hi hg => hb (i + 1) g (by omega) (by simpa using hg)
theorem chkFs_ok {rd : ByteArray → Int} {l : List Ft} (h : chkFs rd l = 0) : (∀ f ∈ l, chkF rd f = 0) ∧ RiseF l := by
  unfold chkFs at h
  split at h
  · rename_i h1; exact absurd h h1
  · rename_i h1
    split at h
    · rename_i h2
      exact ⟨firstF_ok.1 (Classical.byContradiction h1), h2⟩
    · cases h
theorem chkFs_bad {rd : ByteArray → Int} {l : List Ft} (h : firstF rd l ≠ 0) : chkFs rd l = firstF rd l := by unfold chkFs; rw [if_pos h]
theorem chkFs_flat {rd : ByteArray → Int} {l : List Ft} (h : firstF rd l = 0) (hr : ¬ RiseF l) : chkFs rd l = 5 := by unfold chkFs; rw [if_neg (by simp [h]), if_neg hr]
theorem chkFs_good {rd : ByteArray → Int} {l : List Ft} (h : firstF rd l = 0) (hr : RiseF l) : chkFs rd l = 0 := by unfold chkFs; rw [if_neg (by simp [h]), if_pos hr]

/-! bytes -/
def encX (s : ByteArray) : List UInt8 := Lib.uvarint s.size ++ s.data.toList
def encF1 (f : Ft) : List UInt8 := Lib.uvarint f.d.1.toNat ++ (Lib.uvarint f.d.2.toNat ++ (Lib.uvarint f.s.t.toNat ++ (Lib.uvarint f.s.c.toNat ++ (Lib.uvarint f.k.toNat ++ (encX f.n ++ encX f.v)))))
def encF : List Ft → List UInt8
  | [] => []
  | f :: r => encF1 f ++ encF r
def encFs (l : List Ft) : List UInt8 := Lib.uvarint l.length ++ encF l
def putF (rd : ByteArray → Int) (l : List Ft) : ByteArray × Int := if 4096 < l.length then (⟨#[]⟩, 3) else if chkFs rd l = 0 then (⟨(encFs l).toArray⟩, 0) else (⟨#[]⟩, chkFs rd l)
theorem encF_append : ∀ (a b : List Ft), encF (a ++ b) = encF a ++ encF b := by
  intro a b
  induction a with
  | nil => rfl
  | cons x r ih => simp [encF, ih]
theorem encF_snoc (a : List Ft) (f : Ft) : encF (a ++ [f]) = encF a ++ encF1 f := by rw [encF_append]; simp [encF]

/-- one fact read, and the reader's state behind it -/
def sFact (st : ByteArray × Int) : Ft × (ByteArray × Int) :=
  let a := sNum st
  let b := sNum a.2
  let c := sNum b.2
  let d := sNum c.2
  let e := sNum d.2
  let n := sText e.2
  let v := sText n.2
  (⟨((a.1 : Int), (b.1 : Int)), ⟨c.1, d.1, a.1⟩, e.1, n.1, v.1⟩, v.2)
/-- n facts read, behind those that are there -/
def sFacts : Nat → ByteArray × Int → List Ft → List Ft × (ByteArray × Int)
  | 0, st, acc => (acc, st)
  | n + 1, st, acc => sFacts n (sFact st).2 (acc ++ [(sFact st).1])
def rdF (s : ByteArray) : List Ft × (ByteArray × Int) := sFacts (sNum (s, 0)).1 (sNum (s, 0)).2 []
def readF (rd : ByteArray → Int) (s : ByteArray) : List Ft × Int :=
  if 4096 < (sNum (s, 0)).1 then ([], 3) else if doneS (rdF s).2 ≠ 0 then ([], doneS (rdF s).2) else if chkFs rd (rdF s).1 ≠ 0 then ([], chkFs rd (rdF s).1) else ((rdF s).1, 0)

theorem text_bad {st : ByteArray × Int} (h : st.2 ≠ 0) : (sText st).2 = st := by
  have h1 := sNum_bad h
  have hc : sCount 65536 st = (0, false, st) := by unfold sCount; rw [if_pos (by rw [h1]; exact h), h1]
  unfold sText
  rw [hc]
  rfl
theorem sFact_bad {st : ByteArray × Int} (h : st.2 ≠ 0) : (sFact st).2 = st := by
  simp only [sFact, sNum_bad h, text_bad h]
theorem sFact_size (st : ByteArray × Int) : (sFact st).2.1.size ≤ st.1.size := by
  have h1 := sNum_size st
  have h2 := sNum_size (sNum st).2
  have h3 := sNum_size (sNum (sNum st).2).2
  have h4 := sNum_size (sNum (sNum (sNum st).2).2).2
  have h5 := sNum_size (sNum (sNum (sNum (sNum st).2).2).2).2
  have h6 := sText_size (sNum (sNum (sNum (sNum (sNum st).2).2).2).2).2
  have h7 := sText_size (sText (sNum (sNum (sNum (sNum (sNum st).2).2).2).2).2).2
  simp only [sFact]
  omega
theorem sFacts_size : ∀ (n : Nat) (st : ByteArray × Int) (acc : List Ft), (sFacts n st acc).2.1.size ≤ st.1.size := by
  intro n
  induction n with
  | zero => intro st acc; exact Nat.le_refl _
  | succ n ih => intro st acc; exact Nat.le_trans (ih _ _) (sFact_size st)
theorem sFacts_bad : ∀ (n : Nat) (st : ByteArray × Int) (acc : List Ft), st.2 ≠ 0 → (sFacts n st acc).2 = st := by
  intro n
  induction n with
  | zero => intro st acc _; rfl
  | succ n ih =>
    intro st acc h
    unfold sFacts
    rw [sFact_bad h]
    exact ih st _ h
theorem sFacts_len : ∀ (n : Nat) (st : ByteArray × Int) (acc : List Ft), (sFacts n st acc).1.length = acc.length + n := by
  intro n
  induction n with
  | zero => intro st acc; rfl
  | succ n ih => intro st acc; unfold sFacts; rw [ih]; simp; omega

/-! what is put comes back -/
theorem text_enc (s : ByteArray) (hs : s.size ≤ 65536) (r : List UInt8) : sText (⟨(encX s ++ r).toArray⟩, 0) = (s, (⟨r.toArray⟩, 0)) := sText_enc s hs r
theorem sFact_enc {rd : ByteArray → Int} (f : Ft) (h : chkF rd f = 0) (r : List UInt8) : sFact (⟨(encF1 f ++ r).toArray⟩, 0) = (f, (⟨r.toArray⟩, 0)) := by
  obtain ⟨h1, h2, h3, h4, h5, h6, h7⟩ := chkF_ok h
  have k1 := chkD_ok h1
  have k2 := chkS_ok h2
  have e1 := sNum_uv f.d.1.toNat (by omega) (Lib.uvarint f.d.2.toNat ++ (Lib.uvarint f.s.t.toNat ++ (Lib.uvarint f.s.c.toNat ++ (Lib.uvarint f.k.toNat ++ (encX f.n ++ (encX f.v ++ r))))))
  have e2 := sNum_uv f.d.2.toNat (by omega) (Lib.uvarint f.s.t.toNat ++ (Lib.uvarint f.s.c.toNat ++ (Lib.uvarint f.k.toNat ++ (encX f.n ++ (encX f.v ++ r)))))
  have e3 := sNum_uv f.s.t.toNat (by omega) (Lib.uvarint f.s.c.toNat ++ (Lib.uvarint f.k.toNat ++ (encX f.n ++ (encX f.v ++ r))))
  have e4 := sNum_uv f.s.c.toNat (by omega) (Lib.uvarint f.k.toNat ++ (encX f.n ++ (encX f.v ++ r)))
  have e5 := sNum_uv f.k.toNat (by omega) (encX f.n ++ (encX f.v ++ r))
  have e6 := text_enc f.n (by omega) (encX f.v ++ r)
  have e7 := text_enc f.v (by omega) r
  have e0 : encF1 f ++ r = Lib.uvarint f.d.1.toNat ++ (Lib.uvarint f.d.2.toNat ++ (Lib.uvarint f.s.t.toNat ++ (Lib.uvarint f.s.c.toNat ++ (Lib.uvarint f.k.toNat ++ (encX f.n ++ (encX f.v ++ r)))))) := by simp only [encF1, List.append_assoc]
  rw [e0]
  simp only [sFact, e1, e2, e3, e4, e5, e6, e7]
  obtain ⟨⟨d1, d2⟩, ⟨t, c, q⟩, k, n, v⟩ := f
  simp only at *
  have g1 : ((d1.toNat : Nat) : Int) = d1 := by omega
  have g2 : ((d2.toNat : Nat) : Int) = d2 := by omega
  have g3 : ((t.toNat : Nat) : Int) = t := by omega
  have g4 : ((c.toNat : Nat) : Int) = c := by omega
  have g5 : ((k.toNat : Nat) : Int) = k := by omega
  rw [g1, g2, g3, g4, g5, h3]
theorem sFacts_enc {rd : ByteArray → Int} : ∀ (l : List Ft) (r : List UInt8) (acc : List Ft), (∀ f ∈ l, chkF rd f = 0) → sFacts l.length (⟨(encF l ++ r).toArray⟩, 0) acc = (acc ++ l, (⟨r.toArray⟩, 0)) := by
  intro l
  induction l with
  | nil => intro r acc _; simp [sFacts, encF]
  | cons f t ih =>
    intro r acc h
    have e1 := sFact_enc f (h f (by simp)) (encF t ++ r)
    have e0 : encF (f :: t) ++ r = encF1 f ++ (encF t ++ r) := by simp only [encF, List.append_assoc]
    rw [e0]
    simp only [List.length_cons, sFacts, e1]
    rw [ih r _ (fun x hx => h x (by simp [hx]))]
    simp
theorem readF_put {rd : ByteArray → Int} {l : List Ft} {c : ByteArray} (h : putF rd l = (c, 0)) : readF rd c = (l, 0) := by
  unfold putF at h
  split at h
  · cases h
  · rename_i hl
    split at h
    · rename_i hc
      obtain ⟨hg, -⟩ := chkFs_ok hc
      cases h
      have e1 := sNum_uv l.length (by omega) (encF l)
      have e2 := sFacts_enc l [] [] hg
      rw [List.append_nil, List.nil_append] at e2
      unfold readF rdF
      unfold encFs
      rw [e1]
      simp only [e2]
      rw [if_neg hl, if_neg (by simp [doneS, ByteArray.size]), if_neg (by rw [hc]; simp)]
    · rename_i hc
      exact absurd (Prod.ext_iff.1 h).2 hc
theorem text_put {st : ByteArray × Int} {t s1 : ByteArray} (h : sText st = (t, (s1, 0))) : st.2 = 0 ∧ st.1.data.toList = encX t ++ s1.data.toList := by
  show _ ∧ st.1.data.toList = Lib.uvarint t.size ++ t.data.toList ++ s1.data.toList
  unfold sText at h
  split at h
  · rename_i hc
    exfalso
    unfold sCount at hc h
    split at hc
    · rename_i he
      rw [if_pos he] at h
      exact he (by have := (Prod.ext_iff.1 (Prod.ext_iff.1 h).2).2; simpa using this)
    · rename_i he
      split at hc
      · rename_i hb
        rw [if_neg he, if_pos hb] at h
        have := (Prod.ext_iff.1 (Prod.ext_iff.1 h).2).2
        simp at this
      · cases hc
  · rename_i hc
    split at h
    · have := (Prod.ext_iff.1 (Prod.ext_iff.1 h).2).2
      simp at this
    · rename_i hsz
      have hcount : sCount 65536 st = ((sNum st).1, true, (sNum st).2) := by
        unfold sCount at hc ⊢
        split
        · rename_i he; rw [if_pos he] at hc; simp at hc
        · rename_i he
          split
          · rename_i hb; rw [if_neg he, if_pos hb] at hc; simp at hc
          · rfl
      have herr : (sNum st).2.2 = 0 := by
        refine Classical.byContradiction fun he => ?_
        unfold sCount at hc
        rw [if_pos he] at hc
        simp at hc
      rw [hcount] at h hsz
      simp only at h hsz
      obtain ⟨h1, h2⟩ := sNum_put (st := st) (n := (sNum st).1) (s1 := (sNum st).2.1) (Prod.ext rfl (Prod.ext rfl herr))
      refine ⟨h1, ?_⟩
      obtain ⟨rfl, h3⟩ := Prod.mk.inj h
      obtain ⟨rfl, -⟩ := Prod.mk.inj h3
      generalize hS : (sNum st).2.1 = S at *
      generalize (sNum st).1 = n at *
      have e1 : (S.extract 0 n).size = n := by rw [ByteArray.size_extract]; omega
      have e2 : (S.extract 0 n).data.toList = S.data.toList.take n := by rw [Lib.extract_data]; simp
      rw [h2, e1, e2, drop_str, List.append_assoc, List.take_append_drop]
theorem sFact_put {st : ByteArray × Int} {f : Ft} {s1 : ByteArray} (h : sFact st = (f, (s1, 0))) : st.2 = 0 ∧ st.1.data.toList = encF1 f ++ s1.data.toList := by
  simp only [sFact] at h
  obtain ⟨hf, hs⟩ := Prod.mk.inj h
  subst hf
  obtain ⟨p7, q7⟩ := text_put (Prod.ext rfl hs)
  obtain ⟨p6, q6⟩ := text_put (st := (sNum (sNum (sNum (sNum (sNum st).2).2).2).2).2) (s1 := (sText (sNum (sNum (sNum (sNum (sNum st).2).2).2).2).2).2.1) (Prod.ext rfl (Prod.ext rfl p7))
  obtain ⟨p5, q5⟩ := sNum_put (st := (sNum (sNum (sNum (sNum st).2).2).2).2) (n := _) (s1 := (sNum (sNum (sNum (sNum (sNum st).2).2).2).2).2.1) (Prod.ext rfl (Prod.ext rfl p6))
  obtain ⟨p4, q4⟩ := sNum_put (st := (sNum (sNum (sNum st).2).2).2) (n := _) (s1 := (sNum (sNum (sNum (sNum st).2).2).2).2.1) (Prod.ext rfl (Prod.ext rfl p5))
  obtain ⟨p3, q3⟩ := sNum_put (st := (sNum (sNum st).2).2) (n := _) (s1 := (sNum (sNum (sNum st).2).2).2.1) (Prod.ext rfl (Prod.ext rfl p4))
  obtain ⟨p2, q2⟩ := sNum_put (st := (sNum st).2) (n := _) (s1 := (sNum (sNum st).2).2.1) (Prod.ext rfl (Prod.ext rfl p3))
  obtain ⟨p1, q1⟩ := sNum_put (st := st) (n := _) (s1 := (sNum st).2.1) (Prod.ext rfl (Prod.ext rfl p2))
  refine ⟨p1, ?_⟩
  rw [q1, q2, q3, q4, q5, q6, q7]
  simp only [encF1, Int.toNat_natCast, List.append_assoc]
theorem sFacts_put : ∀ (n : Nat) (st : ByteArray × Int) (acc l : List Ft) (s1 : ByteArray), sFacts n st acc = (l, (s1, 0)) → ∃ t, l = acc ++ t ∧ st.2 = 0 ∧ st.1.data.toList = encF t ++ s1.data.toList := by
  intro n
  induction n with
  | zero => intro st acc l s1 h; simp only [sFacts, Prod.mk.injEq] at h; obtain ⟨rfl, rfl⟩ := h; exact ⟨[], by simp, rfl, by simp [encF]⟩
  | succ n ih =>
    intro st acc l s1 h
    simp only [sFacts] at h
    obtain ⟨t, ht, h2, h3⟩ := ih _ _ _ _ h
    obtain ⟨h4, h5⟩ := sFact_put (st := st) (f := (sFact st).1) (s1 := (sFact st).2.1) (Prod.ext rfl (Prod.ext rfl h2))
    refine ⟨(sFact st).1 :: t, by rw [ht]; simp, h4, ?_⟩
    rw [h5, h3]
    simp only [encF, List.append_assoc]
theorem putF_read {rd : ByteArray → Int} {s : ByteArray} {l : List Ft} (h : readF rd s = (l, 0)) : putF rd l = (s, 0) := by
  unfold readF at h
  split at h
  · cases h
  · rename_i hl
    split at h
    · rename_i hd
      exact absurd (Prod.ext_iff.1 h).2 hd
    · rename_i hd
      split at h
      · rename_i hc
        exact absurd (Prod.ext_iff.1 h).2 hc
      · rename_i hc
        have hd' := done_ok (by simpa using hd)
        have hc' : chkFs rd (rdF s).1 = 0 := by simpa using hc
        obtain ⟨rfl, -⟩ := Prod.ext_iff.1 h
        simp only
        obtain ⟨t, ht, h2, h3⟩ := sFacts_put (sNum (s, 0)).1 (sNum (s, 0)).2 [] (rdF s).1 ⟨#[]⟩ (by rw [← hd']; rfl)
        rw [List.nil_append] at ht
        obtain ⟨-, h7⟩ := sNum_put (st := (s, 0)) (n := (sNum (s, 0)).1) (s1 := (sNum (s, 0)).2.1) (Prod.ext rfl (Prod.ext rfl h2))
        have hlen : (rdF s).1.length = (sNum (s, 0)).1 := by
          have := sFacts_len (sNum (s, 0)).1 (sNum (s, 0)).2 []
          simpa [rdF] using this
        unfold putF
        rw [hlen, if_neg hl, if_pos hc']
        congr 1
        unfold encFs
        rw [hlen]
        simp only at h7
        rw [h3, ← ht] at h7
        simp only [List.append_nil] at h7
        rw [← h7]
end Go.Proofs.YtkodololdjainaaGreat

namespace Go.Proofs.YtkodololdjainaaGreat
set_option linter.unusedSimpArgs false
set_option linter.unusedVariables false

/-- an update -/
structure Dl where
  d : Dt
  s : St
  l : List Ft
  g : List Dt
deriving DecidableEq
abbrev zDl : Dl := ⟨(0, 0), ⟨0, 0, 0⟩, [], []⟩
/-- all say the update's name and time, and rise -/
def OwnDl (e : Dl) : Prop := (∀ f ∈ e.l, f.d = e.d ∧ f.s = e.s) ∧ RiseF e.l
instance (e : Dl) : Decidable (OwnDl e) := inferInstanceAs (Decidable (_ ∧ _))
/-- Check -/
def chkDl (rd : ByteArray → Int) (e : Dl) : Int :=
  if chkD e.d ≠ 0 then chkD e.d else if chkS e.s ≠ 0 then chkS e.s else if e.d.1 ≠ e.s.r then 5
  else if firstF rd e.l ≠ 0 then firstF rd e.l else if ¬ OwnDl e then 5
  else if chkL e.g ≠ 0 then chkL e.g else if e.d ∈ e.g then 5 else if 256 < e.l.length ∨ 256 < e.g.length then 3 else 0
theorem chkDl_ok {rd : ByteArray → Int} {e : Dl} (h : chkDl rd e = 0) : chkD e.d = 0 ∧ chkS e.s = 0 ∧ e.d.1 = e.s.r ∧ firstF rd e.l = 0 ∧ OwnDl e ∧ chkL e.g = 0 ∧ e.d ∉ e.g ∧ e.l.length ≤ 256 ∧ e.g.length ≤ 256 := by
  unfold chkDl at h
  split at h
  · rename_i h1; exact absurd h h1
  rename_i h1
  split at h
  · rename_i h2; exact absurd h h2
  rename_i h2
  split at h
  · cases h
  rename_i h3
  split at h
  · rename_i h4; exact absurd h h4
  rename_i h4
  split at h
  · cases h
  rename_i h5
  split at h
  · rename_i h6; exact absurd h h6
  rename_i h6
  split at h
  · cases h
  rename_i h7
  split at h
  · cases h
  rename_i h8
  exact ⟨Classical.byContradiction h1, Classical.byContradiction h2, Classical.byContradiction h3, Classical.byContradiction h4, Classical.byContradiction h5, Classical.byContradiction h6, h7, by omega, by omega⟩
/-- the facts and the names as bytes -/
def factB (rd : ByteArray → Int) (e : Dl) : ByteArray := (putF rd e.l).1
def goneB (e : Dl) : ByteArray := (putD e.g).1
def encDl (rd : ByteArray → Int) (e : Dl) : List UInt8 := Lib.uvarint e.d.1.toNat ++ (Lib.uvarint e.d.2.toNat ++ (Lib.uvarint e.s.t.toNat ++ (Lib.uvarint e.s.c.toNat ++ (encX (factB rd e) ++ encX (goneB e)))))
/-- Put -/
def putDl (rd : ByteArray → Int) (e : Dl) : ByteArray × Int :=
  if chkDl rd e ≠ 0 then (⟨#[]⟩, chkDl rd e) else if 65536 < (factB rd e).size ∨ 65536 < (goneB e).size then (⟨#[]⟩, 3) else (⟨(encDl rd e).toArray⟩, 0)
theorem putDl_ok {rd : ByteArray → Int} {e : Dl} (h : chkDl rd e = 0) : putF rd e.l = (factB rd e, 0) ∧ putD e.g = (goneB e, 0) := by
  obtain ⟨-, -, -, h4, h5, h6, -, h8, h9⟩ := chkDl_ok h
  have hc : chkFs rd e.l = 0 := chkFs_good h4 h5.2
  have e1 : (putF rd e.l).2 = 0 := by unfold putF; rw [if_neg (by omega), if_pos hc]
  have e2 : (putD e.g).2 = 0 := by unfold putD; rw [if_neg (by omega), if_pos h6]
  exact ⟨Prod.ext rfl e1, Prod.ext rfl e2⟩
/-- where Read's reader stands: the six parts, one behind the other -/
def s1Dl (s : ByteArray) := sNum (s, 0)
def s2Dl (s : ByteArray) := sNum (s1Dl s).2
def s3Dl (s : ByteArray) := sNum (s2Dl s).2
def s4Dl (s : ByteArray) := sNum (s3Dl s).2
def s5Dl (s : ByteArray) := sText (s4Dl s).2
def s6Dl (s : ByteArray) := sText (s5Dl s).2
def rawDl (rd : ByteArray → Int) (s : ByteArray) : Dl := ⟨((s1Dl s).1, (s2Dl s).1), ⟨(s3Dl s).1, (s4Dl s).1, (s1Dl s).1⟩, (readF rd (s5Dl s).1).1, (readD (s6Dl s).1).1⟩
/-- Read -/
def readDl (rd : ByteArray → Int) (s : ByteArray) : Dl × Int :=
  if doneS (s6Dl s).2 ≠ 0 then (zDl, doneS (s6Dl s).2) else if (readF rd (s5Dl s).1).2 ≠ 0 then (zDl, (readF rd (s5Dl s).1).2) else if (readD (s6Dl s).1).2 ≠ 0 then (zDl, (readD (s6Dl s).1).2)
  else if chkDl rd (rawDl rd s) ≠ 0 then (zDl, chkDl rd (rawDl rd s)) else (rawDl rd s, 0)

theorem text_size {st : ByteArray × Int} : (sText st).1.size ≤ 65536 := by
  have hz : (ByteArray.empty).size ≤ 65536 := by decide
  unfold sText
  split
  · exact hz
  · rename_i hc
    split
    · exact hz
    · have : (sCount 65536 st).1 ≤ 65536 := by
        unfold sCount at hc ⊢
        split
        · simp
        · rename_i he
          split
          · simp
          · rename_i hb; simp only; omega
      simp only [ByteArray.size_extract]
      omega
theorem doneS_nil : doneS (⟨#[]⟩, 0) = 0 := by simp [doneS, ByteArray.size]

/-- what is put comes back -/
theorem readDl_put {rd : ByteArray → Int} {e : Dl} {c : ByteArray} (h : putDl rd e = (c, 0)) : readDl rd c = (e, 0) := by
  unfold putDl at h
  split at h
  · rename_i h1; exact absurd (Prod.ext_iff.1 h).2 h1
  rename_i h1
  have hk : chkDl rd e = 0 := Classical.byContradiction h1
  split at h
  · cases h
  rename_i h2
  obtain ⟨k1, k2, k3, k4, k5, k6, k7, k8, k9⟩ := chkDl_ok hk
  obtain ⟨pf, pd⟩ := putDl_ok hk
  have d1 := chkD_ok k1
  have d2 := chkS_ok k2
  obtain ⟨rfl, -⟩ := Prod.mk.inj h
  have q1 := sNum_uv e.d.1.toNat (by omega) (Lib.uvarint e.d.2.toNat ++ (Lib.uvarint e.s.t.toNat ++ (Lib.uvarint e.s.c.toNat ++ (encX (factB rd e) ++ encX (goneB e)))))
  have q2 := sNum_uv e.d.2.toNat (by omega) (Lib.uvarint e.s.t.toNat ++ (Lib.uvarint e.s.c.toNat ++ (encX (factB rd e) ++ encX (goneB e))))
  have q3 := sNum_uv e.s.t.toNat (by omega) (Lib.uvarint e.s.c.toNat ++ (encX (factB rd e) ++ encX (goneB e)))
  have q4 := sNum_uv e.s.c.toNat (by omega) (encX (factB rd e) ++ encX (goneB e))
  have q5 := text_enc (factB rd e) (by omega) (encX (goneB e))
  have q6 := text_enc (goneB e) (by omega) []
  rw [List.append_nil] at q6
  have e1 : s1Dl ⟨(encDl rd e).toArray⟩ = sNum (⟨(encDl rd e).toArray⟩, 0) := rfl
  have e1 := e1.trans q1
  have e2 : s2Dl ⟨(encDl rd e).toArray⟩ = sNum (s1Dl ⟨(encDl rd e).toArray⟩).2 := rfl
  rw [e1] at e2
  have e2 := e2.trans q2
  have e3 : s3Dl ⟨(encDl rd e).toArray⟩ = sNum (s2Dl ⟨(encDl rd e).toArray⟩).2 := rfl
  rw [e2] at e3
  have e3 := e3.trans q3
  have e4 : s4Dl ⟨(encDl rd e).toArray⟩ = sNum (s3Dl ⟨(encDl rd e).toArray⟩).2 := rfl
  rw [e3] at e4
  have e4 := e4.trans q4
  have e5 : s5Dl ⟨(encDl rd e).toArray⟩ = sText (s4Dl ⟨(encDl rd e).toArray⟩).2 := rfl
  rw [e4] at e5
  have e5 := e5.trans q5
  have e6 : s6Dl ⟨(encDl rd e).toArray⟩ = sText (s5Dl ⟨(encDl rd e).toArray⟩).2 := rfl
  rw [e5] at e6
  have e6 := e6.trans q6
  have hr : rawDl rd ⟨(encDl rd e).toArray⟩ = e := by
    unfold rawDl
    rw [e1, e2, e3, e4, e5, e6, readF_put pf, read_put pd]
    obtain ⟨⟨r, n⟩, ⟨t, cc, r2⟩, l, g⟩ := e
    simp only at d1 d2 k3 ⊢
    simp only [Dl.mk.injEq, Prod.mk.injEq, St.mk.injEq, and_true]
    exact ⟨⟨by omega, by omega⟩, by omega, by omega, by omega⟩
  unfold readDl
  rw [hr, e5, e6, readF_put pf, read_put pd, if_neg (by simp only; rw [doneS_nil]; simp), if_neg (by simp), if_neg (by simp), if_neg (by simp [hk])]
/-- bytes come back from what is read of them -/
theorem putDl_read {rd : ByteArray → Int} {s : ByteArray} {e : Dl} (h : readDl rd s = (e, 0)) : putDl rd e = (s, 0) := by
  unfold readDl at h
  split at h
  · rename_i h1; exact absurd (Prod.ext_iff.1 h).2 h1
  rename_i h1
  split at h
  · rename_i h2; exact absurd (Prod.ext_iff.1 h).2 h2
  rename_i h2
  split at h
  · rename_i h3; exact absurd (Prod.ext_iff.1 h).2 h3
  rename_i h3
  split at h
  · rename_i h4; exact absurd (Prod.ext_iff.1 h).2 h4
  rename_i h4
  have hk : chkDl rd (rawDl rd s) = 0 := Classical.byContradiction h4
  obtain ⟨rfl, -⟩ := Prod.mk.inj h
  have hd := done_ok (Classical.byContradiction h1 : doneS (s6Dl s).2 = 0)
  have hf : readF rd (s5Dl s).1 = ((rawDl rd s).l, 0) := Prod.ext rfl (Classical.byContradiction h2)
  have hg : readD (s6Dl s).1 = ((rawDl rd s).g, 0) := Prod.ext rfl (Classical.byContradiction h3)
  have pf := putF_read hf
  have pg := put_read hg
  have ef : factB rd (rawDl rd s) = (s5Dl s).1 := by unfold factB; rw [pf]
  have eg : goneB (rawDl rd s) = (s6Dl s).1 := by unfold goneB; rw [pg]
  have z5 : (s5Dl s).1.size ≤ 65536 := text_size
  have z6 : (s6Dl s).1.size ≤ 65536 := text_size
  obtain ⟨p6, q6⟩ := text_put (st := (s5Dl s).2) (t := (s6Dl s).1) (s1 := ⟨#[]⟩) (Prod.ext rfl hd)
  obtain ⟨p5, q5⟩ := text_put (st := (s4Dl s).2) (t := (s5Dl s).1) (s1 := (s5Dl s).2.1) (Prod.ext rfl (Prod.ext rfl p6))
  obtain ⟨p4, q4⟩ := sNum_put (st := (s3Dl s).2) (n := (s4Dl s).1) (s1 := (s4Dl s).2.1) (Prod.ext rfl (Prod.ext rfl p5))
  obtain ⟨p3, q3⟩ := sNum_put (st := (s2Dl s).2) (n := (s3Dl s).1) (s1 := (s3Dl s).2.1) (Prod.ext rfl (Prod.ext rfl p4))
  obtain ⟨p2, q2⟩ := sNum_put (st := (s1Dl s).2) (n := (s2Dl s).1) (s1 := (s2Dl s).2.1) (Prod.ext rfl (Prod.ext rfl p3))
  obtain ⟨p1, q1⟩ := sNum_put (st := (s, 0)) (n := (s1Dl s).1) (s1 := (s1Dl s).2.1) (Prod.ext rfl (Prod.ext rfl p2))
  unfold putDl
  rw [if_neg (by rw [hk]; simp), ef, eg, if_neg (by omega)]
  refine Prod.ext ?_ rfl
  show (⟨(encDl rd (rawDl rd s)).toArray⟩ : ByteArray) = s
  have ee : encDl rd (rawDl rd s) = s.data.toList := by
    have q1' : s.data.toList = _ := q1
    unfold encDl
    rw [ef, eg, q1', q2, q3, q4, q5, q6]
    simp only [rawDl, Int.toNat_natCast, List.append_nil]
  rw [ee]
end Go.Proofs.YtkodololdjainaaGreat

namespace Go.Proofs.YtkodololdjainaaGreat
open Go.RowKit Go.Sort

def Gr (w w' : World) : Prop := ∃ q os, w' = grow (w.drewN q) os
theorem Gr.refl (w : World) : Gr w w := ⟨0, #[], by rw [grow_empty]; rfl⟩
theorem Gr.trans {a b c : World} (h : Gr a b) (k : Gr b c) : Gr a c := by
  obtain ⟨q, os, rfl⟩ := h
  obtain ⟨r, os', rfl⟩ := k
  exact ⟨q + r, os ++ os', by show grow (grow ((a.drewN q).drewN r) os) os' = _; rw [grow_grow, World.drewN_drewN]⟩
theorem Gr.one (w : World) (o : Obj) : Gr w (w.alloc o) := ⟨0, #[o], by rw [alloc_eq_grow]; rfl⟩
theorem Gr.alloc {a b : World} (h : Gr a b) (o : Obj) : Gr a (b.alloc o) := h.trans (.one b o)
theorem Gr.drew1 (w : World) : Gr w w.drew := ⟨1, #[], by rw [grow_empty]; rfl⟩
theorem Gr.below {a b : World} (h : Gr a b) : Below a.heap.size a b := by
  obtain ⟨q, os, rfl⟩ := h
  exact ⟨rfl, rfl, rfl, by rw [size_grow]; exact Nat.le_add_right _ _, fun k hk => heap_grow_old _ _ hk⟩
theorem Gr.size {a b : World} (h : Gr a b) : a.heap.size ≤ b.heap.size := h.below.size
end Go.Proofs.YtkodololdjainaaGreat

namespace Go.Proofs.YtkodololdjainaaGreat

theorem ba_len (s : ByteArray) : s.data.toList.length = s.size := by simp
/-- numbers' bytes, one behind the other -/
def encN : List Nat → List UInt8
  | [] => []
  | n :: r => Lib.uvarint n ++ encN r
theorem encN_append : ∀ (a b : List Nat), encN (a ++ b) = encN a ++ encN b := by
  intro a b
  induction a with
  | nil => rfl
  | cons x r ih => simp [encN, ih]
theorem encN_snoc (ns : List Nat) {k : Nat} (hk : k < ns.length) : encN (ns.take (k + 1)) = encN (ns.take k) ++ Lib.uvarint (ns.getD k 0) := by
  rw [List.take_succ_eq_append_getElem hk, encN_append, List.getD_eq_getElem?_getD, List.getElem?_eq_getElem hk]; simp [encN]
theorem encN_len : ∀ (ns : List Nat), (∀ n ∈ ns, n ≤ 9007199254740992) → (encN ns).length ≤ ns.length * 10 := by
  intro ns
  induction ns with
  | nil => intro _; simp [encN]
  | cons n r ih =>
    intro h
    have h1 := ih (fun x hx => h x (by simp [hx]))
    have h2 := Lib.uvarint_length64 (x := n) (by have := h n (by simp); omega)
    simp only [encN, List.length_append, List.length_cons]
    omega
end Go.Proofs.YtkodololdjainaaGreat
