/-
  Names of updates as plain pairs of numbers: their order, whether they may be, lists that rise, their bytes, and what is read of bytes.
-/
import Derived.Test.YtpcelgmcbfjmbaaWireInv
namespace Go.Proofs.Ytpcelgmcbfjmbaa

/-- a name: its replica, its number -/
abbrev Dt := Int × Int

def chkD (d : Dt) : Int := if d.1 < 0 ∨ 15 < d.1 ∨ d.2 < 1 ∨ 1099511627776 < d.2 then 2 else 0
def ltD (a b : Dt) : Bool := decide (a.1 < b.1) || (decide (a.1 = b.1) && decide (a.2 < b.2))

theorem ltD_iff {a b : Dt} : ltD a b = true ↔ (a.1 < b.1 ∨ (a.1 = b.1 ∧ a.2 < b.2)) := by simp [ltD]
theorem ltD_no {a b : Dt} : ltD a b = false ↔ ¬ (a.1 < b.1 ∨ (a.1 = b.1 ∧ a.2 < b.2)) := by
  rw [← ltD_iff]; simp
theorem ltD_irr (a : Dt) : ltD a a = false := by rw [ltD_no]; omega
theorem ltD_trans {a b c : Dt} (h1 : ltD a b = true) (h2 : ltD b c = true) : ltD a c = true := by rw [ltD_iff] at *; omega
theorem ltD_asym {a b : Dt} (h : ltD a b = true) : ltD b a = false := by rw [ltD_no]; rw [ltD_iff] at h; omega
theorem ltD_tri (a b : Dt) : ltD a b = true ∨ a = b ∨ ltD b a = true := by
  rw [ltD_iff, ltD_iff, Prod.ext_iff]; omega
theorem ltD_of {a b : Dt} (h1 : ltD b a = false) (h2 : a ≠ b) : ltD a b = true := by
  rcases ltD_tri a b with h | h | h
  · exact h
  · exact absurd h h2
  · rw [h] at h1; cases h1

/-- They rise. -/
def Rise (l : List Dt) : Prop := l.Pairwise (fun a b => ltD a b = true)
instance (l : List Dt) : Decidable (Rise l) := inferInstanceAs (Decidable (l.Pairwise _))

theorem rise_near : ∀ (l : List Dt), (∀ j (h : j + 1 < l.length), ltD l[j] l[j + 1] = true) → Rise l := by
  intro l
  induction l with
  | nil => intro _; exact .nil
  | cons a r ih =>
    intro h
    have hr : Rise r := ih (fun j hj => h (j + 1) (by simp; omega))
    refine List.pairwise_cons.2 ⟨fun b hb => ?_, hr⟩
    cases r with
    | nil => simp at hb
    | cons c t =>
      have h0 := h 0 (by simp)
      simp only [List.getElem_cons_zero, List.getElem_cons_succ] at h0
      rcases List.mem_cons.1 hb with rfl | hb
      · exact h0
      · exact ltD_trans h0 ((List.pairwise_cons.1 hr).1 b hb)
theorem Rise.near {l : List Dt} (h : Rise l) (j : Nat) (hj : j + 1 < l.length) : ltD l[j] l[j + 1] = true := (List.pairwise_iff_getElem.1 h) j (j + 1) (by omega) hj (by omega)

/-- what a list's first error is -/
def chkL (l : List Dt) : Int := if ∃ d ∈ l, chkD d ≠ 0 then 2 else if Rise l then 0 else 5

theorem chkD_cases (d : Dt) : chkD d = 0 ∨ chkD d = 2 := by unfold chkD; split <;> simp
theorem chkL_bad {l : List Dt} {d : Dt} (h : d ∈ l) (hd : chkD d ≠ 0) : chkL l = chkD d := by
  unfold chkL
  rw [if_pos ⟨d, h, hd⟩]
  rcases chkD_cases d with h | h
  · exact absurd h hd
  · exact h.symm
theorem chkL_flat {l : List Dt} (h : ∀ d ∈ l, chkD d = 0) (hr : ¬ Rise l) : chkL l = 5 := by
  unfold chkL
  rw [if_neg (fun ⟨d, h1, h2⟩ => h2 (h d h1)), if_neg hr]
theorem chkL_good {l : List Dt} (h : ∀ d ∈ l, chkD d = 0) (hr : Rise l) : chkL l = 0 := by
  unfold chkL
  rw [if_neg (fun ⟨d, h1, h2⟩ => h2 (h d h1)), if_pos hr]
theorem chkL_ok {l : List Dt} (h : chkL l = 0) : (∀ d ∈ l, chkD d = 0) ∧ Rise l := by
  unfold chkL at h
  split at h
  · cases h
  · rename_i h1
    split at h
    · rename_i h2
      exact ⟨fun d hd => Classical.byContradiction fun hc => h1 ⟨d, hd, hc⟩, h2⟩
    · cases h
theorem chkD_ok {d : Dt} (h : chkD d = 0) : 0 ≤ d.1 ∧ d.1 ≤ 15 ∧ 1 ≤ d.2 ∧ d.2 ≤ 1099511627776 := by
  unfold chkD at h
  split at h
  · cases h
  · omega

/-! lists that rise are told by what is in them -/
theorem rise_same : ∀ {a b : List Dt}, Rise a → Rise b → (∀ x, x ∈ a ↔ x ∈ b) → a = b := by
  intro a
  induction a with
  | nil =>
    intro b _ _ h
    cases b with
    | nil => rfl
    | cons y t => exact absurd ((h y).2 (by simp)) (by simp)
  | cons x s ih =>
    intro b ha hb h
    cases b with
    | nil => exact absurd ((h x).1 (by simp)) (by simp)
    | cons y t =>
      have ha' := List.pairwise_cons.1 ha
      have hb' := List.pairwise_cons.1 hb
      have hxy : x = y := by
        rcases List.mem_cons.1 ((h x).1 (by simp)) with e | e
        · exact e
        · rcases List.mem_cons.1 ((h y).2 (by simp)) with e2 | e2
          · exact e2.symm
          · have h1 := ha'.1 y e2
            have h2 := hb'.1 x e
            rw [ltD_asym h1] at h2
            cases h2
      subst hxy
      have hst : s = t := ih ha'.2 hb'.2 fun z => by
        constructor
        · intro hz
          rcases List.mem_cons.1 ((h z).1 (by simp [hz])) with e | e
          · subst e; have := ha'.1 z hz; rw [ltD_irr] at this; cases this
          · exact e
        · intro hz
          rcases List.mem_cons.1 ((h z).2 (by simp [hz])) with e | e
          · subst e; have := hb'.1 z hz; rw [ltD_irr] at this; cases this
          · exact e
      rw [hst]

/-- a name, laid into a list that rises -/
def insD (d : Dt) : List Dt → List Dt
  | [] => [d]
  | x :: r => if ltD x d = true then x :: insD d r else if x = d then x :: r else d :: x :: r
/-- each once, rising -/
def sortD (l : List Dt) : List Dt := l.foldl (fun acc d => insD d acc) []

theorem mem_insD {d z : Dt} : ∀ {l : List Dt}, z ∈ insD d l ↔ z = d ∨ z ∈ l := by
  intro l
  induction l with
  | nil => simp [insD]
  | cons x r ih =>
    unfold insD
    split
    · simp only [List.mem_cons, ih]; constructor <;> (rintro (h | h | h) <;> simp [h])
    · split
      · rename_i h1 h2; subst h2; simp
      · simp
theorem rise_insD {d : Dt} : ∀ {l : List Dt}, Rise l → Rise (insD d l) := by
  intro l
  induction l with
  | nil => intro _; simp [insD, Rise]
  | cons x r ih =>
    intro h
    have h' := List.pairwise_cons.1 h
    unfold insD
    split
    · rename_i h1
      refine List.pairwise_cons.2 ⟨fun b hb => ?_, ih h'.2⟩
      rcases mem_insD.1 hb with rfl | hb
      · exact h1
      · exact h'.1 b hb
    · rename_i h1
      split
      · exact h
      · rename_i h2
        have hdx : ltD d x = true := ltD_of (by simpa using h1) (fun e => h2 e.symm)
        refine List.pairwise_cons.2 ⟨fun b hb => ?_, h⟩
        rcases List.mem_cons.1 hb with rfl | hb
        · exact hdx
        · exact ltD_trans hdx (h'.1 b hb)
theorem sortD_snoc (l : List Dt) (d : Dt) : sortD (l ++ [d]) = insD d (sortD l) := by simp [sortD]
theorem foldD_spec : ∀ (l acc : List Dt), Rise acc → Rise (l.foldl (fun acc d => insD d acc) acc) ∧ ∀ z, z ∈ l.foldl (fun acc d => insD d acc) acc ↔ z ∈ acc ∨ z ∈ l := by
  intro l
  induction l with
  | nil => intro acc h; exact ⟨h, fun z => by simp⟩
  | cons d r ih =>
    intro acc h
    obtain ⟨h1, h2⟩ := ih (insD d acc) (rise_insD h)
    refine ⟨h1, fun z => ?_⟩
    rw [List.foldl_cons, h2, mem_insD, List.mem_cons]
    constructor <;> rintro h
    · rcases h with (h | h) | h <;> simp [h]
    · rcases h with h | h | h <;> simp [h]
theorem rise_sortD (l : List Dt) : Rise (sortD l) := (foldD_spec l [] .nil).1
theorem mem_sortD {l : List Dt} {z : Dt} : z ∈ sortD l ↔ z ∈ l := by
  have h := (foldD_spec l [] .nil).2 z
  simpa [sortD] using h
theorem insD_len (d : Dt) : ∀ l : List Dt, (insD d l).length ≤ l.length + 1 := by
  intro l
  induction l with
  | nil => simp [insD]
  | cons x r ih => unfold insD; split <;> (try split) <;> simp <;> omega
theorem sortD_len (l : List Dt) : (sortD l).length ≤ l.length := by
  have : ∀ (l acc : List Dt), (l.foldl (fun acc d => insD d acc) acc).length ≤ acc.length + l.length := by
    intro l
    induction l with
    | nil => simp
    | cons d r ih => intro acc; have h1 := ih (insD d acc); have h2 := insD_len d acc; simp only [List.foldl_cons, List.length_cons]; omega
  simpa [sortD] using this l []

/-- a name that is in a list that rises is not laid in again -/
theorem insD_in {d : Dt} {l : List Dt} (h : Rise l) (hd : d ∈ l) : insD d l = l :=
  rise_same (rise_insD h) h fun z => by rw [mem_insD]; exact ⟨fun hz => hz.elim (fun e => e ▸ hd) id, Or.inr⟩
/-- one that is not stands behind those that are less -/
theorem insD_at {d : Dt} {l : List Dt} (h : Rise l) (hd : d ∉ l) (k : Nat) (hk : k ≤ l.length) (h1 : ∀ j (hj : j < l.length), j < k → ltD l[j] d = true) (h2 : ∀ hk : k < l.length, ltD l[k] d = false) :
    l.take k ++ [d] ++ l.drop k = insD d l := by
  have hp := List.pairwise_iff_getElem.1 h
  have hb : ∀ x ∈ l.drop k, ltD d x = true := by
    intro x hx
    obtain ⟨i, hi, rfl⟩ := List.mem_iff_getElem.1 hx
    rw [List.getElem_drop]
    rw [List.length_drop] at hi
    have h3 : ltD d l[k] = true := ltD_of (h2 (by omega)) (fun e => hd (by rw [e]; exact List.getElem_mem _))
    by_cases hi0 : i = 0
    · subst hi0; exact h3
    · exact ltD_trans h3 (hp k (k + i) (by omega) (by omega) (by omega))
  have ha : ∀ x ∈ l.take k, ltD x d = true := by
    intro x hx
    obtain ⟨i, hi, rfl⟩ := List.mem_iff_getElem.1 hx
    rw [List.length_take] at hi
    rw [List.getElem_take]
    exact h1 i (by omega) (by omega)
  refine rise_same ?_ (rise_insD h) fun z => ?_
  · unfold Rise
    rw [List.append_assoc, List.pairwise_append]
    refine ⟨List.Pairwise.sublist (List.take_sublist _ _) h, ?_, ?_⟩
    · rw [List.singleton_append, List.pairwise_cons]
      exact ⟨hb, List.Pairwise.sublist (List.drop_sublist _ _) h⟩
    · intro x hx y hy
      rcases List.mem_append.1 hy with hy | hy
      · obtain rfl := List.mem_singleton.1 hy; exact ha x hx
      · exact ltD_trans (ha x hx) (hb y hy)
  · rw [mem_insD]
    have e : z ∈ l ↔ z ∈ l.take k ∨ z ∈ l.drop k := by rw [← List.mem_append, List.take_append_drop]
    rw [e]
    simp only [List.mem_append, List.mem_singleton]
    constructor
    · rintro ((h | h) | h) <;> simp [h]
    · rintro (h | h | h) <;> simp [h]

/-! of neighbours that are the same one is kept -/
/-- what was kept of the first k of s -/
structure Kept (s : List Dt) (k : Nat) (out : List Dt) : Prop where
  rise : Rise out
  mem : ∀ z, z ∈ out ↔ z ∈ s.take k
  len : out.length ≤ k
theorem Kept.start (s : List Dt) : Kept s 0 [] := ⟨.nil, fun z => by simp, Nat.le_refl _⟩
theorem Kept.same {s out : List Dt} {k : Nat} (h : Kept s (k + 1) out) (hk : k + 1 < s.length) (he : s[k + 1] = s[k]) : Kept s (k + 1 + 1) out := by
  refine ⟨h.rise, fun z => ?_, Nat.le_succ_of_le h.len⟩
  rw [h.mem z, List.take_succ_eq_append_getElem hk, List.mem_append, List.mem_singleton]
  constructor
  · exact .inl
  · rintro (hz | rfl)
    · exact hz
    · rw [he]; exact List.mem_take_iff_getElem.2 ⟨k, by omega, rfl⟩
theorem Kept.more {s out : List Dt} {k : Nat} (h : Kept s k out) (hs : s.Pairwise (fun a b => ltD b a = false)) (hk : k < s.length) (hne : ∀ j (hj : j + 1 = k), s[k] ≠ s[j]) : Kept s (k + 1) (out ++ [s[k]]) := by
  refine ⟨?_, fun z => ?_, by have := h.len; simp; omega⟩
  · unfold Rise
    rw [List.pairwise_append]
    refine ⟨h.rise, by simp, fun x hx y hy => ?_⟩
    obtain rfl := List.mem_singleton.1 hy
    obtain ⟨j, hj, rfl⟩ := List.mem_take_iff_getElem.1 ((h.mem x).1 hx)
    have hp := List.pairwise_iff_getElem.1 hs
    obtain ⟨m, rfl⟩ : ∃ m, k = m + 1 := ⟨k - 1, by omega⟩
    have hm : ltD s[m] s[m + 1] = true := ltD_of (hp m (m + 1) (by omega) hk (by omega)) (fun e => hne m rfl e.symm)
    by_cases hjm : j = m
    · subst hjm; exact hm
    · have h1 := hp j m (by omega) (by omega) (by omega)
      rcases ltD_tri s[j] s[m] with h2 | h2 | h2
      · exact ltD_trans h2 hm
      · rw [h2]; exact hm
      · rw [h2] at h1; cases h1
  · rw [List.take_succ_eq_append_getElem hk, List.mem_append, List.mem_append, h.mem z]
theorem Kept.all {s l out : List Dt} {k : Nat} (h : Kept s k out) (hk : s.length ≤ k) (hp : ∀ z, z ∈ s ↔ z ∈ l) : out = sortD l :=
  rise_same h.rise (rise_sortD l) fun z => by rw [h.mem z, List.take_of_length_le hk, mem_sortD, hp]

/-! bytes -/
def encD : List Dt → List UInt8
  | [] => []
  | d :: r => Lib.uvarint d.1.toNat ++ Lib.uvarint d.2.toNat ++ encD r
def encDs (l : List Dt) : List UInt8 := Lib.uvarint l.length ++ encD l
def putD (l : List Dt) : ByteArray × Int := if 4096 < l.length then (⟨#[]⟩, 3) else if chkL l = 0 then (⟨(encDs l).toArray⟩, 0) else (⟨#[]⟩, chkL l)
theorem encD_append : ∀ (a b : List Dt), encD (a ++ b) = encD a ++ encD b := by
  intro a b
  induction a with
  | nil => rfl
  | cons x r ih => simp [encD, ih]
theorem encD_snoc (a : List Dt) (d : Dt) : encD (a ++ [d]) = encD a ++ (Lib.uvarint d.1.toNat ++ Lib.uvarint d.2.toNat) := by rw [encD_append]; simp [encD]

/-- what Done answers -/
def doneS (st : ByteArray × Int) : Int := if st.2 ≠ 0 then st.2 else if 0 < st.1.size then 5 else 0
/-- n names read, behind those that are there -/
def sDots : Nat → ByteArray × Int → List Dt → List Dt × (ByteArray × Int)
  | 0, st, acc => (acc, st)
  | n + 1, st, acc => sDots n (sNum (sNum st).2).2 (acc ++ [((((sNum st).1 : Nat) : Int), (((sNum (sNum st).2).1 : Nat) : Int))])
def rdD (s : ByteArray) : List Dt × (ByteArray × Int) := sDots (sNum (s, 0)).1 (sNum (s, 0)).2 []
def readD (s : ByteArray) : List Dt × Int :=
  if 4096 < (sNum (s, 0)).1 then ([], 3) else if doneS (rdD s).2 ≠ 0 then ([], doneS (rdD s).2) else if chkL (rdD s).1 ≠ 0 then ([], chkL (rdD s).1) else ((rdD s).1, 0)

theorem sNum_bad {st : ByteArray × Int} (h : st.2 ≠ 0) : sNum st = (0, st) := by simp [sNum, h]
theorem sDots_size : ∀ (n : Nat) (st : ByteArray × Int) (acc : List Dt), (sDots n st acc).2.1.size ≤ st.1.size := by
  intro n
  induction n with
  | zero => intro st acc; exact Nat.le_refl _
  | succ n ih =>
    intro st acc
    have h1 := ih (sNum (sNum st).2).2 (acc ++ [((((sNum st).1 : Nat) : Int), (((sNum (sNum st).2).1 : Nat) : Int))])
    have h2 := sNum_size st
    have h3 := sNum_size (sNum st).2
    simp only [sDots]
    omega
theorem sDots_bad : ∀ (n : Nat) (st : ByteArray × Int) (acc : List Dt), st.2 ≠ 0 → (sDots n st acc).2 = st := by
  intro n
  induction n with
  | zero => intro st acc _; rfl
  | succ n ih =>
    intro st acc h
    have h1 : sNum st = (0, st) := sNum_bad h
    simp only [sDots, h1]
    exact ih st _ h
theorem sDots_len : ∀ (n : Nat) (st : ByteArray × Int) (acc : List Dt), (sDots n st acc).1.length = acc.length + n := by
  intro n
  induction n with
  | zero => intro st acc; rfl
  | succ n ih => intro st acc; simp only [sDots]; rw [ih]; simp; omega

/-! what is put comes back -/
theorem sDots_enc : ∀ (l : List Dt) (r : List UInt8) (acc : List Dt), (∀ d ∈ l, chkD d = 0) → sDots l.length (⟨(encD l ++ r).toArray⟩, 0) acc = (acc ++ l, (⟨r.toArray⟩, 0)) := by
  intro l
  induction l with
  | nil => intro r acc _; simp [sDots, encD]
  | cons d t ih =>
    intro r acc h
    obtain ⟨h1, h2, h3, h4⟩ := chkD_ok (h d (by simp))
    have e1 : sNum (⟨(encD (d :: t) ++ r).toArray⟩, 0) = (d.1.toNat, (⟨(Lib.uvarint d.2.toNat ++ (encD t ++ r)).toArray⟩, 0)) := by
      have := sNum_uv d.1.toNat (by omega) (Lib.uvarint d.2.toNat ++ (encD t ++ r))
      simpa [encD, List.append_assoc] using this
    have e2 := sNum_uv d.2.toNat (by omega) (encD t ++ r)
    simp only [List.length_cons, sDots, e1, e2]
    rw [ih r _ (fun x hx => h x (by simp [hx]))]
    have e3 : ((d.1.toNat : Int), (d.2.toNat : Int)) = d := by ext <;> simp <;> omega
    rw [e3]
    simp
theorem read_put {l : List Dt} {c : ByteArray} (h : putD l = (c, 0)) : readD c = (l, 0) := by
  unfold putD at h
  split at h
  · cases h
  · rename_i hl
    split at h
    · rename_i hc
      obtain ⟨hg, -⟩ := chkL_ok hc
      cases h
      have e1 := sNum_uv l.length (by omega) (encD l)
      have e2 := sDots_enc l [] [] hg
      rw [List.append_nil, List.nil_append] at e2
      unfold readD rdD
      unfold encDs
      rw [e1]
      simp only [e2]
      rw [if_neg hl, if_neg (by simp [doneS, ByteArray.size]), if_neg (by rw [hc]; simp)]
    · rename_i hc
      exact absurd (Prod.ext_iff.1 h).2 hc

theorem sNum_put {st : ByteArray × Int} {n : Nat} {s1 : ByteArray} (h : sNum st = (n, (s1, 0))) : st.2 = 0 ∧ st.1.data.toList = Lib.uvarint n ++ s1.data.toList := by
  obtain ⟨s, e⟩ := st
  by_cases he : e = 0
  · subst he
    refine ⟨rfl, ?_⟩
    generalize hr : numR s.data.toList = r
    obtain ⟨m, k, e1⟩ := r
    by_cases h1 : e1 = 0
    · subst h1
      have hp := numR_put (l := s.data.toList) (by rw [hr])
      rw [hr] at hp
      simp only [sNum, hr] at h
      simp at h
      obtain ⟨rfl, rfl⟩ := h
      simp only at hp ⊢
      rw [hp, drop_str]
      exact (List.take_append_drop _ _).symm
    · simp only [sNum, hr] at h
      simp [h1] at h
  · rw [sNum_bad he] at h
    simp at h
    exact absurd h.2.2 he
theorem sDots_put : ∀ (n : Nat) (st : ByteArray × Int) (acc l : List Dt) (s1 : ByteArray), sDots n st acc = (l, (s1, 0)) → ∃ t, l = acc ++ t ∧ st.2 = 0 ∧ st.1.data.toList = encD t ++ s1.data.toList := by
  intro n
  induction n with
  | zero => intro st acc l s1 h; simp only [sDots, Prod.mk.injEq] at h; obtain ⟨rfl, rfl⟩ := h; exact ⟨[], by simp, rfl, by simp [encD]⟩
  | succ n ih =>
    intro st acc l s1 h
    simp only [sDots] at h
    obtain ⟨t, ht, h2, h3⟩ := ih _ _ _ _ h
    obtain ⟨h4, h5⟩ := sNum_put (st := (sNum st).2) (n := (sNum (sNum st).2).1) (s1 := (sNum (sNum st).2).2.1) (Prod.ext rfl (Prod.ext rfl h2))
    obtain ⟨h6, h7⟩ := sNum_put (st := st) (n := (sNum st).1) (s1 := (sNum st).2.1) (Prod.ext rfl (Prod.ext rfl h4))
    refine ⟨((((sNum st).1 : Nat) : Int), (((sNum (sNum st).2).1 : Nat) : Int)) :: t, by rw [ht]; simp, h6, ?_⟩
    rw [h7, h5, h3]
    simp [encD]
theorem done_ok {st : ByteArray × Int} (h : doneS st = 0) : st = (⟨#[]⟩, 0) := by
  obtain ⟨s, e⟩ := st
  unfold doneS at h
  simp only at h
  split at h
  · rename_i h1; exact absurd h h1
  · rename_i h1
    split at h
    · cases h
    · rename_i h2
      have h3 : s = ⟨#[]⟩ := by
        obtain ⟨a⟩ := s
        have h5 : a.size = 0 := by
          have : ¬ 0 < a.size := h2
          omega
        rw [Array.eq_empty_of_size_eq_zero h5]
      have h4 : e = 0 := Classical.byContradiction h1
      rw [h3, h4]
theorem put_read {s : ByteArray} {l : List Dt} (h : readD s = (l, 0)) : putD l = (s, 0) := by
  unfold readD at h
  split at h
  · cases h
  · rename_i hl
    split at h
    · rename_i hd
      exact absurd (Prod.ext_iff.1 h).2 hd
    · rename_i hd
      split at h
      · rename_i hc
        exact absurd (Prod.ext_iff.1 h).2 hc
      · rename_i hc
        have hd' := done_ok (by simpa using hd)
        have hc' : chkL (rdD s).1 = 0 := by simpa using hc
        obtain ⟨rfl, -⟩ := Prod.ext_iff.1 h
        simp only
        obtain ⟨t, ht, h2, h3⟩ := sDots_put (sNum (s, 0)).1 (sNum (s, 0)).2 [] (rdD s).1 ⟨#[]⟩ (by rw [← hd']; rfl)
        rw [List.nil_append] at ht
        obtain ⟨-, h7⟩ := sNum_put (st := (s, 0)) (n := (sNum (s, 0)).1) (s1 := (sNum (s, 0)).2.1) (Prod.ext rfl (Prod.ext rfl h2))
        have hlen : (rdD s).1.length = (sNum (s, 0)).1 := by
          have := sDots_len (sNum (s, 0)).1 (sNum (s, 0)).2 []
          simpa [rdD] using this
        unfold putD
        rw [hlen, if_neg hl, if_pos hc']
        congr 1
        unfold encDs
        rw [hlen]
        simp only at h7
        rw [h3, ← ht] at h7
        simp only [List.append_nil] at h7
        rw [← h7]

theorem encD_len : ∀ (l : List Dt), (∀ d ∈ l, chkD d = 0) → (encD l).length ≤ l.length * 20 := by
  intro l
  induction l with
  | nil => intro _; simp [encD]
  | cons d r ih =>
    intro h
    have h1 := ih (fun x hx => h x (by simp [hx]))
    obtain ⟨a, b, c, e⟩ := chkD_ok (h d (by simp))
    have h2 := Lib.uvarint_length64 (x := d.1.toNat) (by omega)
    have h3 := Lib.uvarint_length64 (x := d.2.toNat) (by omega)
    simp only [encD, List.length_append, List.length_cons]
    omega
end Go.Proofs.Ytpcelgmcbfjmbaa
