/-
  Names of updates as plain pairs of numbers: their order, whether they may be, lists that rise, their bytes, and what is read of bytes.
  Stamps as plain values: what may be, which is less, the next one, and one behind another one that was seen.
  What updates say, as plain values: their order, whether they may be, lists that rise, their bytes, and what is read of bytes. What a list of chunks' bytes tell (9.2's Read) is a word that is handed in (rd): its error.
-/
import Derived.Test.YtchnklekeinhiaaGreatGV01
namespace Go.Proofs.YtchnklekeinhiaaGreat

/-- a name: its replica, its number -/
abbrev Dt := Int × Int

def ltD (a b : Dt) : Bool := decide (a.1 < b.1) || (decide (a.1 = b.1) && decide (a.2 < b.2))

theorem ltD_iff {a b : Dt} : ltD a b = true ↔ (a.1 < b.1 ∨ (a.1 = b.1 ∧ a.2 < b.2)) := by simp [ltD]
theorem ltD_no {a b : Dt} : ltD a b = false ↔ ¬ (a.1 < b.1 ∨ (a.1 = b.1 ∧ a.2 < b.2)) := by
  rw [← ltD_iff]; simp
theorem ltD_irr (a : Dt) : ltD a a = false := by rw [ltD_no]; omega
theorem ltD_trans {a b c : Dt} (h1 : ltD a b = true) (h2 : ltD b c = true) : ltD a c = true := by rw [ltD_iff] at *; omega
theorem ltD_asym {a b : Dt} (h : ltD a b = true) : ltD b a = false := by rw [ltD_no]; rw [ltD_iff] at h; omega
theorem ltD_tri (a b : Dt) : ltD a b = true ∨ a = b ∨ ltD b a = true := by
  rw [ltD_iff, ltD_iff, Prod.ext_iff]; omega
theorem ltD_of {a b : Dt} (h1 : ltD b a = false) (h2 : a ≠ b) : ltD a b = true := by
  rcases ltD_tri a b with h | h | h
  · exact h
  · exact absurd h h2
  · rw [h] at h1; cases h1

/-- They rise. -/
def Rise (l : List Dt) : Prop := l.Pairwise (fun a b => ltD a b = true)
instance (l : List Dt) : Decidable (Rise l) := inferInstanceAs (Decidable (l.Pairwise _))

/-! lists that rise are told by what is in them -/
theorem rise_same : ∀ {a b : List Dt}, Rise a → Rise b → (∀ x, x ∈ a ↔ x ∈ b) → a = b := by
  intro a
  induction a with
  | nil =>
    intro b _ _ h
    cases b with
    | nil => rfl
    | cons y t => exact absurd ((h y).2 (by simp)) (by simp)
  | cons x s ih =>
    intro b ha hb h
    cases b with
    | nil => exact absurd ((h x).1 (by simp)) (by simp)
    | cons y t =>
      have ha' := List.pairwise_cons.1 ha
      have hb' := List.pairwise_cons.1 hb
      have hxy : x = y := by
        rcases List.mem_cons.1 ((h x).1 (by simp)) with e | e
        · exact e
        · rcases List.mem_cons.1 ((h y).2 (by simp)) with e2 | e2
          · exact e2.symm
          · have h1 := ha'.1 y e2
            have h2 := hb'.1 x e
            rw [ltD_asym h1] at h2
            cases h2
      subst hxy
      have hst : s = t := ih ha'.2 hb'.2 fun z => by
        constructor
        · intro hz
          rcases List.mem_cons.1 ((h z).1 (by simp [hz])) with e | e
          · subst e; have := ha'.1 z hz; rw [ltD_irr] at this; cases this
          · exact e
        · intro hz
          rcases List.mem_cons.1 ((h z).2 (by simp [hz])) with e | e
          · subst e; have := hb'.1 z hz; rw [ltD_irr] at this; cases this
          · exact e
      rw [hst]

/-- a name, laid into a list that rises -/
def insD (d : Dt) : List Dt → List Dt
  | [] => [d]
  | x :: r => if ltD x d = true then x :: insD d r else if x = d then x :: r else d :: x :: r
/-- each once, rising -/
def sortD (l : List Dt) : List Dt := l.foldl (fun acc d => insD d acc) []

theorem mem_insD {d z : Dt} : ∀ {l : List Dt}, z ∈ insD d l ↔ z = d ∨ z ∈ l := by
  intro l
  induction l with
  | nil => simp [insD]
  | cons x r ih =>
    unfold insD
    split
    · simp only [List.mem_cons, ih]; constructor <;> (rintro (h | h | h) <;> simp [h])
    · split
      · rename_i h1 h2; subst h2; simp
      · simp
theorem rise_insD {d : Dt} : ∀ {l : List Dt}, Rise l → Rise (insD d l) := by
  intro l
  induction l with
  | nil => intro _; simp [insD, Rise]
  | cons x r ih =>
    intro h
    have h' := List.pairwise_cons.1 h
    unfold insD
    split
    · rename_i h1
      refine List.pairwise_cons.2 ⟨fun b hb => ?_, ih h'.2⟩
      rcases mem_insD.1 hb with rfl | hb
      · exact h1
      · exact h'.1 b hb
    · rename_i h1
      split
      · exact h
      · rename_i h2
        have hdx : ltD d x = true := ltD_of (by simpa using h1) (fun e => h2 e.symm)
        refine List.pairwise_cons.2 ⟨fun b hb => ?_, h⟩
        rcases List.mem_cons.1 hb with rfl | hb
        · exact hdx
        · exact ltD_trans hdx (h'.1 b hb)
theorem sortD_snoc (l : List Dt) (d : Dt) : sortD (l ++ [d]) = insD d (sortD l) := by simp [sortD]
theorem foldD_spec : ∀ (l acc : List Dt), Rise acc → Rise (l.foldl (fun acc d => insD d acc) acc) ∧ ∀ z, z ∈ l.foldl (fun acc d => insD d acc) acc ↔ z ∈ acc ∨ z ∈ l := by
  intro l
  induction l with
  | nil => intro acc h; exact ⟨h, fun z => by simp⟩
  | cons d r ih =>
    intro acc h
    obtain ⟨h1, h2⟩ := ih (insD d acc) (rise_insD h)
    refine ⟨h1, fun z => ?_⟩
    rw [List.foldl_cons, h2, mem_insD, List.mem_cons]
    constructor <;> rintro h
    · rcases h with (h | h) | h <;> simp [h]
    · rcases h with h | h | h <;> simp [h]
theorem rise_sortD (l : List Dt) : Rise (sortD l) := (foldD_spec l [] .nil).1
theorem mem_sortD {l : List Dt} {z : Dt} : z ∈ sortD l ↔ z ∈ l := by
  have h := (foldD_spec l [] .nil).2 z
  simpa [sortD] using h
theorem insD_len (d : Dt) : ∀ l : List Dt, (insD d l).length ≤ l.length + 1 := by
  intro l
  induction l with
  | nil => simp [insD]
  | cons x r ih => unfold insD; split <;> (try split) <;> simp <;> omega
theorem sortD_len (l : List Dt) : (sortD l).length ≤ l.length := by
  have : ∀ (l acc : List Dt), (l.foldl (fun acc d => insD d acc) acc).length ≤ acc.length + l.length := by
    intro l
    induction l with
    | nil => simp
    | cons d r ih => intro acc; have h1 := ih (insD d acc); have h2 := insD_len d acc; simp only [List.foldl_cons, List.length_cons]; omega
  simpa [sortD] using this l []

/-- a name that is in a list that rises is not laid in again -/
theorem insD_in {d : Dt} {l : List Dt} (h : Rise l) (hd : d ∈ l) : insD d l = l :=
  rise_same (rise_insD h) h fun z => by rw [mem_insD]; exact ⟨fun hz => hz.elim (fun e => e ▸ hd) id, Or.inr⟩
/-- one that is not stands behind those that are less -/
theorem insD_at {d : Dt} {l : List Dt} (h : Rise l) (hd : d ∉ l) (k : Nat) (hk : k ≤ l.length) (h1 : ∀ j (hj : j < l.length), j < k → ltD l[j] d = true) (h2 : ∀ hk : k < l.length, ltD l[k] d = false) :
    l.take k ++ [d] ++ l.drop k = insD d l := by
  have hp := List.pairwise_iff_getElem.1 h
  have hb : ∀ x ∈ l.drop k, ltD d x = true := by
    intro x hx
    obtain ⟨i, hi, rfl⟩ := List.mem_iff_getElem.1 hx
    rw [List.getElem_drop]
    rw [List.length_drop] at hi
    have h3 : ltD d l[k] = true := ltD_of (h2 (by omega)) (fun e => hd (by rw [e]; exact List.getElem_mem _))
    by_cases hi0 : i = 0
    · subst hi0; exact h3
    · exact ltD_trans h3 (hp k (k + i) (by omega) (by omega) (by omega))
  have ha : ∀ x ∈ l.take k, ltD x d = true := by
    intro x hx
    obtain ⟨i, hi, rfl⟩ := List.mem_iff_getElem.1 hx
    rw [List.length_take] at hi
    rw [List.getElem_take]
    exact h1 i (by omega) (by omega)
  refine rise_same ?_ (rise_insD h) fun z => ?_
  · unfold Rise
    rw [List.append_assoc, List.pairwise_append]
    refine ⟨List.Pairwise.sublist (List.take_sublist _ _) h, ?_, ?_⟩
    · rw [List.singleton_append, List.pairwise_cons]
      exact ⟨hb, List.Pairwise.sublist (List.drop_sublist _ _) h⟩
    · intro x hx y hy
      rcases List.mem_append.1 hy with hy | hy
      · obtain rfl := List.mem_singleton.1 hy; exact ha x hx
      · exact ltD_trans (ha x hx) (hb y hy)
  · rw [mem_insD]
    have e : z ∈ l ↔ z ∈ l.take k ∨ z ∈ l.drop k := by rw [← List.mem_append, List.take_append_drop]
    rw [e]
    simp only [List.mem_append, List.mem_singleton]
    constructor
    · rintro ((h | h) | h) <;> simp [h]
    · rintro (h | h | h) <;> simp [h]

/-! of neighbours that are the same one is kept -/
/-- what was kept of the first k of s -/
structure Kept (s : List Dt) (k : Nat) (out : List Dt) : Prop where
  rise : Rise out
  mem : ∀ z, z ∈ out ↔ z ∈ s.take k
  len : out.length ≤ k
theorem Kept.start (s : List Dt) : Kept s 0 [] := ⟨.nil, fun z => by simp, Nat.le_refl _⟩
theorem Kept.same {s out : List Dt} {k : Nat} (h : Kept s (k + 1) out) (hk : k + 1 < s.length) (he : s[k + 1] = s[k]) : Kept s (k + 1 + 1) out := by
  refine ⟨h.rise, fun z => ?_, Nat.le_succ_of_le h.len⟩
  rw [h.mem z, List.take_succ_eq_append_getElem hk, List.mem_append, List.mem_singleton]
  constructor
  · exact .inl
  · rintro (hz | rfl)
    · exact hz
    · rw [he]; exact List.mem_take_iff_getElem.2 ⟨k, by omega, rfl⟩
theorem Kept.more {s out : List Dt} {k : Nat} (h : Kept s k out) (hs : s.Pairwise (fun a b => ltD b a = false)) (hk : k < s.length) (hne : ∀ j (hj : j + 1 = k), s[k] ≠ s[j]) : Kept s (k + 1) (out ++ [s[k]]) := by
  refine ⟨?_, fun z => ?_, by have := h.len; simp; omega⟩
  · unfold Rise
    rw [List.pairwise_append]
    refine ⟨h.rise, by simp, fun x hx y hy => ?_⟩
    obtain rfl := List.mem_singleton.1 hy
    obtain ⟨j, hj, rfl⟩ := List.mem_take_iff_getElem.1 ((h.mem x).1 hx)
    have hp := List.pairwise_iff_getElem.1 hs
    obtain ⟨m, rfl⟩ : ∃ m, k = m + 1 := ⟨k - 1, by omega⟩
    have hm : ltD s[m] s[m + 1] = true := ltD_of (hp m (m + 1) (by omega) hk (by omega)) (fun e => hne m rfl e.symm)
    by_cases hjm : j = m
    · subst hjm; exact hm
    · have h1 := hp j m (by omega) (by omega) (by omega)
      rcases ltD_tri s[j] s[m] with h2 | h2 | h2
      · exact ltD_trans h2 hm
      · rw [h2]; exact hm
      · rw [h2] at h1; cases h1
  · rw [List.take_succ_eq_append_getElem hk, List.mem_append, List.mem_append, h.mem z]
theorem Kept.all {s l out : List Dt} {k : Nat} (h : Kept s k out) (hk : s.length ≤ k) (hp : ∀ z, z ∈ s ↔ z ∈ l) : out = sortD l :=
  rise_same h.rise (rise_sortD l) fun z => by rw [h.mem z, List.take_of_length_le hk, mem_sortD, hp]

/-! bytes -/
/-- what Done answers -/
def doneS (st : ByteArray × Int) : Int := if st.2 ≠ 0 then st.2 else if 0 < st.1.size then 5 else 0
/-! what is put comes back -/
end Go.Proofs.YtchnklekeinhiaaGreat

namespace Go.Proofs.YtchnklekeinhiaaGreat

structure St where
  t : Int
  c : Int
  r : Int
deriving DecidableEq

def ltS (a b : St) : Bool := if a.t ≠ b.t then decide (a.t < b.t) else if a.c ≠ b.c then decide (a.c < b.c) else decide (a.r < b.r)
def badN (now : Int) : Prop := now < 0 ∨ 1099511627776 < now
def badR (r : Int) : Prop := r < 0 ∨ 15 < r
instance (n : Int) : Decidable (badN n) := by unfold badN; infer_instance
instance (n : Int) : Decidable (badR n) := by unfold badR; infer_instance
theorem ltS_iff {a b : St} : ltS a b = true ↔ a.t < b.t ∨ (a.t = b.t ∧ (a.c < b.c ∨ (a.c = b.c ∧ a.r < b.r))) := by
  unfold ltS
  split
  · rw [decide_eq_true_eq]; omega
  · split
    · rw [decide_eq_true_eq]; omega
    · rw [decide_eq_true_eq]; omega
theorem ltS_no {a b : St} : ltS a b = false ↔ ¬ (a.t < b.t ∨ (a.t = b.t ∧ (a.c < b.c ∨ (a.c = b.c ∧ a.r < b.r)))) := by
  rw [← ltS_iff]; simp
theorem ltS_irr (a : St) : ltS a a = false := by rw [ltS_no]; omega
theorem ltS_asym {a b : St} (h : ltS a b = true) : ltS b a = false := by rw [ltS_no]; rw [ltS_iff] at h; omega
theorem ltS_trans {a b c : St} (h : ltS a b = true) (k : ltS b c = true) : ltS a c = true := by rw [ltS_iff] at *; omega
theorem ltS_tri (a b : St) : (ltS a b = true ∧ ltS b a = false ∧ decide (a = b) = false) ∨ (ltS a b = false ∧ ltS b a = true ∧ decide (a = b) = false) ∨ (ltS a b = false ∧ ltS b a = false ∧ decide (a = b) = true) := by
  by_cases e : a = b
  · subst e
    exact .inr (.inr ⟨ltS_irr a, ltS_irr a, decide_eq_true rfl⟩)
  · have hd := decide_eq_false e
    rcases hab : ltS a b with _ | _
    · rcases hba : ltS b a with _ | _
      · exfalso
        rw [ltS_no] at hab hba
        apply e
        obtain ⟨t, c, r⟩ := a
        obtain ⟨t', c', r'⟩ := b
        simp only [St.mk.injEq] at *
        omega
      · exact .inr (.inl ⟨rfl, rfl, hd⟩)
    · exact .inl ⟨rfl, ltS_asym hab, hd⟩
end Go.Proofs.YtchnklekeinhiaaGreat

namespace Go.Proofs.YtchnklekeinhiaaGreat

/-! orders -/
/-- an order of all -/
structure TotO {α : Type} (lt : α → α → Bool) : Prop where
  irr : ∀ a, lt a a = false
  trans : ∀ {a b c}, lt a b = true → lt b c = true → lt a c = true
  tri : ∀ a b, lt a b = true ∨ a = b ∨ lt b a = true
/-- by the first, then by the rest -/
def lexL {α β : Type} [DecidableEq α] (l1 : α → α → Bool) (l2 : β → β → Bool) (a b : α × β) : Bool := if a.1 ≠ b.1 then l1 a.1 b.1 else l2 a.2 b.2
theorem lexL_ne {α β : Type} [DecidableEq α] {l1 : α → α → Bool} {l2 : β → β → Bool} {a b : α × β} (h : a.1 ≠ b.1) : lexL l1 l2 a b = l1 a.1 b.1 := if_pos h
theorem lexL_eq {α β : Type} [DecidableEq α] {l1 : α → α → Bool} {l2 : β → β → Bool} {a b : α × β} (h : a.1 = b.1) : lexL l1 l2 a b = l2 a.2 b.2 := if_neg (fun k => k h)
theorem TotO.lex {α β : Type} [DecidableEq α] {l1 : α → α → Bool} {l2 : β → β → Bool} (h1 : TotO l1) (h2 : TotO l2) : TotO (lexL l1 l2) where
  irr a := by rw [lexL_eq rfl]; exact h2.irr _
  trans {a b c} hab hbc := by
    by_cases e1 : a.1 = b.1
    · by_cases e2 : b.1 = c.1
      · rw [lexL_eq e1] at hab
        rw [lexL_eq e2] at hbc
        rw [lexL_eq (e1.trans e2)]
        exact h2.trans hab hbc
      · rw [lexL_ne e2] at hbc
        rw [lexL_ne (by rw [e1]; exact e2), e1]
        exact hbc
    · rw [lexL_ne e1] at hab
      by_cases e2 : b.1 = c.1
      · rw [lexL_ne (by rw [← e2]; exact e1), ← e2]
        exact hab
      · rw [lexL_ne e2] at hbc
        have h := h1.trans hab hbc
        have e3 : a.1 ≠ c.1 := fun e => by rw [e, h1.irr] at h; cases h
        rw [lexL_ne e3]
        exact h
  tri a b := by
    by_cases e : a.1 = b.1
    · rw [lexL_eq e, lexL_eq e.symm]
      rcases h2.tri a.2 b.2 with h | h | h
      · exact .inl h
      · exact .inr (.inl (Prod.ext e h))
      · exact .inr (.inr h)
    · rw [lexL_ne e, lexL_ne (fun k => e k.symm)]
      rcases h1.tri a.1 b.1 with h | h | h
      · exact .inl h
      · exact absurd h e
      · exact .inr (.inr h)
theorem totI : TotO (fun a b : Int => decide (a < b)) where
  irr a := by simp
  trans {a b c} h k := by simp only [decide_eq_true_eq] at *; omega
  tri a b := by simp only [decide_eq_true_eq]; omega
theorem totD : TotO ltD := ⟨ltD_irr, ltD_trans, ltD_tri⟩
theorem totS : TotO ltS := ⟨ltS_irr, ltS_trans, fun a b => by
  rcases ltS_tri a b with ⟨h, -, -⟩ | ⟨-, h, -⟩ | ⟨-, -, h⟩
  · exact .inl h
  · exact .inr (.inr h)
  · exact .inr (.inl (of_decide_eq_true h))⟩
theorem less_irr : ∀ a : List UInt8, Op.bytesLess a a = false
  | [] => rfl
  | x :: r => by simp [Op.bytesLess, less_irr r, UInt8.lt_irrefl]
theorem less_trans : ∀ a b c : List UInt8, Op.bytesLess a b = true → Op.bytesLess b c = true → Op.bytesLess a c = true
  | _, _, [] => fun _ h => by simp [Op.bytesLess] at h
  | [], _, _ :: _ => fun _ _ => rfl
  | _ :: _, [], _ :: _ => fun h _ => by simp [Op.bytesLess] at h
  | x :: a, y :: b, z :: c => fun h k => by
    simp only [Op.bytesLess, Bool.or_eq_true, decide_eq_true_eq, Bool.and_eq_true, beq_iff_eq, UInt8.lt_iff_toNat_lt, ← UInt8.toNat_inj] at *
    rcases h with h | ⟨h, h2⟩
    · rcases k with k | ⟨k, -⟩
      · exact .inl (by omega)
      · exact .inl (by omega)
    · rcases k with k | ⟨k, k2⟩
      · exact .inl (by omega)
      · exact .inr ⟨by omega, less_trans a b c h2 k2⟩
theorem less_tri : ∀ a b : List UInt8, Op.bytesLess a b = true ∨ a = b ∨ Op.bytesLess b a = true
  | [], [] => .inr (.inl rfl)
  | [], _ :: _ => .inl rfl
  | _ :: _, [] => .inr (.inr rfl)
  | x :: a, y :: b => by
    have ih := less_tri a b
    simp only [Op.bytesLess, Bool.or_eq_true, decide_eq_true_eq, Bool.and_eq_true, beq_iff_eq, UInt8.lt_iff_toNat_lt, ← UInt8.toNat_inj, List.cons.injEq]
    rcases Nat.lt_trichotomy x.toNat y.toNat with h | h | h
    · exact .inl (.inl h)
    · rcases ih with k | k | k
      · exact .inl (.inr ⟨h, k⟩)
      · exact .inr (.inl ⟨h, k⟩)
      · exact .inr (.inr (.inr ⟨h.symm, k⟩))
    · exact .inr (.inr (.inl h))
/-- '<' of texts -/
def ltX (a b : ByteArray) : Bool := Op.bytesLess a.toList b.toList
theorem totX : TotO ltX where
  irr a := less_irr _
  trans h k := less_trans _ _ _ h k
  tri a b := by
    rcases less_tri a.toList b.toList with h | h | h
    · exact .inl h
    · refine .inr (.inl ?_)
      rw [ByteArray.toList_eq, ByteArray.toList_eq] at h
      obtain ⟨⟨x⟩⟩ := a
      obtain ⟨⟨y⟩⟩ := b
      simp only at h
      rw [h]
    · exact .inr (.inr h)

/-! facts -/
structure Ft where
  d : Dt
  s : St
  k : Int
  n : ByteArray
  v : ByteArray
deriving DecidableEq

def keyF (f : Ft) : ByteArray × Int × Dt × St × ByteArray := (f.n, f.k, f.d, f.s, f.v)
theorem keyF_inj {a b : Ft} (h : keyF a = keyF b) : a = b := by
  obtain ⟨d, s, k, n, v⟩ := a
  obtain ⟨d', s', k', n', v'⟩ := b
  simp only [keyF, Prod.mk.injEq] at h
  obtain ⟨rfl, rfl, rfl, rfl, rfl⟩ := h
  rfl
/-- by name, kind, name of the update, stamp, value -/
def ltF (a b : Ft) : Bool := lexL ltX (lexL (fun x y : Int => decide (x < y)) (lexL ltD (lexL ltS ltX))) (keyF a) (keyF b)
theorem totK : TotO (lexL ltX (lexL (fun x y : Int => decide (x < y)) (lexL ltD (lexL ltS ltX)))) := totX.lex (totI.lex (totD.lex (totS.lex totX)))
theorem ltF_irr (a : Ft) : ltF a a = false := totK.irr _
theorem ltF_trans {a b c : Ft} (h1 : ltF a b = true) (h2 : ltF b c = true) : ltF a c = true := totK.trans h1 h2
theorem ltF_asym {a b : Ft} (h : ltF a b = true) : ltF b a = false := by
  rcases e : ltF b a with _ | _
  · rfl
  · have := ltF_trans h e
    rw [ltF_irr] at this
    cases this
theorem ltF_tri (a b : Ft) : ltF a b = true ∨ a = b ∨ ltF b a = true := by
  rcases totK.tri (keyF a) (keyF b) with h | h | h
  · exact .inl h
  · exact .inr (.inl (keyF_inj h))
  · exact .inr (.inr h)
theorem ltF_of {a b : Ft} (h1 : ltF b a = false) (h2 : a ≠ b) : ltF a b = true := by
  rcases ltF_tri a b with h | h | h
  · exact h
  · exact absurd h h2
  · rw [h] at h1; cases h1
/-- as the document tells it -/
theorem ltF_if (a b : Ft) : ltF a b = if a.n ≠ b.n then ltX a.n b.n else if a.k ≠ b.k then decide (a.k < b.k) else if a.d ≠ b.d then ltD a.d b.d else if a.s ≠ b.s then ltS a.s b.s else ltX a.v b.v := rfl
/-- They rise. -/
def RiseF (l : List Ft) : Prop := l.Pairwise (fun a b => ltF a b = true)
instance (l : List Ft) : Decidable (RiseF l) := inferInstanceAs (Decidable (l.Pairwise _))

/-! lists that rise are told by what is in them -/
theorem riseF_same : ∀ {a b : List Ft}, RiseF a → RiseF b → (∀ x, x ∈ a ↔ x ∈ b) → a = b := by
  intro a
  induction a with
  | nil =>
    intro b _ _ h
    cases b with
    | nil => rfl
    | cons y t => exact absurd ((h y).2 (by simp)) (by simp)
  | cons x s ih =>
    intro b ha hb h
    cases b with
    | nil => exact absurd ((h x).1 (by simp)) (by simp)
    | cons y t =>
      have ha' := List.pairwise_cons.1 ha
      have hb' := List.pairwise_cons.1 hb
      have hxy : x = y := by
        rcases List.mem_cons.1 ((h x).1 (by simp)) with e | e
        · exact e
        · rcases List.mem_cons.1 ((h y).2 (by simp)) with e2 | e2
          · exact e2.symm
          · have h1 := ha'.1 y e2
            have h2 := hb'.1 x e
            rw [ltF_asym h1] at h2
            cases h2
      subst hxy
      have hst : s = t := ih ha'.2 hb'.2 fun z => by
        constructor
        · intro hz
          rcases List.mem_cons.1 ((h z).1 (by simp [hz])) with e | e
          · subst e; have := ha'.1 z hz; rw [ltF_irr] at this; cases this
          · exact e
        · intro hz
          rcases List.mem_cons.1 ((h z).2 (by simp [hz])) with e | e
          · subst e; have := hb'.1 z hz; rw [ltF_irr] at this; cases this
          · exact e
      rw [hst]

/-- a fact, laid into a list that rises -/
def insF (d : Ft) : List Ft → List Ft
  | [] => [d]
  | x :: r => if ltF x d = true then x :: insF d r else if x = d then x :: r else d :: x :: r
/-- each once, rising -/
def sortF (l : List Ft) : List Ft := l.foldl (fun acc d => insF d acc) []

theorem mem_insF {d z : Ft} : ∀ {l : List Ft}, z ∈ insF d l ↔ z = d ∨ z ∈ l := by
  intro l
  induction l with
  | nil => simp [insF]
  | cons x r ih =>
    unfold insF
    split
    · simp only [List.mem_cons, ih]; constructor <;> (rintro (h | h | h) <;> simp [h])
    · split
      · rename_i h1 h2; subst h2; simp
      · simp
theorem riseF_insF {d : Ft} : ∀ {l : List Ft}, RiseF l → RiseF (insF d l) := by
  intro l
  induction l with
  | nil => intro _; simp [insF, RiseF]
  | cons x r ih =>
    intro h
    have h' := List.pairwise_cons.1 h
    unfold insF
    split
    · rename_i h1
      refine List.pairwise_cons.2 ⟨fun b hb => ?_, ih h'.2⟩
      rcases mem_insF.1 hb with rfl | hb
      · exact h1
      · exact h'.1 b hb
    · rename_i h1
      split
      · exact h
      · rename_i h2
        have hdx : ltF d x = true := ltF_of (by simpa using h1) (fun e => h2 e.symm)
        refine List.pairwise_cons.2 ⟨fun b hb => ?_, h⟩
        rcases List.mem_cons.1 hb with rfl | hb
        · exact hdx
        · exact ltF_trans hdx (h'.1 b hb)
theorem foldF_spec : ∀ (l acc : List Ft), RiseF acc → RiseF (l.foldl (fun acc d => insF d acc) acc) ∧ ∀ z, z ∈ l.foldl (fun acc d => insF d acc) acc ↔ z ∈ acc ∨ z ∈ l := by
  intro l
  induction l with
  | nil => intro acc h; exact ⟨h, fun z => by simp⟩
  | cons d r ih =>
    intro acc h
    obtain ⟨h1, h2⟩ := ih (insF d acc) (riseF_insF h)
    refine ⟨h1, fun z => ?_⟩
    rw [List.foldl_cons, h2, mem_insF, List.mem_cons]
    constructor <;> rintro h
    · rcases h with (h | h) | h <;> simp [h]
    · rcases h with h | h | h <;> simp [h]
theorem riseF_sortF (l : List Ft) : RiseF (sortF l) := (foldF_spec l [] .nil).1
theorem mem_sortF {l : List Ft} {z : Ft} : z ∈ sortF l ↔ z ∈ l := by
  have h := (foldF_spec l [] .nil).2 z
  simpa [sortF] using h
theorem insF_len (d : Ft) : ∀ l : List Ft, (insF d l).length ≤ l.length + 1 := by
  intro l
  induction l with
  | nil => simp [insF]
  | cons x r ih => unfold insF; split <;> (try split) <;> simp <;> omega
theorem sortF_len (l : List Ft) : (sortF l).length ≤ l.length := by
  have : ∀ (l acc : List Ft), (l.foldl (fun acc d => insF d acc) acc).length ≤ acc.length + l.length := by
    intro l
    induction l with
    | nil => simp
    | cons d r ih => intro acc; have h1 := ih (insF d acc); have h2 := insF_len d acc; simp only [List.foldl_cons, List.length_cons]; omega
  simpa [sortF] using this l []

/-! of neighbours that are the same one is kept -/
/-- what was kept of the first k of s -/
structure KeptF (s : List Ft) (k : Nat) (out : List Ft) : Prop where
  rise : RiseF out
  mem : ∀ z, z ∈ out ↔ z ∈ s.take k
  len : out.length ≤ k
theorem KeptF.start (s : List Ft) : KeptF s 0 [] := ⟨.nil, fun z => by simp, Nat.le_refl _⟩
theorem KeptF.same {s out : List Ft} {k : Nat} (h : KeptF s (k + 1) out) (hk : k + 1 < s.length) (he : s[k + 1] = s[k]) : KeptF s (k + 1 + 1) out := by
  refine ⟨h.rise, fun z => ?_, Nat.le_succ_of_le h.len⟩
  rw [h.mem z, List.take_succ_eq_append_getElem hk, List.mem_append, List.mem_singleton]
  constructor
  · exact .inl
  · rintro (hz | rfl)
    · exact hz
    · rw [he]; exact List.mem_take_iff_getElem.2 ⟨k, by omega, rfl⟩
theorem KeptF.more {s out : List Ft} {k : Nat} (h : KeptF s k out) (hs : s.Pairwise (fun a b => ltF b a = false)) (hk : k < s.length) (hne : ∀ j (hj : j + 1 = k), s[k] ≠ s[j]) : KeptF s (k + 1) (out ++ [s[k]]) := by
  refine ⟨?_, fun z => ?_, by have := h.len; simp; omega⟩
  · unfold RiseF
    rw [List.pairwise_append]
    refine ⟨h.rise, by simp, fun x hx y hy => ?_⟩
    obtain rfl := List.mem_singleton.1 hy
    obtain ⟨j, hj, rfl⟩ := List.mem_take_iff_getElem.1 ((h.mem x).1 hx)
    have hp := List.pairwise_iff_getElem.1 hs
    obtain ⟨m, rfl⟩ : ∃ m, k = m + 1 := ⟨k - 1, by omega⟩
    have hm : ltF s[m] s[m + 1] = true := ltF_of (hp m (m + 1) (by omega) hk (by omega)) (fun e => hne m rfl e.symm)
    by_cases hjm : j = m
    · subst hjm; exact hm
    · have h1 := hp j m (by omega) (by omega) (by omega)
      rcases ltF_tri s[j] s[m] with h2 | h2 | h2
      · exact ltF_trans h2 hm
      · rw [h2]; exact hm
      · rw [h2] at h1; cases h1
  · rw [List.take_succ_eq_append_getElem hk, List.mem_append, List.mem_append, h.mem z]
theorem KeptF.all {s l out : List Ft} {k : Nat} (h : KeptF s k out) (hk : s.length ≤ k) (hp : ∀ z, z ∈ s ↔ z ∈ l) : out = sortF l :=
  riseF_same h.rise (riseF_sortF l) fun z => by rw [h.mem z, List.take_of_length_le hk, mem_sortF, hp]


/-! bytes -/
/-! what is put comes back -/
end Go.Proofs.YtchnklekeinhiaaGreat
