/-
  Chapter 17 in plain words: one of some, and all (ahead of its code).
  Vectors as lists of sixteen numbers: whether they may be, the greater and the smaller ones, which is less, their bytes.
  Contexts as a vector and names beyond it: what they have, those that are clean, what lacks, their bytes. Nothing of the program.
  What is left of facts, as plain lists: two sides put together; that it does not hang on the order, nor on how often; deltas applied in whatever order.
  Floats' bits as plain numbers: the one NaN, keys, and that the keys rise as the numbers do.
  A number's eight bytes, and the number of eight bytes, as plain functions.
-/
import Derived.Test.YtmnblpjdiplioaaGreatGOp03
import Derived.Test.YtmnblpjdiplioaaGreatGOp01
import Derived.Test.YtmnblpjdiplioaaGreatGOp05
import Derived.Test.YtmnblpjdiplioaaGreatRows
import Derived.KernelRfl
namespace Go.Proofs.YtmnblpjdiplioaaGreat
set_option linter.unusedSimpArgs false
set_option linter.unusedVariables false

/-- two lists of the same elements that rise weakly are one -/
theorem weak_same {α : Type} {lt : α → α → Bool} (h : TotO lt) : ∀ {a b : List α}, a.Perm b → a.Pairwise (fun x y => lt y x = false) → b.Pairwise (fun x y => lt y x = false) → a = b
  | [], b, hp, _, _ => (List.nil_perm.1 hp).symm
  | x :: a, b, hp, ha, hb => by
    cases b with
    | nil => exact absurd hp.length_eq (by simp)
    | cons y b =>
      have hx : x ∈ y :: b := hp.subset (by simp)
      have hy : y ∈ x :: a := hp.symm.subset (by simp)
      have e : x = y := by
        rw [List.pairwise_cons] at ha hb
        rcases List.mem_cons.1 hx with e | hx
        · exact e
        · rcases List.mem_cons.1 hy with e | hy
          · exact e.symm
          · have h1 := ha.1 y hy
            have h2 := hb.1 x hx
            rcases h.tri x y with k | k | k
            · rw [h2] at k; cases k
            · exact k
            · rw [h1] at k; cases k
      subst e
      rw [weak_same h (List.perm_cons x |>.1 hp) (List.pairwise_cons.1 ha).2 (List.pairwise_cons.1 hb).2]

/-- when a fact was made, by which name, and what it says -/
def keyR (f : Ft) : St × Dt × ByteArray := (f.s, f.d, f.v)
def ltK : St × Dt × ByteArray → St × Dt × ByteArray → Bool := lexL ltS (lexL ltD ltX)
theorem totR : TotO ltK := totS.lex (totD.lex totX)
def ltR (a b : Ft) : Bool := ltK (keyR a) (keyR b)
theorem ltR_if (a b : Ft) : ltR a b = if a.s ≠ b.s then ltS a.s b.s else if a.d ≠ b.d then ltD a.d b.d else ltX a.v b.v := rfl
theorem ltR_irr (a : Ft) : ltR a a = false := totR.irr _
theorem ltR_trans {a b c : Ft} (h1 : ltR a b = true) (h2 : ltR b c = true) : ltR a c = true := totR.trans h1 h2
theorem ltR_tri (a b : Ft) : ltR a b = true ∨ keyR a = keyR b ∨ ltR b a = true := totR.tri _ _
theorem ltR_asym {a b : Ft} (h : ltR a b = true) : ltR b a = false := by
  cases k : ltR b a with
  | false => rfl
  | true => have := ltR_trans h k; rw [ltR_irr] at this; cases this
/-- the facts by rising keys -/
def WeakR (l : List Ft) : Prop := l.Pairwise (fun a b => ltR b a = false)
/-- what chapter 17 lists: the facts in some order that rises -/
structure OrderR (l m : List Ft) : Prop where
  perm : m.Perm l
  weak : WeakR m
theorem OrderR.nil : OrderR [] [] := ⟨.refl _, .nil⟩
/-- a fact set behind all that are not later -/
theorem OrderR.put {l m : List Ft} (h : OrderR l m) (f : Ft) (k : Nat) (hk : k ≤ m.length) (h1 : ∀ x ∈ m.take k, ltR f x = false) (h2 : ∀ x ∈ m.drop k, ltR f x = true ∨ keyR f = keyR x) : OrderR (l ++ [f]) (m.take k ++ f :: m.drop k) := by
  constructor
  · refine (List.perm_middle).trans ?_
    rw [List.take_append_drop]
    exact (List.Perm.cons f h.perm).trans (List.perm_append_singleton f l).symm
  · have hw := h.weak
    unfold WeakR at hw ⊢
    rw [← List.take_append_drop k m, List.pairwise_append] at hw
    obtain ⟨ha, hb, hc⟩ := hw
    rw [List.pairwise_append, List.pairwise_cons]
    refine ⟨ha, ⟨fun x hx => ?_, hb⟩, fun a hin b hb2 => ?_⟩
    · rcases h2 x hx with k | k
      · exact ltR_asym k
      · show ltK _ _ = false
        rw [k]
        exact totR.irr _
    · rcases List.mem_cons.1 hb2 with rfl | hb2
      · exact h1 a hin
      · exact hc a hin b hb2
/-- among facts that rise, once one isn't later none ahead is -/
theorem WeakR.ahead {m : List Ft} (h : WeakR m) {f : Ft} {k : Nat} (hk : k < m.length) (hf : ltR f m[k] = false) : ∀ x ∈ m.take (k + 1), ltR f x = false := by
  intro x hx
  obtain ⟨j, hj, rfl⟩ := List.mem_iff_getElem.1 hx
  rw [List.length_take] at hj
  rw [List.getElem_take]
  by_cases e : j = k
  · subst e; exact hf
  · have hw := List.pairwise_iff_getElem.1 h j k (by omega) hk (by omega)
    cases q : ltR f m[j] with
    | false => rfl
    | true =>
      rcases ltR_tri m[j] m[k] with t | t | t
      · have := ltR_trans q t; rw [hf] at this; cases this
      · have : ltR f m[k] = true := by unfold ltR at q ⊢; rw [← t]; exact q
        rw [hf] at this; cases this
      · rw [hw] at t; cases t
/-- values, each once, rising -/
def RiseX (l : List ByteArray) : Prop := l.Pairwise (fun a b => ltX a b = true)
theorem riseX_same {a b : List ByteArray} (ha : RiseX a) (hb : RiseX b) (h : ∀ x, x ∈ a ↔ x ∈ b) : a = b := by
  have nd : ∀ {c : List ByteArray}, RiseX c → c.Nodup := fun hc => List.Pairwise.imp (fun {x y} k e => by subst e; rw [totX.irr] at k; cases k) hc
  have wk : ∀ {c : List ByteArray}, RiseX c → c.Pairwise (fun x y => ltX y x = false) := fun hc => List.Pairwise.imp (fun {x y} k => by
    cases q : ltX y x with
    | false => rfl
    | true => have := totX.trans k q; rw [totX.irr] at this; cases this) hc
  refine weak_same totX ?_ (wk ha) (wk hb)
  exact (List.perm_ext_iff_of_nodup (nd ha) (nd hb)).2 h
structure ElemsR (l : List Ft) (out : List ByteArray) : Prop where
  rise : RiseX out
  mem : ∀ x, x ∈ out ↔ ∃ f ∈ l, f.v = x
theorem ElemsR.same {l k : List Ft} {a b : List ByteArray} (hl : ∀ f, f ∈ l ↔ f ∈ k) (h : ElemsR l a) (h2 : ElemsR k b) : a = b :=
  riseX_same h.rise h2.rise fun x => by
    rw [h.mem, h2.mem]
    constructor
    · rintro ⟨f, hf, e⟩; exact ⟨f, (hl f).1 hf, e⟩
    · rintro ⟨f, hf, e⟩; exact ⟨f, (hl f).2 hf, e⟩
theorem ElemsR.nil : ElemsR [] [] := ⟨.nil, fun x => by simp⟩
theorem ElemsR.skip {l : List Ft} {out : List ByteArray} (h : ElemsR l out) {f : Ft} (hf : f.v ∈ out) : ElemsR (l ++ [f]) out :=
  ⟨h.rise, fun x => by
    rw [h.mem]
    constructor
    · rintro ⟨g, hg, e⟩; exact ⟨g, List.mem_append_left _ hg, e⟩
    · rintro ⟨g, hg, e⟩
      rcases List.mem_append.1 hg with hg | hg
      · exact ⟨g, hg, e⟩
      · obtain rfl := List.mem_singleton.1 hg
        subst e
        exact (h.mem _).1 hf⟩
theorem ElemsR.put {l : List Ft} {out : List ByteArray} (h : ElemsR l out) (f : Ft) (k : Nat) (h1 : ∀ x ∈ out.take k, ltX x f.v = true) (h2 : ∀ x ∈ out.drop k, ltX f.v x = true) : ElemsR (l ++ [f]) (out.take k ++ f.v :: out.drop k) := by
  constructor
  · have hw := h.rise
    unfold RiseX at hw ⊢
    rw [← List.take_append_drop k out, List.pairwise_append] at hw
    obtain ⟨ha, hb, hc⟩ := hw
    rw [List.pairwise_append, List.pairwise_cons]
    refine ⟨ha, ⟨h2, hb⟩, fun a hin b hb2 => ?_⟩
    rcases List.mem_cons.1 hb2 with rfl | hb2
    · exact h1 a hin
    · exact hc a hin b hb2
  · intro x
    rw [List.mem_append, List.mem_cons]
    have hm : x ∈ out ↔ x ∈ out.take k ∨ x ∈ out.drop k := by rw [← List.mem_append, List.take_append_drop]
    constructor
    · rintro (hx | rfl | hx)
      · obtain ⟨g, hg, e⟩ := (h.mem x).1 (hm.2 (.inl hx)); exact ⟨g, List.mem_append_left _ hg, e⟩
      · exact ⟨f, by simp, rfl⟩
      · obtain ⟨g, hg, e⟩ := (h.mem x).1 (hm.2 (.inr hx)); exact ⟨g, List.mem_append_left _ hg, e⟩
    · rintro ⟨g, hg, e⟩
      rcases List.mem_append.1 hg with hg | hg
      · rcases hm.1 ((h.mem x).2 ⟨g, hg, e⟩) with k | k
        · exact .inl k
        · exact .inr (.inr k)
      · obtain rfl := List.mem_singleton.1 hg
        exact .inr (.inl e.symm)
/-- the facts of a kind and a name -/
def ofR (k : Int) (n : ByteArray) (l : List Ft) : List Ft := l.filter (fun f => (decide (k = 0) || decide (f.k = k)) && decide (f.n = n))
end Go.Proofs.YtmnblpjdiplioaaGreat

namespace Go.Proofs.YtmnblpjdiplioaaGreat

abbrev Vc := List Int
abbrev zV : Vc := List.replicate 16 0
def okN (x : Int) : Prop := 0 ≤ x ∧ x ≤ 1099511627776
instance (x : Int) : Decidable (okN x) := inferInstanceAs (Decidable (_ ∧ _))
def joinV (a b : Vc) : Vc := List.zipWith max a b
def hasV (v : Vc) (d : Dt) : Bool := decide (chkD d = 0) && decide (d.2 ≤ v.getD d.1.toNat 0)

theorem joinV_len {a b : Vc} {n : Nat} (ha : a.length = n) (hb : b.length = n) : (joinV a b).length = n := by simp [joinV, ha, hb]
theorem vec_ext {a b : Vc} {n : Nat} (ha : a.length = n) (hb : b.length = n) (h : ∀ i, i < n → a.getD i 0 = b.getD i 0) : a = b := by
  apply List.ext_getElem (by omega)
  intro i h1 h2
  have := h i (by omega)
  rwa [List.getD_eq_getElem?_getD, List.getElem?_eq_getElem h1, List.getD_eq_getElem?_getD, List.getElem?_eq_getElem h2] at this
theorem joinV_get {a b : Vc} {n i : Nat} (ha : a.length = n) (hb : b.length = n) (hi : i < n) : (joinV a b).getD i 0 = max (a.getD i 0) (b.getD i 0) := by
  simp only [joinV, List.getD_eq_getElem?_getD, List.getElem?_zipWith, List.getElem?_eq_getElem (show i < a.length by omega), List.getElem?_eq_getElem (show i < b.length by omega)]
  rfl
/-! the document's Compare -/
/-- the greater ones of the first k places -/
def mixJ (a b : Vc) (k : Nat) : Vc := joinV (a.take k) (b.take k) ++ a.drop k
theorem mixJ_zero (a b : Vc) : mixJ a b 0 = a := by simp [mixJ, joinV]
theorem mixJ_len {a b : Vc} {n : Nat} (ha : a.length = n) (hb : b.length = n) (k : Nat) : (mixJ a b k).length = n := by simp [mixJ, joinV, ha, hb]; omega
theorem mixJ_all {a b : Vc} {n : Nat} (ha : a.length = n) (hb : b.length = n) : mixJ a b n = joinV a b := by
  unfold mixJ
  rw [List.take_of_length_le (by omega), List.take_of_length_le (by omega), List.drop_of_length_le (by omega), List.append_nil]
theorem mix_at {f : Int → Int → Int} {a b : Vc} {n k : Nat} (ha : a.length = n) (hb : b.length = n) (hk : k < n) : (List.zipWith f (a.take k) (b.take k) ++ a.drop k).getD k 0 = a.getD k 0 := by
  have h1 : (List.zipWith f (a.take k) (b.take k)).length = k := by simp; omega
  rw [List.getD_eq_getElem?_getD, List.getD_eq_getElem?_getD, List.getElem?_append_right (by omega), h1, Nat.sub_self, List.getElem?_drop, Nat.add_zero]
theorem mix_succ {f : Int → Int → Int} {a b : Vc} {n k : Nat} (ha : a.length = n) (hb : b.length = n) (hk : k < n) :
    List.zipWith f (a.take (k + 1)) (b.take (k + 1)) ++ a.drop (k + 1) = (List.zipWith f (a.take k) (b.take k) ++ a.drop k).set k (f (a.getD k 0) (b.getD k 0)) := by
  have h1 : (List.zipWith f (a.take k) (b.take k)).length = k := by simp; omega
  rw [List.set_append_right _ _ (by omega), h1, Nat.sub_self, List.drop_eq_getElem_cons (show k < a.length by omega), List.set_cons_zero,
    List.take_succ_eq_append_getElem (show k < a.length by omega), List.take_succ_eq_append_getElem (show k < b.length by omega), List.zipWith_append (by simp; omega)]
  simp [List.getD_eq_getElem?_getD, List.getElem?_eq_getElem (show k < a.length by omega), List.getElem?_eq_getElem (show k < b.length by omega)]
theorem mixJ_at {a b : Vc} {n k : Nat} (ha : a.length = n) (hb : b.length = n) (hk : k < n) : (mixJ a b k).getD k 0 = a.getD k 0 := mix_at ha hb hk
theorem mixJ_succ {a b : Vc} {n k : Nat} (ha : a.length = n) (hb : b.length = n) (hk : k < n) : mixJ a b (k + 1) = (mixJ a b k).set k (max (a.getD k 0) (b.getD k 0)) := mix_succ ha hb hk
/-! bytes -/
end Go.Proofs.YtmnblpjdiplioaaGreat

namespace Go.Proofs.YtmnblpjdiplioaaGreat
set_option linter.unusedSimpArgs false
set_option linter.unusedVariables false

structure Cx where
  v : Vc
  l : List Dt
deriving DecidableEq

def zC : Cx := ⟨zV, []⟩
def hasC (c : Cx) (d : Dt) : Bool := decide (chkD d = 0) && (decide (d.2 ≤ c.v.getD d.1.toNat 0) || decide (d ∈ c.l))
theorem hasC_iff {c : Cx} {d : Dt} : hasC c d = true ↔ chkD d = 0 ∧ (d.2 ≤ c.v.getD d.1.toNat 0 ∨ d ∈ c.l) := by simp [hasC]
theorem hasC_no {c : Cx} {d : Dt} : hasC c d = false ↔ ¬ (chkD d = 0 ∧ (d.2 ≤ c.v.getD d.1.toNat 0 ∨ d ∈ c.l)) := by
  rw [← hasC_iff]; simp
theorem hasC_or (c : Cx) (d : Dt) : hasC c d = (hasV c.v d || (decide (chkD d = 0) && decide (d ∈ c.l))) := by
  unfold hasC hasV
  cases decide (chkD d = 0) <;> simp
theorem chkD_dot {i : Nat} {n : Int} (hi : i < 16) (h1 : 1 ≤ n) (h2 : n ≤ 1099511627776) : chkD ((i : Int), n) = 0 := by
  unfold chkD
  rw [if_neg]
  simp only
  omega

structure IsClean (c : Cx) : Prop where
  len : c.v.length = 16
  ok : ∀ i, i < 16 → okN (c.v.getD i 0)
  top : ∀ i : Nat, i < 16 → hasC c ((i : Int), c.v.getD i 0 + 1) = false
  rise : Rise c.l
  out : ∀ d ∈ c.l, chkD d = 0 ∧ c.v.getD d.1.toNat 0 < d.2

theorem IsClean.below {c : Cx} (h : IsClean c) {i : Nat} (hi : i < 16) {n : Int} (h1 : 1 ≤ n) (h2 : n ≤ c.v.getD i 0) : hasC c ((i : Int), n) = true := by
  have h3 := h.ok i hi
  unfold okN at h3
  rw [hasC_iff]
  refine ⟨chkD_dot hi h1 (by omega), .inl ?_⟩
  simp only [Int.toNat_natCast]
  exact h2
theorem clean_le {a b : Cx} (ha : IsClean a) (hb : IsClean b) (h : ∀ d, hasC b d = true → hasC a d = true) (i : Nat) (hi : i < 16) : b.v.getD i 0 ≤ a.v.getD i 0 := by
  refine Int.not_lt.1 fun hlt => ?_
  have h1 := ha.ok i hi
  unfold okN at h1
  have h2 := h _ (hb.below hi (n := a.v.getD i 0 + 1) (by omega) (by omega))
  rw [ha.top i hi] at h2
  cases h2
theorem clean_cloud {c : Cx} (h : IsClean c) (d : Dt) : d ∈ c.l ↔ hasC c d = true ∧ c.v.getD d.1.toNat 0 < d.2 := by
  rw [hasC_iff]
  constructor
  · intro hd
    obtain ⟨h1, h2⟩ := h.out d hd
    exact ⟨⟨h1, .inr hd⟩, h2⟩
  · rintro ⟨⟨-, h1 | h1⟩, h2⟩
    · omega
    · exact h1
theorem clean_same {a b : Cx} (ha : IsClean a) (hb : IsClean b) (h : ∀ d, hasC a d = hasC b d) : a = b := by
  have hv : a.v = b.v := vec_ext ha.len hb.len fun i hi => Int.le_antisymm (clean_le hb ha (fun d hd => by rw [← h d]; exact hd) i hi) (clean_le ha hb (fun d hd => by rw [h d]; exact hd) i hi)
  have hl : a.l = b.l := rise_same ha.rise hb.rise fun d => by rw [clean_cloud ha, clean_cloud hb, h d, hv]
  obtain ⟨av, al⟩ := a
  obtain ⟨bv, bl⟩ := b
  simp only at hv hl
  rw [hv, hl]

/-! what is made of contexts -/
structure CleanOf (c o : Cx) : Prop where
  clean : IsClean o
  has : ∀ d, hasC o d = hasC c d
structure AddOf (c : Cx) (m : List Dt) (o : Cx) : Prop where
  clean : IsClean o
  has : ∀ d, hasC o d = (hasC c d || (decide (chkD d = 0) && decide (d ∈ m)))
structure JoinOf (a b o : Cx) : Prop where
  clean : IsClean o
  has : ∀ d, hasC o d = (hasC a d || hasC b d)
theorem CleanOf.same {c o p : Cx} (h : CleanOf c o) (k : CleanOf c p) : o = p := clean_same h.clean k.clean fun d => by rw [h.has, k.has]
theorem AddOf.same {c o p : Cx} {m : List Dt} (h : AddOf c m o) (k : AddOf c m p) : o = p := clean_same h.clean k.clean fun d => by rw [h.has, k.has]
theorem JoinOf.same {a b o p : Cx} (h : JoinOf a b o) (k : JoinOf a b p) : o = p := clean_same h.clean k.clean fun d => by rw [h.has, k.has]
/-- the dots that are added, as a cloud that is longer -/
theorem addOf_cloud {c o : Cx} {m : List Dt} (h : CleanOf ⟨c.v, c.l ++ m⟩ o) : AddOf c m o := ⟨h.clean, fun d => by
  rw [h.has]
  unfold hasC
  simp only [List.mem_append]
  cases decide (chkD d = 0) <;> by_cases h1 : d ∈ c.l <;> by_cases h2 : d ∈ m <;> by_cases h3 : d.2 ≤ c.v.getD d.1.toNat 0 <;> simp [h1, h2, h3]⟩
theorem hasV_join {a b : Vc} (ha : a.length = 16) (hb : b.length = 16) (d : Dt) : hasV (joinV a b) d = (hasV a d || hasV b d) := by
  unfold hasV
  by_cases h : chkD d = 0
  · have := chkD_ok h
    rw [joinV_get ha hb (i := d.1.toNat) (by omega)]
    generalize a.getD d.1.toNat 0 = x
    generalize b.getD d.1.toNat 0 = y
    by_cases h1 : d.2 ≤ x <;> by_cases h2 : d.2 ≤ y <;> simp [h, h1, h2] <;> omega
  · simp [h]
theorem joinOf_add {a b o : Cx} (ha : a.v.length = 16) (hb : b.v.length = 16) (h : AddOf ⟨joinV a.v b.v, a.l⟩ b.l o) : JoinOf a b o := ⟨h.clean, fun d => by
  rw [h.has, hasC_or, hasC_or a, hasC_or b]
  simp only
  rw [hasV_join ha hb]
  cases hasV a.v d <;> cases hasV b.v d <;> cases decide (chkD d = 0) <;> cases decide (d ∈ a.l) <;> cases decide (d ∈ b.l) <;> rfl⟩
theorem joinOf_clean {a b a' b' o : Cx} (ha : CleanOf a a') (hb : CleanOf b b') (h : JoinOf a' b' o) : JoinOf a b o := ⟨h.clean, fun d => by rw [h.has, ha.has, hb.has]⟩

/-! what lacks -/
open Classical in
open Classical in
theorem IsClean.list {c : Cx} (h : IsClean c) : chkL c.l = 0 := chkL_good (fun d hd => (h.out d hd).1) h.rise

/-! bytes -/
end Go.Proofs.YtmnblpjdiplioaaGreat

namespace Go.Proofs.YtmnblpjdiplioaaGreat
set_option linter.unusedSimpArgs false
set_option linter.unusedVariables false

/-- the facts that both have, and those of each whose dots the other has not -/
def keptK (a : List Ft) (ac : Cx) (b : List Ft) (bc : Cx) : List Ft := a.filter (fun f => decide (f ∈ b) || !hasC bc f.d) ++ b.filter (fun f => !hasC ac f.d)
def joinK (a : List Ft) (ac : Cx) (b : List Ft) (bc : Cx) : List Ft := sortF (keptK a ac b bc)
theorem mem_joinK {a b : List Ft} {ac bc : Cx} {f : Ft} : f ∈ joinK a ac b bc ↔ (f ∈ a ∧ (f ∈ b ∨ hasC bc f.d = false)) ∨ (f ∈ b ∧ hasC ac f.d = false) := by
  unfold joinK keptK
  rw [mem_sortF, List.mem_append, List.mem_filter, List.mem_filter]
  simp
theorem rise_joinK (a : List Ft) (ac : Cx) (b : List Ft) (bc : Cx) : RiseF (joinK a ac b bc) := riseF_sortF _
theorem joinK_len (a : List Ft) (ac : Cx) (b : List Ft) (bc : Cx) : (joinK a ac b bc).length ≤ a.length + b.length := by
  refine Nat.le_trans (sortF_len _) ?_
  unfold keptK
  rw [List.length_append]
  have h1 := List.length_filter_le (fun f => decide (f ∈ b) || !hasC bc f.d) a
  have h2 := List.length_filter_le (fun f : Ft => !hasC ac f.d) b
  omega

/-! deltas -/
/-- what a delta's context has -/
structure OfK (e : Dl) (o : Cx) : Prop where
  has : ∀ z, hasC o z = (decide (chkD z = 0) && decide (z = e.d ∨ z ∈ e.g))
theorem hasC_zC (z : Dt) : hasC zC z = false := by
  rw [hasC_no]
  rintro ⟨h, k | k⟩
  · have h1 := chkD_ok h
    have : zC.v.getD z.1.toNat 0 = 0 := by
      show zV.getD z.1.toNat 0 = 0
      unfold zV
      rw [List.getD_eq_getElem?_getD, List.getElem?_replicate]
      split <;> rfl
    omega
  · exact absurd k (by simp [zC])
theorem OfK.of {e : Dl} {o : Cx} (h : AddOf zC (e.g ++ [e.d]) o) : OfK e o := ⟨fun z => by
  rw [h.has, hasC_zC, Bool.false_or]
  congr 1
  rw [decide_eq_decide, List.mem_append, List.mem_singleton, or_comm]⟩

/-! 16.1's Check -/
end Go.Proofs.YtmnblpjdiplioaaGreat

namespace Go.Proofs.YtmnblpjdiplioaaGreat

def isNb (b : Nat) : Bool := decide (9218868437227405312 < b % 9223372036854775808)
def cln (b : Nat) : Nat := if isNb b then 9221120237041090561 else b
def turnK (c : Nat) : Nat := if c < 9223372036854775808 then c + 9223372036854775808 else 18446744073709551615 - c
def keyB (b : Nat) : Nat := turnK (cln b)
def ofB (k : Nat) : Nat := cln (if k < 9223372036854775808 then 18446744073709551615 - k else k - 9223372036854775808)

theorem cln_of {b : Nat} (h : isNb b = true) : cln b = 9221120237041090561 := by simp [cln, h]
theorem cln_no {b : Nat} (h : isNb b = false) : cln b = b := by simp [cln, h]
theorem cln_lt {b : Nat} (h : b < 18446744073709551616) : cln b < 18446744073709551616 := by
  cases hn : isNb b
  · rw [cln_no hn]; exact h
  · rw [cln_of hn]; omega
/-! how two numbers stand -/
/-- what a rung stands for, in the least units -/
def rungV (r : Nat) : Nat := if r < 4503599627370496 then r else (4503599627370496 + r % 4503599627370496) * 2 ^ (r / 4503599627370496 - 1)

def sgn (b : Nat) : Bool := b / 9223372036854775808 % 2 == 1

theorem read_cases (b : Nat) :
    (b % 9223372036854775808 < 9218868437227405312 ∧ ∃ (m e : Nat), Ieee.double.read b = .number (sgn b) m (-1074 + (e : Int)) ∧ m * 2 ^ e = rungV (b % 9223372036854775808)) ∨
    (b % 9223372036854775808 = 9218868437227405312 ∧ Ieee.double.read b = .infinity (sgn b)) ∨
    (isNb b = true ∧ ∃ s f, Ieee.double.read b = .nan s f) := by
  have h1 : Ieee.double.signWeight = 9223372036854775808 := by decide
  have h2 : Ieee.double.binade = 4503599627370496 := by decide
  have h3 : Ieee.double.infRung = 9218868437227405312 := by decide
  have h4 : Ieee.double.leastPlace = -1074 := by decide
  unfold Ieee.Format.read
  simp only [h1, h2, h3, h4]
  change (b % 9223372036854775808 < 9218868437227405312 ∧ _) ∨ _
  by_cases c1 : b % 9223372036854775808 < 4503599627370496
  · left
    refine ⟨by omega, b % 9223372036854775808, 0, ?_, ?_⟩
    · rw [if_pos c1]; rfl
    · unfold rungV; rw [if_pos c1]; simp
  · by_cases c2 : b % 9223372036854775808 < 9218868437227405312
    · left
      refine ⟨c2, 4503599627370496 + b % 9223372036854775808 % 4503599627370496, b % 9223372036854775808 / 4503599627370496 - 1, ?_, ?_⟩
      · rw [if_neg c1, if_pos c2]; rfl
      · unfold rungV; rw [if_neg c1]
    · by_cases c3 : b % 9223372036854775808 = 9218868437227405312
      · right; left
        refine ⟨c3, ?_⟩
        rw [if_neg c1, if_neg c2, if_pos c3]; rfl
      · right; right
        refine ⟨by unfold isNb; simp; omega, sgn b, b % 9223372036854775808 - 9218868437227405312, ?_⟩
        rw [if_neg c1, if_neg c2, if_neg c3]; rfl

theorem compare_self (x : Int) : compare x x = Ordering.eq := by simp [compare, compareOfLessAndEq]
theorem compareN_self (x : Nat) : compare x x = Ordering.eq := by simp [compare, compareOfLessAndEq]

theorem ord_self (b : Nat) : ((Ieee.double.order b b) == some Ordering.eq) = !isNb b := by
  unfold Ieee.Format.order
  rcases read_cases b with ⟨hb, m, e, hr, _⟩ | ⟨hb, hr⟩ | ⟨hb, s, f, hr⟩
  · rw [hr]
    have : isNb b = false := by unfold isNb; simp; omega
    rw [this]
    simp only [Ieee.Datum.order, compare_self]; rfl
  · rw [hr]
    have : isNb b = false := by unfold isNb; simp; omega
    rw [this]
    simp only [Ieee.Datum.order, compareN_self]; rfl
  · rw [hr, hb]; rfl

attribute [irreducible] isNb cln keyB ofB
end Go.Proofs.YtmnblpjdiplioaaGreat

namespace Go.Proofs.YtmnblpjdiplioaaGreat
open Go.RowKit

/-- the last k bytes of x, the highest first -/
def beL (x : Nat) : Nat → List UInt8
  | 0 => []
  | k + 1 => UInt8.ofNat (x / 2 ^ (8 * k)) :: beL x k
theorem beL_zero (x : Nat) : beL x 0 = [] := rfl
theorem beL_succ (x k : Nat) : beL x (k + 1) = UInt8.ofNat (x / 2 ^ (8 * k)) :: beL x k := rfl
theorem beL_len (x k : Nat) : (beL x k).length = k := by
  induction k with
  | zero => rfl
  | succ k ih => simp [beL, ih]
/-- the number of bytes, the highest first -/
def nrL (l : List UInt8) : Nat := l.foldl (fun n c => n * 256 + c.toNat) 0
theorem ofNat_mod256 (x : Nat) : UInt8.ofNat (x % 256) = UInt8.ofNat x := by
  apply UInt8.toNat_inj.1; simp

/-- what Put puts -/
def flPutB (b : Nat) : List UInt8 := beL (cln b) 8
def putS (b : Nat) : ByteArray := ⟨(flPutB b).toArray⟩
/-- what Read answers: the number's bits, the error's number -/
def rdB (l : List UInt8) : Nat := if l.length = 8 ∧ cln (nrL l) = nrL l then nrL l else 0
def rdN (l : List UInt8) : Int := if l.length < 8 then 4 else if l.length = 8 ∧ cln (nrL l) = nrL l then 0 else 5
theorem flPutB_len (b : Nat) : (flPutB b).length = 8 := beL_len _ _
theorem putS_size (b : Nat) : (putS b).size = 8 := by
  show (flPutB b).toArray.size = 8
  simp [flPutB_len]
/-- the row, its first k bytes laid -/
def putRowF (x k : Nat) : List UInt8 := (List.range 8).map fun i => if i < k then UInt8.ofNat (x / 2 ^ (8 * (7 - i))) else 0
theorem putRowF_len (x k : Nat) : (putRowF x k).length = 8 := by simp [putRowF]
theorem putRowF_zero (x : Nat) : putRowF x 0 = List.replicate 8 0 := by
  simp [putRowF, List.range, List.range.loop]
theorem putRowF_all (x : Nat) : putRowF x 8 = beL x 8 := by
  simp [putRowF, List.range, List.range.loop, beL]
theorem putRowF_set (x k : Nat) (_h : k < 8) : (putRowF x k).set k (UInt8.ofNat (x / 2 ^ (8 * (7 - k)))) = putRowF x (k + 1) := by
  apply List.ext_getElem (by simp [putRowF])
  intro i h1 h2
  rw [List.getElem_set]
  split
  · rename_i h; subst h; simp [putRowF]
  · rename_i h
    have : i < k ↔ i < k + 1 := by omega
    simp only [putRowF, List.getElem_map, List.getElem_range]
    simp [this]
attribute [irreducible] beL nrL flPutB rdB rdN putRowF
end Go.Proofs.YtmnblpjdiplioaaGreat
