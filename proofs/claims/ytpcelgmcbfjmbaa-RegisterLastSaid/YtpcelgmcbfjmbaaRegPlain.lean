/-
  Chapter 17 in plain words: one of some, and all (ahead of its code).
-/
import Derived.Test.YtpcelgmcbfjmbaaFactPlain
namespace Go.Proofs.Ytpcelgmcbfjmbaa
set_option linter.unusedSimpArgs false
set_option linter.unusedVariables false

/-- two lists of the same elements that rise weakly are one -/
theorem weak_same {α : Type} {lt : α → α → Bool} (h : TotO lt) : ∀ {a b : List α}, a.Perm b → a.Pairwise (fun x y => lt y x = false) → b.Pairwise (fun x y => lt y x = false) → a = b
  | [], b, hp, _, _ => (List.nil_perm.1 hp).symm
  | x :: a, b, hp, ha, hb => by
    cases b with
    | nil => exact absurd hp.length_eq (by simp)
    | cons y b =>
      have hx : x ∈ y :: b := hp.subset (by simp)
      have hy : y ∈ x :: a := hp.symm.subset (by simp)
      have e : x = y := by
        rw [List.pairwise_cons] at ha hb
        rcases List.mem_cons.1 hx with e | hx
        · exact e
        · rcases List.mem_cons.1 hy with e | hy
          · exact e.symm
          · have h1 := ha.1 y hy
            have h2 := hb.1 x hx
            rcases h.tri x y with k | k | k
            · rw [h2] at k; cases k
            · exact k
            · rw [h1] at k; cases k
      subst e
      rw [weak_same h (List.perm_cons x |>.1 hp) (List.pairwise_cons.1 ha).2 (List.pairwise_cons.1 hb).2]

/-- when a fact was made, by which name, and what it says -/
def keyR (f : Ft) : St × Dt × ByteArray := (f.s, f.d, f.v)
def ltK : St × Dt × ByteArray → St × Dt × ByteArray → Bool := lexL ltS (lexL ltD ltX)
theorem totR : TotO ltK := totS.lex (totD.lex totX)
def ltR (a b : Ft) : Bool := ltK (keyR a) (keyR b)
theorem ltR_if (a b : Ft) : ltR a b = if a.s ≠ b.s then ltS a.s b.s else if a.d ≠ b.d then ltD a.d b.d else ltX a.v b.v := rfl
theorem ltR_irr (a : Ft) : ltR a a = false := totR.irr _
theorem ltR_trans {a b c : Ft} (h1 : ltR a b = true) (h2 : ltR b c = true) : ltR a c = true := totR.trans h1 h2
theorem ltR_tri (a b : Ft) : ltR a b = true ∨ keyR a = keyR b ∨ ltR b a = true := totR.tri _ _
theorem ltR_asym {a b : Ft} (h : ltR a b = true) : ltR b a = false := by
  cases k : ltR b a with
  | false => rfl
  | true => have := ltR_trans h k; rw [ltR_irr] at this; cases this
/-- the facts by rising keys -/
def WeakR (l : List Ft) : Prop := l.Pairwise (fun a b => ltR b a = false)
/-- what chapter 17 lists: the facts in some order that rises -/
structure OrderR (l m : List Ft) : Prop where
  perm : m.Perm l
  weak : WeakR m
theorem OrderR.nil : OrderR [] [] := ⟨.refl _, .nil⟩
/-- a fact set behind all that are not later -/
theorem OrderR.put {l m : List Ft} (h : OrderR l m) (f : Ft) (k : Nat) (hk : k ≤ m.length) (h1 : ∀ x ∈ m.take k, ltR f x = false) (h2 : ∀ x ∈ m.drop k, ltR f x = true ∨ keyR f = keyR x) : OrderR (l ++ [f]) (m.take k ++ f :: m.drop k) := by
  constructor
  · refine (List.perm_middle).trans ?_
    rw [List.take_append_drop]
    exact (List.Perm.cons f h.perm).trans (List.perm_append_singleton f l).symm
  · have hw := h.weak
    unfold WeakR at hw ⊢
    rw [← List.take_append_drop k m, List.pairwise_append] at hw
    obtain ⟨ha, hb, hc⟩ := hw
    rw [List.pairwise_append, List.pairwise_cons]
    refine ⟨ha, ⟨fun x hx => ?_, hb⟩, fun a hin b hb2 => ?_⟩
    · rcases h2 x hx with k | k
      · exact ltR_asym k
      · show ltK _ _ = false
        rw [k]
        exact totR.irr _
    · rcases List.mem_cons.1 hb2 with rfl | hb2
      · exact h1 a hin
      · exact hc a hin b hb2
/-- among facts that rise, once one isn't later none ahead is -/
theorem WeakR.ahead {m : List Ft} (h : WeakR m) {f : Ft} {k : Nat} (hk : k < m.length) (hf : ltR f m[k] = false) : ∀ x ∈ m.take (k + 1), ltR f x = false := by
  intro x hx
  obtain ⟨j, hj, rfl⟩ := List.mem_iff_getElem.1 hx
  rw [List.length_take] at hj
  rw [List.getElem_take]
  by_cases e : j = k
  · subst e; exact hf
  · have hw := List.pairwise_iff_getElem.1 h j k (by omega) hk (by omega)
    cases q : ltR f m[j] with
    | false => rfl
    | true =>
      rcases ltR_tri m[j] m[k] with t | t | t
      · have := ltR_trans q t; rw [hf] at this; cases this
      · have : ltR f m[k] = true := by unfold ltR at q ⊢; rw [← t]; exact q
        rw [hf] at this; cases this
      · rw [hw] at t; cases t
theorem OrderR.keys {l k m n : List Ft} (hl : l.Perm k) (h : OrderR l m) (h2 : OrderR k n) : m.map keyR = n.map keyR := by
  refine weak_same totR (((h.perm.trans hl).trans h2.perm.symm).map _) ?_ ?_
  · rw [List.pairwise_map]; exact h.weak
  · rw [List.pairwise_map]; exact h2.weak
/-- their values do not hang on the order in which they stood -/
theorem OrderR.vals {l k m n : List Ft} (hl : l.Perm k) (h : OrderR l m) (h2 : OrderR k n) : m.map (·.v) = n.map (·.v) := by
  have := congrArg (List.map (fun x => x.2.2)) (h.keys hl h2)
  rw [List.map_map, List.map_map] at this
  exact this
/-- values, each once, rising -/
def RiseX (l : List ByteArray) : Prop := l.Pairwise (fun a b => ltX a b = true)
theorem riseX_same {a b : List ByteArray} (ha : RiseX a) (hb : RiseX b) (h : ∀ x, x ∈ a ↔ x ∈ b) : a = b := by
  have nd : ∀ {c : List ByteArray}, RiseX c → c.Nodup := fun hc => List.Pairwise.imp (fun {x y} k e => by subst e; rw [totX.irr] at k; cases k) hc
  have wk : ∀ {c : List ByteArray}, RiseX c → c.Pairwise (fun x y => ltX y x = false) := fun hc => List.Pairwise.imp (fun {x y} k => by
    cases q : ltX y x with
    | false => rfl
    | true => have := totX.trans k q; rw [totX.irr] at this; cases this) hc
  refine weak_same totX ?_ (wk ha) (wk hb)
  exact (List.perm_ext_iff_of_nodup (nd ha) (nd hb)).2 h
structure ElemsR (l : List Ft) (out : List ByteArray) : Prop where
  rise : RiseX out
  mem : ∀ x, x ∈ out ↔ ∃ f ∈ l, f.v = x
theorem ElemsR.same {l k : List Ft} {a b : List ByteArray} (hl : ∀ f, f ∈ l ↔ f ∈ k) (h : ElemsR l a) (h2 : ElemsR k b) : a = b :=
  riseX_same h.rise h2.rise fun x => by
    rw [h.mem, h2.mem]
    constructor
    · rintro ⟨f, hf, e⟩; exact ⟨f, (hl f).1 hf, e⟩
    · rintro ⟨f, hf, e⟩; exact ⟨f, (hl f).2 hf, e⟩
theorem ElemsR.nil : ElemsR [] [] := ⟨.nil, fun x => by simp⟩
theorem ElemsR.skip {l : List Ft} {out : List ByteArray} (h : ElemsR l out) {f : Ft} (hf : f.v ∈ out) : ElemsR (l ++ [f]) out :=
  ⟨h.rise, fun x => by
    rw [h.mem]
    constructor
    · rintro ⟨g, hg, e⟩; exact ⟨g, List.mem_append_left _ hg, e⟩
    · rintro ⟨g, hg, e⟩
      rcases List.mem_append.1 hg with hg | hg
      · exact ⟨g, hg, e⟩
      · obtain rfl := List.mem_singleton.1 hg
        subst e
        exact (h.mem _).1 hf⟩
theorem ElemsR.put {l : List Ft} {out : List ByteArray} (h : ElemsR l out) (f : Ft) (k : Nat) (h1 : ∀ x ∈ out.take k, ltX x f.v = true) (h2 : ∀ x ∈ out.drop k, ltX f.v x = true) : ElemsR (l ++ [f]) (out.take k ++ f.v :: out.drop k) := by
  constructor
  · have hw := h.rise
    unfold RiseX at hw ⊢
    rw [← List.take_append_drop k out, List.pairwise_append] at hw
    obtain ⟨ha, hb, hc⟩ := hw
    rw [List.pairwise_append, List.pairwise_cons]
    refine ⟨ha, ⟨h2, hb⟩, fun a hin b hb2 => ?_⟩
    rcases List.mem_cons.1 hb2 with rfl | hb2
    · exact h1 a hin
    · exact hc a hin b hb2
  · intro x
    rw [List.mem_append, List.mem_cons]
    have hm : x ∈ out ↔ x ∈ out.take k ∨ x ∈ out.drop k := by rw [← List.mem_append, List.take_append_drop]
    constructor
    · rintro (hx | rfl | hx)
      · obtain ⟨g, hg, e⟩ := (h.mem x).1 (hm.2 (.inl hx)); exact ⟨g, List.mem_append_left _ hg, e⟩
      · exact ⟨f, by simp, rfl⟩
      · obtain ⟨g, hg, e⟩ := (h.mem x).1 (hm.2 (.inr hx)); exact ⟨g, List.mem_append_left _ hg, e⟩
    · rintro ⟨g, hg, e⟩
      rcases List.mem_append.1 hg with hg | hg
      · rcases hm.1 ((h.mem x).2 ⟨g, hg, e⟩) with k | k
        · exact .inl k
        · exact .inr (.inr k)
      · obtain rfl := List.mem_singleton.1 hg
        exact .inr (.inl e.symm)
/-- the facts of a kind and a name -/
def ofR (k : Int) (n : ByteArray) (l : List Ft) : List Ft := l.filter (fun f => (decide (k = 0) || decide (f.k = k)) && decide (f.n = n))
/-- the latest value: the last of those that rise -/
def lastR (m : List Ft) : ByteArray × Bool := match m.getLast? with
  | none => (⟨#[]⟩, false)
  | some f => (f.v, true)
theorem lastR_vals (m : List Ft) : lastR m = match (m.map (·.v)).getLast? with
    | none => (⟨#[]⟩, false)
    | some v => (v, true) := by
  unfold lastR
  rw [List.getLast?_map]
  cases m.getLast? <;> rfl
theorem OrderR.last {l k m n : List Ft} (hl : l.Perm k) (h : OrderR l m) (h2 : OrderR k n) : lastR m = lastR n := by rw [lastR_vals, lastR_vals, h.vals hl h2]
end Go.Proofs.Ytpcelgmcbfjmbaa
