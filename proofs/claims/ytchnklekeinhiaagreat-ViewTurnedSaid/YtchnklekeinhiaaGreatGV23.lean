/-
  Chapter 20 in plain words: facts parted by kinds, and by names that rise; a backup hangs on which facts there are alone.
  Facts that lie from a block on.
-/
import Derived.Test.YtchnklekeinhiaaGreatGV18
import Derived.Test.YtchnklekeinhiaaGreatGV22
import Derived.Test.YtchnklekeinhiaaGreatGV11
namespace Go.Proofs.YtchnklekeinhiaaGreat
set_option linter.unusedSimpArgs false
set_option linter.unusedVariables false

/-- the facts of a kind -/
def kindR (k : Int) (l : List Ft) : List Ft := l.filter (fun f => decide (f.k = k))
theorem mem_kindR {k : Int} {l : List Ft} {f : Ft} : f ∈ kindR k l ↔ f ∈ l ∧ f.k = k := by unfold kindR; rw [List.mem_filter, decide_eq_true_eq]
theorem kindR_len (k : Int) (l : List Ft) : (kindR k l).length ≤ l.length := List.length_filter_le _ _
theorem kindR_snoc (k : Int) (l : List Ft) (f : Ft) : kindR k (l ++ [f]) = kindR k l ++ if f.k = k then [f] else [] := by
  unfold kindR
  rw [List.filter_append]
  congr 1
  by_cases h : f.k = k <;> simp [h]
theorem kindR_of (k : Int) (hk : k ≠ 0) (n : ByteArray) (l : List Ft) : kindR k (ofR 0 n l) = ofR k n l := by
  unfold kindR ofR
  rw [List.filter_filter]
  refine List.filter_congr fun f _ => ?_
  simp [hk]
theorem namesS_kind (l : List Ft) : (kindR 1 l).map (·.n) = namesS l := rfl
theorem mem_ofR' {k : Int} (hk : k ≠ 0) {n : ByteArray} {l : List Ft} {f : Ft} : f ∈ ofR k n l ↔ f ∈ l ∧ f.k = k ∧ f.n = n := by
  rw [mem_ofR]
  constructor
  · rintro ⟨h1, h2 | h2, h3⟩
    · exact absurd h2 hk
    · exact ⟨h1, h2, h3⟩
  · rintro ⟨h1, h2, h3⟩; exact ⟨h1, .inr h2, h3⟩
/-- there is an order that rises -/
theorem orderR_some (l : List Ft) : ∃ s, OrderR l s := by
  refine ⟨l.mergeSort (fun a b => !ltR b a), List.mergeSort_perm _ _, ?_⟩
  have h := List.pairwise_mergeSort (le := fun a b : Ft => !ltR b a) (fun a b c h1 h2 => by
    simp only [Bool.not_eq_true'] at *
    cases q : ltR c a with
    | false => rfl
    | true =>
      rcases ltR_tri a b with k | k | k
      · have := ltR_trans q k; rw [h2] at this; cases this
      · unfold ltR at h2 q; rw [← k, q] at h2; cases h2
      · rw [h1] at k; cases k) (fun a b => by
    simp only [Bool.or_eq_true, Bool.not_eq_true']
    cases q : ltR b a with
    | false => exact .inl rfl
    | true => exact .inr (ltR_asym q)) l
  exact h.imp fun {a b} k => by simpa using k
theorem LastAns.lastV {l : List Ft} {v : ByteArray} {b : Bool} (h : LastAns l (v, b)) : LastV l v := by
  obtain ⟨s, hs⟩ := orderR_some l
  exact ⟨s, hs, by rw [h.order hs]⟩
/-- the last of some facts that rise is no earlier than any -/
theorem lastV_top {l : List Ft} {v : ByteArray} (h : LastV l v) : (l = [] ∧ v = ⟨#[]⟩) ∨ ∃ m, m ∈ l ∧ m.v = v ∧ ∀ y ∈ l, ltR m y = false := by
  obtain ⟨s, hs, rfl⟩ := h
  unfold lastR
  cases hl : s.getLast? with
  | none =>
    have : s = [] := List.getLast?_eq_none_iff.1 hl
    subst this
    exact .inl ⟨(List.nil_perm.1 hs.perm), rfl⟩
  | some m =>
    right
    obtain ⟨t, rfl⟩ := List.getLast?_eq_some_iff.1 hl
    refine ⟨m, hs.perm.mem_iff.1 (by simp), rfl, fun y hy => ?_⟩
    have hy2 := hs.perm.mem_iff.2 hy
    have hw := hs.weak
    unfold WeakR at hw
    rw [List.pairwise_append] at hw
    rcases List.mem_append.1 hy2 with h1 | h1
    · exact hw.2.2 y h1 m (by simp)
    · obtain rfl := List.mem_singleton.1 h1
      exact ltR_irr _
theorem LastV.set {l k : List Ft} {v : ByteArray} (hm : ∀ f, f ∈ l ↔ f ∈ k) (h : LastV l v) : LastV k v := by
  obtain ⟨t, ht⟩ := orderR_some k
  refine ⟨t, ht, ?_⟩
  have h2 : LastV k (lastR t).1 := ⟨t, ht, rfl⟩
  rcases lastV_top h with ⟨rfl, rfl⟩ | ⟨m, m1, m2, m3⟩
  · rcases lastV_top h2 with ⟨rfl, e⟩ | ⟨n, n1, -⟩
    · exact e
    · exact absurd ((hm n).2 n1) (by simp)
  · rcases lastV_top h2 with ⟨rfl, e⟩ | ⟨n, n1, n2, n3⟩
    · exact absurd ((hm m).1 m1) (by simp)
    · have k1 := m3 n ((hm n).2 n1)
      have k2 := n3 m ((hm m).1 m1)
      rw [← n2, ← m2]
      rcases ltR_tri m n with q | q | q
      · rw [k1] at q; cases q
      · have := congrArg (fun p => p.2.2) q
        simp only [keyR] at this
        exact this.symm
      · rw [k2] at q; cases q
theorem ElemsR.set {l k : List Ft} {a : List ByteArray} (hm : ∀ f, f ∈ l ↔ f ∈ k) (h : ElemsR l a) : ElemsR k a :=
  ⟨h.rise, fun x => by
    rw [h.mem]
    constructor
    · rintro ⟨f, hf, e⟩; exact ⟨f, (hm f).1 hf, e⟩
    · rintro ⟨f, hf, e⟩; exact ⟨f, (hm f).2 hf, e⟩⟩
/-- a backup hangs on which facts of its name there are -/
theorem EntR.set {l k : List Ft} {n : ByteArray} {e : Ent} (hm : ∀ i, i ≠ 0 → ∀ f, f ∈ ofR i n l ↔ f ∈ ofR i n k) (h : EntR l n e) : EntR k n e := by
  obtain ⟨h1, ⟨v, hv, hv2⟩, h3, h4, ⟨el, he, he2⟩, h6⟩ := h
  refine ⟨h1, ⟨v, hv.set (hm 1 (by decide)), hv2⟩, h3.set (hm 2 (by decide)), h4.set (hm 3 (by decide)), ⟨el, he.set (hm 4 (by decide)), he2⟩, ?_⟩
  rw [h6]
  refine rise_same (rise_sortD _) (rise_sortD _) fun z => ?_
  rw [mem_sortD, mem_sortD, List.mem_map, List.mem_map]
  constructor
  · rintro ⟨f, hf, e⟩; exact ⟨f, (hm 1 (by decide) f).1 hf, e⟩
  · rintro ⟨f, hf, e⟩; exact ⟨f, (hm 1 (by decide) f).2 hf, e⟩
theorem nil_set {l k : List Ft} (hm : ∀ f, f ∈ l ↔ f ∈ k) : l = [] ↔ k = [] := by
  constructor
  · rintro rfl; exact List.eq_nil_iff_forall_not_mem.2 fun f hf => absurd ((hm f).2 hf) (by simp)
  · rintro rfl; exact List.eq_nil_iff_forall_not_mem.2 fun f hf => absurd ((hm f).1 hf) (by simp)
theorem EntA.set {l k : List Ft} {n : ByteArray} {e : Ent} (hm : ∀ i, i ≠ 0 → ∀ f, f ∈ ofR i n l ↔ f ∈ ofR i n k) (h : EntA l n e) : EntA k n e := by
  have h0 := nil_set (hm 1 (by decide))
  rcases h with ⟨h1, rfl⟩ | ⟨h1, h2⟩
  · exact .inl ⟨h0.1 h1, rfl⟩
  · exact .inr ⟨fun e => h1 (h0.2 e), h2.set hm⟩
theorem ofR_set {l k : List Ft} (hm : ∀ f, f ∈ l ↔ f ∈ k) (n : ByteArray) : ∀ i, i ≠ 0 → ∀ f, f ∈ ofR i n l ↔ f ∈ ofR i n k := fun i hi f => by rw [mem_ofR' hi, mem_ofR' hi, hm]

/-! sorted facts, name by name -/
theorem ltF_name {a b : Ft} (h : ltF a b = true) : ltX a.n b.n = true ∨ a.n = b.n := by
  rw [ltF_if] at h
  by_cases e : a.n = b.n
  · exact .inr e
  · rw [if_pos e] at h; exact .inl h
/-- all ahead of p are of lesser names -/
def Parted (s : List Ft) (p : Nat) : Prop := ∀ x ∈ s.take p, ∀ y ∈ s.drop p, ltX x.n y.n = true
theorem parted_zero (s : List Ft) : Parted s 0 := fun x hx => by simp at hx
/-- n facts from p on are of one name, and the next one is not -/
structure Group (s : List Ft) (p n : Nat) (nm : ByteArray) : Prop where
  all : ∀ x ∈ (s.drop p).take n, x.n = nm
  pos : 0 < n
  le : p + n ≤ s.length
  next : ∀ y, s[p + n]? = some y → y.n ≠ nm
theorem Group.after {s : List Ft} {p n : Nat} {nm : ByteArray} (h : Group s p n nm) (hs : RiseF s) : ∀ y ∈ s.drop (p + n), ltX nm y.n = true := by
  intro y hy
  obtain ⟨j, hj, rfl⟩ := List.mem_iff_getElem.1 hy
  rw [List.length_drop] at hj
  rw [List.getElem_drop]
  have hlt : p + n < s.length := by omega
  have hn := h.next _ (List.getElem?_eq_getElem hlt)
  have hpos := h.pos
  have hin : s[p + n - 1] ∈ (s.drop p).take n := by
    refine List.mem_iff_getElem.2 ⟨n - 1, by rw [List.length_take, List.length_drop]; omega, ?_⟩
    rw [List.getElem_take, List.getElem_drop]
    congr 1
    omega
  have hq := h.all _ hin
  have hr := List.pairwise_iff_getElem.1 hs
  have h1 := ltF_name (hr (p + n - 1) (p + n) (by omega) hlt (by omega))
  rw [hq] at h1
  have h2 : ltX nm s[p + n].n = true := by
    rcases h1 with h1 | h1
    · exact h1
    · exact absurd h1.symm hn
  by_cases hj0 : j = 0
  · subst hj0; exact h2
  · rcases ltF_name (hr (p + n) (p + n + j) hlt (by omega) (by omega)) with h3 | h3
    · exact totX.trans h2 h3
    · rw [← h3]; exact h2
theorem Group.parted {s : List Ft} {p n : Nat} {nm : ByteArray} (h : Group s p n nm) (hs : RiseF s) (hp : Parted s p) : Parted s (p + n) := by
  intro x hx y hy
  have h1 := h.after hs y hy
  rw [List.take_add] at hx
  rcases List.mem_append.1 hx with hx | hx
  · have hy2 : y ∈ s.drop p := by
      rw [show s.drop (p + n) = (s.drop p).drop n by rw [List.drop_drop]] at hy
      exact List.mem_of_mem_drop hy
    exact hp x hx y hy2
  · rw [h.all x hx]; exact h1
theorem Group.of {s : List Ft} {p n : Nat} {nm : ByteArray} (h : Group s p n nm) (hs : RiseF s) (hp : Parted s p) : ∀ i, i ≠ 0 → ∀ f, f ∈ ofR i nm ((s.drop p).take n) ↔ f ∈ ofR i nm s := by
  intro i hi f
  rw [mem_ofR' hi, mem_ofR' hi]
  have hmem : f ∈ s ↔ f ∈ s.take p ∨ f ∈ (s.drop p).take n ∨ f ∈ s.drop (p + n) := by
    conv => lhs; rw [← List.take_append_drop p s, ← List.take_append_drop n (s.drop p)]
    rw [List.mem_append, List.mem_append, List.drop_drop]
  have hpos := h.pos
  have hle := h.le
  constructor
  · rintro ⟨h1, h2, h3⟩; exact ⟨hmem.2 (.inr (.inl h1)), h2, h3⟩
  · rintro ⟨h1, h2, h3⟩
    refine ⟨?_, h2, h3⟩
    rcases hmem.1 h1 with h1 | h1 | h1
    · exfalso
      have h0 : s[p]'(by omega) ∈ s.drop p := List.mem_iff_getElem.2 ⟨0, by rw [List.length_drop]; omega, by rw [List.getElem_drop]; congr 1⟩
      have h4 := hp f h1 _ h0
      have h5 : s[p]'(by omega) ∈ (s.drop p).take n := List.mem_iff_getElem.2 ⟨0, by rw [List.length_take, List.length_drop]; omega, by rw [List.getElem_take, List.getElem_drop]; congr 1⟩
      rw [h.all _ h5, h3] at h4
      rw [totX.irr] at h4; cases h4
    · exact h1
    · exfalso
      have h4 := h.after hs f h1
      rw [h3, totX.irr] at h4; cases h4
/-- the backups told of the first p facts -/
structure AllS (s : List Ft) (p : Nat) (es : List Ent) : Prop where
  part : Parted s p
  has : ∃ names, SetX (namesS (s.take p)) names ∧ es.length = names.length ∧ ∀ (j : Nat) (nm : ByteArray) (e : Ent), names[j]? = some nm → es[j]? = some e → EntA s nm e
theorem AllS.start (s : List Ft) : AllS s 0 [] := ⟨parted_zero s, [], by simpa [namesS] using SetX.nil, rfl, fun j nm e h => by simp at h⟩
theorem AllS.skip {s : List Ft} {p n : Nat} {nm : ByteArray} {es : List Ent} (h : AllS s p es) (g : Group s p n nm) (hs : RiseF s) (h0 : ofR 1 nm ((s.drop p).take n) = []) : AllS s (p + n) es := by
  obtain ⟨hp, names, hn, hl, he⟩ := h
  refine ⟨g.parted hs hp, names, hn.of fun x => ?_, hl, he⟩
  rw [mem_namesS, mem_namesS, List.take_add]
  constructor
  · rintro ⟨f, h1, h2, h3⟩; exact ⟨f, List.mem_append_left _ h1, h2, h3⟩
  · rintro ⟨f, h1, h2, h3⟩
    rcases List.mem_append.1 h1 with h1 | h1
    · exact ⟨f, h1, h2, h3⟩
    · have : f ∈ ofR 1 nm ((s.drop p).take n) := (mem_ofR' (by decide)).2 ⟨h1, h2, g.all f h1⟩
      rw [h0] at this; simp at this
theorem AllS.more {s : List Ft} {p n : Nat} {nm : ByteArray} {es : List Ent} {e : Ent} (h : AllS s p es) (g : Group s p n nm) (hs : RiseF s) (h0 : ofR 1 nm ((s.drop p).take n) ≠ []) (hE : EntA ((s.drop p).take n) nm e) : AllS s (p + n) (es ++ [e]) := by
  obtain ⟨hp, names, hn, hl, he⟩ := h
  have hpos := g.pos
  have hle := g.le
  have hlt : ∀ x ∈ names, ltX x nm = true := fun x hx => by
    obtain ⟨f, h1, h2, h3⟩ := mem_namesS.1 ((hn.mem x).1 hx)
    have h5 : s[p]'(by omega) ∈ (s.drop p).take n := List.mem_iff_getElem.2 ⟨0, by rw [List.length_take, List.length_drop]; omega, by rw [List.getElem_take, List.getElem_drop]; congr 1⟩
    have h6 : s[p]'(by omega) ∈ s.drop p := List.mem_of_mem_take h5
    have h4 := hp f h1 _ h6
    rw [g.all _ h5, h3] at h4
    exact h4
  refine ⟨g.parted hs hp, names ++ [nm], ⟨?_, fun x => ?_⟩, by simp [hl], fun j m e2 h1 h2 => ?_⟩
  · unfold RiseX
    rw [List.pairwise_append]
    exact ⟨hn.rise, by simp, fun x hx y hy => by obtain rfl := List.mem_singleton.1 hy; exact hlt x hx⟩
  · rw [List.mem_append, List.mem_singleton, hn.mem, mem_namesS, mem_namesS, List.take_add]
    constructor
    · rintro (⟨f, h1, h2, h3⟩ | rfl)
      · exact ⟨f, List.mem_append_left _ h1, h2, h3⟩
      · obtain ⟨f, hf⟩ := List.exists_mem_of_ne_nil _ h0
        obtain ⟨h1, h2, h3⟩ := (mem_ofR' (by decide)).1 hf
        exact ⟨f, List.mem_append_right _ h1, h2, h3⟩
    · rintro ⟨f, h1, h2, h3⟩
      rcases List.mem_append.1 h1 with h1 | h1
      · exact .inl ⟨f, h1, h2, h3⟩
      · exact .inr (by rw [← h3, g.all f h1])
  · rw [List.getElem?_append] at h1 h2
    by_cases hj : j < names.length
    · rw [if_pos hj] at h1
      rw [if_pos (by omega)] at h2
      exact he j m e2 h1 h2
    · rw [if_neg hj] at h1
      rw [if_neg (by omega)] at h2
      have hj0 : j - names.length = 0 := by
        have := (List.getElem?_eq_some_iff.1 h1).1
        simp at this; omega
      rw [hl] at h2
      rw [hj0] at h1 h2
      simp at h1 h2
      subst h1 h2
      exact hE.set (g.of hs hp)
end Go.Proofs.YtchnklekeinhiaaGreat

namespace Go.Proofs.YtchnklekeinhiaaGreat
set_option maxRecDepth 100000
open Go.RowKit Go.Sort

/-- facts that are new -/
def FFrom (w : World) (lo : Nat) (a : Option Addr) (l : List Ft) : Prop :=
  l = [] ∨ ∃ b off, a = some ⟨b, off, none⟩ ∧ lo ≤ b ∧ b < w.heap.size ∧ ∀ j f, l[j]? = some f → w.rangeAt b (off + j * 8) (fcs f)
theorem FFrom.fin {w : World} {lo : Nat} {a : Option Addr} {l : List Ft} (h : FFrom w lo a l) : FIn w a l := by
  rcases h with h | ⟨b, off, e, -, h1, h2⟩
  · exact .inl h
  · exact .inr ⟨b, off, e, h1, h2⟩
theorem FFrom.of {w : World} {lo g o : Nat} {l : List Ft} (h : FIn w (some ⟨g, o, none⟩) l) (hg : lo ≤ g) : FFrom w lo (some ⟨g, o, none⟩) l := by
  rcases h with h | ⟨b, off, e, h1, h2⟩
  · exact .inl h
  · have e2 := Option.some.inj e
    injection e2 with e3 e4
    subst e3
    exact .inr ⟨_, off, e, hg, h1, h2⟩
theorem FFrom.below {w w' : World} {lo : Nat} {a : Option Addr} {l : List Ft} (h : FFrom w lo a l) (hb : Below w.heap.size w w') : FFrom w' lo a l := by
  rcases h with h | ⟨b, off, rfl, hlo, hlt, hc⟩
  · exact .inl h
  · exact .inr ⟨b, off, rfl, hlo, Nat.lt_of_lt_of_le hlt hb.size, fun j f hj => range_below (hc j f hj) hb hlt⟩
theorem FFrom.mono {w : World} {lo lo' : Nat} {a : Option Addr} {l : List Ft} (h : FFrom w lo a l) (hl : lo' ≤ lo) : FFrom w lo' a l := by
  rcases h with h | ⟨b, off, e, hlo, h⟩
  · exact .inl h
  · exact .inr ⟨b, off, e, Nat.le_trans hl hlo, h⟩
theorem FFrom.setRow {w : World} {lo : Nat} {a : Option Addr} {l : List Ft} (h : FFrom w lo a l) {g : Nat} (hg : g < lo) (C : Array Value) : FFrom (w.setRow g C) lo a l := by
  rcases h with h | ⟨b, off, rfl, hlo, hlt, hc⟩
  · exact .inl h
  · refine .inr ⟨b, off, rfl, hlo, by simpa using hlt, fun j f hj i v hv => ?_⟩
    have h1 := hc j f hj i v hv
    unfold World.cell? at h1 ⊢
    rw [setRow_other _ _ _ _ (show b ≠ g by omega)]
    exact h1
theorem OwnF.from {B : Nat} {v : Value} {l : List Ft} {w : World} (h : OwnF B v l w) : ∃ a cap, v = .slice a l.length cap ∧ FFrom w B a l ∧ l.length ≤ maxLen := by
  obtain ⟨a, cap, he, hf, hl⟩ := h.fin
  refine ⟨a, cap, he, ?_, hl⟩
  rcases h.2 with ⟨e, h0⟩ | ⟨g, c2, cur, e, hB, hg, _⟩
  · exact .inl (List.length_eq_zero_iff.1 h0)
  · rw [he] at e
    injection e with e1 e2 e3
    subst e1
    exact FFrom.of hf hB
end Go.Proofs.YtchnklekeinhiaaGreat
