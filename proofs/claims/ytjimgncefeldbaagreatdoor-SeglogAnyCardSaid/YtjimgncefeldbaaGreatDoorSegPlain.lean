/-
  Plain facts: what seglog's acts make of a disk that has no fuse.
-/
import Derived.Test.YtjimgncefeldbaaGreatDoorSegNames
import Derived.Test.YtjimgncefeldbaaGreatDoorGDiskF
import Derived.Test.YtjimgncefeldbaaGreatDoorGSer
namespace Go.Proofs.YtjimgncefeldbaaGreatDoor
open Go.Lib Go.RowKit

def eachS : DS → List ByteArray → Int × DS
  | s, [] => (0, s)
  | s, n :: t => if (dropS s n).1 = 0 then eachS (dropS s n).2 t else dropS s n

/-- neither off nor with a fuse -/
structure Calm (s : DS) : Prop where
  off : s.off = false
  fused : s.fused = false

theorem Calm.out {s : DS} (c : Calm s) : s.out = false := by unfold DS.out; rw [c.fused]; rfl
theorem Calm.pay {s : DS} (c : Calm s) : s.pay = s := by cases s; have := c.fused; simp only at this; subst this; simp [DS.pay]
theorem Calm.act {s : DS} (c : Calm s) (l : List FS) : actS s l = (0, { s with l := l }) := by unfold actS; rw [c.out, c.pay]; rfl

theorem cmp_ne {a b : ByteArray} (h : compareBytes a.data.toList b.data.toList ≠ 0) : a ≠ b := fun e => h (by rw [e]; exact (cmp_zero _ _).2 rfl)

theorem sdel_filter {l : List FS} (h : SRise l) {n : ByteArray} (ht : sthere l n = true) : sdel l (spos l n) = l.filter fun f => decide (f.name ≠ n) := by
  obtain ⟨f, hf, hn⟩ := sthere_at ht
  obtain ⟨hi, he⟩ := List.getElem?_eq_some_iff.1 hf
  have hb : ∀ a ∈ l.take (spos l n), decide (a.name ≠ n) = true := fun a ha => by
    obtain ⟨k, hk, rfl⟩ := List.mem_iff_getElem.1 ha
    have hk2 : k < spos l n := by simp at hk; omega
    have hkl : k < l.length := by simp at hk; omega
    have h1 := before_pos (n := n) hk2 (List.getElem?_eq_getElem hkl)
    rw [List.getElem_take]
    have : (l[k]).name ≠ n := fun e => by have := cmpS_self e; omega
    simpa using this
  have ha : ∀ a ∈ l.drop (spos l n + 1), decide (a.name ≠ n) = true := fun a ha => by
    obtain ⟨k, hk, rfl⟩ := List.mem_iff_getElem.1 ha
    have hkl : spos l n + 1 + k < l.length := by simp at hk; omega
    rw [List.getElem_drop]
    have h1 := rises_le h (show spos l n < spos l n + 1 + k by omega) hf (List.getElem?_eq_getElem hkl)
    have : (l[spos l n + 1 + k]).name ≠ n := fun e => by rw [e, hn, (cmp_zero _ _).2 rfl] at h1; omega
    simpa using this
  conv => rhs; rw [← List.take_append_drop (spos l n) l, List.drop_eq_getElem_cons hi, he, List.filter_append, List.filter_cons]
  rw [List.filter_eq_self.2 hb, List.filter_eq_self.2 ha, if_neg (by simp [hn])]
  rfl

def lessS (s : DS) (p : FS → Bool) : DS := { s with l := s.l.filter p }

theorem Calm.less {s : DS} (c : Calm s) (p : FS → Bool) : Calm (lessS s p) := ⟨c.off, c.fused⟩
theorem drop_calm {s : DS} (h : Fit s) (c : Calm s) (n : ByteArray) : dropS s n = (0, lessS s fun f => decide (f.name ≠ n)) ∧ Fit (lessS s fun f => decide (f.name ≠ n)) := by
  obtain ⟨k, hk, e⟩ : ∃ k : Int, (k = 7 ∨ k = 0) ∧ removeS s n = (k, lessS s fun f => decide (f.name ≠ n)) := by
    unfold removeS
    rw [if_neg (by rw [c.off]; simp)]
    cases ht : sthere s.l n
    · rw [if_pos (by simp)]
      have : lessS s (fun f => decide (f.name ≠ n)) = s := by
        unfold lessS
        rw [List.filter_eq_self.2 (fun f hf => by simpa using not_there h.rises ht f hf)]
      rw [this]
      exact ⟨7, .inl rfl, rfl⟩
    · rw [if_neg (by simp), c.act, sdel_filter h.rises ht]
      exact ⟨0, .inr rfl, rfl⟩
  have hf := fit_remove h n
  unfold dropS
  rw [e] at hf ⊢
  refine ⟨?_, hf⟩
  rcases hk with rfl | rfl
  · rw [if_pos rfl]
  · rw [if_neg (show ¬ ((0 : Int) = 7) by decide)]

/-- a file of none of these names -/
def noneOf (ns : List ByteArray) (f : FS) : Bool := ns.all fun n => decide (f.name ≠ n)

theorem each_calm : ∀ (ns : List ByteArray) {s : DS}, Fit s → Calm s → eachS s ns = (0, lessS s (noneOf ns)) ∧ Fit (lessS s (noneOf ns))
  | [], s, h, c => by
    have : lessS s (noneOf []) = s := by unfold lessS; rw [List.filter_eq_self.2 (fun f _ => by simp [noneOf])]
    rw [this]
    exact ⟨rfl, h⟩
  | n :: t, s, h, c => by
    obtain ⟨h1, h2⟩ := drop_calm h c n
    obtain ⟨h3, h4⟩ := each_calm t h2 (c.less _)
    have e : lessS (lessS s fun f => decide (f.name ≠ n)) (noneOf t) = lessS s (noneOf (n :: t)) := by
      unfold lessS
      simp only
      rw [List.filter_filter]
      congr 1
      apply List.filter_congr
      intro f _
      simp [noneOf, Bool.and_comm]
    rw [e] at h3 h4
    refine ⟨?_, h4⟩
    unfold eachS
    rw [h1, if_pos rfl, h3]

/-- every file's name is a generation's, of these -/
def Gens (M : Nat) (s : DS) : Prop := ∀ f ∈ s.l, ∃ g, 1 ≤ g ∧ g ≤ M ∧ f.name = genB g

theorem list_gens {M : Nat} {s : DS} (c : Calm s) (hg : Gens M s) (hM : M < 12) : listD s dashB = s.l.map (·.name) := by
  unfold listD
  rw [if_neg (by rw [c.off]; simp)]
  apply List.filter_eq_self.2
  intro n hn
  obtain ⟨f, hf, rfl⟩ := List.mem_map.1 hn
  obtain ⟨g, h1, h2, h3⟩ := hg f hf
  rw [h3]
  exact gen_pre ⟨g, by omega⟩

/-- is a file's first record whole? -/
def wholeS (s : DS) (n : ByteArray) : Bool := decide ((frd (readD s n).1).2.2 = 0)

theorem read_there {s : DS} (h : Fit s) (c : Calm s) {f : FS} (hf : f ∈ s.l) : readD s f.name = (⟨f.body.toArray⟩, 0) := by
  unfold readD
  rw [if_neg (by rw [c.off]; simp), (is_there h.rises hf).2]
  simp [cmpS_self (f := f) rfl]

theorem filter_one {l : List FS} (h : SRise l) {f : FS} (hf : f ∈ l) : (l.filter fun x => decide (x.name = f.name)) = [f] := by
  induction l with
  | nil => simp at hf
  | cons a l ih =>
    have h2 := List.pairwise_cons.1 h
    rcases List.mem_cons.1 hf with rfl | hf'
    · rw [List.filter_cons, if_pos (by simp)]
      congr 1
      apply List.filter_eq_nil_iff.2
      intro x hx
      have h3 := h2.1 x hx
      have : x.name ≠ f.name := fun e => by rw [e, (cmp_zero _ _).2 rfl] at h3; omega
      simpa using this
    · have h3 := h2.1 f hf'
      have : a.name ≠ f.name := fun e => by rw [e, (cmp_zero _ _).2 rfl] at h3; omega
      rw [List.filter_cons, if_neg (by simpa using this)]
      exact ih h2.2 hf'

/-- what is chosen where one file's first record is whole -/
theorem choose_plain {M : Nat} {s : DS} (h : Fit s) (c : Calm s) (hg : Gens M s) (hM : M < 12) {f0 : FS} (hf0 : f0 ∈ s.l) (hw : (frd ⟨f0.body.toArray⟩).2.2 = 0) :
    ∃ G f, 1 ≤ G ∧ G ≤ M ∧ f ∈ s.l ∧ f.name = genB G ∧ (frd ⟨f.body.toArray⟩).2.2 = 0 ∧ ((s.l.map (·.name)).filter (wholeS s)).getLast? = some (genB G) ∧
      eachS s (((s.l.map (·.name)).filter fun n => decide (n ≠ genB G)) ++ [newB]) = (0, { s with l := [f] }) ∧ Fit { s with l := [f] } := by
  have hm : f0.name ∈ (s.l.map (·.name)).filter (wholeS s) := by
    refine List.mem_filter.2 ⟨List.mem_map.2 ⟨f0, hf0, rfl⟩, ?_⟩
    unfold wholeS
    rw [read_there h c hf0]
    simpa using hw
  obtain ⟨n, hn⟩ : ∃ n, ((s.l.map (·.name)).filter (wholeS s)).getLast? = some n := by
    cases e : ((s.l.map (·.name)).filter (wholeS s)).getLast? with
    | none => rw [List.getLast?_eq_none_iff.1 e] at hm; simp at hm
    | some n => exact ⟨n, rfl⟩
  obtain ⟨hn1, hn2⟩ := List.mem_filter.1 (List.mem_of_getLast? hn)
  obtain ⟨f, hf, rfl⟩ := List.mem_map.1 hn1
  obtain ⟨G, h1, h2, h3⟩ := hg f hf
  obtain ⟨h4, h5⟩ := each_calm (((s.l.map (·.name)).filter fun n => decide (n ≠ genB G)) ++ [newB]) h c
  have e : lessS s (noneOf (((s.l.map (·.name)).filter fun n => decide (n ≠ genB G)) ++ [newB])) = { s with l := [f] } := by
    unfold lessS
    congr 1
    rw [← filter_one h.rises hf]
    apply List.filter_congr
    intro x hx
    obtain ⟨g, g1, g2, g3⟩ := hg x hx
    have hnew : x.name ≠ newB := by rw [g3]; exact gen_ne_new (by omega)
    have hin : x.name ∈ s.l.map (·.name) := List.mem_map.2 ⟨x, hx, rfl⟩
    rw [h3]
    by_cases hx2 : x.name = genB G
    · rw [decide_eq_true hx2]
      unfold noneOf
      rw [List.all_eq_true]
      intro n hn
      rcases List.mem_append.1 hn with hn | hn
      · have := (List.mem_filter.1 hn).2
        rw [hx2]
        simp at this ⊢
        exact fun e => this e.symm
      · simp at hn; subst hn; simpa using hnew
    · rw [decide_eq_false hx2]
      unfold noneOf
      rw [List.all_eq_false]
      exact ⟨x.name, List.mem_append.2 (.inl (List.mem_filter.2 ⟨hin, by simpa using hx2⟩)), by simp⟩
  rw [e] at h4 h5
  refine ⟨G, f, h1, h2, hf, h3, ?_, by rw [← h3]; exact hn, h4, h5⟩
  unfold wholeS at hn2
  rw [read_there h c hf] at hn2
  simpa using hn2
end Go.Proofs.YtjimgncefeldbaaGreatDoor
