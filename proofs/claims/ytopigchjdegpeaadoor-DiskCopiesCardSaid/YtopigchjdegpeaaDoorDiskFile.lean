/-
  disk: what becomes of a disk in memory when its row of files, or one file, is another one.
-/
import Derived.Test.YtopigchjdegpeaaDoorDiskIns
import Derived.Test.YtopigchjdegpeaaDoorDiskRead
namespace Go.Proofs.YtopigchjdegpeaaDoor
open Go.RowKit

theorem own_kept {B : Nat} {w w' : World} {v : Value} {n sz : Nat} {e : TypeId} {xs : List Value} (ho : w.ownsRow B e sz v n xs) (hm : ∀ k, v.ownBlock = some k → w'.heap[k]? = w.heap[k]?) : w'.ownsRow B e sz v n xs := by
  refine ⟨ho.1, ?_⟩
  rcases ho.2 with hn | ⟨g, cap, cur, rfl, hb, hgg, rest⟩
  · exact .inl hn
  · exact .inr ⟨g, cap, cur, rfl, hb, by rw [hm g rfl]; exact hgg, rest⟩

theorem mem_bblks {l : List FV} {k : Nat} : k ∈ bblks l ↔ ∃ f ∈ l, f.bv.ownBlock = some k := by simp [bblks]
theorem bblks_append (a b : List FV) : bblks (a ++ b) = bblks a ++ bblks b := by simp [bblks]
theorem bblks_cons (f : FV) (b : List FV) : bblks (f :: b) = f.bv.ownBlock.toList ++ bblks b := by simp [bblks]

theorem Lies.nodup {B : Nat} {m : MS} {w : World} (h : Lies B m w) : (∀ k, m.fv.ownBlock = some k → k ≠ m.D) ∧ (∀ k ∈ bblks m.l, k ≠ m.D) ∧ (bblks m.l).Nodup ∧ (∀ k ∈ bblks m.l, m.fv.ownBlock ≠ some k) := by
  have ha := h.apart
  simp only [MS.blks, List.nodup_cons, List.nodup_append, List.mem_append, Option.mem_toList, not_or] at ha
  obtain ⟨⟨h1, h2⟩, _, h3, h4⟩ := ha
  exact ⟨fun k hk e => h1 (by rw [← e]; exact hk), fun k hk e => h2 (by rw [← e]; exact hk), h3, fun k hk e => h4 k e k hk rfl⟩

theorem Lies.rebuild {B : Nat} {m m' : MS} {w w' : World} (h : Lies B m w) (hD : m'.D = m.D) (hh : w'.heap[m.D]? = some (.cells m'.head 53 (0, 0)))
    (hrow : OwnF B m'.fv m'.l.length (fcells m'.l) w') (hsf : SF w m.fv m'.fv) (hbody : ∀ f ∈ m'.l, OwnB B f.bv f.body w') (hnd : (bblks m'.l).Nodup)
    (hsub : ∀ k ∈ bblks m'.l, k ∈ bblks m.l ∨ w.heap.size ≤ k) (hnew : ∀ k ∈ bblks m'.l, m'.fv.ownBlock ≠ some k) : Lies B m' w' := by
  obtain ⟨n1, n2, n3, n4⟩ := h.nodup
  have hDlt := (h.lt m.D (by simp [MS.blks])).2
  refine ⟨by rw [hD]; exact hh, by rw [hD]; exact h.base, hrow, hbody, ?_⟩
  simp only [MS.blks, List.nodup_cons, List.nodup_append, List.mem_append, Option.mem_toList, not_or, hD]
  refine ⟨⟨fun e => ?_, fun e => ?_⟩, ?_, hnd, fun a ha b hb e => hnew b hb (by rw [← e]; exact ha)⟩
  · have e' : m'.fv.ownBlock = some m.D := e
    rcases hsf with hs | ⟨g, hg, hge⟩
    · rw [hs] at e'; exact n1 _ e' rfl
    · rw [hg] at e'; simp at e'; omega
  · rcases hsub _ e with hs | hs
    · exact n2 _ hs rfl
    · omega
  · cases m'.fv.ownBlock <;> simp

/-- the blocks of another disk at the same place are the disk's own, or new -/
theorem blks_fresh {m m' : MS} {w : World} (hD : m'.D = m.D) (hsf : SF w m.fv m'.fv) (hsub : ∀ k ∈ bblks m'.l, k ∈ bblks m.l ∨ w.heap.size ≤ k) : ∀ k ∈ m'.blks, k ∈ m.blks ∨ w.heap.size ≤ k := by
  intro k hk
  simp only [MS.blks, List.mem_cons, List.mem_append, Option.mem_toList, hD] at hk ⊢
  rcases hk with rfl | hk | hk
  · exact .inl (.inl rfl)
  · have hk' : m'.fv.ownBlock = some k := hk
    rcases hsf with hs | ⟨g, hg, hge⟩
    · exact .inl (.inr (.inl (by rw [← hs]; exact hk')))
    · rw [hg] at hk'; simp at hk'; right; omega
  · rcases hsub k hk with hs | hs
    · exact .inl (.inr (.inr hs))
    · exact .inr hs

theorem fcells_set (l : List FV) : ∀ (i j : Nat) (f f' : FV) (u : Value), l[i]? = some f → j < 3 → f'.cells = f.cells.set j u → fcells (l.set i f') = (fcells l).set (i * 3 + j) u := by
  induction l with
  | nil => intro i j f f' u h; simp at h
  | cons a l ih =>
    intro i j f f' u h hj hu
    cases i with
    | zero =>
      simp at h; subst h
      simp only [List.set_cons_zero, fcells, List.flatMap_cons, Nat.zero_mul, Nat.zero_add]
      rw [hu, List.set_append_left _ _ (by simp [FV.cells]; omega)]
    | succ i =>
      simp at h
      have := ih i j f f' u h hj hu
      simp only [List.set_cons_succ, fcells, List.flatMap_cons] at this ⊢
      rw [this, List.set_append_right _ _ (by simp [FV.cells]; omega)]
      congr 2
      simp [FV.cells]; omega

theorem ownF_set {B : Nat} {w : World} {F n cap : Nat} {l : List FV} {i j : Nat} {f f' : FV} (h : OwnF B (.slice (some ⟨F, 0, none⟩) n cap) l.length (fcells l) w) (hn : n = l.length) (hf : l[i]? = some f) (hj : j < 3) (u : Value) (hu : f'.cells = f.cells.set j u) :
    OwnF B (.slice (some ⟨F, 0, none⟩) n cap) (l.set i f').length (fcells (l.set i f')) (w.setCell ⟨F, i * 3 + j, none⟩ u) ∧ w.grownBy (w.setCell ⟨F, i * 3 + j, none⟩ u) (some F) := by
  subst hn
  have hs := World.ownsRow.stored h (i * 3 + j) u
  rw [List.length_set, fcells_set l i j f f' u hf hj hu]
  exact hs

theorem bblks_set {l : List FV} {i : Nat} {f f' : FV} (hf : l[i]? = some f) (hb : f'.bv.ownBlock = f.bv.ownBlock) : bblks (l.set i f') = bblks l := by
  induction l generalizing i with
  | nil => simp at hf
  | cons a l ih =>
    cases i with
    | zero => simp at hf; subst hf; simp [bblks_cons, hb]
    | succ i => simp at hf; simp only [List.set_cons_succ, bblks_cons]; rw [ih hf]

/-- one cell of one file is stored, with the same block of bytes -/
theorem Lies.setFile {B : Nat} {m : MS} {w : World} (h : Lies B m w) {F n cap : Nat} (hv : m.fv = .slice (some ⟨F, 0, none⟩) n cap) {i j : Nat} {f f' : FV} (hf : m.l[i]? = some f) (hj : j < 3) (u : Value) (hu : f'.cells = f.cells.set j u)
    (hb : f'.bv.ownBlock = f.bv.ownBlock) (hbody : ∀ w' : World, OwnB B f.bv f.body w' → OwnB B f'.bv f'.body w') :
    Lies B { m with l := m.l.set i f' } (w.setCell ⟨F, i * 3 + j, none⟩ u) ∧ Chg m { m with l := m.l.set i f' } w (w.setCell ⟨F, i * 3 + j, none⟩ u) := by
  obtain ⟨hn, hF, hFm, _⟩ := h.frow hv
  obtain ⟨n1, n2, n3, n4⟩ := h.nodup
  have hrow := h.row
  rw [hv] at hrow
  obtain ⟨hr, hg⟩ := ownF_set hrow hn hf hj u hu
  have hFD : F ≠ m.D := n1 F (by rw [hv]; rfl)
  have hown : ∀ g ∈ m.l, OwnB B g.bv g.body (w.setCell ⟨F, i * 3 + j, none⟩ u) := fun g hgm =>
    own_kept (h.body g hgm) fun k hk => Below.heap_setCell _ _ _ _ (fun e => n4 k (mem_bblks.2 ⟨g, hgm, hk⟩) (by rw [hv, e]; rfl))
  refine ⟨h.rebuild rfl ?_ (by rw [← hv] at hr; exact hr) (.inl rfl) ?_ ?_ ?_ ?_, ⟨rfl, rfl, rfl, by simp, fun k _ hk => Below.heap_setCell _ _ _ _ (fun e => hk (by rw [e]; exact hFm)), ?_⟩⟩
  · rw [Below.heap_setCell _ _ _ _ (fun e => hFD e.symm)]; exact h.head
  · intro g hgm
    rcases List.mem_or_eq_of_mem_set hgm with hgm | rfl
    · exact hown g hgm
    · exact hbody _ (hown f (List.mem_of_getElem? hf))
  · show (bblks (m.l.set i f')).Nodup
    rw [bblks_set hf hb]; exact n3
  · show ∀ k ∈ bblks (m.l.set i f'), _
    rw [bblks_set hf hb]; exact fun k hk => .inl hk
  · show ∀ k ∈ bblks (m.l.set i f'), _
    rw [bblks_set hf hb]; exact n4
  · exact blks_fresh rfl (.inl rfl) (by show ∀ k ∈ bblks (m.l.set i f'), _; rw [bblks_set hf hb]; exact fun k hk => .inl hk)

theorem OwnF.drew {B : Nat} {v : Value} {n : Nat} {xs : List Value} {w : World} (h : OwnF B v n xs w) : OwnF B v n xs w.drew := h

theorem fcells_take (l : List FV) (i : Nat) : fcells (l.take i) = (fcells l).take (i * 3) := by
  induction l generalizing i with
  | nil => simp [fcells]
  | cons a l ih =>
    cases i with
    | zero => simp [fcells]
    | succ i =>
      have := ih i
      simp only [fcells, List.take_succ_cons, List.flatMap_cons] at this ⊢
      rw [this, List.take_append]
      have e : a.cells.length = 3 := rfl
      rw [List.take_of_length_le (l := a.cells) (by omega), e, show (i + 1) * 3 - 3 = i * 3 by omega]

theorem fcells_drop (l : List FV) (i : Nat) : fcells (l.drop i) = (fcells l).drop (i * 3) := by
  induction l generalizing i with
  | nil => simp [fcells]
  | cons a l ih =>
    cases i with
    | zero => simp [fcells]
    | succ i =>
      have := ih i
      simp only [fcells, List.drop_succ_cons, List.flatMap_cons] at this ⊢
      rw [this, List.drop_append]
      have e : a.cells.length = 3 := rfl
      have e2 : a.cells.drop ((i + 1) * 3) = [] := List.drop_eq_nil_of_le (by omega)
      rw [e2, e, show (i + 1) * 3 - 3 = i * 3 by omega]
      rfl

theorem fcells_del (l : List FV) (i : Nat) : fcells (l.take i ++ l.drop (i + 1)) = (fcells l).take (i * 3) ++ (fcells l).drop ((i + 1) * 3) := by
  rw [fcells_append, fcells_take, fcells_drop]

theorem fcells_ins (l : List FV) (i : Nat) (x : FV) : fcells (l.take i ++ x :: l.drop i) = (fcells l).take (i * 3) ++ (x.cells ++ (fcells l).drop (i * 3)) := by
  rw [fcells_append, fcells_take, show x :: l.drop i = [x] ++ l.drop i from rfl, fcells_append, fcells_drop]
  simp [fcells]

theorem one_cells {B : Nat} {m : MS} {w : World} (h : Lies B m w) : ∀ u ∈ fcells m.l, u.oneCell' = true := by
  intro u hu
  simp only [fcells, List.mem_flatMap] at hu
  obtain ⟨f, hf, hu⟩ := hu
  obtain ⟨p, c, hbv⟩ := OwnB.form (h.body f hf)
  simp only [FV.cells, List.mem_cons, List.not_mem_nil, or_false] at hu
  rcases hu with rfl | rfl | rfl
  · rfl
  · rw [hbv]; rfl
  · rfl

theorem bblks_del {l : List FV} (i : Nat) : List.Sublist (bblks (l.take i ++ l.drop (i + 1))) (bblks l) := by
  have e : bblks l = bblks (l.take i) ++ bblks (l.drop i) := by rw [← bblks_append, List.take_append_drop]
  rw [bblks_append, e]
  refine List.Sublist.append (List.Sublist.refl _) ?_
  have h2 : l.drop (i + 1) = (l.drop i).drop 1 := by rw [List.drop_drop]
  rw [h2]
  cases l.drop i with
  | nil => simp [bblks]
  | cons a r => simp only [List.drop_succ_cons, List.drop_zero, bblks_cons]; exact List.sublist_append_right _ _

/-- the row is another one, in the head's cell -/
theorem Lies.refile {B : Nat} {m : MS} {w w1 : World} (h : Lies B m w) (v : Value) (l : List FV) (hg : w.grownBy w1 m.fv.ownBlock) (hrow : OwnF B v l.length (fcells l) w1) (hsf : SF w m.fv v)
    (hbody : ∀ f ∈ l, OwnB B f.bv f.body w ∧ ∀ k, f.bv.ownBlock = some k → k ≠ m.D ∧ m.fv.ownBlock ≠ some k) (hnd : (bblks l).Nodup) :
    Lies B { m with fv := v, l := l } (w1.setCell ⟨m.D, 1, none⟩ v) ∧ (∀ k, k < w.heap.size → k ≠ m.D → m.fv.ownBlock ≠ some k → (w1.setCell ⟨m.D, 1, none⟩ v).heap[k]? = w.heap[k]?) := by
  obtain ⟨n1, n2, n3, n4⟩ := h.nodup
  have hDlt := (h.lt m.D (by simp [MS.blks])).2
  have hvD : ∀ k, v.ownBlock = some k → k ≠ m.D := fun k hk => by
    rcases hsf with hs | ⟨g, hgv, hge⟩
    · exact n1 k (by rw [← hs]; exact hk)
    · rw [hgv] at hk; simp at hk; omega
  have hD1 : w1.heap[m.D]? = w.heap[m.D]? := hg.block m.D hDlt (fun e => n1 m.D e.symm rfl)
  have hkeep : ∀ k, k < w.heap.size → k ≠ m.D → m.fv.ownBlock ≠ some k → (w1.setCell ⟨m.D, 1, none⟩ v).heap[k]? = w.heap[k]? := fun k hk hkD hne => by
    rw [Below.heap_setCell _ _ _ _ hkD]; exact hg.block k hk (fun e => hne e.symm)
  have hbl : ∀ f ∈ l, ∀ k, f.bv.ownBlock = some k → k < w.heap.size := fun f hf k hk => (World.ownsRow.lt (hbody f hf).1 k hk).2
  refine ⟨⟨?_, h.base, own_kept hrow fun k hk => Below.heap_setCell _ _ _ _ (hvD k hk), fun f hf => own_kept (hbody f hf).1 fun k hk => hkeep k (hbl f hf k hk) ((hbody f hf).2 k hk).1 ((hbody f hf).2 k hk).2, ?_⟩, hkeep⟩
  · have := Joins.block_setCell (hD1.trans h.head) (i := 1) v
    simpa [MS.head] using this
  · simp only [MS.blks, List.nodup_cons, List.nodup_append, List.mem_append, Option.mem_toList, not_or]
    refine ⟨⟨fun e => hvD _ e rfl, fun e => ?_⟩, by cases v.ownBlock <;> simp, hnd, fun a ha b hb e => ?_⟩
    · obtain ⟨f, hf, hk⟩ := mem_bblks.1 e
      exact ((hbody f hf).2 _ hk).1 rfl
    · subst e
      obtain ⟨f, hf, hk⟩ := mem_bblks.1 hb
      have ha' : v.ownBlock = some a := ha
      rcases hsf with hs | ⟨g, hgv, hge⟩
      · rw [hs] at ha'; exact ((hbody f hf).2 a hk).2 ha'
      · rw [hgv] at ha'; simp at ha'; have := hbl f hf a hk; omega

theorem split_at {l : List FV} {i : Nat} {f : FV} (hf : l[i]? = some f) (f' : FV) : l = l.take i ++ f :: l.drop (i + 1) ∧ l.set i f' = l.take i ++ f' :: l.drop (i + 1) := by
  obtain ⟨hi, he⟩ := List.getElem?_eq_some_iff.1 hf
  refine ⟨?_, by rw [List.set_eq_take_append_cons_drop, if_pos hi]⟩
  conv => lhs; rw [← List.take_append_drop i l]
  rw [List.drop_eq_getElem_cons hi, he]

theorem nodup_swap {A C : List Nat} {x y : Option Nat} (h : (A ++ (x.toList ++ C)).Nodup) (hy : y = x ∨ ∃ g, y = some g ∧ g ∉ A ∧ g ∉ C) : (A ++ (y.toList ++ C)).Nodup := by
  rcases hy with rfl | ⟨g, rfl, hA, hC⟩
  · exact h
  · simp only [List.nodup_append, Option.mem_toList, List.mem_append] at h ⊢
    obtain ⟨h1, ⟨_, h3, _⟩, h5⟩ := h
    refine ⟨h1, ⟨by simp, h3, fun a ha b hb e => ?_⟩, fun a ha b hb e => ?_⟩
    · simp at ha; subst ha; subst e; exact hC hb
    · rcases hb with hb | hb
      · simp at hb; subst hb; subst e; exact hA ha
      · exact h5 a ha b (.inr hb) e

/-- a file's bytes are others, in the same block or in a new one -/
theorem Lies.putBody {B : Nat} {m : MS} {w W3 : World} (h : Lies B m w) {F n cap : Nat} (hv : m.fv = .slice (some ⟨F, 0, none⟩) n cap) {i : Nat} {f : FV} (hf : m.l[i]? = some f) (v' : Value) (body' : List UInt8)
    (hg : w.grownBy W3 f.bv.ownBlock) (hsf : SF w f.bv v') (hown : OwnB B v' body' W3) :
    Lies B { m with l := m.l.set i { f with bv := v', body := body' } } (W3.setCell ⟨F, i * 3 + 1, none⟩ v') ∧ Chg m { m with l := m.l.set i { f with bv := v', body := body' } } w (W3.setCell ⟨F, i * 3 + 1, none⟩ v') := by
  obtain ⟨hn, hF, hFm, _⟩ := h.frow hv
  obtain ⟨n1, n2, n3, n4⟩ := h.nodup
  obtain ⟨e1, e2⟩ := split_at hf { f with bv := v', body := body' }
  have hfm : f ∈ m.l := List.mem_of_getElem? hf
  have hFf : ∀ k, f.bv.ownBlock = some k → k ≠ F ∧ k ≠ m.D ∧ k < w.heap.size := fun k hk =>
    ⟨fun e => n4 k (mem_bblks.2 ⟨f, hfm, hk⟩) (by rw [hv, e]; rfl), n2 k (mem_bblks.2 ⟨f, hfm, hk⟩), (World.ownsRow.lt (h.body f hfm) k hk).2⟩
  have hDlt := (h.lt m.D (by simp [MS.blks])).2
  have hFD : F ≠ m.D := n1 F (by rw [hv]; rfl)
  have hrow3 : OwnF B (.slice (some ⟨F, 0, none⟩) n cap) m.l.length (fcells m.l) W3 := by
    have := h.row; rw [hv] at this
    exact own_kept this fun k hk => hg.block k (by simp [Value.ownBlock] at hk; subst hk; exact hF) (fun e => by simp [Value.ownBlock] at hk; subst hk; exact (hFf F e.symm).1 rfl)
  obtain ⟨hr, _⟩ := ownF_set (i := i) (j := 1) (f := f) (f' := { f with bv := v', body := body' }) hrow3 hn hf (by omega) v' rfl
  have hnd : (bblks (m.l.take i) ++ (f.bv.ownBlock.toList ++ bblks (m.l.drop (i + 1)))).Nodup := by rw [← bblks_cons, ← bblks_append, ← e1]; exact n3
  have hold : ∀ k, k ∈ bblks (m.l.take i) ∨ k ∈ bblks (m.l.drop (i + 1)) → k ∈ bblks m.l ∧ f.bv.ownBlock ≠ some k := fun k hk => by
    refine ⟨by rw [e1, bblks_append, bblks_cons]; simp; rcases hk with hk | hk; exact .inl hk; exact .inr (.inr hk), fun e => ?_⟩
    simp only [List.nodup_append, Option.mem_toList, List.mem_append] at hnd
    rcases hk with hk | hk
    · exact hnd.2.2 k hk k (.inl e) rfl
    · exact hnd.2.1.2.2 k e k hk rfl
  have hbl : ∀ k ∈ bblks m.l, k < w.heap.size := fun k hk => (h.lt k (by simp [MS.blks, hk])).2
  have hv' : v'.ownBlock = f.bv.ownBlock ∨ ∃ g, v'.ownBlock = some g ∧ g ∉ bblks (m.l.take i) ∧ g ∉ bblks (m.l.drop (i + 1)) := by
    rcases hsf with hs | ⟨g, hgv, hge⟩
    · exact .inl hs
    · exact .inr ⟨g, hgv, fun hk => by have := hbl g (hold g (.inl hk)).1; omega, fun hk => by have := hbl g (hold g (.inr hk)).1; omega⟩
  have hnd' : (bblks (m.l.set i { f with bv := v', body := body' })).Nodup := by rw [e2, bblks_append, bblks_cons]; exact nodup_swap hnd hv'
  have hmem' : ∀ k ∈ bblks (m.l.set i { f with bv := v', body := body' }), (k ∈ bblks m.l ∧ (k ∈ bblks (m.l.take i) ∨ k ∈ bblks (m.l.drop (i + 1)) ∨ f.bv.ownBlock = some k)) ∨ w.heap.size ≤ k := fun k hk => by
    rw [e2, bblks_append, bblks_cons] at hk
    simp only [List.mem_append, Option.mem_toList] at hk
    rcases hk with hk | hk | hk
    · exact .inl ⟨(hold k (.inl hk)).1, .inl hk⟩
    · have hk' : v'.ownBlock = some k := hk
      rcases hsf with hs | ⟨g, hgv, hge⟩
      · exact .inl ⟨mem_bblks.2 ⟨f, hfm, by rw [← hs]; exact hk'⟩, .inr (.inr (by rw [← hs]; exact hk'))⟩
      · rw [hgv] at hk'; simp at hk'; right; omega
    · exact .inl ⟨(hold k (.inr hk)).1, .inr (.inl hk)⟩
  have hvF : ∀ k, v'.ownBlock = some k → k ≠ F := fun k hk => by
    rcases hsf with hs | ⟨g, hgv, hge⟩
    · exact (hFf k (by rw [← hs]; exact hk)).1
    · rw [hgv] at hk; simp at hk; omega
  have hkeep : ∀ k, k < w.heap.size → f.bv.ownBlock ≠ some k → k ≠ F → (W3.setCell ⟨F, i * 3 + 1, none⟩ v').heap[k]? = w.heap[k]? := fun k hk hne hkF => by
    rw [Below.heap_setCell _ _ _ _ hkF]; exact hg.block k hk (fun e => hne e.symm)
  refine ⟨h.rebuild rfl ?_ ?_ (.inl rfl) ?_ hnd' (fun k hk => (hmem' k hk).imp (·.1) id) ?_, ⟨hg.os, hg.tape, hg.output, by simpa using hg.size, fun k hk hne => ?_, blks_fresh rfl (.inl rfl) (fun k hk => (hmem' k hk).imp (·.1) id)⟩⟩
  · rw [hkeep m.D hDlt (fun e => (hFf m.D e).2.1 rfl) (fun e => hFD e.symm)]; exact h.head
  · show OwnF B m.fv _ _ _; rw [hv]; exact hr
  · intro g hgm
    have hgm' : g ∈ m.l.set i { f with bv := v', body := body' } := hgm
    rw [e2] at hgm'
    simp only [List.mem_append, List.mem_cons] at hgm'
    have hside : ∀ g, g ∈ m.l.take i ∨ g ∈ m.l.drop (i + 1) → OwnB B g.bv g.body (W3.setCell ⟨F, i * 3 + 1, none⟩ v') := fun g hgs => by
      have hgl : g ∈ m.l := by rcases hgs with h | h; exact List.mem_of_mem_take h; exact List.mem_of_mem_drop h
      refine own_kept (h.body g hgl) fun k hk => hkeep k (World.ownsRow.lt (h.body g hgl) k hk).2 (hold k ?_).2 (fun e => n4 k (mem_bblks.2 ⟨g, hgl, hk⟩) (by rw [hv, e]; rfl))
      rcases hgs with h | h
      · exact .inl (mem_bblks.2 ⟨g, h, hk⟩)
      · exact .inr (mem_bblks.2 ⟨g, h, hk⟩)
    rcases hgm' with hgs | rfl | hgs
    · exact hside g (.inl hgs)
    · exact own_kept hown fun k hk => Below.heap_setCell _ _ _ _ (hvF k hk)
    · exact hside g (.inr hgs)
  · intro k hk
    rcases hmem' k hk with hm | hm
    · exact n4 k hm.1
    · intro e
      have e' : m.fv.ownBlock = some k := e
      rw [hv] at e'; simp [Value.ownBlock] at e'; omega
  · simp only [MS.blks, List.mem_cons, List.mem_append, Option.mem_toList, not_or] at hne
    exact hkeep k hk (fun e => hne.2.2 (mem_bblks.2 ⟨f, hfm, e⟩)) (fun e => hne.2.1 (by rw [hv, e]; rfl))
end Go.Proofs.YtopigchjdegpeaaDoor
