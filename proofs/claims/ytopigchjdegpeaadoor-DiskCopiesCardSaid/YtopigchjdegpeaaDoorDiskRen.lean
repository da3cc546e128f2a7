/-
  disk: the function of Rename.
-/
import Derived.Test.YtopigchjdegpeaaDoorDiskApp
import Derived.Deep.RegionHeld3
namespace Go.Proofs.YtopigchjdegpeaaDoor
open Go.RowKit Go.Sort

theorem fposR_le (l : List FV) (n : ByteArray) : fpos l n ≤ l.length := List.findIdx_le_length

/-- a file that stands in no row -/
def Loose (B : Nat) (m : MS) (f : FV) (w : World) : Prop := OwnB B f.bv f.body w ∧ ∀ k, f.bv.ownBlock = some k → k ∉ m.blks

theorem Loose.below {B : Nat} {m : MS} {f : FV} {w w' : World} (h : Loose B m f w) (hb : Below w.heap.size w w') : Loose B m f w' :=
  ⟨own_kept h.1 fun k hk => hb.block k (World.ownsRow.lt h.1 k hk).2, h.2⟩

theorem Loose.blk {B : Nat} {m : MS} {f : FV} {w : World} (h : Loose B m f w) : ∀ k, f.bv.ownBlock = some k → k < w.heap.size ∧ k ≠ m.D ∧ m.fv.ownBlock ≠ some k ∧ k ∉ bblks m.l := fun k hk =>
  ⟨(World.ownsRow.lt h.1 k hk).2, fun e => h.2 k hk (by simp [MS.blks, e]), fun e => h.2 k hk (by simp [MS.blks, e]), fun e => h.2 k hk (by simp [MS.blks, e])⟩

theorem nodup_ins {l : List FV} {j : Nat} {f : FV} (hn : (bblks l).Nodup) (hf : ∀ k, f.bv.ownBlock = some k → k ∉ bblks l) : (bblks (l.take j ++ f :: l.drop j)).Nodup := by
  have e : bblks l = bblks (l.take j) ++ bblks (l.drop j) := by rw [← bblks_append, List.take_append_drop]
  rw [bblks_append, bblks_cons]
  rw [e] at hn hf
  refine nodup_swap (x := none) (by simpa using hn) ?_
  cases hb : f.bv.ownBlock with
  | none => exact .inl rfl
  | some k => exact .inr ⟨k, rfl, fun h => hf k hb (List.mem_append_left _ h), fun h => hf k hb (List.mem_append_right _ h)⟩

theorem mem_ins {l : List FV} {j : Nat} {f g : FV} (h : g ∈ l.take j ++ f :: l.drop j) : g = f ∨ g ∈ l := by
  simp only [List.mem_append, List.mem_cons] at h
  rcases h with h | h | h
  · exact .inr (List.mem_of_mem_take h)
  · exact .inl h
  · exact .inr (List.mem_of_mem_drop h)

/-- a file that stands in no row is laid into the row by Insert -/
theorem Lies.insLoose {B : Nat} {m : MS} {f : FV} {w wa w3 : World} {j : Nat} (hj : j ≤ m.l.length) (h : Lies B m w) (hl : Loose B m f w) (hga : w.grownBy wa none) {v : Value}
    (ho : OwnF B v (m.l.length + 1) ((fcells m.l).take (j * 3) ++ (f.cells ++ (fcells m.l).drop (j * 3))) w3) (hg : wa.grownBy w3 m.fv.ownBlock) (hsf : SF wa m.fv v) :
    Lies B { m with fv := v, l := m.l.take j ++ f :: m.l.drop j } (w3.setCell ⟨m.D, 1, none⟩ v) ∧ (w3.setCell ⟨m.D, 1, none⟩ v).os = w.os ∧ (w3.setCell ⟨m.D, 1, none⟩ v).tape = w.tape ∧ (w3.setCell ⟨m.D, 1, none⟩ v).output = w.output ∧ w.heap.size ≤ (w3.setCell ⟨m.D, 1, none⟩ v).heap.size ∧
      (∀ k, k < w.heap.size → k ∉ m.blks → (w3.setCell ⟨m.D, 1, none⟩ v).heap[k]? = w.heap[k]?) ∧ SF w m.fv v := by
  obtain ⟨n1, n2, n3, n4⟩ := h.nodup
  have hg2 : w.grownBy w3 m.fv.ownBlock := ⟨hg.os.trans hga.os, hg.tape.trans hga.tape, hg.output.trans hga.output, Nat.le_trans hga.size hg.size, fun k hk hne => (hg.block k (Nat.lt_of_lt_of_le hk hga.size) hne).trans (hga.block k hk (by simp))⟩
  have hsf2 : SF w m.fv v := by
    rcases hsf with h | ⟨g, hgv, hge⟩
    · exact .inl h
    · exact .inr ⟨g, hgv, Nat.le_trans hga.size hge⟩
  have hlen : (m.l.take j ++ f :: m.l.drop j).length = m.l.length + 1 := by simp; omega
  rw [← fcells_ins, ← hlen] at ho
  have hr := h.refile v (m.l.take j ++ f :: m.l.drop j) hg2 ho hsf2
    (fun g hgm => by
      rcases mem_ins hgm with rfl | hm
      · exact ⟨hl.1, fun k hk => ⟨(hl.blk k hk).2.1, (hl.blk k hk).2.2.1⟩⟩
      · exact ⟨h.body g hm, fun k hk => ⟨n2 k (mem_bblks.2 ⟨g, hm, hk⟩), n4 k (mem_bblks.2 ⟨g, hm, hk⟩)⟩⟩)
    (nodup_ins n3 fun k hk => (hl.blk k hk).2.2.2)
  refine ⟨hr.1, hg2.os, hg2.tape, hg2.output, by simpa using hg2.size, fun k hk hn => ?_, hsf2⟩
  simp only [MS.blks, List.mem_cons, List.mem_append, Option.mem_toList, not_or] at hn
  exact hr.2 k hk hn.1 hn.2.1

/-- three cells stored: a whole file in a row's place -/
def put3 (w : World) (F a : Nat) (u0 u1 u2 : Value) : World := ((w.setCell ⟨F, a, none⟩ u0).setCell ⟨F, a + 1, none⟩ u1).setCell ⟨F, a + 2, none⟩ u2

theorem Lies.setLoose {B : Nat} {m : MS} {f g : FV} {w : World} {F n cap j : Nat} (h : Lies B m w) (hl : Loose B m f w) (hv : m.fv = .slice (some ⟨F, 0, none⟩) n cap) (hg : m.l[j]? = some g) :
    Lies B { m with l := m.l.set j f } (put3 w F (j * 3) (.string f.name) f.bv (.int .i64 (f.sure : Int))) ∧ (∀ k, k ≠ F → (put3 w F (j * 3) (.string f.name) f.bv (.int .i64 (f.sure : Int))).heap[k]? = w.heap[k]?) ∧ F ∈ m.blks := by
  obtain ⟨hn, hF, hFm, _⟩ := h.frow hv
  obtain ⟨n1, n2, n3, n4⟩ := h.nodup
  have hrow := h.row
  rw [hv] at hrow
  obtain ⟨r1, _⟩ := ownF_set (i := j) (j := 0) (f := g) (f' := { g with name := f.name }) hrow hn hg (by omega) (.string f.name) rfl
  have hj : j < m.l.length := (List.getElem?_eq_some_iff.1 hg).1
  have e1 : (m.l.set j { g with name := f.name })[j]? = some { g with name := f.name } := by simp [hj]
  obtain ⟨r2, _⟩ := ownF_set (i := j) (j := 1) (f' := { g with name := f.name, bv := f.bv }) r1 (by simpa using hn) e1 (by omega) f.bv rfl
  have e2 : ((m.l.set j { g with name := f.name }).set j { g with name := f.name, bv := f.bv })[j]? = some { g with name := f.name, bv := f.bv } := by simp [hj]
  obtain ⟨r3, _⟩ := ownF_set (i := j) (j := 2) (f' := f) r2 (by simpa using hn) e2 (by omega) (.int .i64 (f.sure : Int)) rfl
  simp only [List.set_set] at r3
  have hFD : F ≠ m.D := n1 F (by rw [hv]; rfl)
  have hkeep : ∀ k, k ≠ F → (put3 w F (j * 3) (.string f.name) f.bv (.int .i64 (f.sure : Int))).heap[k]? = w.heap[k]? := fun k hk => by
    unfold put3
    rw [Below.heap_setCell _ _ _ _ hk, Below.heap_setCell _ _ _ _ hk, Below.heap_setCell _ _ _ _ hk]
  obtain ⟨s1, s2⟩ := split_at hg f
  have hnd : (bblks (m.l.set j f)).Nodup := by
    have h3 := n3
    rw [s1, bblks_append, bblks_cons] at h3
    rw [s2, bblks_append, bblks_cons]
    by_cases hsome : f.bv.ownBlock = none
    · rw [hsome]
      exact h3.sublist (List.Sublist.append (List.Sublist.refl _) (by simp))
    refine nodup_swap h3 ?_
    cases hb : f.bv.ownBlock with
    | none => exact absurd hb hsome
    | some k => exact .inr ⟨k, rfl, fun hh => (hl.blk k hb).2.2.2 (by rw [s1, bblks_append]; exact List.mem_append_left _ hh), fun hh => (hl.blk k hb).2.2.2 (by rw [s1, bblks_append, bblks_cons]; exact List.mem_append_right _ (List.mem_append_right _ hh))⟩
  have hmem : ∀ x ∈ m.l.set j f, x = f ∨ x ∈ m.l := fun x hx => (List.mem_or_eq_of_mem_set hx).symm
  have hne' : ∀ k ∈ bblks (m.l.set j f), k ≠ m.D ∧ m.fv.ownBlock ≠ some k := fun k hk => by
    obtain ⟨x, hx, hxk⟩ := mem_bblks.1 hk
    rcases hmem x hx with rfl | hm
    · exact ⟨(hl.blk k hxk).2.1, (hl.blk k hxk).2.2.1⟩
    · exact ⟨n2 k (mem_bblks.2 ⟨x, hm, hxk⟩), n4 k (mem_bblks.2 ⟨x, hm, hxk⟩)⟩
  refine ⟨⟨?_, h.base, by show OwnF B m.fv _ _ _; rw [hv]; simpa [put3] using r3, ?_, ?_⟩, hkeep, hFm⟩
  · show (put3 w F (j * 3) (.string f.name) f.bv (.int .i64 (f.sure : Int))).heap[m.D]? = _
    rw [hkeep m.D (fun e => hFD e.symm)]; exact h.head
  · intro x hx
    rcases hmem x hx with rfl | hm
    · exact own_kept hl.1 fun k hk => hkeep k (fun e => (hl.blk k hk).2.2.1 (by rw [hv, e]; rfl))
    · exact own_kept (h.body x hm) fun k hk => hkeep k (fun e => n4 k (mem_bblks.2 ⟨x, hm, hk⟩) (by rw [hv, e]; rfl))
  · simp only [MS.blks, List.nodup_cons, List.nodup_append, List.mem_append, Option.mem_toList, not_or]
    exact ⟨⟨fun e => n1 _ e rfl, fun e => (hne' _ e).1 rfl⟩, by cases m.fv.ownBlock <;> simp, hnd, fun a ha b hb e => (hne' b hb).2 (by rw [← e]; exact ha)⟩
end Go.Proofs.YtopigchjdegpeaaDoor
