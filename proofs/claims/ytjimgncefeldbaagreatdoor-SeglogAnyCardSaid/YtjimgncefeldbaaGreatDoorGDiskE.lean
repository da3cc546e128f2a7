/-
  disk: the function of Rename.
  disk: the function of Rename: the walks.
-/
import Derived.Test.YtjimgncefeldbaaGreatDoorGDiskD
import Derived.Deep.RegionHeld3
namespace Go.Proofs.YtjimgncefeldbaaGreatDoor
open Go.RowKit Go.Sort

theorem fposR_le (l : List FV) (n : ByteArray) : fpos l n ≤ l.length := List.findIdx_le_length

/-- a file that stands in no row -/
def Loose (B : Nat) (m : MS) (f : FV) (w : World) : Prop := OwnB B f.bv f.body w ∧ ∀ k, f.bv.ownBlock = some k → k ∉ m.blks

theorem Loose.below {B : Nat} {m : MS} {f : FV} {w w' : World} (h : Loose B m f w) (hb : Below w.heap.size w w') : Loose B m f w' :=
  ⟨own_kept h.1 fun k hk => hb.block k (World.ownsRow.lt h.1 k hk).2, h.2⟩

theorem Loose.blk {B : Nat} {m : MS} {f : FV} {w : World} (h : Loose B m f w) : ∀ k, f.bv.ownBlock = some k → k < w.heap.size ∧ k ≠ m.D ∧ m.fv.ownBlock ≠ some k ∧ k ∉ bblks m.l := fun k hk =>
  ⟨(World.ownsRow.lt h.1 k hk).2, fun e => h.2 k hk (by simp [MS.blks, e]), fun e => h.2 k hk (by simp [MS.blks, e]), fun e => h.2 k hk (by simp [MS.blks, e])⟩

theorem nodup_ins {l : List FV} {j : Nat} {f : FV} (hn : (bblks l).Nodup) (hf : ∀ k, f.bv.ownBlock = some k → k ∉ bblks l) : (bblks (l.take j ++ f :: l.drop j)).Nodup := by
  have e : bblks l = bblks (l.take j) ++ bblks (l.drop j) := by rw [← bblks_append, List.take_append_drop]
  rw [bblks_append, bblks_cons]
  rw [e] at hn hf
  refine nodup_swap (x := none) (by simpa using hn) ?_
  cases hb : f.bv.ownBlock with
  | none => exact .inl rfl
  | some k => exact .inr ⟨k, rfl, fun h => hf k hb (List.mem_append_left _ h), fun h => hf k hb (List.mem_append_right _ h)⟩

theorem mem_ins {l : List FV} {j : Nat} {f g : FV} (h : g ∈ l.take j ++ f :: l.drop j) : g = f ∨ g ∈ l := by
  simp only [List.mem_append, List.mem_cons] at h
  rcases h with h | h | h
  · exact .inr (List.mem_of_mem_take h)
  · exact .inl h
  · exact .inr (List.mem_of_mem_drop h)

/-- a file that stands in no row is laid into the row by Insert -/
theorem Lies.insLoose {B : Nat} {m : MS} {f : FV} {w wa w3 : World} {j : Nat} (hj : j ≤ m.l.length) (h : Lies B m w) (hl : Loose B m f w) (hga : w.grownBy wa none) {v : Value}
    (ho : OwnF B v (m.l.length + 1) ((fcells m.l).take (j * 3) ++ (f.cells ++ (fcells m.l).drop (j * 3))) w3) (hg : wa.grownBy w3 m.fv.ownBlock) (hsf : SF wa m.fv v) :
    Lies B { m with fv := v, l := m.l.take j ++ f :: m.l.drop j } (w3.setCell ⟨m.D, 1, none⟩ v) ∧ (w3.setCell ⟨m.D, 1, none⟩ v).os = w.os ∧ (w3.setCell ⟨m.D, 1, none⟩ v).tape = w.tape ∧ (w3.setCell ⟨m.D, 1, none⟩ v).output = w.output ∧ w.heap.size ≤ (w3.setCell ⟨m.D, 1, none⟩ v).heap.size ∧
      (∀ k, k < w.heap.size → k ∉ m.blks → (w3.setCell ⟨m.D, 1, none⟩ v).heap[k]? = w.heap[k]?) ∧ SF w m.fv v := by
  obtain ⟨n1, n2, n3, n4⟩ := h.nodup
  have hg2 : w.grownBy w3 m.fv.ownBlock := ⟨hg.os.trans hga.os, hg.tape.trans hga.tape, hg.output.trans hga.output, Nat.le_trans hga.size hg.size, fun k hk hne => (hg.block k (Nat.lt_of_lt_of_le hk hga.size) hne).trans (hga.block k hk (by simp))⟩
  have hsf2 : SF w m.fv v := by
    rcases hsf with h | ⟨g, hgv, hge⟩
    · exact .inl h
    · exact .inr ⟨g, hgv, Nat.le_trans hga.size hge⟩
  have hlen : (m.l.take j ++ f :: m.l.drop j).length = m.l.length + 1 := by simp; omega
  rw [← fcells_ins, ← hlen] at ho
  have hr := h.refile v (m.l.take j ++ f :: m.l.drop j) hg2 ho hsf2
    (fun g hgm => by
      rcases mem_ins hgm with rfl | hm
      · exact ⟨hl.1, fun k hk => ⟨(hl.blk k hk).2.1, (hl.blk k hk).2.2.1⟩⟩
      · exact ⟨h.body g hm, fun k hk => ⟨n2 k (mem_bblks.2 ⟨g, hm, hk⟩), n4 k (mem_bblks.2 ⟨g, hm, hk⟩)⟩⟩)
    (nodup_ins n3 fun k hk => (hl.blk k hk).2.2.2)
  refine ⟨hr.1, hg2.os, hg2.tape, hg2.output, by simpa using hg2.size, fun k hk hn => ?_, hsf2⟩
  simp only [MS.blks, List.mem_cons, List.mem_append, Option.mem_toList, not_or] at hn
  exact hr.2 k hk hn.1 hn.2.1

/-- three cells stored: a whole file in a row's place -/
def put3 (w : World) (F a : Nat) (u0 u1 u2 : Value) : World := ((w.setCell ⟨F, a, none⟩ u0).setCell ⟨F, a + 1, none⟩ u1).setCell ⟨F, a + 2, none⟩ u2

theorem Lies.setLoose {B : Nat} {m : MS} {f g : FV} {w : World} {F n cap j : Nat} (h : Lies B m w) (hl : Loose B m f w) (hv : m.fv = .slice (some ⟨F, 0, none⟩) n cap) (hg : m.l[j]? = some g) :
    Lies B { m with l := m.l.set j f } (put3 w F (j * 3) (.string f.name) f.bv (.int .i64 (f.sure : Int))) ∧ (∀ k, k ≠ F → (put3 w F (j * 3) (.string f.name) f.bv (.int .i64 (f.sure : Int))).heap[k]? = w.heap[k]?) ∧ F ∈ m.blks := by
  obtain ⟨hn, hF, hFm, _⟩ := h.frow hv
  obtain ⟨n1, n2, n3, n4⟩ := h.nodup
  have hrow := h.row
  rw [hv] at hrow
  obtain ⟨r1, _⟩ := ownF_set (i := j) (j := 0) (f := g) (f' := { g with name := f.name }) hrow hn hg (by omega) (.string f.name) rfl
  have hj : j < m.l.length := (List.getElem?_eq_some_iff.1 hg).1
  have e1 : (m.l.set j { g with name := f.name })[j]? = some { g with name := f.name } := by simp [hj]
  obtain ⟨r2, _⟩ := ownF_set (i := j) (j := 1) (f' := { g with name := f.name, bv := f.bv }) r1 (by simpa using hn) e1 (by omega) f.bv rfl
  have e2 : ((m.l.set j { g with name := f.name }).set j { g with name := f.name, bv := f.bv })[j]? = some { g with name := f.name, bv := f.bv } := by simp [hj]
  obtain ⟨r3, _⟩ := ownF_set (i := j) (j := 2) (f' := f) r2 (by simpa using hn) e2 (by omega) (.int .i64 (f.sure : Int)) rfl
  simp only [List.set_set] at r3
  have hFD : F ≠ m.D := n1 F (by rw [hv]; rfl)
  have hkeep : ∀ k, k ≠ F → (put3 w F (j * 3) (.string f.name) f.bv (.int .i64 (f.sure : Int))).heap[k]? = w.heap[k]? := fun k hk => by
    unfold put3
    rw [Below.heap_setCell _ _ _ _ hk, Below.heap_setCell _ _ _ _ hk, Below.heap_setCell _ _ _ _ hk]
  obtain ⟨s1, s2⟩ := split_at hg f
  have hnd : (bblks (m.l.set j f)).Nodup := by
    have h3 := n3
    rw [s1, bblks_append, bblks_cons] at h3
    rw [s2, bblks_append, bblks_cons]
    by_cases hsome : f.bv.ownBlock = none
    · rw [hsome]
      exact h3.sublist (List.Sublist.append (List.Sublist.refl _) (by simp))
    refine nodup_swap h3 ?_
    cases hb : f.bv.ownBlock with
    | none => exact absurd hb hsome
    | some k => exact .inr ⟨k, rfl, fun hh => (hl.blk k hb).2.2.2 (by rw [s1, bblks_append]; exact List.mem_append_left _ hh), fun hh => (hl.blk k hb).2.2.2 (by rw [s1, bblks_append, bblks_cons]; exact List.mem_append_right _ (List.mem_append_right _ hh))⟩
  have hmem : ∀ x ∈ m.l.set j f, x = f ∨ x ∈ m.l := fun x hx => (List.mem_or_eq_of_mem_set hx).symm
  have hne' : ∀ k ∈ bblks (m.l.set j f), k ≠ m.D ∧ m.fv.ownBlock ≠ some k := fun k hk => by
    obtain ⟨x, hx, hxk⟩ := mem_bblks.1 hk
    rcases hmem x hx with rfl | hm
    · exact ⟨(hl.blk k hxk).2.1, (hl.blk k hxk).2.2.1⟩
    · exact ⟨n2 k (mem_bblks.2 ⟨x, hm, hxk⟩), n4 k (mem_bblks.2 ⟨x, hm, hxk⟩)⟩
  refine ⟨⟨?_, h.base, by show OwnF B m.fv _ _ _; rw [hv]; simpa [put3] using r3, ?_, ?_⟩, hkeep, hFm⟩
  · show (put3 w F (j * 3) (.string f.name) f.bv (.int .i64 (f.sure : Int))).heap[m.D]? = _
    rw [hkeep m.D (fun e => hFD e.symm)]; exact h.head
  · intro x hx
    rcases hmem x hx with rfl | hm
    · exact own_kept hl.1 fun k hk => hkeep k (fun e => (hl.blk k hk).2.2.1 (by rw [hv, e]; rfl))
    · exact own_kept (h.body x hm) fun k hk => hkeep k (fun e => n4 k (mem_bblks.2 ⟨x, hm, hk⟩) (by rw [hv, e]; rfl))
  · simp only [MS.blks, List.nodup_cons, List.nodup_append, List.mem_append, Option.mem_toList, not_or]
    exact ⟨⟨fun e => n1 _ e rfl, fun e => (hne' _ e).1 rfl⟩, by cases m.fv.ownBlock <;> simp, hnd, fun a ha b hb e => (hne' b hb).2 (by rw [← e]; exact ha)⟩
end Go.Proofs.YtjimgncefeldbaaGreatDoor

namespace Go.Proofs.YtjimgncefeldbaaGreatDoor
open Go.RowKit Go.Sort

set_option maxHeartbeats 4000000 in
set_option maxRecDepth 100000 in
theorem renameC_none {B : Nat} (m : MS) (n t : ByteArray) (b0 b1 b2 : Nat) (w : World) (h : Lies B m w) (hlen : m.l.length ≤ 1024) (hr : Rises m.l n) (h0 : Box m b0 (.pointer (some ⟨m.D, 0, none⟩)) w) (h1 : Box m b1 (.string n) w) (_h2 : Box m b2 (.string t) w) (ht : fthere m.l n = false) :
    Calls Tryz.prog 148 #[.pointer (some ⟨b0, 0, none⟩), .pointer (some ⟨b1, 0, none⟩), .pointer (some ⟨b2, 0, none⟩)] w fun e w' => e = .returned (.int .i64 7) ∧ Below w.heap.size w w' := by
  have hfd := find_any m n w h hlen hr
  rw [ht] at hfd
  have c0 := h0.1
  have c1 := h1.1
  clear h hlen hr h0 h1 _h2 ht
  go_enter Tryz.func148, Tryz.ntmps148
  go_wp2_with fail
  refine hfd.mono ?_
  rintro e w1 ⟨rfl, hb⟩
  have HB := Lib.hid hb; clear hb
  go_wp2_with fail
  go_ret
  exact ⟨rfl, HB.out⟩

set_option maxHeartbeats 4000000 in
set_option maxRecDepth 100000 in
theorem renameC_name {B : Nat} (m : MS) (n t : ByteArray) (b0 b1 b2 : Nat) (w : World) (h : Lies B m w) (hlen : m.l.length ≤ 1024) (hr : Rises m.l n) (h0 : Box m b0 (.pointer (some ⟨m.D, 0, none⟩)) w) (h1 : Box m b1 (.string n) w) (h2 : Box m b2 (.string t) w) (ht : fthere m.l n = true) (hn : isNm t = false) (hbn : ∀ w, Calls Tryz.prog 35 #[.string t] w fun e w' => e = .returned (.bool (isNm t)) ∧ w = w') :
    Calls Tryz.prog 148 #[.pointer (some ⟨b0, 0, none⟩), .pointer (some ⟨b1, 0, none⟩), .pointer (some ⟨b2, 0, none⟩)] w fun e w' => e = .returned (.int .i64 14) ∧ Below w.heap.size w w' := by
  have hfd := find_any m n w h hlen hr
  rw [ht] at hfd
  rw [hn] at hbn
  have c0 := h0.1
  have c1 := h1.1
  have HH := Lib.hid h2
  clear h hlen hr h0 h1 h2 ht hn
  go_enter Tryz.func148, Tryz.ntmps148
  go_wp2_with fail
  refine hfd.mono ?_
  rintro e w1 ⟨rfl, hb⟩
  have c2 := (HH.out.below hb).1
  have HB := Lib.hid hb; clear hb
  go_wp2_with fail
  refine (hbn _).mono ?_
  rintro e w2 ⟨rfl, rfl⟩
  go_wp2_with fail
  go_ret
  exact ⟨rfl, HB.out⟩

set_option maxHeartbeats 4000000 in
set_option maxRecDepth 100000 in
theorem renameC_out {B : Nat} (m : MS) (n t : ByteArray) (b0 b1 b2 : Nat) (w : World) (h : Lies B m w) (hlen : m.l.length ≤ 1024) (hr : Rises m.l n) (h0 : Box m b0 (.pointer (some ⟨m.D, 0, none⟩)) w) (h1 : Box m b1 (.string n) w) (h2 : Box m b2 (.string t) w) (ht : fthere m.l n = true) (hn : isNm t = true) (a : Addr) (hp : Pow a w) (hf : m.fused = true) (hl : m.left = 0) :
    Calls Tryz.prog 148 #[.pointer (some ⟨b0, 0, none⟩), .pointer (some ⟨b1, 0, none⟩), .pointer (some ⟨b2, 0, none⟩)] w fun e w' => e = .panicked [{ v := powV a, recovered := false }] ∧ Below w.heap.size w w' := by
  have hfd := find_any m n w h hlen hr
  rw [ht] at hfd
  have hbn := fun w => isName_yes t w hn
  have c0 := h0.1
  have c1 := h1.1
  have HH := Lib.hid (And.intro h (And.intro h0 (And.intro h2 (And.intro hp (And.intro hf hl)))))
  clear h hlen hr h0 h1 h2 ht hn hp hf hl
  go_enter Tryz.func148, Tryz.ntmps148
  go_wp2_with fail
  refine hfd.mono ?_
  rintro e w1 ⟨rfl, hb⟩
  obtain ⟨h, h0, h2, hp, hf, hl⟩ := HH.out
  have hs := spend_out m w1 (h.below hb) a (hp.below hb hp.lt) hf hl
  have c0' := (h0.below hb).1
  have c2 := (h2.below hb).1
  have HB := Lib.hid hb; clear hb h h0 h2 hp hf hl c0 c1 hfd HH
  go_wp2_with fail
  refine (hbn _).mono ?_
  rintro e w2 ⟨rfl, rfl⟩
  go_wp2_with fail
  refine hs.mono ?_
  rintro e w2 ⟨rfl, rfl⟩
  go_wp2_with fail
  exact ⟨rfl, rfl, HB.out⟩

/-- the disk without its file i -/
def MS.drop (m : MS) (i : Nat) (v : Value) : MS := { m.pay with fv := v, l := m.l.take i ++ m.l.drop (i + 1) }

/-- what is there when the file i has gone from the row, and stands in a variable of the call's own, under its new name -/
def RenMid (B : Nat) (m : MS) (i : Nat) (f : FV) (t : ByteArray) (M : Nat) (w wc : World) : Prop :=
  ∃ v, Lies B (m.drop i v) wc ∧ Chg m (m.drop i v) w wc ∧ wc.heap[M]? = some (.cells #[.string t, f.bv, .int .i64 (f.sure : Int)] 70 (0, 0)) ∧ Loose B (m.drop i v) f wc ∧ (∀ k ∈ (m.drop i v).blks, k < M) ∧ (∀ k, f.bv.ownBlock = some k → k < M)

/-- what Rename leaves: the file stands in place of another one -/
def RenTaken (B : Nat) (m : MS) (i : Nat) (f : FV) (t : ByteArray) (w : World) (e : Ending) (w' : World) : Prop :=
  ∃ v, e = .returned (.int .i64 0) ∧ Lies B { m.drop i v with l := (m.drop i v).l.set (fpos (m.drop i v).l t) { f with name := t } } w' ∧ Chg m { m.drop i v with l := (m.drop i v).l.set (fpos (m.drop i v).l t) { f with name := t } } w w'
/-- what Rename leaves: the file stands in a place of its own -/
def RenFree (B : Nat) (m : MS) (i : Nat) (f : FV) (t : ByteArray) (w : World) (e : Ending) (w' : World) : Prop :=
  ∃ v, e = .returned (.int .i64 0) ∧ Lies B { m.pay with fv := v, l := (m.l.take i ++ m.l.drop (i + 1)).take (fpos (m.l.take i ++ m.l.drop (i + 1)) t) ++ { f with name := t } :: (m.l.take i ++ m.l.drop (i + 1)).drop (fpos (m.l.take i ++ m.l.drop (i + 1)) t) } w' ∧
    Chg m { m.pay with fv := v, l := (m.l.take i ++ m.l.drop (i + 1)).take (fpos (m.l.take i ++ m.l.drop (i + 1)) t) ++ { f with name := t } :: (m.l.take i ++ m.l.drop (i + 1)).drop (fpos (m.l.take i ++ m.l.drop (i + 1)) t) } w w'

theorem bblks_out {l : List FV} {i : Nat} {f : FV} (hn : (bblks l).Nodup) (hf : l[i]? = some f) : ∀ k, f.bv.ownBlock = some k → k ∉ bblks (l.take i ++ l.drop (i + 1)) := by
  intro k hk
  obtain ⟨e, _⟩ := split_at hf f
  rw [e, bblks_append, bblks_cons] at hn
  rw [bblks_append]
  simp only [List.nodup_append, Option.mem_toList, List.mem_append, not_or] at hn ⊢
  exact ⟨fun h => hn.2.2 k h k (.inl hk) rfl, fun h => hn.2.1.2.2 k hk k h rfl⟩

theorem renMid_of {B : Nat} {m : MS} {i : Nat} {f : FV} {t : ByteArray} {w w2 w3 : World} {F cap k nb cb : Nat} {pb : Option Addr} (hl2 : Lies B m.pay w2) (hc2 : Chg m m.pay w w2) (hv : m.fv = .slice (some ⟨F, 0, none⟩) (k + 1) cap) (hk : m.l.length = k + 1) (hf : m.l[i]? = some f) (hi : i < k + 1)
    (hbv : f.bv = .slice pb nb cb)
    (ho : OwnF B (.slice (some ⟨F, 0, none⟩) k cap) k ((fcells m.l).take (i * 3) ++ (fcells m.l).drop ((i + 1) * 3)) w3) (hg : World.grownBy ((w2.alloc (.cells #[.string t, .slice pb nb cb, .int .i64 (f.sure : Int)] 70)).drew) w3 (some F)) :
    RenMid B m i f t w2.heap.size w (w3.setCell ⟨m.D, 1, none⟩ (.slice (some ⟨F, 0, none⟩) k cap)) := by
  have hv2 : m.pay.fv = .slice (some ⟨F, 0, none⟩) (k + 1) cap := hv
  obtain ⟨n1, n2, n3, n4⟩ := hl2.nodup
  have hsl := bblks_del (l := m.l) i
  have hlen' : (m.l.take i ++ m.l.drop (i + 1)).length = k := by simp [hk]; omega
  have hfm : f ∈ m.pay.l := List.mem_of_getElem? hf
  have hFlt : F < w2.heap.size := (hl2.lt F (by simp [MS.blks, hv2, Value.ownBlock])).2
  have hDlt : m.D < w2.heap.size := (hl2.lt m.D (by simp [MS.blks, MS.pay])).2
  have hg2 : w2.grownBy w3 m.pay.fv.ownBlock := by
    rw [hv2]
    exact ⟨hg.os, hg.tape, hg.output, Nat.le_trans (by simp) hg.size, fun j hj hne => (hg.block j (by simp; omega) hne).trans (Below.heap_alloc w2 _ j hj)⟩
  rw [← fcells_del, ← hlen'] at ho
  have hr := hl2.refile (.slice (some ⟨F, 0, none⟩) k cap) (m.l.take i ++ m.l.drop (i + 1)) hg2 (by rw [hlen'] at ho ⊢; exact ho) (.inl (by rw [hv2]; rfl))
    (fun g hgm => ⟨hl2.body g (by have := List.mem_append.1 hgm; rcases this with h | h; exact List.mem_of_mem_take h; exact List.mem_of_mem_drop h), fun j hj => by
      have hm : j ∈ bblks m.l := hsl.subset (mem_bblks.2 ⟨g, hgm, hj⟩)
      exact ⟨n2 j hm, n4 j hm⟩⟩) (n3.sublist hsl)
  have hbl : ∀ j ∈ (m.drop i (.slice (some ⟨F, 0, none⟩) k cap)).blks, j ∈ m.pay.blks := fun j hj => by
    simp only [MS.blks, MS.drop, List.mem_cons, List.mem_append, Option.mem_toList] at hj ⊢
    rcases hj with h | h | h
    · exact .inl h
    · exact .inr (.inl (by rw [hv2]; exact h))
    · exact .inr (.inr (hsl.subset h))
  have hfb : ∀ j, f.bv.ownBlock = some j → j ≠ m.D ∧ j ≠ F ∧ j < w2.heap.size := fun j hj =>
    ⟨n2 j (mem_bblks.2 ⟨f, hfm, hj⟩), fun e => n4 j (mem_bblks.2 ⟨f, hfm, hj⟩) (by rw [hv2, e]; rfl), (World.ownsRow.lt (hl2.body f hfm) j hj).2⟩
  refine ⟨_, hr.1, hc2.trans ⟨hg2.os, hg2.tape, hg2.output, by simpa using hg2.size, fun j hj hn => ?_, fun j hj => .inl (hbl j hj)⟩, ?_, ⟨own_kept (hl2.body f hfm) fun j hj => hr.2 j (hfb j hj).2.2 (hfb j hj).1 (by rw [hv2]; simp [Value.ownBlock]; exact fun e => (hfb j hj).2.1 e.symm), fun j hj hm => ?_⟩, fun j hj => (hl2.lt j (hbl j hj)).2, fun j hj => (hfb j hj).2.2⟩
  · simp only [MS.blks, List.mem_cons, List.mem_append, Option.mem_toList, not_or] at hn
    exact hr.2 j hj hn.1 hn.2.1
  · rw [Below.heap_setCell _ _ _ _ (by simp; omega), hg.block w2.heap.size (by simp) (by simp; omega), hbv]
    exact heap_alloc_new w2 _
  · simp only [MS.blks, MS.drop, List.mem_cons, List.mem_append, Option.mem_toList] at hm
    rcases hm with h | h | h
    · exact (hfb j hj).1 h
    · simp [Value.ownBlock] at h; exact (hfb j hj).2.1 h.symm
    · exact bblks_out n3 hf j hj h

theorem chg_loose {m m1 m2 : MS} {w wc w' : World} (hc : Chg m m1 w wc) (hD : m2.D = m1.D) (hfv : SF wc m1.fv m2.fv) (hsub : ∀ k ∈ bblks m2.l, k ∈ bblks m1.l ∨ k ∈ m.blks)
    (h1 : w'.os = wc.os) (h2 : w'.tape = wc.tape) (h3 : w'.output = wc.output) (h4 : wc.heap.size ≤ w'.heap.size) (h5 : ∀ k, k < wc.heap.size → k ∉ m1.blks → w'.heap[k]? = wc.heap[k]?) : Chg m m2 w w' := by
  refine ⟨h1.trans hc.os, h2.trans hc.tape, h3.trans hc.output, Nat.le_trans hc.size h4, fun k hk hn => ?_, fun k hk => ?_⟩
  · rw [h5 k (Nat.lt_of_lt_of_le hk hc.size) (fun hm => by rcases hc.fresh k hm with h | h; exact hn h; omega)]
    exact hc.block k hk hn
  · simp only [MS.blks, List.mem_cons, List.mem_append, Option.mem_toList, hD] at hk
    rcases hk with h | h | h
    · exact hc.fresh k (by simp [MS.blks, h])
    · have h' : m2.fv.ownBlock = some k := h
      rcases hfv with hs | ⟨g, hg, hge⟩
      · exact hc.fresh k (by simp [MS.blks, ← hs, h'])
      · rw [hg] at h'; simp at h'; have := hc.size; right; omega
    · rcases hsub k h with h | h
      · exact hc.fresh k (by simp [MS.blks, h])
      · exact .inl h

set_option maxHeartbeats 4000000 in
set_option maxRecDepth 100000 in
theorem renameC_taken {B : Nat} (m : MS) (n t : ByteArray) (b0 b1 b2 : Nat) (w : World) (h : Lies B m w) (hlen : m.l.length ≤ 1024) (hr : Rises m.l n) (h0 : Box m b0 (.pointer (some ⟨m.D, 0, none⟩)) w) (h1 : Box m b1 (.string n) w) (h2 : Box m b2 (.string t) w) (hrt : Rises (m.l.take (fpos m.l n) ++ m.l.drop (fpos m.l n + 1)) t) (f : FV) (hf : m.l[fpos m.l n]? = some f) (hc : cmpF n f = 0) (hn : isNm t = true) (hm : m.left < 9223372036854775808) (hy : m.may) (htk : fthere (m.l.take (fpos m.l n) ++ m.l.drop (fpos m.l n + 1)) t = true) :
    Calls Tryz.prog 148 #[.pointer (some ⟨b0, 0, none⟩), .pointer (some ⟨b1, 0, none⟩), .pointer (some ⟨b2, 0, none⟩)] w (RenTaken B m (fpos m.l n) f t w) := by
  have hfd := find_any m n w h hlen hr
  have hbn := fun w => isName_yes t w hn
  have ht : fthere m.l n = true := by unfold fthere; rw [hf]; simp [hc]
  rw [ht] at hfd
  have hil : fpos m.l n < m.l.length := (List.getElem?_eq_some_iff.1 hf).1
  obtain ⟨k, hk⟩ : ∃ k, m.l.length = k + 1 := ⟨m.l.length - 1, by omega⟩
  obtain ⟨F, cap, hv⟩ : ∃ F cap, m.fv = .slice (some ⟨F, 0, none⟩) (k + 1) cap := by
    rcases Joins.ownsRow_forms h.row with ⟨_, hl0⟩ | hv
    · omega
    · rw [hk] at hv; exact hv
  have c0 := h0.1
  have c1 := h1.1
  have HH := Lib.hid (And.intro h (And.intro h0 (And.intro h2 (And.intro hf (And.intro hm (And.intro hy (And.intro hv (And.intro hk (And.intro hrt htk)))))))))
  clear h hr h0 h1 h2 ht hm hy hc hf hv hn hrt htk
  generalize fpos m.l n = i at *
  rw [hk] at hil hlen
  clear hk
  go_enter Tryz.func148, Tryz.ntmps148
  go_wp2_with fail
  refine hfd.mono ?_
  rintro e w1 ⟨rfl, hb⟩
  obtain ⟨h, h0, h2, hf, hm, hy, hv, hk, _, _⟩ := HH.out
  have hs := spend_ok m w1 (h.below hb) hm hy
  have c0' := (h0.below hb).1
  have c2 := (h2.below hb).1
  have HB := Lib.hid hb; clear hb h h0 h2 hm hf hy hv hk c0 c1 hfd
  go_wp2_with fail
  refine (hbn _).mono ?_
  rintro e w2 ⟨rfl, rfl⟩
  clear hbn
  go_wp2_with fail
  refine hs.mono ?_
  rintro e w2 ⟨rfl, hl2, hc2⟩
  clear c0' c2 hs
  obtain ⟨h, h0, h2, hf, hm, hy, hv, hk, _, _⟩ := HH.out
  have K0 := (h0.below HB.out).chg hc2
  have K2 := (h2.below HB.out).chg hc2
  have k0 := K0.1
  have k2 := K2.1
  have z0 := K0.2.1
  have z2 := K2.2.1
  have kD := hl2.cell 1
  have hv2 : m.pay.fv = .slice (some ⟨F, 0, none⟩) (k + 1) cap := hv
  simp only [MS.head, List.getElem?_toArray, List.getElem?_cons_succ, List.getElem?_cons_zero, hv2] at kD
  have hDe : m.pay.D = m.D := rfl
  rw [hDe] at kD
  obtain ⟨-, hF, hFm, hrow⟩ := hl2.frow hv2
  obtain ⟨kn, kb, ks⟩ := hrow i f hf
  obtain ⟨pb, cb, hbv⟩ := hl2.forms (i := i) (f := f) hf
  have hDm : m.D ∈ m.pay.blks := by simp [MS.blks, MS.pay]
  have hDlt := (hl2.lt _ hDm).2
  have HL2 := Lib.hid (And.intro hl2 (And.intro ((Chg.of_below (m := m) HB.out).trans hc2) (And.intro hbv (And.intro K0.2.2 K2.2.2))))
  rw [hbv] at kb
  have hz := hl2.free 1
  rw [hDe] at hz
  have HKF := Lib.hid (show (F ≠ m.D) ∧ F ≠ b0 ∧ F ≠ b2 from ⟨fun e => hl2.nodup.1 F (by rw [hv2]; rfl) (by rw [e]; rfl), fun e => K0.2.2 (by rw [← e]; exact hFm), fun e => K2.2.2 (by rw [← e]; exact hFm)⟩)
  clear hl2 hc2 K0 K2 hrow hbv h h0 h2 hf hm hy hv hk hv2 hDe hDm hFm
  have hi0 : (0 : Int) ≤ (i : Int) := by omega
  have hw1 : IntKind.i64.wrap ((i : Int) + 1) = (i : Int) + 1 := by rw [IntKind.wrap_i64]; omega
  generalize f.body.length = nb at *
  go_wp2_with fail
  have HDL : Hid (Calls Tryz.prog 120 #[.slice (some ⟨F, 0, none⟩) (k + 1) cap, .int .i64 (i : Int), .int .i64 ((i : Int) + 1)] ((w2.alloc (.cells #[.string t, .slice pb nb cb, .int .i64 (f.sure : Int)] 70)).drew) (DelPost B F cap k ((fcells m.l).take (i * 3) ++ (fcells m.l).drop ((i + 1) * 3)) ((w2.alloc (.cells #[.string t, .slice pb nb cb, .int .i64 (f.sure : Int)] 70)).drew))) := by
    obtain ⟨_, _, _, hf, _, _, hv, hk, _⟩ := HH.out
    obtain ⟨hl2, _⟩ := HL2.out
    have hrow : OwnF B (.slice (some ⟨F, 0, none⟩) (k + 1) cap) (k + 1) (fcells m.l) w2 := by have := hl2.row; rw [show m.pay.fv = _ from hv, show m.pay.l.length = k + 1 from hk] at this; exact this
    exact delete_any B F cap k i (fcells m.l) _ (World.ownsRow.alloc hrow _) (by omega) (by omega) (one_cells (m := m.pay) hl2)
  have a0 : ((w2.alloc (.cells #[.string t, .slice pb nb cb, .int .i64 (f.sure : Int)] 70)).drew).cell? ⟨b0, 0, none⟩ = some (.pointer (some ⟨m.D, 0, none⟩)) := (World.cell?_alloc_past _ _ _ z0).trans k0
  have aD : ((w2.alloc (.cells #[.string t, .slice pb nb cb, .int .i64 (f.sure : Int)] 70)).drew).cell? ⟨m.D, 1, none⟩ = some (.slice (some ⟨F, 0, none⟩) (k + 1) cap) := (World.cell?_alloc_past _ _ _ hDlt).trans kD
  go_cut [] (fun wd => RenMid B m i f t w2.heap.size w wd)
  case first =>
    go_region_with (go_at_call 120; refine HDL.out.mono ?_; rintro e w3 ⟨rfl, ho, hg⟩; have HG := Lib.hid hg; have HO := Lib.hid ho; have k0' : w3.cell? ⟨b0, 0, none⟩ = some (.pointer (some ⟨m.D, 0, none⟩)) := (World.cell?_of_block (w := (w2.alloc (.cells #[.string t, .slice pb nb cb, .int .i64 (f.sure : Int)] 70)).drew) (a := ⟨b0, 0, none⟩) (hg.block b0 (by simp; omega) (by simp; exact fun e => HKF.out.2.1 e.symm))).trans a0; have kD' : w3.cell? ⟨m.D, 1, none⟩ = some (.slice (some ⟨F, 0, none⟩) (k + 1) cap) := (World.cell?_of_block (w := (w2.alloc (.cells #[.string t, .slice pb nb cb, .int .i64 (f.sure : Int)] 70)).drew) (a := ⟨m.D, 1, none⟩) (hg.block m.D (by simp; omega) (by simp; exact fun e => HKF.out.1 e.symm))).trans aD; have kz' : w3.frozen? ⟨m.D, 1, none⟩ = false := (World.frozen?_of_block (w := (w2.alloc (.cells #[.string t, .slice pb nb cb, .int .i64 (f.sure : Int)] 70)).drew) (a := ⟨m.D, 1, none⟩) (hg.block m.D (by simp; omega) (by simp; exact fun e => HKF.out.1 e.symm))).trans ((World.frozen?_alloc_past _ _ _ hDlt).trans hz); clear ho hg)
    all_goals
      go_wp2_with fail
      go_meet
      obtain ⟨_, _, _, hf, _, _, hv, hk, _⟩ := HH.out
      obtain ⟨hl2, hc2, hbv, hb0, hb2⟩ := HL2.out
      exact renMid_of hl2 hc2 hv hk hf (by omega) hbv HO.out HG.out
  case rest =>
    obtain ⟨v, hl3, hc3, hM, hloose, hbM, hfM⟩ := hcut
    obtain ⟨h, h0, h2, hf, hm, hy, hv, hk, hrt, htk⟩ := HH.out
    have K0 := h0.chg hc3
    have K2 := h2.chg hc3
    have k0 := K0.1
    have k2 := K2.1
    have hbv : ∃ pb nb cb, f.bv = .slice pb nb cb := (OwnB.form hloose.1).elim fun p h => h.elim fun c h => ⟨p, _, c, h⟩
    have hfblk : ∀ k, f.bv.ownBlock = some k → k ∈ m.blks := fun k hk => by simp only [MS.blks, List.mem_cons, List.mem_append]; exact .inr (.inr (mem_bblks.2 ⟨f, List.mem_of_getElem? hf, hk⟩))
    have hlen1 : (m.drop i v).l.length = k := by show (m.l.take i ++ m.l.drop (i + 1)).length = k; simp [hk]; omega
    have hfd2 := find_any (m.drop i v) t wc hl3 (by omega) hrt
    have hDe : (m.drop i v).D = m.D := rfl
    rw [hDe, show fthere (m.drop i v).l t = true from htk] at hfd2
    obtain ⟨j, hj⟩ : ∃ j, fpos (m.drop i v).l t = j := ⟨_, rfl⟩
    rw [hj] at hfd2
    have hM0 : wc.cell? ⟨w2.heap.size, 0, none⟩ = some (.string t) := by rw [Joins.cell_of_block hM]; rfl
    have hM1 : wc.cell? ⟨w2.heap.size, 1, none⟩ = some f.bv := by rw [Joins.cell_of_block hM]; rfl
    have hM2 : wc.cell? ⟨w2.heap.size, 2, none⟩ = some (.int .i64 (f.sure : Int)) := by rw [Joins.cell_of_block hM]; rfl
    have hMlt : w2.heap.size < wc.heap.size := World.block_lt_of_cell? wc _ hM0
    have hMn : w2.heap.size ∉ (m.drop i v).blks := fun hm => by have := hbM _ hm; omega
    have HX := Lib.hid (And.intro hl3 (And.intro hc3 (And.intro hloose (And.intro hfblk (And.intro hlen1 (And.intro hj (And.intro htk (And.intro K0 (And.intro hM0 (And.intro hM1 (And.intro hM2 hMn)))))))))))
    clear hl3 hc3 hloose hfblk hlen1 hj htk K0 K2 hM0 hM1 hM2 hMn hM hbM hfM h h0 h2 hf hm hy hv hk hrt hDe a0 aD kn kb ks kD hz HDL hF hDlt z0 z2
    go_wp2_with fail
    refine hfd2.mono ?_
    rintro e w5 ⟨rfl, hb5⟩
    obtain ⟨hl3, hc3, hloose, hfblk, hlen1, hj, htk, K0, hM0, hM1, hM2, hMn⟩ := HX.out
    have hl5 := hl3.below hb5
    have hlo5 := hloose.below hb5
    have k0 := (K0.below hb5).1
    have HB5 := Lib.hid hb5
    have kM0 : w5.cell? ⟨w2.heap.size, 0, none⟩ = some (.string t) := (hb5.cell (p := ⟨w2.heap.size, 0, none⟩) hMlt).trans hM0
    have kM1 : w5.cell? ⟨w2.heap.size, 1, none⟩ = some f.bv := (hb5.cell (p := ⟨w2.heap.size, 1, none⟩) hMlt).trans hM1
    have kM2 : w5.cell? ⟨w2.heap.size, 2, none⟩ = some (.int .i64 (f.sure : Int)) := (hb5.cell (p := ⟨w2.heap.size, 2, none⟩) hMlt).trans hM2
    have kD := hl5.cell 1
    simp only [MS.head, List.getElem?_toArray, List.getElem?_cons_succ, List.getElem?_cons_zero] at kD
    have kD : w5.cell? ⟨m.D, 1, none⟩ = some v := kD
    obtain ⟨pb, nb, cb, hbv⟩ := hbv
    obtain ⟨g, hg, -⟩ := there_at (l := (m.drop i v).l) htk
    rw [hj] at hg
    have hjl : j < k := by rw [← hlen1]; exact (List.getElem?_eq_some_iff.1 hg).1
    obtain ⟨F2, c2, hv5⟩ : ∃ F2 c2, v = .slice (some ⟨F2, 0, none⟩) k c2 := by
      have := Joins.ownsRow_form hl5.row (by rw [hlen1]; omega)
      rw [hlen1] at this
      exact this
    obtain ⟨-, hF2, -, hrow5⟩ := hl5.frow (show (m.drop i v).fv = _ from hv5)
    obtain ⟨g0, g1, g2⟩ := hrow5 j g hg
    have hr5 := hl5.row
    rw [show (m.drop i v).fv = _ from hv5, hlen1] at hr5
    have fr := World.ownsRow.frozenAt hr5
    have fr0 := fr (j * 3)
    have fr1 := fr (j * 3 + 1)
    have fr2 := fr (j * 3 + 2)
    have hlo5' : Loose B (m.drop i v) { f with name := t } w5 := hlo5
    obtain ⟨hL, hkp, hFm⟩ := hl5.setLoose hlo5' (show (m.drop i v).fv = _ from hv5) hg
    have HP := Lib.hid (show RenTaken B m i f t w (.returned (.int .i64 0)) (put3 w5 F2 (j * 3) (.string t) f.bv (.int .i64 (f.sure : Int))).drew from
      ⟨v, rfl, by rw [hj]; exact hL.drew, by
        rw [hj]
        refine (chg_loose (wc := w5) (w' := put3 w5 F2 (j * 3) (.string t) f.bv (.int .i64 (f.sure : Int))) (hc3.trans (Chg.of_below HB5.out)) (m2 := { m.drop i v with l := (m.drop i v).l.set j { f with name := t } }) rfl (.inl rfl) (fun x hx => ?_) rfl rfl rfl (by simp [put3]) (fun x hx hn => hkp x (fun e => hn (by rw [e]; exact hFm)))).drew
        obtain ⟨y, hy, hyx⟩ := mem_bblks.1 hx
        rcases List.mem_or_eq_of_mem_set hy with hy | rfl
        · exact .inl (mem_bblks.2 ⟨y, hy, hyx⟩)
        · exact .inr (hfblk x hyx)⟩)
    obtain ⟨pg, cg, hgbv⟩ := hl5.forms (i := j) (f := g) hg
    generalize g.body.length = ng at hgbv
    rw [hv5] at kD
    rw [hbv] at kM1 HP
    clear hL hkp hFm hlo5' hlo5 hl5 hr5 fr hrow5 hb5 hl3 hc3 hloose hfblk hj htk K0 hM0 hM1 hM2 hMn hg hlen1 HH HX hfd2 hv5
    rw [hgbv] at g1
    have hj0 : (0 : Int) ≤ (j : Int) := by omega
    have hj1 : (j : Int) < (k : Int) := by omega
    go_wp2_with fail
    go_region
    go_wp2_with fail
    go_ret
    exact HP.out

set_option maxHeartbeats 4000000 in
set_option maxRecDepth 100000 in
theorem renameC_free {B : Nat} (m : MS) (n t : ByteArray) (b0 b1 b2 : Nat) (w : World) (h : Lies B m w) (hlen : m.l.length ≤ 1024) (hr : Rises m.l n) (h0 : Box m b0 (.pointer (some ⟨m.D, 0, none⟩)) w) (h1 : Box m b1 (.string n) w) (h2 : Box m b2 (.string t) w) (hrt : Rises (m.l.take (fpos m.l n) ++ m.l.drop (fpos m.l n + 1)) t) (f : FV) (hf : m.l[fpos m.l n]? = some f) (hc : cmpF n f = 0) (hn : isNm t = true) (hm : m.left < 9223372036854775808) (hy : m.may) (htk : fthere (m.l.take (fpos m.l n) ++ m.l.drop (fpos m.l n + 1)) t = false) :
    Calls Tryz.prog 148 #[.pointer (some ⟨b0, 0, none⟩), .pointer (some ⟨b1, 0, none⟩), .pointer (some ⟨b2, 0, none⟩)] w (RenFree B m (fpos m.l n) f t w) := by
  have hfd := find_any m n w h hlen hr
  have hbn := fun w => isName_yes t w hn
  have ht : fthere m.l n = true := by unfold fthere; rw [hf]; simp [hc]
  rw [ht] at hfd
  have hil : fpos m.l n < m.l.length := (List.getElem?_eq_some_iff.1 hf).1
  obtain ⟨k, hk⟩ : ∃ k, m.l.length = k + 1 := ⟨m.l.length - 1, by omega⟩
  obtain ⟨F, cap, hv⟩ : ∃ F cap, m.fv = .slice (some ⟨F, 0, none⟩) (k + 1) cap := by
    rcases Joins.ownsRow_forms h.row with ⟨_, hl0⟩ | hv
    · omega
    · rw [hk] at hv; exact hv
  have c0 := h0.1
  have c1 := h1.1
  have HH := Lib.hid (And.intro h (And.intro h0 (And.intro h2 (And.intro hf (And.intro hm (And.intro hy (And.intro hv (And.intro hk (And.intro hrt htk)))))))))
  clear h hr h0 h1 h2 ht hm hy hc hf hv hn hrt htk
  generalize fpos m.l n = i at *
  rw [hk] at hil hlen
  clear hk
  go_enter Tryz.func148, Tryz.ntmps148
  go_wp2_with fail
  refine hfd.mono ?_
  rintro e w1 ⟨rfl, hb⟩
  obtain ⟨h, h0, h2, hf, hm, hy, hv, hk, _, _⟩ := HH.out
  have hs := spend_ok m w1 (h.below hb) hm hy
  have c0' := (h0.below hb).1
  have c2 := (h2.below hb).1
  have HB := Lib.hid hb; clear hb h h0 h2 hm hf hy hv hk c0 c1 hfd
  go_wp2_with fail
  refine (hbn _).mono ?_
  rintro e w2 ⟨rfl, rfl⟩
  clear hbn
  go_wp2_with fail
  refine hs.mono ?_
  rintro e w2 ⟨rfl, hl2, hc2⟩
  clear c0' c2 hs
  obtain ⟨h, h0, h2, hf, hm, hy, hv, hk, _, _⟩ := HH.out
  have K0 := (h0.below HB.out).chg hc2
  have K2 := (h2.below HB.out).chg hc2
  have k0 := K0.1
  have k2 := K2.1
  have z0 := K0.2.1
  have z2 := K2.2.1
  have kD := hl2.cell 1
  have hv2 : m.pay.fv = .slice (some ⟨F, 0, none⟩) (k + 1) cap := hv
  simp only [MS.head, List.getElem?_toArray, List.getElem?_cons_succ, List.getElem?_cons_zero, hv2] at kD
  have hDe : m.pay.D = m.D := rfl
  rw [hDe] at kD
  obtain ⟨-, hF, hFm, hrow⟩ := hl2.frow hv2
  obtain ⟨kn, kb, ks⟩ := hrow i f hf
  obtain ⟨pb, cb, hbv⟩ := hl2.forms (i := i) (f := f) hf
  have hDm : m.D ∈ m.pay.blks := by simp [MS.blks, MS.pay]
  have hDlt := (hl2.lt _ hDm).2
  have HL2 := Lib.hid (And.intro hl2 (And.intro ((Chg.of_below (m := m) HB.out).trans hc2) (And.intro hbv (And.intro K0.2.2 K2.2.2))))
  rw [hbv] at kb
  have hz := hl2.free 1
  rw [hDe] at hz
  have HKF := Lib.hid (show (F ≠ m.D) ∧ F ≠ b0 ∧ F ≠ b2 from ⟨fun e => hl2.nodup.1 F (by rw [hv2]; rfl) (by rw [e]; rfl), fun e => K0.2.2 (by rw [← e]; exact hFm), fun e => K2.2.2 (by rw [← e]; exact hFm)⟩)
  clear hl2 hc2 K0 K2 hrow hbv h h0 h2 hf hm hy hv hk hv2 hDe hDm hFm
  have hi0 : (0 : Int) ≤ (i : Int) := by omega
  have hw1 : IntKind.i64.wrap ((i : Int) + 1) = (i : Int) + 1 := by rw [IntKind.wrap_i64]; omega
  generalize f.body.length = nb at *
  go_wp2_with fail
  have HDL : Hid (Calls Tryz.prog 120 #[.slice (some ⟨F, 0, none⟩) (k + 1) cap, .int .i64 (i : Int), .int .i64 ((i : Int) + 1)] ((w2.alloc (.cells #[.string t, .slice pb nb cb, .int .i64 (f.sure : Int)] 70)).drew) (DelPost B F cap k ((fcells m.l).take (i * 3) ++ (fcells m.l).drop ((i + 1) * 3)) ((w2.alloc (.cells #[.string t, .slice pb nb cb, .int .i64 (f.sure : Int)] 70)).drew))) := by
    obtain ⟨_, _, _, hf, _, _, hv, hk, _⟩ := HH.out
    obtain ⟨hl2, _⟩ := HL2.out
    have hrow : OwnF B (.slice (some ⟨F, 0, none⟩) (k + 1) cap) (k + 1) (fcells m.l) w2 := by have := hl2.row; rw [show m.pay.fv = _ from hv, show m.pay.l.length = k + 1 from hk] at this; exact this
    exact delete_any B F cap k i (fcells m.l) _ (World.ownsRow.alloc hrow _) (by omega) (by omega) (one_cells (m := m.pay) hl2)
  have a0 : ((w2.alloc (.cells #[.string t, .slice pb nb cb, .int .i64 (f.sure : Int)] 70)).drew).cell? ⟨b0, 0, none⟩ = some (.pointer (some ⟨m.D, 0, none⟩)) := (World.cell?_alloc_past _ _ _ z0).trans k0
  have aD : ((w2.alloc (.cells #[.string t, .slice pb nb cb, .int .i64 (f.sure : Int)] 70)).drew).cell? ⟨m.D, 1, none⟩ = some (.slice (some ⟨F, 0, none⟩) (k + 1) cap) := (World.cell?_alloc_past _ _ _ hDlt).trans kD
  go_cut [] (fun wd => RenMid B m i f t w2.heap.size w wd)
  case first =>
    go_region_with (go_at_call 120; refine HDL.out.mono ?_; rintro e w3 ⟨rfl, ho, hg⟩; have HG := Lib.hid hg; have HO := Lib.hid ho; have k0' : w3.cell? ⟨b0, 0, none⟩ = some (.pointer (some ⟨m.D, 0, none⟩)) := (World.cell?_of_block (w := (w2.alloc (.cells #[.string t, .slice pb nb cb, .int .i64 (f.sure : Int)] 70)).drew) (a := ⟨b0, 0, none⟩) (hg.block b0 (by simp; omega) (by simp; exact fun e => HKF.out.2.1 e.symm))).trans a0; have kD' : w3.cell? ⟨m.D, 1, none⟩ = some (.slice (some ⟨F, 0, none⟩) (k + 1) cap) := (World.cell?_of_block (w := (w2.alloc (.cells #[.string t, .slice pb nb cb, .int .i64 (f.sure : Int)] 70)).drew) (a := ⟨m.D, 1, none⟩) (hg.block m.D (by simp; omega) (by simp; exact fun e => HKF.out.1 e.symm))).trans aD; have kz' : w3.frozen? ⟨m.D, 1, none⟩ = false := (World.frozen?_of_block (w := (w2.alloc (.cells #[.string t, .slice pb nb cb, .int .i64 (f.sure : Int)] 70)).drew) (a := ⟨m.D, 1, none⟩) (hg.block m.D (by simp; omega) (by simp; exact fun e => HKF.out.1 e.symm))).trans ((World.frozen?_alloc_past _ _ _ hDlt).trans hz); clear ho hg)
    all_goals
      go_wp2_with fail
      go_meet
      obtain ⟨_, _, _, hf, _, _, hv, hk, _⟩ := HH.out
      obtain ⟨hl2, hc2, hbv, hb0, hb2⟩ := HL2.out
      exact renMid_of hl2 hc2 hv hk hf (by omega) hbv HO.out HG.out
  case rest =>
    obtain ⟨v, hl3, hc3, hM, hloose, hbM, hfM⟩ := hcut
    obtain ⟨h, h0, h2, hf, hm, hy, hv, hk, hrt, htk⟩ := HH.out
    have K0 := h0.chg hc3
    have K2 := h2.chg hc3
    have k0 := K0.1
    have k2 := K2.1
    have hbv : ∃ pb nb cb, f.bv = .slice pb nb cb := (OwnB.form hloose.1).elim fun p h => h.elim fun c h => ⟨p, _, c, h⟩
    have hfblk : ∀ k, f.bv.ownBlock = some k → k ∈ m.blks := fun k hk => by simp only [MS.blks, List.mem_cons, List.mem_append]; exact .inr (.inr (mem_bblks.2 ⟨f, List.mem_of_getElem? hf, hk⟩))
    have hlen1 : (m.drop i v).l.length = k := by show (m.l.take i ++ m.l.drop (i + 1)).length = k; simp [hk]; omega
    have hfd2 := find_any (m.drop i v) t wc hl3 (by omega) hrt
    have hDe : (m.drop i v).D = m.D := rfl
    rw [hDe, show fthere (m.drop i v).l t = false from htk] at hfd2
    obtain ⟨j, hj⟩ : ∃ j, fpos (m.drop i v).l t = j := ⟨_, rfl⟩
    rw [hj] at hfd2
    have hM0 : wc.cell? ⟨w2.heap.size, 0, none⟩ = some (.string t) := by rw [Joins.cell_of_block hM]; rfl
    have hM1 : wc.cell? ⟨w2.heap.size, 1, none⟩ = some f.bv := by rw [Joins.cell_of_block hM]; rfl
    have hM2 : wc.cell? ⟨w2.heap.size, 2, none⟩ = some (.int .i64 (f.sure : Int)) := by rw [Joins.cell_of_block hM]; rfl
    have hMlt : w2.heap.size < wc.heap.size := World.block_lt_of_cell? wc _ hM0
    have hMn : w2.heap.size ∉ (m.drop i v).blks := fun hm => by have := hbM _ hm; omega
    have HX := Lib.hid (And.intro hl3 (And.intro hc3 (And.intro hloose (And.intro hfblk (And.intro hlen1 (And.intro hj (And.intro htk (And.intro K0 (And.intro hM0 (And.intro hM1 (And.intro hM2 hMn)))))))))))
    clear hl3 hc3 hloose hfblk hlen1 hj htk K0 K2 hM0 hM1 hM2 hMn hM hbM hfM h h0 h2 hf hm hy hv hk hrt hDe a0 aD kn kb ks kD hz HDL hF hDlt z0 z2
    go_wp2_with fail
    refine hfd2.mono ?_
    rintro e w5 ⟨rfl, hb5⟩
    obtain ⟨hl3, hc3, hloose, hfblk, hlen1, hj, -, K0, hM0, hM1, hM2, hMn⟩ := HX.out
    have hl5 := hl3.below hb5
    have hlo5 := hloose.below hb5
    have k0 := (K0.below hb5).1
    have HB5 := Lib.hid hb5
    have kM0 : w5.cell? ⟨w2.heap.size, 0, none⟩ = some (.string t) := (hb5.cell (p := ⟨w2.heap.size, 0, none⟩) hMlt).trans hM0
    have kM1 : w5.cell? ⟨w2.heap.size, 1, none⟩ = some f.bv := (hb5.cell (p := ⟨w2.heap.size, 1, none⟩) hMlt).trans hM1
    have kM2 : w5.cell? ⟨w2.heap.size, 2, none⟩ = some (.int .i64 (f.sure : Int)) := (hb5.cell (p := ⟨w2.heap.size, 2, none⟩) hMlt).trans hM2
    have kD := hl5.cell 1
    simp only [MS.head, List.getElem?_toArray, List.getElem?_cons_succ, List.getElem?_cons_zero] at kD
    have kD : w5.cell? ⟨m.D, 1, none⟩ = some v := kD
    obtain ⟨pb, nb, cb, hbv⟩ := hbv
    have hjl : j ≤ k := by rw [← hlen1, ← hj]; exact fposR_le _ _
    obtain ⟨p5, c5, hv5⟩ : ∃ p5 c5, v = .slice p5 k c5 := by
      rcases Joins.ownsRow_forms hl5.row with ⟨hv5, h0⟩ | ⟨F5, c5, hv5⟩
      · exact ⟨none, 0, by rw [hlen1] at h0; rw [h0]; exact hv5⟩
      · exact ⟨_, c5, by rw [hlen1] at hv5; exact hv5⟩
    have hDm : m.D ∈ (m.drop i v).blks := by simp [MS.blks, MS.drop, MS.pay]
    have hD5 := (hl5.lt _ hDm).2
    have hB5 : B ≤ w5.heap.size := Nat.le_trans hl5.base (Nat.le_of_lt hD5)
    have K5 := K0.below HB5.out
    have z0 := K5.2.1
    have hMlt5 : w2.heap.size < w5.heap.size := Nat.lt_of_lt_of_le hMlt hb5.size
    have hins := insert_any B v k j (fcells (m.drop i v).l) (.string t) (.slice pb nb cb) (.int .i64 (f.sure : Int)) w5.heap.size ((w5.alloc (.cells #[.string t, .slice pb nb cb, .int .i64 (f.sure : Int)] 70)).drew)
      (by have := hl5.row; rw [hlen1] at this; exact World.ownsRow.alloc this _) (by omega) hjl (by simp; omega) (fun e => by
        have := (World.ownsRow.lt hl5.row w5.heap.size e).2
        omega) (heap_alloc_new w5 _) (by simp [Value.oneCell']) (one_cells (m := m.drop i v) hl5)
    have HINS := Lib.hid hins
    have hlo5' : Loose B (m.drop i v) { f with name := t } w5 := hlo5
    have HMID := Lib.hid (fun (w3 : World) (v3 : Value) (ho : OwnF B v3 (k + 1) ((fcells (m.drop i v).l).take (j * 3) ++ ([.string t, .slice pb nb cb, .int .i64 (f.sure : Int)] ++ (fcells (m.drop i v).l).drop (j * 3))) w3) (hg : World.grownBy ((w5.alloc (.cells #[.string t, .slice pb nb cb, .int .i64 (f.sure : Int)] 70)).drew) w3 v.ownBlock) (hsf : SF ((w5.alloc (.cells #[.string t, .slice pb nb cb, .int .i64 (f.sure : Int)] 70)).drew) v v3) =>
      (show RenFree B m i f t w (.returned (.int .i64 0)) (w3.setCell ⟨m.D, 1, none⟩ v3) from by
        obtain ⟨i1, i2, i3, i4, i5, i6, i7⟩ := Lies.insLoose (m := m.drop i v) (f := { f with name := t }) (wa := (w5.alloc (.cells #[.string t, .slice pb nb cb, .int .i64 (f.sure : Int)] 70)).drew) (w3 := w3) (v := v3) (j := j) (by rw [hlen1]; exact hjl) hl5 hlo5' ⟨rfl, rfl, rfl, by simp, fun x hx _ => Below.heap_alloc w5 _ x hx⟩ (by rw [hlen1]; simpa [FV.cells, hbv] using ho) hg hsf
        refine ⟨v3, rfl, ?_, ?_⟩
        · rw [show fpos (m.l.take i ++ m.l.drop (i + 1)) t = j from hj]; exact i1
        · rw [show fpos (m.l.take i ++ m.l.drop (i + 1)) t = j from hj]
          refine chg_loose (wc := w5) (hc3.trans (Chg.of_below HB5.out)) (m2 := { m.pay with fv := v3, l := (m.l.take i ++ m.l.drop (i + 1)).take j ++ { f with name := t } :: (m.l.take i ++ m.l.drop (i + 1)).drop j }) rfl i7 (fun x hx => ?_) i2 i3 i4 i5 i6
          obtain ⟨y, hy, hyx⟩ := mem_bblks.1 hx
          rcases mem_ins hy with rfl | hy
          · exact .inr (hfblk x hyx)
          · exact .inl (mem_bblks.2 ⟨y, hy, hyx⟩)))
    have hz := hl5.free 1
    rw [show (m.drop i v).D = m.D from rfl] at hz
    have HNB := Lib.hid (show (v.ownBlock ≠ some m.D) ∧ (v.ownBlock ≠ some b0) ∧ (v.ownBlock ≠ some w2.heap.size) ∧ b0 ≠ m.D ∧ w2.heap.size ≠ m.D from
      ⟨fun e => hl5.nodup.1 m.D e rfl, fun e => K5.2.2 (by simp [MS.blks, MS.drop, e]), fun e => hMn (by simp [MS.blks, MS.drop, e]), fun e => K5.2.2 (by rw [e]; exact hDm), fun e => hMn (by rw [e]; exact hDm)⟩)
    have HV := Lib.hid hv5
    rw [hv5] at kD hins
    rw [hbv] at kM1
    have HINS := Lib.hid hins
    clear hins hlo5' hlo5 hl5 hb5 hl3 hc3 hloose hfblk hj K0 hM0 hM1 hM2 hMn hlen1 HH HX hfd2 hv5 K5 hDm hB5
    have a0 : ((w5.alloc (.cells #[.string t, .slice pb nb cb, .int .i64 (f.sure : Int)] 70)).drew).cell? ⟨b0, 0, none⟩ = some (.pointer (some ⟨m.D, 0, none⟩)) := (World.cell?_alloc_past _ _ _ z0).trans k0
    have aM0 : ((w5.alloc (.cells #[.string t, .slice pb nb cb, .int .i64 (f.sure : Int)] 70)).drew).cell? ⟨w2.heap.size, 0, none⟩ = some (.string t) := (World.cell?_alloc_past _ _ _ hMlt5).trans kM0
    have aM1 : ((w5.alloc (.cells #[.string t, .slice pb nb cb, .int .i64 (f.sure : Int)] 70)).drew).cell? ⟨w2.heap.size, 1, none⟩ = some (.slice pb nb cb) := (World.cell?_alloc_past _ _ _ hMlt5).trans kM1
    have aM2 : ((w5.alloc (.cells #[.string t, .slice pb nb cb, .int .i64 (f.sure : Int)] 70)).drew).cell? ⟨w2.heap.size, 2, none⟩ = some (.int .i64 (f.sure : Int)) := (World.cell?_alloc_past _ _ _ hMlt5).trans kM2
    go_wp2_with fail
    refine wp_region_held_drew (S := fun W => W.cell? ⟨b0, 0, none⟩ = some (.pointer (some ⟨m.D, 0, none⟩)) ∧ W.cell? ⟨w2.heap.size, 0, none⟩ = some (.string t) ∧ W.cell? ⟨w2.heap.size, 1, none⟩ = some (.slice pb nb cb) ∧ W.cell? ⟨w2.heap.size, 2, none⟩ = some (.int .i64 (f.sure : Int))) (by kernel_rfl) ⟨k0, kM0, kM1, kM2⟩ (fun _ => ?_)
    refine wpAnyH_take (i := 0) (v := ?_) rfl (by kernel_rfl) (by kernel_rfl) (by kernel_rfl) (fun _ _ _ h => h) (Or.inl ⟨by rfl, ?_⟩) ⟨k0, kM0, kM1, kM2⟩ ?_
    rotate_left
    · intro W hSw; obtain ⟨s1, s2, s3, s4⟩ := hSw; go_simp <;> with_reducible rfl
    try simp only [Act.put, List.getElem_toArray, List.getElem_cons_zero, List.setIfInBounds_toArray, List.set_cons_zero, List.set_cons_succ]
    refine wpAnyH_take (i := 1) (v := ?_) rfl (by kernel_rfl) (by kernel_rfl) (by kernel_rfl) (fun _ _ _ h => h) (Or.inl ⟨by rfl, ?_⟩) ⟨k0, kM0, kM1, kM2⟩ ?_
    rotate_left
    · intro W hSw; obtain ⟨s1, s2, s3, s4⟩ := hSw; go_simp <;> with_reducible rfl
    try simp only [Act.put, List.getElem_toArray, List.getElem_cons_zero, List.getElem_cons_succ, List.setIfInBounds_toArray, List.set_cons_zero, List.set_cons_succ]
    refine wpAnyH_take (i := 2) (v := ?_) rfl (by kernel_rfl) (by kernel_rfl) (by kernel_rfl) (fun _ _ _ h => h) (Or.inl ⟨by rfl, ?_⟩) ⟨k0, kM0, kM1, kM2⟩ ?_
    rotate_left
    · intro W hSw; obtain ⟨s1, s2, s3, s4⟩ := hSw; go_simp <;> with_reducible rfl
    try simp only [Act.put, List.getElem_toArray, List.getElem_cons_zero, List.getElem_cons_succ, List.setIfInBounds_toArray, List.set_cons_zero, List.set_cons_succ]
    refine wpAnyH_take (i := 3) (v := ?_) rfl (by kernel_rfl) (by kernel_rfl) (by kernel_rfl) (fun _ _ _ h => h) (Or.inl ⟨by rfl, ?_⟩) ⟨k0, kM0, kM1, kM2⟩ ?_
    rotate_left
    · intro W hSw; obtain ⟨s1, s2, s3, s4⟩ := hSw; go_simp <;> with_reducible rfl
    try simp only [Act.put, List.getElem_toArray, List.getElem_cons_zero, List.getElem_cons_succ, List.setIfInBounds_toArray, List.set_cons_zero, List.set_cons_succ]
    refine wpAnyH_take (i := 5) (v := ?_) rfl (by kernel_rfl) (by kernel_rfl) (by kernel_rfl) (fun _ _ _ h => h) (Or.inl ⟨by rfl, ?_⟩) ⟨k0, kM0, kM1, kM2⟩ ?_
    rotate_left
    · intro W hSw; obtain ⟨s1, s2, s3, s4⟩ := hSw; go_simp <;> with_reducible rfl
    try simp only [Act.put, List.getElem_toArray, List.getElem_cons_zero, List.getElem_cons_succ, List.setIfInBounds_toArray, List.set_cons_zero, List.set_cons_succ]
    refine wpAnyH_take (i := 6) (v := ?_) rfl (by kernel_rfl) (by kernel_rfl) (by kernel_rfl) (fun _ _ _ h => h) (Or.inl ⟨by rfl, ?_⟩) ⟨k0, kM0, kM1, kM2⟩ ?_
    rotate_left
    · intro W hSw; obtain ⟨s1, s2, s3, s4⟩ := hSw; go_simp <;> with_reducible rfl
    try simp only [Act.put, List.getElem_toArray, List.getElem_cons_zero, List.getElem_cons_succ, List.setIfInBounds_toArray, List.set_cons_zero, List.set_cons_succ]
    refine wpAnyH_ready (rs := [4, 7]) (by kernel_rfl) (by simp) ?_
    refine AllReadyH.cons rfl (fun K hK => ?_) (AllReadyH.cons rfl (fun K hK => ?_) AllReadyH.nil)
    · go_simp
      refine hK.out _ _ ⟨k0, kM0, kM1, kM2⟩ (fun _ => ?_)
      clear hK K
      try simp only [Act.put, List.getElem_toArray, List.getElem_cons_zero, List.getElem_cons_succ, List.setIfInBounds_toArray, List.set_cons_zero, List.set_cons_succ]
      refine wpAnyH_ready (rs := [7]) (by kernel_rfl) (by simp) ?_
      refine AllReadyH.cons rfl (fun K hK => ?_) AllReadyH.nil
      go_simp
      refine hK.out _ _ ⟨a0, aM0, aM1, aM2⟩ (fun _ => ?_)
      clear hK K
      try simp only [Act.put, List.getElem_toArray, List.getElem_cons_zero, List.getElem_cons_succ, List.setIfInBounds_toArray, List.set_cons_zero, List.set_cons_succ]
      refine wpAnyH_ready (rs := [8]) (by kernel_rfl) (by simp) ?_
      refine AllReadyH.cons rfl (fun K hK => ?_) AllReadyH.nil
      go_simp
      refine HINS.out.mono ?_
      rintro e w3 ⟨v3, rfl, ho, hg, hsf⟩
      obtain ⟨F3, c3, rfl⟩ := Joins.ownsRow_form ho (by omega)
      rw [← HV.out] at hg hsf
      have hkp : ∀ x, x < w5.heap.size → v.ownBlock ≠ some x → w3.heap[x]? = w5.heap[x]? := fun x hx hne => (hg.block x (by simp; omega) (fun e => hne e.symm)).trans (Below.heap_alloc w5 _ x hx)
      have l0 : w3.cell? ⟨b0, 0, none⟩ = some (.pointer (some ⟨m.D, 0, none⟩)) := (World.cell?_of_block (w := w5) (a := ⟨b0, 0, none⟩) (hkp b0 z0 HNB.out.2.1)).trans k0
      have lM0 : w3.cell? ⟨w2.heap.size, 0, none⟩ = some (.string t) := (World.cell?_of_block (w := w5) (a := ⟨w2.heap.size, 0, none⟩) (hkp _ hMlt5 HNB.out.2.2.1)).trans kM0
      have lM1 : w3.cell? ⟨w2.heap.size, 1, none⟩ = some (.slice pb nb cb) := (World.cell?_of_block (w := w5) (a := ⟨w2.heap.size, 1, none⟩) (hkp _ hMlt5 HNB.out.2.2.1)).trans kM1
      have lM2 : w3.cell? ⟨w2.heap.size, 2, none⟩ = some (.int .i64 (f.sure : Int)) := (World.cell?_of_block (w := w5) (a := ⟨w2.heap.size, 2, none⟩) (hkp _ hMlt5 HNB.out.2.2.1)).trans kM2
      have lD : w3.cell? ⟨m.D, 1, none⟩ = some (.slice p5 k c5) := (World.cell?_of_block (w := w5) (a := ⟨m.D, 1, none⟩) (hkp m.D hD5 HNB.out.1)).trans kD
      have lz : w3.frozen? ⟨m.D, 1, none⟩ = false := (World.frozen?_of_block (w := w5) (a := ⟨m.D, 1, none⟩) (hkp m.D hD5 HNB.out.1)).trans hz
      have HM3 := Lib.hid (HMID.out w3 _ ho hg hsf)
      clear ho hg hsf hkp
      go_wp2_with fail
      refine hK.out _ _ ⟨l0, lM0, lM1, lM2⟩ (fun _ => ?_)
      clear hK K
      try simp only [Act.put, List.getElem_toArray, List.getElem_cons_zero, List.getElem_cons_succ, List.setIfInBounds_toArray, List.set_cons_zero, List.set_cons_succ]
      refine wpAnyH_take (i := 9) (v := ?_) rfl (by kernel_rfl) (by kernel_rfl) (by kernel_rfl) (fun _ _ _ h => h) (Or.inl ⟨by rfl, ?_⟩) ⟨l0, lM0, lM1, lM2⟩ ?_
      rotate_left
      · intro W hSw; obtain ⟨s1, s2, s3, s4⟩ := hSw; go_simp <;> with_reducible rfl
      try simp only [Act.put, List.getElem_toArray, List.getElem_cons_zero, List.getElem_cons_succ, List.setIfInBounds_toArray, List.set_cons_zero, List.set_cons_succ]
      refine wpAnyH_take (i := 10) (v := ?_) rfl (by kernel_rfl) (by kernel_rfl) (by kernel_rfl) (fun _ _ _ h => h) (Or.inl ⟨by rfl, ?_⟩) ⟨l0, lM0, lM1, lM2⟩ ?_
      rotate_left
      · intro W hSw; obtain ⟨s1, s2, s3, s4⟩ := hSw; go_simp <;> with_reducible rfl
      try simp only [Act.put, List.getElem_toArray, List.getElem_cons_zero, List.getElem_cons_succ, List.setIfInBounds_toArray, List.set_cons_zero, List.set_cons_succ]
      have l0' : (w3.setCell ⟨m.D, 1, none⟩ (.slice (some ⟨F3, 0, none⟩) (k + 1) c3)).cell? ⟨b0, 0, none⟩ = some (.pointer (some ⟨m.D, 0, none⟩)) := (World.cell?_of_block (w := w3) (a := ⟨b0, 0, none⟩) (Below.heap_setCell _ _ _ _ HNB.out.2.2.2.1)).trans l0
      have lM0' : (w3.setCell ⟨m.D, 1, none⟩ (.slice (some ⟨F3, 0, none⟩) (k + 1) c3)).cell? ⟨w2.heap.size, 0, none⟩ = some (.string t) := (World.cell?_of_block (w := w3) (a := ⟨w2.heap.size, 0, none⟩) (Below.heap_setCell _ _ _ _ HNB.out.2.2.2.2)).trans lM0
      have lM1' : (w3.setCell ⟨m.D, 1, none⟩ (.slice (some ⟨F3, 0, none⟩) (k + 1) c3)).cell? ⟨w2.heap.size, 1, none⟩ = some (.slice pb nb cb) := (World.cell?_of_block (w := w3) (a := ⟨w2.heap.size, 1, none⟩) (Below.heap_setCell _ _ _ _ HNB.out.2.2.2.2)).trans lM1
      have lM2' : (w3.setCell ⟨m.D, 1, none⟩ (.slice (some ⟨F3, 0, none⟩) (k + 1) c3)).cell? ⟨w2.heap.size, 2, none⟩ = some (.int .i64 (f.sure : Int)) := (World.cell?_of_block (w := w3) (a := ⟨w2.heap.size, 2, none⟩) (Below.heap_setCell _ _ _ _ HNB.out.2.2.2.2)).trans lM2
      refine wpAnyH_ready (rs := [11]) (by kernel_rfl) (by simp) ?_
      refine AllReadyH.cons rfl (fun K hK => ?_) AllReadyH.nil
      go_simp
      refine hK.out _ _ ⟨l0', lM0', lM1', lM2'⟩ (fun _ => ?_)
      clear hK K
      try simp only [Act.put, List.getElem_toArray, List.getElem_cons_zero, List.getElem_cons_succ, List.setIfInBounds_toArray, List.set_cons_zero, List.set_cons_succ]
      refine wpAnyH_done (by kernel_rfl) ?_ _
      go_wp2_with fail
      go_ret
      exact HM3.out
    · go_simp
      refine hK.out _ _ ⟨a0, aM0, aM1, aM2⟩ (fun _ => ?_)
      clear hK K
      try simp only [Act.put, List.getElem_toArray, List.getElem_cons_zero, List.getElem_cons_succ, List.setIfInBounds_toArray, List.set_cons_zero, List.set_cons_succ]
      refine wpAnyH_ready (rs := [4]) (by kernel_rfl) (by simp) ?_
      refine AllReadyH.cons rfl (fun K hK => ?_) AllReadyH.nil
      go_simp
      refine hK.out _ _ ⟨a0, aM0, aM1, aM2⟩ (fun _ => ?_)
      clear hK K
      try simp only [Act.put, List.getElem_toArray, List.getElem_cons_zero, List.getElem_cons_succ, List.setIfInBounds_toArray, List.set_cons_zero, List.set_cons_succ]
      refine wpAnyH_ready (rs := [8]) (by kernel_rfl) (by simp) ?_
      refine AllReadyH.cons rfl (fun K hK => ?_) AllReadyH.nil
      go_simp
      refine HINS.out.mono ?_
      rintro e w3 ⟨v3, rfl, ho, hg, hsf⟩
      obtain ⟨F3, c3, rfl⟩ := Joins.ownsRow_form ho (by omega)
      rw [← HV.out] at hg hsf
      have hkp : ∀ x, x < w5.heap.size → v.ownBlock ≠ some x → w3.heap[x]? = w5.heap[x]? := fun x hx hne => (hg.block x (by simp; omega) (fun e => hne e.symm)).trans (Below.heap_alloc w5 _ x hx)
      have l0 : w3.cell? ⟨b0, 0, none⟩ = some (.pointer (some ⟨m.D, 0, none⟩)) := (World.cell?_of_block (w := w5) (a := ⟨b0, 0, none⟩) (hkp b0 z0 HNB.out.2.1)).trans k0
      have lM0 : w3.cell? ⟨w2.heap.size, 0, none⟩ = some (.string t) := (World.cell?_of_block (w := w5) (a := ⟨w2.heap.size, 0, none⟩) (hkp _ hMlt5 HNB.out.2.2.1)).trans kM0
      have lM1 : w3.cell? ⟨w2.heap.size, 1, none⟩ = some (.slice pb nb cb) := (World.cell?_of_block (w := w5) (a := ⟨w2.heap.size, 1, none⟩) (hkp _ hMlt5 HNB.out.2.2.1)).trans kM1
      have lM2 : w3.cell? ⟨w2.heap.size, 2, none⟩ = some (.int .i64 (f.sure : Int)) := (World.cell?_of_block (w := w5) (a := ⟨w2.heap.size, 2, none⟩) (hkp _ hMlt5 HNB.out.2.2.1)).trans kM2
      have lD : w3.cell? ⟨m.D, 1, none⟩ = some (.slice p5 k c5) := (World.cell?_of_block (w := w5) (a := ⟨m.D, 1, none⟩) (hkp m.D hD5 HNB.out.1)).trans kD
      have lz : w3.frozen? ⟨m.D, 1, none⟩ = false := (World.frozen?_of_block (w := w5) (a := ⟨m.D, 1, none⟩) (hkp m.D hD5 HNB.out.1)).trans hz
      have HM3 := Lib.hid (HMID.out w3 _ ho hg hsf)
      clear ho hg hsf hkp
      go_wp2_with fail
      refine hK.out _ _ ⟨l0, lM0, lM1, lM2⟩ (fun _ => ?_)
      clear hK K
      try simp only [Act.put, List.getElem_toArray, List.getElem_cons_zero, List.getElem_cons_succ, List.setIfInBounds_toArray, List.set_cons_zero, List.set_cons_succ]
      refine wpAnyH_take (i := 9) (v := ?_) rfl (by kernel_rfl) (by kernel_rfl) (by kernel_rfl) (fun _ _ _ h => h) (Or.inl ⟨by rfl, ?_⟩) ⟨l0, lM0, lM1, lM2⟩ ?_
      rotate_left
      · intro W hSw; obtain ⟨s1, s2, s3, s4⟩ := hSw; go_simp <;> with_reducible rfl
      try simp only [Act.put, List.getElem_toArray, List.getElem_cons_zero, List.getElem_cons_succ, List.setIfInBounds_toArray, List.set_cons_zero, List.set_cons_succ]
      refine wpAnyH_take (i := 10) (v := ?_) rfl (by kernel_rfl) (by kernel_rfl) (by kernel_rfl) (fun _ _ _ h => h) (Or.inl ⟨by rfl, ?_⟩) ⟨l0, lM0, lM1, lM2⟩ ?_
      rotate_left
      · intro W hSw; obtain ⟨s1, s2, s3, s4⟩ := hSw; go_simp <;> with_reducible rfl
      try simp only [Act.put, List.getElem_toArray, List.getElem_cons_zero, List.getElem_cons_succ, List.setIfInBounds_toArray, List.set_cons_zero, List.set_cons_succ]
      have l0' : (w3.setCell ⟨m.D, 1, none⟩ (.slice (some ⟨F3, 0, none⟩) (k + 1) c3)).cell? ⟨b0, 0, none⟩ = some (.pointer (some ⟨m.D, 0, none⟩)) := (World.cell?_of_block (w := w3) (a := ⟨b0, 0, none⟩) (Below.heap_setCell _ _ _ _ HNB.out.2.2.2.1)).trans l0
      have lM0' : (w3.setCell ⟨m.D, 1, none⟩ (.slice (some ⟨F3, 0, none⟩) (k + 1) c3)).cell? ⟨w2.heap.size, 0, none⟩ = some (.string t) := (World.cell?_of_block (w := w3) (a := ⟨w2.heap.size, 0, none⟩) (Below.heap_setCell _ _ _ _ HNB.out.2.2.2.2)).trans lM0
      have lM1' : (w3.setCell ⟨m.D, 1, none⟩ (.slice (some ⟨F3, 0, none⟩) (k + 1) c3)).cell? ⟨w2.heap.size, 1, none⟩ = some (.slice pb nb cb) := (World.cell?_of_block (w := w3) (a := ⟨w2.heap.size, 1, none⟩) (Below.heap_setCell _ _ _ _ HNB.out.2.2.2.2)).trans lM1
      have lM2' : (w3.setCell ⟨m.D, 1, none⟩ (.slice (some ⟨F3, 0, none⟩) (k + 1) c3)).cell? ⟨w2.heap.size, 2, none⟩ = some (.int .i64 (f.sure : Int)) := (World.cell?_of_block (w := w3) (a := ⟨w2.heap.size, 2, none⟩) (Below.heap_setCell _ _ _ _ HNB.out.2.2.2.2)).trans lM2
      refine wpAnyH_ready (rs := [11]) (by kernel_rfl) (by simp) ?_
      refine AllReadyH.cons rfl (fun K hK => ?_) AllReadyH.nil
      go_simp
      refine hK.out _ _ ⟨l0', lM0', lM1', lM2'⟩ (fun _ => ?_)
      clear hK K
      try simp only [Act.put, List.getElem_toArray, List.getElem_cons_zero, List.getElem_cons_succ, List.setIfInBounds_toArray, List.set_cons_zero, List.set_cons_succ]
      refine wpAnyH_done (by kernel_rfl) ?_ _
      go_wp2_with fail
      go_ret
      exact HM3.out
end Go.Proofs.YtjimgncefeldbaaGreatDoor
