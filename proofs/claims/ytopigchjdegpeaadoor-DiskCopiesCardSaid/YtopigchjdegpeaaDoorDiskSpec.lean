/-
  Plain facts: what a disk is, and what each of its acts makes of it; the order of names.
-/
import Derived.Test.YtopigchjdegpeaaDoorDiskCopy
namespace Go.Proofs.YtopigchjdegpeaaDoor
open Go.Lib Go.RowKit

theorem cmp_zero : ∀ a b : List UInt8, compareBytes a b = 0 ↔ a = b
  | [], [] => by simp [compareBytes]
  | [], _ :: _ => by simp [compareBytes]
  | _ :: _, [] => by simp [compareBytes]
  | x :: a, y :: b => by
    have ih := cmp_zero a b
    unfold compareBytes
    by_cases h1 : x < y
    · have : x ≠ y := UInt8.ne_of_lt h1
      simp [h1, this]
    · by_cases h2 : y < x
      · have : x ≠ y := fun e => UInt8.lt_irrefl y (by rw [e] at h2; exact h2)
        simp [h1, h2, this]
      · have : x = y := UInt8.le_antisymm (UInt8.not_lt.1 h2) (UInt8.not_lt.1 h1)
        simp [h1, h2, this, ih]

theorem cmp_swap : ∀ a b : List UInt8, compareBytes b a = - compareBytes a b
  | [], [] => by simp [compareBytes]
  | [], _ :: _ => by simp [compareBytes]
  | _ :: _, [] => by simp [compareBytes]
  | x :: a, y :: b => by
    have ih := cmp_swap a b
    unfold compareBytes
    by_cases h1 : x < y
    · have h2 : ¬ y < x := fun h2 => UInt8.lt_irrefl _ (UInt8.lt_trans h1 h2)
      simp [h1, h2]
    · by_cases h2 : y < x
      · simp [h1, h2]
      · simp [h1, h2, ih]

theorem cmp_trans : ∀ a b c : List UInt8, compareBytes a b < 0 → compareBytes b c < 0 → compareBytes a c < 0
  | [], [], _ => by simp [compareBytes]
  | [], _ :: _, [] => by simp [compareBytes]
  | [], _ :: _, _ :: _ => by simp [compareBytes]
  | _ :: _, [], _ => by simp [compareBytes]
  | _ :: _, _ :: _, [] => by simp [compareBytes]
  | x :: a, y :: b, z :: c => by
    have ih := cmp_trans a b c
    intro h1 h2
    unfold compareBytes at h1 h2 ⊢
    by_cases hxy : x < y
    · by_cases hyz : y < z
      · simp [UInt8.lt_trans hxy hyz]
      · by_cases hzy : z < y
        · simp [hyz, hzy] at h2
        · have : y = z := UInt8.le_antisymm (UInt8.not_lt.1 hzy) (UInt8.not_lt.1 hyz)
          subst this; simp [hxy]
    · by_cases hyx : y < x
      · simp [hxy, hyx] at h1
      · have : x = y := UInt8.le_antisymm (UInt8.not_lt.1 hyx) (UInt8.not_lt.1 hxy)
        subst this
        simp [hxy] at h1
        by_cases hxz : x < z
        · simp [hxz]
        · by_cases hzx : z < x
          · simp [hxz, hzx] at h2
          · simp [hxz, hzx] at h2 ⊢
            exact ih h1 h2

/-- what a disk is -/
structure DS where
  room : Nat
  l : List FS
  off : Bool
  fused : Bool
  left : Nat
deriving DecidableEq

def cmpS (b : ByteArray) (f : FS) : Int := compareBytes f.name.data.toList b.data.toList
def spos (l : List FS) (b : ByteArray) : Nat := l.findIdx fun f => decide (0 ≤ cmpS b f)
def sthere (l : List FS) (b : ByteArray) : Bool := (l[spos l b]?).any fun f => decide (cmpS b f = 0)
def stotal (l : List FS) : Nat := (l.map fun f => f.body.length).sum

/-- the disk behind an act of its fuse -/
def DS.pay (s : DS) : DS := { s with left := if s.fused then s.left - 1 else s.left }
def DS.dark (s : DS) : DS := { s with off := true }
/-- is there no act left? -/
def DS.out (s : DS) : Bool := s.fused && s.left == 0
/-- an act that may be -/
def actS (s : DS) (l : List FS) : Int × DS := if s.out then (10, s.dark) else (0, { s.pay with l := l })

def sfull (s : DS) (n : ByteArray) (k : Nat) : Bool := decide ((s.room : Int) - (stotal s.l : Int) < (k : Int)) || (!sthere s.l n && (s.l.length == 1024))
def smod (l : List FS) (i : Nat) (g : FS → FS) : List FS := match l[i]? with | some f => l.set i (g f) | none => l
def sins (l : List FS) (i : Nat) (f : FS) : List FS := l.take i ++ f :: l.drop i
def sdel (l : List FS) (i : Nat) : List FS := l.take i ++ l.drop (i + 1)

def appendS (s : DS) (n t : ByteArray) : Int × DS :=
  if s.off then (10, s) else if !isNm n then (14, s) else if sfull s n t.size then (9, s) else
  actS s (if sthere s.l n then smod s.l (spos s.l n) (fun f => { f with body := f.body ++ t.data.toList }) else sins s.l (spos s.l n) ⟨n, t.data.toList, 0⟩)
def syncS (s : DS) (n : ByteArray) : Int × DS :=
  if s.off then (10, s) else if !sthere s.l n then (7, s) else actS s (smod s.l (spos s.l n) (fun f => { f with sure := f.body.length }))
def removeS (s : DS) (n : ByteArray) : Int × DS :=
  if s.off then (10, s) else if !sthere s.l n then (7, s) else actS s (sdel s.l (spos s.l n))
/-- a file is laid into a row: in place of one of its name, or in a place of its own -/
def slay (l : List FS) (f : FS) : List FS := if sthere l f.name then l.set (spos l f.name) f else sins l (spos l f.name) f
def sren (l : List FS) (n t : ByteArray) : List FS := match l[spos l n]? with | some f => slay (sdel l (spos l n)) { f with name := t } | none => l
def renameS (s : DS) (n t : ByteArray) : Int × DS :=
  if s.off then (10, s) else if !sthere s.l n then (7, s) else if !isNm t then (14, s) else actS s (sren s.l n t)
def readD (s : DS) (b : ByteArray) : ByteArray × Int :=
  if s.off then (⟨#[]⟩, 10) else
  match s.l[spos s.l b]? with
  | some f => if cmpS b f = 0 then (⟨f.body.toArray⟩, 0) else (⟨#[]⟩, 7)
  | none => (⟨#[]⟩, 7)
def keepS (keep : Int) (f : FS) : FS :=
  let k := f.sure + (min (max keep 0) ((f.body.length : Int) - (f.sure : Int))).toNat
  { f with body := f.body.take k, sure := k }
def crashS (s : DS) (keep : Int) : DS := { s with l := s.l.map (keepS keep), off := false, fused := false, left := 0 }
def fuseS (s : DS) (n : Int) : DS := { s with fused := decide (0 ≤ n), left := n.toNat }
def newS (room : Nat) : DS := ⟨room, [], false, false, 0⟩

/-- what holds of each disk -/
structure Fit (s : DS) : Prop where
  room : s.room ≤ 4194304
  len : s.l.length ≤ 1024
  total : stotal s.l ≤ s.room
  rises : s.l.Pairwise fun a b => compareBytes a.name.data.toList b.name.data.toList < 0
  sure : ∀ f ∈ s.l, f.sure ≤ f.body.length
  left : s.left < 9223372036854775808

theorem spos_le (l : List FS) (n : ByteArray) : spos l n ≤ l.length := List.findIdx_le_length

theorem before_pos {l : List FS} {n : ByteArray} {k : Nat} {f : FS} (hk : k < spos l n) (hf : l[k]? = some f) : cmpS n f < 0 := by
  have hl : k < l.length := (List.getElem?_eq_some_iff.1 hf).1
  have := List.not_of_lt_findIdx (p := fun f => decide (0 ≤ cmpS n f)) hk
  rw [(List.getElem?_eq_some_iff.1 hf).2] at this
  simpa using this

theorem at_pos {l : List FS} {n : ByteArray} {f : FS} (hf : l[spos l n]? = some f) : 0 ≤ cmpS n f := by
  have hl : spos l n < l.length := (List.getElem?_eq_some_iff.1 hf).1
  have := List.findIdx_getElem (p := fun f => decide (0 ≤ cmpS n f)) (w := hl)
  have e : l[spos l n] = f := (List.getElem?_eq_some_iff.1 hf).2
  have h2 : decide (0 ≤ cmpS n l[spos l n]) = true := this
  rw [e] at h2
  simpa using h2

theorem rises_le {l : List FS} (h : l.Pairwise fun a b => compareBytes a.name.data.toList b.name.data.toList < 0) {i j : Nat} (hij : i < j) {f g : FS} (hf : l[i]? = some f) (hg : l[j]? = some g) : compareBytes f.name.data.toList g.name.data.toList < 0 := by
  obtain ⟨hi, rfl⟩ := List.getElem?_eq_some_iff.1 hf
  obtain ⟨hj, rfl⟩ := List.getElem?_eq_some_iff.1 hg
  exact List.pairwise_iff_getElem.1 h i j hi hj hij

/-- behind the place of a name all names are greater, if the file there has another one -/
theorem after_pos {l : List FS} (h : l.Pairwise fun a b => compareBytes a.name.data.toList b.name.data.toList < 0) {n : ByteArray} (ht : sthere l n = false) {k : Nat} {f : FS} (hk : spos l n ≤ k) (hf : l[k]? = some f) : 0 < cmpS n f := by
  obtain ⟨g, hg⟩ : ∃ g, l[spos l n]? = some g := ⟨_, List.getElem?_eq_getElem (Nat.lt_of_le_of_lt hk (List.getElem?_eq_some_iff.1 hf).1)⟩
  have h0 := at_pos hg
  have hn : cmpS n g ≠ 0 := fun e => by unfold sthere at ht; rw [hg] at ht; simp [e] at ht
  have hpos : 0 < cmpS n g := by omega
  by_cases hkk : spos l n = k
  · subst hkk; rw [hg] at hf; cases hf; exact hpos
  · have h1 := rises_le h (by omega : spos l n < k) hg hf
    have e1 : compareBytes n.data.toList g.name.data.toList < 0 := by rw [cmp_swap]; unfold cmpS at hpos; omega
    have e2 := cmp_trans _ _ _ e1 h1
    rw [cmp_swap] at e2
    unfold cmpS
    omega

abbrev SRise (l : List FS) : Prop := l.Pairwise fun a b => compareBytes a.name.data.toList b.name.data.toList < 0

theorem srise_names {l l' : List FS} (h : SRise l) (e : l'.map FS.name = l.map FS.name) : SRise l' := by
  have h1 : (l.map FS.name).Pairwise fun a b => compareBytes a.data.toList b.data.toList < 0 := List.pairwise_map.2 h
  rw [← e] at h1
  exact List.pairwise_map.1 h1

theorem names_set {l : List FS} {i : Nat} {f g : FS} (hf : l[i]? = some f) (hg : g.name = f.name) : (l.set i g).map FS.name = l.map FS.name := by
  rw [List.map_set]
  apply List.ext_getElem?
  intro j
  have hi : i < l.length := (List.getElem?_eq_some_iff.1 hf).1
  by_cases hj : i = j
  · subst hj
    rw [List.getElem?_set_self (by simpa using hi), List.getElem?_map, hf, hg]; rfl
  · rw [List.getElem?_set_ne hj]

theorem srise_sins {l : List FS} (h : SRise l) {f : FS} (ht : sthere l f.name = false) : SRise (sins l (spos l f.name) f) := by
  unfold sins
  have hb : ∀ a ∈ l.take (spos l f.name), compareBytes a.name.data.toList f.name.data.toList < 0 := fun a ha => by
    obtain ⟨k, hk, rfl⟩ := List.mem_iff_getElem.1 ha
    have hk2 : k < spos l f.name := by simp at hk; omega
    have hkl : k < l.length := by simp at hk; omega
    have := before_pos (n := f.name) hk2 (List.getElem?_eq_getElem hkl)
    simpa [cmpS] using this
  have ha : ∀ a ∈ l.drop (spos l f.name), compareBytes f.name.data.toList a.name.data.toList < 0 := fun a ha => by
    obtain ⟨k, hk, rfl⟩ := List.mem_iff_getElem.1 ha
    have hkl : spos l f.name + k < l.length := by simp at hk; omega
    have := after_pos h ht (k := spos l f.name + k) (by omega) (List.getElem?_eq_getElem hkl)
    rw [cmp_swap]
    simp [cmpS] at this ⊢
    omega
  have h2 : SRise (l.take (spos l f.name) ++ l.drop (spos l f.name)) := by rw [List.take_append_drop]; exact h
  rw [SRise, List.pairwise_append] at h2 ⊢
  refine ⟨h2.1, List.pairwise_cons.2 ⟨ha, h2.2.1⟩, fun a ha2 b hb2 => ?_⟩
  rcases List.mem_cons.1 hb2 with rfl | hb2
  · exact hb a ha2
  · exact h2.2.2 a ha2 b hb2

theorem sdel_sub (l : List FS) (i : Nat) : List.Sublist (sdel l i) l := by
  unfold sdel
  conv => rhs; rw [← List.take_append_drop i l]
  refine List.Sublist.append (List.Sublist.refl _) ?_
  rw [show l.drop (i + 1) = (l.drop i).drop 1 by rw [List.drop_drop]]
  exact List.drop_sublist _ _

theorem stotal_app (a b : List FS) : stotal (a ++ b) = stotal a + stotal b := by simp [stotal]
theorem stotal_cons (f : FS) (b : List FS) : stotal (f :: b) = f.body.length + stotal b := by simp [stotal]
theorem stotal_split {l : List FS} {i : Nat} {f : FS} (hf : l[i]? = some f) : stotal l = stotal (l.take i) + (f.body.length + stotal (l.drop (i + 1))) := by
  obtain ⟨hi, he⟩ := List.getElem?_eq_some_iff.1 hf
  conv => lhs; rw [← List.take_append_drop i l, List.drop_eq_getElem_cons hi, he]
  rw [stotal_app, stotal_cons]
theorem stotal_set {l : List FS} {i : Nat} {f : FS} (hf : l[i]? = some f) (g : FS) : stotal (l.set i g) + f.body.length = stotal l + g.body.length := by
  obtain ⟨hi, he⟩ := List.getElem?_eq_some_iff.1 hf
  rw [stotal_split hf, List.set_eq_take_append_cons_drop, if_pos hi, stotal_app, stotal_cons]
  omega
theorem stotal_sins (l : List FS) (i : Nat) (f : FS) : stotal (sins l i f) = stotal l + f.body.length := by
  have : stotal l = stotal (l.take i) + stotal (l.drop i) := by rw [← stotal_app, List.take_append_drop]
  unfold sins
  rw [stotal_app, stotal_cons, this]; omega
theorem stotal_sdel {l : List FS} {i : Nat} {f : FS} (hf : l[i]? = some f) : stotal (sdel l i) + f.body.length = stotal l := by
  rw [stotal_split hf]; unfold sdel; rw [stotal_app]; omega

theorem sthere_at {l : List FS} {b : ByteArray} (h : sthere l b = true) : ∃ f, l[spos l b]? = some f ∧ f.name = b := by
  unfold sthere at h
  cases hf : l[spos l b]? with
  | none => rw [hf] at h; simp at h
  | some f =>
    rw [hf] at h
    refine ⟨f, rfl, ?_⟩
    have h0 : cmpS b f = 0 := by simpa using h
    have := (cmp_zero _ _).1 h0
    cases hn : f.name; cases b
    rw [hn] at this
    congr 1
    exact Array.toList_inj.1 this

theorem Fit.pay {s : DS} (h : Fit s) : Fit s.pay := ⟨h.room, h.len, h.total, h.rises, h.sure, by unfold DS.pay; have := h.left; simp only; split <;> omega⟩
theorem Fit.dark {s : DS} (h : Fit s) : Fit s.dark := ⟨h.room, h.len, h.total, h.rises, h.sure, h.left⟩
theorem fit_act {s : DS} (h : Fit s) {l : List FS} (h1 : l.length ≤ 1024) (h2 : stotal l ≤ s.room) (h3 : SRise l) (h4 : ∀ f ∈ l, f.sure ≤ f.body.length) : Fit (actS s l).2 := by
  unfold actS
  split
  · exact h.dark
  · exact ⟨h.room, h1, h2, h3, h4, h.pay.left⟩

theorem sins_len {l : List FS} {n : ByteArray} {f : FS} : (sins l (spos l n) f).length = l.length + 1 := by
  have := spos_le l n
  unfold sins; simp; omega

theorem fit_append {s : DS} (h : Fit s) (n t : ByteArray) : Fit (appendS s n t).2 := by
  unfold appendS
  split; · exact h
  split; · exact h
  split; · exact h
  rename_i _ _ hfull
  simp only [sfull, Bool.not_eq_true, Bool.or_eq_false_iff, decide_eq_false_iff_not] at hfull
  have ht : (t.data.toList.length : Int) = (t.size : Int) := by simp
  cases hth : sthere s.l n
  · rw [if_neg (by simp)]
    have hl : s.l.length ≠ 1024 := by have := hfull.2; rw [hth] at this; simpa using this
    refine fit_act h (by rw [sins_len]; have := h.len; omega) ?_ (srise_sins (f := ⟨n, t.data.toList, 0⟩) h.rises hth) ?_
    · rw [stotal_sins]; have := hfull.1; simp at ht ⊢; omega
    · intro f hf
      unfold sins at hf
      simp only [List.mem_append, List.mem_cons] at hf
      rcases hf with hf | rfl | hf
      · exact h.sure f (List.mem_of_mem_take hf)
      · simp
      · exact h.sure f (List.mem_of_mem_drop hf)
  · rw [if_pos rfl]
    obtain ⟨f, hf, hfn⟩ := sthere_at hth
    unfold smod
    rw [hf]
    have hs := stotal_set hf { f with body := f.body ++ t.data.toList }
    refine fit_act h (by simpa using h.len) ?_ (srise_names h.rises (names_set hf rfl)) ?_
    · simp at hs ht ⊢; have := hfull.1; omega
    · intro g hg
      rcases List.mem_or_eq_of_mem_set hg with hg | rfl
      · exact h.sure g hg
      · have := h.sure f (List.mem_of_getElem? hf); simp; omega

theorem fit_sync {s : DS} (h : Fit s) (n : ByteArray) : Fit (syncS s n).2 := by
  unfold syncS
  split; · exact h
  split; · exact h
  rename_i _ hth
  obtain ⟨f, hf, hfn⟩ := sthere_at (l := s.l) (b := n) (by simpa using hth)
  unfold smod
  rw [hf]
  have hs := stotal_set hf { f with sure := f.body.length }
  refine fit_act h (by simpa using h.len) ?_ (srise_names h.rises (names_set hf rfl)) ?_
  · simp at hs ⊢; have := h.total; omega
  · intro g hg
    rcases List.mem_or_eq_of_mem_set hg with hg | rfl
    · exact h.sure g hg
    · exact Nat.le_refl _

theorem fit_remove {s : DS} (h : Fit s) (n : ByteArray) : Fit (removeS s n).2 := by
  unfold removeS
  split; · exact h
  split; · exact h
  rename_i _ hth
  obtain ⟨f, hf, hfn⟩ := sthere_at (l := s.l) (b := n) (by simpa using hth)
  have hs := stotal_sdel hf
  refine fit_act h (Nat.le_trans (sdel_sub _ _).length_le h.len) (by have := h.total; omega) (h.rises.sublist (sdel_sub _ _)) fun g hg => h.sure g ((sdel_sub _ _).subset hg)

theorem fit_rename {s : DS} (h : Fit s) (n t : ByteArray) : Fit (renameS s n t).2 := by
  unfold renameS
  split; · exact h
  split; · exact h
  split; · exact h
  rename_i _ hth _
  obtain ⟨f, hf, hfn⟩ := sthere_at (l := s.l) (b := n) (by simpa using hth)
  have hs := stotal_sdel hf
  have hr : SRise (sdel s.l (spos s.l n)) := h.rises.sublist (sdel_sub _ _)
  have hsu : ∀ g ∈ sdel s.l (spos s.l n), g.sure ≤ g.body.length := fun g hg => h.sure g ((sdel_sub _ _).subset hg)
  have hfs := h.sure f (List.mem_of_getElem? hf)
  have hdl : (sdel s.l (spos s.l n)).length + 1 = s.l.length := by
    have := (List.getElem?_eq_some_iff.1 hf).1
    unfold sdel; simp; omega
  unfold sren
  rw [hf]
  simp only
  unfold slay
  have hlen := h.len
  have htot := h.total
  cases ht2 : sthere (sdel s.l (spos s.l n)) t
  · rw [if_neg (by simp)]
    refine fit_act h (by rw [sins_len]; omega) ?_ (srise_sins (f := { f with name := t }) hr ht2) ?_
    · rw [stotal_sins]; simp; omega
    · intro g hg
      unfold sins at hg
      simp only [List.mem_append, List.mem_cons] at hg
      rcases hg with hg | rfl | hg
      · exact hsu g (List.mem_of_mem_take hg)
      · exact hfs
      · exact hsu g (List.mem_of_mem_drop hg)
  · rw [if_pos rfl]
    obtain ⟨g, hg, hgn⟩ := sthere_at ht2
    have hs2 := stotal_set hg { f with name := t }
    refine fit_act h (by simp; omega) ?_ (srise_names hr (names_set hg hgn.symm)) ?_
    · simp at hs2 ⊢; omega
    · intro x hx
      rcases List.mem_or_eq_of_mem_set hx with hx | rfl
      · exact hsu x hx
      · exact hfs

theorem keepS_le {keep : Int} {f : FS} (h : f.sure ≤ f.body.length) : (keepS keep f).sure ≤ (keepS keep f).body.length ∧ (keepS keep f).body.length ≤ f.body.length ∧ (keepS keep f).name = f.name := by
  unfold keepS
  refine ⟨by simp; omega, by simp; omega, rfl⟩

theorem fit_crash {s : DS} (h : Fit s) (keep : Int) : Fit (crashS s keep) := by
  unfold crashS
  refine ⟨h.room, by simpa using h.len, ?_, srise_names h.rises (by simp [keepS]), ?_, by simp⟩
  · have e : ∀ l : List FS, (∀ f ∈ l, f.sure ≤ f.body.length) → stotal (l.map (keepS keep)) ≤ stotal l := by
      intro l
      induction l with
      | nil => intro _; simp [stotal]
      | cons a l ih =>
        intro hs
        rw [List.map_cons, stotal_cons, stotal_cons]
        have h1 := (keepS_le (keep := keep) (hs a (by simp))).2.1
        have h2 := ih fun f hf => hs f (by simp [hf])
        omega
    exact Nat.le_trans (e s.l h.sure) h.total
  · intro f hf
    simp only [List.mem_map] at hf
    obtain ⟨g, hg, rfl⟩ := hf
    exact (keepS_le (h.sure g hg)).1

theorem fit_fuse {s : DS} (h : Fit s) {n : Int} (hn : n ≤ 9223372036854775807) : Fit (fuseS s n) := ⟨h.room, h.len, h.total, h.rises, h.sure, by unfold fuseS; simp; omega⟩
theorem fit_new {room : Nat} (h : room ≤ 4194304) : Fit (newS room) := ⟨h, by simp [newS], by simp [newS, stotal], by simp [newS], by simp [newS], by simp [newS]⟩
end Go.Proofs.YtopigchjdegpeaaDoor
