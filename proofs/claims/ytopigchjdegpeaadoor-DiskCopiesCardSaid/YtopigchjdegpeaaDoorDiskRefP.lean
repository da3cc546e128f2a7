/-
  Plain facts: what the document's acts on rows of files make is what the program's make, where names rise.
-/
import Derived.Test.YtopigchjdegpeaaDoorDiskRefL
namespace Go.Proofs.YtopigchjdegpeaaDoor
open Go.Lib Go.RowKit

/-- how many files at the head have a smaller name -/
def rless (l : List FS) (n : ByteArray) : Nat := l.findIdx (fun f => decide (0 ≤ cmpS n f))
def rwith (l : List FS) (f : FS) : List FS := sins (rwo l f.name) (rless (rwo l f.name) f.name) f

theorem rless_at {l : List FS} {n : ByteArray} {k : Nat} (hk : k ≤ l.length) (hall : ∀ (j : Nat) (g : FS), j < k → l[j]? = some g → cmpS n g < 0) (hat : ∀ g, l[k]? = some g → ¬ cmpS n g < 0) : rless l n = k := by
  unfold rless
  by_cases h : k < l.length
  · rw [List.findIdx_eq h]
    refine ⟨?_, fun j hj => ?_⟩
    · have := hat _ (List.getElem?_eq_getElem h)
      simp; omega
    · have := hall j _ hj (List.getElem?_eq_getElem (by omega))
      simp; omega
  · obtain rfl : k = l.length := by omega
    rw [List.findIdx_eq_length]
    intro x hx
    obtain ⟨j, hj, rfl⟩ := List.mem_iff_getElem.1 hx
    have := hall j _ hj (List.getElem?_eq_getElem hj)
    simp; omega


theorem name_ne_of_pos {n : ByteArray} {g : FS} (h : 0 < cmpS n g) : g.name ≠ n := fun e => by have := cmpS_zero.2 e; omega
theorem name_ne_of_neg {n : ByteArray} {g : FS} (h : cmpS n g < 0) : g.name ≠ n := fun e => by have := cmpS_zero.2 e; omega

/-- behind the place of a name that is there all names are greater -/
theorem after_there {l : List FS} (h : SRise l) {n : ByteArray} {f g : FS} {i k : Nat} (hf : l[i]? = some f) (hn : f.name = n) (hk : i < k) (hg : l[k]? = some g) : 0 < cmpS n g := by
  have h1 := rises_le h hk hf hg
  rw [hn] at h1
  unfold cmpS
  rw [cmp_swap]
  omega

theorem rwo_yes {l : List FS} (h : SRise l) {n : ByteArray} {f : FS} (hf : l[spos l n]? = some f) (hn : f.name = n) : rwo l n = sdel l (spos l n) := by
  obtain ⟨hi, he⟩ := List.getElem?_eq_some_iff.1 hf
  have e : rwo l n = (l.take (spos l n) ++ f :: l.drop (spos l n + 1)).filter (fun f => !decide (f.name = n)) := by
    unfold rwo
    conv => lhs; rw [← List.take_append_drop (spos l n) l, List.drop_eq_getElem_cons hi, he]
  rw [e, List.filter_append, List.filter_cons]
  have h1 : (l.take (spos l n)).filter (fun f => !decide (f.name = n)) = l.take (spos l n) := by
    rw [List.filter_eq_self]
    intro g hg
    obtain ⟨k, hk, rfl⟩ := List.mem_iff_getElem.1 hg
    have hk2 : k < spos l n := by simp at hk; omega
    have hkl : k < l.length := by simp at hk; omega
    have := name_ne_of_neg (before_pos hk2 (List.getElem?_eq_getElem hkl))
    simpa using this
  have h2 : (l.drop (spos l n + 1)).filter (fun f => !decide (f.name = n)) = l.drop (spos l n + 1) := by
    rw [List.filter_eq_self]
    intro g hg
    obtain ⟨k, hk, rfl⟩ := List.mem_iff_getElem.1 hg
    have hkl : spos l n + 1 + k < l.length := by simp at hk; omega
    have := name_ne_of_pos (after_there h hf hn (k := spos l n + 1 + k) (by omega) (List.getElem?_eq_getElem hkl))
    simpa using this
  rw [h1, h2, if_neg (by simp [hn])]
  rfl
theorem rwo_no {l : List FS} (h : SRise l) {n : ByteArray} (ht : sthere l n = false) : rwo l n = l := by
  unfold rwo
  rw [List.filter_eq_self]
  intro g hg
  obtain ⟨k, hk, rfl⟩ := List.mem_iff_getElem.1 hg
  by_cases hks : k < spos l n
  · have := name_ne_of_neg (before_pos hks (List.getElem?_eq_getElem hk))
    simpa using this
  · have := name_ne_of_pos (after_pos h ht (by omega : spos l n ≤ k) (List.getElem?_eq_getElem hk))
    simpa using this

theorem sins_sdel {l : List FS} {i : Nat} (hi : i < l.length) (f : FS) : sins (sdel l i) i f = l.set i f := by
  unfold sins sdel
  rw [List.set_eq_take_append_cons_drop, if_pos hi]
  have hl : (l.take i).length = i := by rw [List.length_take]; omega
  rw [List.take_append_of_le_length (by omega), List.take_of_length_le (by omega), List.drop_append_of_le_length (by omega), List.drop_of_length_le (by omega), List.nil_append]

theorem rwith_slay {l : List FS} (h : SRise l) (f : FS) : rwith l f = slay l f := by
  unfold rwith slay
  cases ht : sthere l f.name
  · rw [rwo_no h ht, if_neg (by simp)]; rfl
  · obtain ⟨g, hg, hn⟩ := sthere_at ht
    obtain ⟨hi, he⟩ := List.getElem?_eq_some_iff.1 hg
    rw [rwo_yes h hg hn, if_pos rfl]
    have hl : (l.take (spos l f.name)).length = spos l f.name := by rw [List.length_take]; omega
    have hr : rless (sdel l (spos l f.name)) f.name = spos l f.name := by
      refine rless_at (by unfold sdel; simp; omega) (fun j x hj hx => ?_) (fun x hx => ?_)
      · unfold sdel at hx
        rw [List.getElem?_append_left (by omega), List.getElem?_take_of_lt hj] at hx
        exact before_pos hj hx
      · unfold sdel at hx
        rw [List.getElem?_append_right (by omega), hl, Nat.sub_self, List.getElem?_drop] at hx
        have := after_there h hg hn (k := spos l f.name + 1 + 0) (by omega) hx
        omega
    rw [hr, sins_sdel hi]

/-- what is laid in place of the file of that name -/
theorem smod_slay {l : List FS} {n : ByteArray} {f : FS} (g : FS → FS) (hf : l[spos l n]? = some f) (hn : f.name = n) (hg : (g f).name = n) : smod l (spos l n) g = slay l (g f) := by
  have ht : sthere l n = true := by unfold sthere; rw [hf]; simp [cmpS_zero.2 hn]
  unfold smod slay
  rw [hf, hg, if_pos ht]
theorem sthere_iff {l : List FS} {n : ByteArray} {f : FS} (hf : l[spos l n]? = some f) (hn : f.name = n) : sthere l n = true := by
  unfold sthere; rw [hf]; simp [cmpS_zero.2 hn]
end Go.Proofs.YtopigchjdegpeaaDoor
