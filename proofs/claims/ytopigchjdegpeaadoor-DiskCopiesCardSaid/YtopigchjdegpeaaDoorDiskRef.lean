/-
  The document's disk (almonryref06): its rows of files; At, Used, named.
-/
import Derived.Test.YtopigchjdegpeaaDoorDiskApi
import Derived.Test.YtopigchjdegpeaaDoorDiskTexts
namespace Go.Proofs.YtopigchjdegpeaaDoor
open Go.RowKit

def rcell (f : FS) : List Value := [.string f.name, .string ⟨f.body.toArray⟩, .int .i64 (f.sure : Int)]

/-- The slice's elements are the document's files l. -/
def RRow (w : World) (p : Option Addr) (l : List FS) : Prop :=
  l = [] ∨ ∃ b off, p = some ⟨b, off, none⟩ ∧ b < w.heap.size ∧ ∀ i f, l[i]? = some f →
    w.cell? ⟨b, off + i * 3, none⟩ = some (.string f.name) ∧ w.cell? ⟨b, off + i * 3 + 1, none⟩ = some (.string ⟨f.body.toArray⟩) ∧ w.cell? ⟨b, off + i * 3 + 2, none⟩ = some (.int .i64 (f.sure : Int))

theorem RRow.below {w w' : World} {a : Option Addr} {l : List FS} (h : RRow w a l) (hb : Below w.heap.size w w') : RRow w' a l := by
  rcases h with h | ⟨b, off, rfl, hlt, hc⟩
  · exact .inl h
  · refine .inr ⟨b, off, rfl, Nat.lt_of_lt_of_le hlt hb.size, fun j d hj => ?_⟩
    obtain ⟨h0, h1, h2⟩ := hc j d hj
    exact ⟨by rw [hb.cell (p := ⟨b, off + j * 3, none⟩) hlt]; exact h0, by rw [hb.cell (p := ⟨b, off + j * 3 + 1, none⟩) hlt]; exact h1, by rw [hb.cell (p := ⟨b, off + j * 3 + 2, none⟩) hlt]; exact h2⟩

/-- how many acts are done yet, as the document has it -/
def fz (s : DS) : Int := if s.fused then (s.left : Int) else -1
/-- the document's disk, by value -/
def rv (s : DS) (p : Option Addr) (c : Nat) : Value := .agg #[.int .i64 (s.room : Int), .slice p s.l.length c, .bool s.off, .int .i64 (fz s)]
def rcells (s : DS) (p : Option Addr) (c : Nat) : Array Value := #[.int .i64 (s.room : Int), .slice p s.l.length c, .bool s.off, .int .i64 (fz s)]

/-- the place of the first file of that name -/
def rAt (l : List FS) (n : ByteArray) : Int := if l.findIdx (fun f => decide (f.name = n)) < l.length then (l.findIdx (fun f => decide (f.name = n)) : Int) else -1

theorem rAt_yes {l : List FS} {n : ByteArray} {k : Nat} {f : FS} (hf : l[k]? = some f) (hn : f.name = n) (hb : ∀ (j : Nat) (g : FS), j < k → l[j]? = some g → g.name ≠ n) : rAt l n = (k : Int) := by
  have hk : k < l.length := (List.getElem?_eq_some_iff.1 hf).1
  have e : l.findIdx (fun f => decide (f.name = n)) = k := by
    rw [List.findIdx_eq hk]
    refine ⟨by rw [(List.getElem?_eq_some_iff.1 hf).2]; simpa using hn, fun j hj => by simpa using hb j _ hj (List.getElem?_eq_getElem (by omega))⟩
  unfold rAt
  rw [e, if_pos hk]
theorem rAt_no {l : List FS} {n : ByteArray} (hb : ∀ (j : Nat) (g : FS), l[j]? = some g → g.name ≠ n) : rAt l n = -1 := by
  have e : l.findIdx (fun f => decide (f.name = n)) = l.length := by
    rw [List.findIdx_eq_length]
    intro f hf
    obtain ⟨k, hk, rfl⟩ := List.mem_iff_getElem.1 hf
    simpa using hb k _ (List.getElem?_eq_getElem hk)
  unfold rAt
  rw [e, if_neg (by omega)]

theorem cmpS_zero {n : ByteArray} {f : FS} : cmpS n f = 0 ↔ f.name = n := by
  unfold cmpS
  rw [Go.Proofs.YtopigchjdegpeaaDoor.cmp_zero]
  constructor
  · intro h
    cases hn : f.name; cases n
    rw [hn] at h
    congr 1
    exact Array.toList_inj.1 h
  · intro h; rw [h]

/-- where names rise, the document's place is the program's -/
theorem rAt_pos {l : List FS} (h : SRise l) (n : ByteArray) : rAt l n = if sthere l n then (spos l n : Int) else -1 := by
  cases ht : sthere l n
  · rw [if_neg (by simp)]
    refine rAt_no fun j g hg he => ?_
    have h0 := cmpS_zero.2 he
    by_cases hj : j < spos l n
    · have := before_pos hj hg; omega
    · have := after_pos h ht (by omega : spos l n ≤ j) hg; omega
  · rw [if_pos rfl]
    obtain ⟨f, hf, hn⟩ := sthere_at ht
    exact rAt_yes hf hn fun j g hj hg he => by
      have h0 := cmpS_zero.2 he
      have := before_pos hj hg
      omega

theorem str_eq {x y : ByteArray} (h : x = y) : (x.toList == y.toList) = true := by subst h; simp
theorem str_ne {x y : ByteArray} (h : x ≠ y) : (x.toList == y.toList) = false := by
  cases hb : (x.toList == y.toList)
  · rfl
  · exact absurd (bytes_inj (by simpa using hb)) h

set_option maxHeartbeats 2000000 in
set_option maxRecDepth 100000 in
theorem refAt_any (s : DS) (n : ByteArray) (p : Option Addr) (c : Nat) (w : World) (hr : RRow w p s.l) (hl : s.l.length ≤ 1024) :
    Calls Tryd.prog 42 #[rv s p c, .string n] w fun e w' => e = .returned (.int .i64 (rAt s.l n)) ∧ Below w.heap.size w w' := by
  unfold rv
  have HR := Lib.hid hr
  clear hr
  generalize fz s = fzv
  go_enter Tryd.func42, Tryd.ntmps42
  go_wp2_with fail
  go_loop [5] (fun i => ∃ k : Nat, k ≤ s.l.length ∧ i = .int .i64 k ∧ Hid (∀ j g, j < k → s.l[j]? = some g → g.name ≠ n)) (fun i => s.l.length - (intOf i).toNat)
  case atStart => exact ⟨0, Nat.zero_le _, rfl, fun j g hj => absurd hj (by omega)⟩
  case round =>
    obtain ⟨k, hk, rfl, hall⟩ := hrel
    by_cases hlt : k < s.l.length
    · obtain ⟨f, hf⟩ : ∃ f, s.l[k]? = some f := ⟨_, List.getElem?_eq_getElem hlt⟩
      obtain ⟨b, off, rfl, hbl, c0, _, _⟩ : ∃ b off, p = some ⟨b, off, none⟩ ∧ b < w.heap.size ∧ w.cell? ⟨b, off + k * 3, none⟩ = some (.string f.name) ∧ w.cell? ⟨b, off + k * 3 + 1, none⟩ = some (.string ⟨f.body.toArray⟩) ∧ w.cell? ⟨b, off + k * 3 + 2, none⟩ = some (.int .i64 (f.sure : Int)) := by
        rcases HR.out with h | ⟨b, off, he, hb, hc⟩
        · rw [h] at hf; simp at hf
        · exact ⟨b, off, he, hb, hc k f hf⟩
      have hi0 : (0 : Int) ≤ (k : Int) := by omega
      have hi1 : (k : Int) < (s.l.length : Int) := by omega
      have HF := Lib.hid hf
      clear hf
      by_cases hn : f.name = n
      · have hq := str_eq hn
        have HN := Lib.hid hn
        clear hn
        go_wp2_with fail
        go_ret
        refine ⟨?_, Joins.below_alloc1 _ _⟩
        rw [rAt_yes HF.out HN.out hall.out]
        rfl
      · have hq := str_ne hn
        have HN := Lib.hid hn
        clear hn
        go_wp2_with fail
        go_round
        case rel =>
          refine ⟨k + 1, by omega, by go_num, fun j g hj hg => ?_⟩
          by_cases he : j = k
          · subst he; rw [HF.out] at hg; cases hg; exact HN.out
          · exact hall.out j g (by omega) hg
        case measure => simp [intOf]; omega
    · obtain rfl : k = s.l.length := by omega
      go_wp2_with fail
      go_ret
      refine ⟨?_, Joins.below_alloc1 _ _⟩
      rw [rAt_no fun j g hg => hall.out j g (List.getElem?_eq_some_iff.1 hg).1 hg]
      rfl

theorem stotal_succ {l : List FS} {k : Nat} {f : FS} (hf : l[k]? = some f) : stotal (l.take (k + 1)) = stotal (l.take k) + f.body.length := by
  unfold stotal
  rw [List.take_add_one, hf]; simp
theorem stotal_le (l : List FS) : ∀ k, stotal (l.take k) ≤ stotal l := by
  induction l with
  | nil => intro k; simp [stotal]
  | cons a l ih =>
    intro k
    cases k with
    | zero => simp [stotal]
    | succ k => have := ih k; rw [List.take_succ_cons, stotal_cons, stotal_cons]; omega

theorem text_size (l : List UInt8) : (⟨l.toArray⟩ : ByteArray).size = l.length := by show l.toArray.size = _; simp

set_option maxHeartbeats 2000000 in
set_option maxRecDepth 100000 in
theorem refUsed_any (s : DS) (p : Option Addr) (c : Nat) (w : World) (hr : RRow w p s.l) (hl : s.l.length ≤ 1024) (ht : stotal s.l ≤ 4194304) :
    Calls Tryd.prog 29 #[rv s p c] w fun e w' => e = .returned (.int .i64 (stotal s.l : Int)) ∧ Below w.heap.size w w' := by
  unfold rv
  have HR := Lib.hid hr
  clear hr
  generalize fz s = fzv
  go_enter Tryd.func29, Tryd.ntmps29
  go_wp2_with fail
  go_loop [3, 4] (fun u i => ∃ k : Nat, k ≤ s.l.length ∧ i = .int .i64 k ∧ u = .int .i64 (stotal (s.l.take k) : Int)) (fun _ i => s.l.length - (intOf i).toNat)
  case atStart => exact ⟨0, Nat.zero_le _, rfl, rfl⟩
  case round =>
    obtain ⟨k, hk, rfl, rfl⟩ := hrel
    by_cases hlt : k < s.l.length
    · obtain ⟨f, hf⟩ : ∃ f, s.l[k]? = some f := ⟨_, List.getElem?_eq_getElem hlt⟩
      obtain ⟨b, off, rfl, hbl, _, c1, _⟩ : ∃ b off, p = some ⟨b, off, none⟩ ∧ b < w.heap.size ∧ w.cell? ⟨b, off + k * 3, none⟩ = some (.string f.name) ∧ w.cell? ⟨b, off + k * 3 + 1, none⟩ = some (.string ⟨f.body.toArray⟩) ∧ w.cell? ⟨b, off + k * 3 + 2, none⟩ = some (.int .i64 (f.sure : Int)) := by
        rcases HR.out with h | ⟨b, off, he, hb, hc⟩
        · rw [h] at hf; simp at hf
        · exact ⟨b, off, he, hb, hc k f hf⟩
      have hi0 : (0 : Int) ≤ (k : Int) := by omega
      have hi1 : (k : Int) < (s.l.length : Int) := by omega
      have h1 := stotal_succ hf
      have h2 := stotal_le s.l (k + 1)
      have HT := Lib.hid h1
      rw [h1] at h2
      have hsz := text_size f.body
      generalize (⟨f.body.toArray⟩ : ByteArray) = bt at *
      rw [← hsz] at h2 HT
      clear hf h1 hsz
      generalize stotal (s.l.take k) = T at *
      go_wp2_with fail
      go_round
      case rel => exact ⟨k + 1, by omega, by go_num, by rw [HT.out]; go_num⟩
      case measure => simp [intOf]; omega
    · obtain rfl : k = s.l.length := by omega
      go_wp2_with fail
      go_ret
      exact ⟨rfl, Joins.below_alloc1 _ _⟩
end Go.Proofs.YtopigchjdegpeaaDoor
