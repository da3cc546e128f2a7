/-
  almonryref06: without, with.
-/
import Derived.Test.YtopigchjdegpeaaDoorDiskRef
namespace Go.Proofs.YtopigchjdegpeaaDoor
open Go.RowKit

theorem refInfo : (Tryd.prog.info? 66).map (fun i => (i.zero, i.size, i.bytes)) = some (some (.agg #[.string ByteArray.empty, .string ByteArray.empty, .int .i64 0]), 3, 40) := by kernel_rfl

def rflat (l : List FS) : List Value := l.flatMap rcell
theorem rflat_len (l : List FS) : (rflat l).length = l.length * 3 := by
  induction l with
  | nil => rfl
  | cons a l ih => simp only [rflat, List.flatMap_cons, List.length_append, List.length_cons] at ih ⊢; rw [ih]; simp [rcell]; omega
theorem rflat_app (a b : List FS) : rflat (a ++ b) = rflat a ++ rflat b := by simp [rflat]
theorem rflat_one (l : List FS) : ∀ u ∈ rflat l, u.oneCell' = true := by
  intro u hu
  simp only [rflat, List.mem_flatMap] at hu
  obtain ⟨f, _, hu⟩ := hu
  simp only [rcell, List.mem_cons, List.not_mem_nil, or_false] at hu
  rcases hu with rfl | rfl | rfl <;> rfl
theorem rflat_at (l : List FS) : ∀ (i j : Nat) (f : FS), l[i]? = some f → j < 3 → (rflat l)[i * 3 + j]? = (rcell f)[j]? := by
  induction l with
  | nil => intro i j f h; simp at h
  | cons a l ih =>
    intro i j f h hj
    cases i with
    | zero =>
      simp at h; subst h
      simp only [rflat, List.flatMap_cons]
      rw [List.getElem?_append_left (by simp [rcell]; omega)]
      simp
    | succ i =>
      simp at h
      have := ih i j f h hj
      simp only [rflat, List.flatMap_cons] at this ⊢
      rw [List.getElem?_append_right (by simp [rcell]; omega), ← this]
      congr 1
      simp [rcell]; omega

/-- a row of the document's files that a call owns -/
def OwnR (B : Nat) (v : Value) (l : List FS) (w : World) : Prop := w.ownsRow B 66 3 v l.length (rflat l)

theorem OwnR.row {B : Nat} {v : Value} {l : List FS} {w : World} (h : OwnR B v l w) : ∃ p c, v = .slice p l.length c ∧ RRow w p l ∧ l.length ≤ c ∧ c ≤ maxLen ∧ (p = none ∧ l = [] ∧ c = 0 ∨ ∃ g, p = some ⟨g, 0, none⟩ ∧ B ≤ g) := by
  have h' := h
  rcases h'.2 with ⟨hv, h0⟩ | ⟨g, cap, cur, rfl, hb, hg, hnc, hcm, hcs, htake⟩
  · have : l = [] := List.length_eq_zero_iff.1 h0
    exact ⟨none, 0, by rw [h0]; exact hv, .inl this, by omega, by simp [maxLen], .inl ⟨rfl, this, rfl⟩⟩
  · refine ⟨_, _, rfl, .inr ⟨g, 0, rfl, (Array.getElem?_eq_some_iff.1 hg).1, fun i f hf => ?_⟩, hnc, hcm, .inr ⟨g, rfl, hb⟩⟩
    have hi : i < l.length := (List.getElem?_eq_some_iff.1 hf).1
    have h0 := rflat_at l i 0 f hf (by omega)
    have h1 := rflat_at l i 1 f hf (by omega)
    have h2 := rflat_at l i 2 f hf (by omega)
    simp only [Nat.zero_add]
    exact ⟨by rw [show i * 3 = i * 3 + 0 from rfl, World.ownsRow.cellAt h _ (by omega), h0]; rfl, by rw [World.ownsRow.cellAt h _ (by omega), h1]; rfl, by rw [World.ownsRow.cellAt h _ (by omega), h2]; rfl⟩

/-- what a function of the document leaves that answers a row -/
def RowLeft (l : List FS) (w : World) (e : Ending) (w' : World) : Prop := ∃ v, e = .returned v ∧ OwnR w.heap.size v l w' ∧ Below w.heap.size w w'

/-- all files but those of that name -/
def rwo (l : List FS) (n : ByteArray) : List FS := l.filter fun f => !decide (f.name = n)

theorem rwo_succ {l : List FS} {k : Nat} {f : FS} (n : ByteArray) (hf : l[k]? = some f) : rwo (l.take (k + 1)) n = rwo (l.take k) n ++ if f.name = n then [] else [f] := by
  unfold rwo
  rw [List.take_add_one, hf]
  simp only [List.filter_append, Option.toList_some, List.filter_cons, List.filter_nil]
  by_cases h : f.name = n <;> simp [h]
theorem rwo_len (l : List FS) (n : ByteArray) : (rwo l n).length ≤ l.length := List.length_filter_le _ _

theorem str_neq_t {x y : ByteArray} (h : x ≠ y) : (!x.toList == y.toList) = true := by rw [str_ne h]; rfl
theorem str_neq_f {x y : ByteArray} (h : x = y) : (!x.toList == y.toList) = false := by rw [str_eq h]; rfl

set_option maxHeartbeats 4000000 in
set_option maxRecDepth 100000 in
theorem without_any (l : List FS) (n : ByteArray) (p : Option Addr) (c : Nat) (w : World) (hr : RRow w p l) (hl : l.length ≤ 1024) :
    Calls Tryd.prog 58 #[.slice p l.length c, .string n] w (RowLeft (rwo l n) w) := by
  obtain ⟨i0, hi, hz0, hz1, hz2⟩ := info_parts refInfo
  have HR := Lib.hid hr
  clear hr
  go_enter Tryd.func58, Tryd.ntmps58
  go_wp2_with fail
  go_loopw [5, 6] (fun v i wr => ∃ k : Nat, k ≤ l.length ∧ i = .int .i64 k ∧ OwnR w.heap.size v (rwo (l.take k) n) wr ∧ Below w.heap.size w wr) (fun _ i _ => l.length - (intOf i).toNat)
  case atStart => exact ⟨0, Nat.zero_le _, rfl, World.ownsRow_nil _ _ _ _, Below.refl _ _⟩
  case round =>
    obtain ⟨k, hk, rfl, hown, hb⟩ := hrel
    by_cases hlt : k < l.length
    · obtain ⟨f, hf⟩ : ∃ f, l[k]? = some f := ⟨_, List.getElem?_eq_getElem hlt⟩
      obtain ⟨b, off, rfl, hbl, c0, c1, c2⟩ : ∃ b off, p = some ⟨b, off, none⟩ ∧ b < wr.heap.size ∧ wr.cell? ⟨b, off + k * 3, none⟩ = some (.string f.name) ∧ wr.cell? ⟨b, off + k * 3 + 1, none⟩ = some (.string ⟨f.body.toArray⟩) ∧ wr.cell? ⟨b, off + k * 3 + 2, none⟩ = some (.int .i64 (f.sure : Int)) := by
        rcases HR.out.below hb with h | ⟨b, off, he, hb, hc⟩
        · rw [h] at hf; simp at hf
        · exact ⟨b, off, he, hb, hc k f hf⟩
      have hi0 : (0 : Int) ≤ (k : Int) := by omega
      have hi1 : (k : Int) < (l.length : Int) := by omega
      have HN := Lib.hid (rwo_succ n hf)
      have hnl := rwo_len (l.take k) n
      have hnk : (l.take k).length ≤ k := List.length_take_le _ _
      generalize rwo (l.take k) n = ns at *
      have HB := Lib.hid hb
      have hbs := hb.size
      clear hb
      by_cases hn : f.name = n
      · have hq := str_neq_f hn
        have HN2 := Lib.hid hn
        have HO := Lib.hid hown
        clear hn hown hf
        go_wp2_with fail
        go_roundw
        case rel => exact ⟨k + 1, by omega, by go_num, by have := HN.out; rw [if_pos HN2.out, List.append_nil] at this; rw [this]; exact HO.out, HB.out⟩
        case measure => simp [intOf]; omega
      · have hq := str_neq_t hn
        have HN2 := Lib.hid hn
        clear hn hf
        go_wp2_with (at_builtin; refine wpList_append_own _ rfl _ _ 28 rfl w.heap.size 66 i0 (.agg #[.string ByteArray.empty, .string ByteArray.empty, .int .i64 0]) 3 40 Tryd.underlying28 hi hz0 hz1 hz2 rfl (by decide) _ _ _ rfl (World.ownsRow.alloc hown _) ⟨wr.heap.size, 0, none⟩ 1 1 [.string f.name, .string ⟨f.body.toArray⟩, .int .i64 (f.sure : Int)] rfl rfl ?c1 ?c2 ?c3 ?c4 ?c5 ?_)
        case c1 =>
          intro j u hj
          match j, hj with
          | 0, hj => simp at hj; subst hj; simp [Addr.add]
          | 1, hj => simp at hj; subst hj; simp [Addr.add, go_sem]
          | 2, hj => simp at hj; subst hj; simp [Addr.add, go_sem]
        case c2 => intro u hu; simp at hu; rcases hu with rfl | rfl | rfl <;> rfl
        case c3 => unfold maxLen; omega
        case c4 => omega
        case c5 => simp; omega
        intro v' w3 hown3 hg3 _
        have hrow' : OwnR w.heap.size v' (rwo (l.take (k + 1)) n) w3 := by
          have := HN.out
          rw [if_neg HN2.out] at this
          rw [this]; unfold OwnR; rw [List.length_append, rflat_app]; exact hown3
        have hB3 : Below w.heap.size w w3 := (HB.out.alloc (by omega) _).grown hg3 (by simp; omega) (fun j hj => (World.ownsRow.lt hown j hj).1)
        have H3 := Lib.hid hrow'
        have H4 := Lib.hid hB3
        clear hown3 hown hrow' hB3 hg3
        go_wp2
        go_roundw
        case rel => exact ⟨k + 1, by omega, by go_num, H3.out, H4.out⟩
        case measure => simp [intOf]; omega
    · obtain rfl : k = l.length := by omega
      rw [List.take_length] at hown
      have HF := Lib.hid (show RowLeft (rwo l n) w (.returned u5) wr from ⟨_, rfl, hown, hb⟩)
      clear hown hb
      go_wp2_with fail
      go_ret
      exact HF.out
end Go.Proofs.YtopigchjdegpeaaDoor
