/-
  disk.Disk in memory: its head, its row of files, their bytes; what a call may change of it.
-/
import Derived.Test.YtopigchjdegpeaaDoorBase
import Derived.Lib.SmallJoins
import Derived.OneCell
import Derived.Laws.OwnMore
import Derived.RegionTactic
namespace Go.Proofs.YtopigchjdegpeaaDoor
open Go.RowKit

/-- A file in memory: its name, the slice that holds its bytes, these, and how many of them are sure. -/
structure FV where
  name : ByteArray
  bv : Value
  body : List UInt8
  sure : Nat

def FV.cells (f : FV) : List Value := [.string f.name, f.bv, .int .i64 (f.sure : Int)]
def fcells (l : List FV) : List Value := l.flatMap FV.cells

/-- A disk in memory. -/
structure MS where
  D : Nat
  room : Nat
  fv : Value
  l : List FV
  off : Bool
  fused : Bool
  left : Nat

def MS.head (m : MS) : Array Value := #[.int .i64 (m.room : Int), m.fv, .bool m.off, .bool m.fused, .int .i64 (m.left : Int)]
def bblks (l : List FV) : List Nat := l.flatMap fun f => f.bv.ownBlock.toList
def MS.blks (m : MS) : List Nat := m.D :: (m.fv.ownBlock.toList ++ bblks m.l)

/-- The disk m lies in the world w, from block B on. -/
structure Lies (B : Nat) (m : MS) (w : World) : Prop where
  head : w.heap[m.D]? = some (.cells m.head 53 (0, 0))
  base : B ≤ m.D
  row : w.ownsRow B 57 3 m.fv m.l.length (fcells m.l)
  body : ∀ f ∈ m.l, OwnB B f.bv f.body w
  apart : m.blks.Nodup

theorem fcells_length (l : List FV) : (fcells l).length = l.length * 3 := by
  induction l with
  | nil => rfl
  | cons f l ih => simp only [fcells, List.flatMap_cons, List.length_append, List.length_cons] at ih ⊢; rw [ih]; simp [FV.cells]; omega

theorem fcells_append (a b : List FV) : fcells (a ++ b) = fcells a ++ fcells b := by simp [fcells]

theorem fcells_at (l : List FV) : ∀ (i j : Nat) (f : FV), l[i]? = some f → j < 3 → (fcells l)[3 * i + j]? = f.cells[j]? := by
  induction l with
  | nil => intro i j f h; simp at h
  | cons a l ih =>
    intro i j f h hj
    cases i with
    | zero =>
      simp at h; subst h
      simp only [fcells, List.flatMap_cons]
      rw [List.getElem?_append_left (by simp [FV.cells]; omega)]
      simp
    | succ i =>
      simp at h
      have := ih i j f h hj
      simp only [fcells, List.flatMap_cons] at this ⊢
      rw [List.getElem?_append_right (by simp [FV.cells]; omega)]
      rw [← this]
      congr 1
      simp [FV.cells]; omega

theorem Lies.lt {B : Nat} {m : MS} {w : World} (h : Lies B m w) : ∀ k ∈ m.blks, B ≤ k ∧ k < w.heap.size := by
  intro k hk
  simp only [MS.blks, List.mem_cons, List.mem_append, Option.mem_toList, bblks, List.mem_flatMap] at hk
  rcases hk with rfl | hk | ⟨f, hf, hk⟩
  · exact ⟨h.base, (Array.getElem?_eq_some_iff.1 h.head).1⟩
  · exact h.row.lt k hk
  · exact (h.body f hf).lt k hk

theorem Lies.cell {B : Nat} {m : MS} {w : World} (h : Lies B m w) (i : Nat) : w.cell? ⟨m.D, i, none⟩ = m.head[i]? := Joins.cell_of_block h.head i
theorem Lies.free {B : Nat} {m : MS} {w : World} (h : Lies B m w) (i : Nat) : w.frozen? ⟨m.D, i, none⟩ = false := Joins.unfrozen_of_block h.head i

/-- What a call on the disk m may have turned: the disk's own blocks; and it is m' now. -/
structure Chg (m m' : MS) (w w' : World) : Prop where
  os : w'.os = w.os
  tape : w'.tape = w.tape
  output : w'.output = w.output
  size : w.heap.size ≤ w'.heap.size
  block : ∀ k, k < w.heap.size → k ∉ m.blks → w'.heap[k]? = w.heap[k]?
  fresh : ∀ k ∈ m'.blks, k ∈ m.blks ∨ w.heap.size ≤ k

theorem Chg.refl (m : MS) (w : World) : Chg m m w w := ⟨rfl, rfl, rfl, Nat.le_refl _, fun _ _ _ => rfl, fun _ h => .inl h⟩

theorem Chg.trans {a b c : MS} {w w1 w2 : World} (h : Chg a b w w1) (g : Chg b c w1 w2) : Chg a c w w2 :=
  ⟨g.os.trans h.os, g.tape.trans h.tape, g.output.trans h.output, Nat.le_trans h.size g.size,
    fun k hk hn => (g.block k (Nat.lt_of_lt_of_le hk h.size) (fun hb => by rcases h.fresh k hb with h1 | h1; exact hn h1; omega)).trans (h.block k hk hn),
    fun k hk => by
      rcases g.fresh k hk with h1 | h1
      · exact h.fresh k h1
      · exact .inr (Nat.le_trans h.size h1)⟩

theorem Chg.below {a b : MS} {w w' : World} (h : Chg a b w w') {B : Nat} (hB : ∀ k ∈ a.blks, B ≤ k) (hs : B ≤ w.heap.size) : Below B w w' :=
  ⟨h.os, h.tape, h.output, h.size, fun k hk => h.block k (by omega) (fun hb => by have := hB k hb; omega)⟩

theorem Chg.of_below {m : MS} {w w' : World} (h : Below w.heap.size w w') : Chg m m w w' :=
  ⟨h.os, h.tape, h.output, h.size, fun k hk _ => h.block k hk, fun _ h => .inl h⟩

/-- A world in which all old blocks are as they were holds the disk. -/
theorem Lies.kept {B : Nat} {m : MS} {w w' : World} (h : Lies B m w) (hk : ∀ k ∈ m.blks, w'.heap[k]? = w.heap[k]?) : Lies B m w' := by
  have hD : m.D ∈ m.blks := by simp [MS.blks]
  have own : ∀ {v : Value} {n sz : Nat} {e : TypeId} {xs : List Value}, w.ownsRow B e sz v n xs → (∀ k, v.ownBlock = some k → k ∈ m.blks) → w'.ownsRow B e sz v n xs := by
    intro v n sz e xs ho hm
    refine ⟨ho.1, ?_⟩
    rcases ho.2 with hn | ⟨g, cap, cur, rfl, hb, hgg, rest⟩
    · exact .inl hn
    · exact .inr ⟨g, cap, cur, rfl, hb, by rw [hk g (hm g rfl)]; exact hgg, rest⟩
  refine ⟨by rw [hk _ hD]; exact h.head, h.base, own h.row ?_, fun f hf => own (h.body f hf) ?_, h.apart⟩
  · intro k hk; simp [MS.blks, hk]
  · intro k hk
    simp only [MS.blks, List.mem_cons, List.mem_append, bblks, List.mem_flatMap]
    exact .inr (.inr ⟨f, hf, by simp [hk]⟩)

theorem Lies.below {B : Nat} {m : MS} {w w' : World} (h : Lies B m w) (hb : Below w.heap.size w w') : Lies B m w' :=
  h.kept fun k hk => hb.block k (h.lt k hk).2

theorem Lies.other {B : Nat} {m a b : MS} {w w' : World} (h : Lies B m w) (hc : Chg a b w w') (hd : ∀ k ∈ m.blks, k ∉ a.blks) : Lies B m w' :=
  h.kept fun k hk => hc.block k (h.lt k hk).2 (hd k hk)

theorem Lies.le {B B' : Nat} {m : MS} {w : World} (h : Lies B m w) (hB : B' ≤ B) : Lies B' m w :=
  ⟨h.head, Nat.le_trans hB h.base, Joins.ownsRow_le h.row hB, fun f hf => Joins.ownsRow_le (h.body f hf) hB, h.apart⟩

/-- One cell of the head is stored. -/
theorem Lies.setHead {B : Nat} {m m' : MS} {w : World} (h : Lies B m w) (i : Nat) (v : Value) (hm : m'.head = m.head.setIfInBounds i v) (hD : m'.D = m.D) (hf : m'.fv = m.fv) (hl : m'.l = m.l) :
    Lies B m' (w.setCell ⟨m.D, i, none⟩ v) ∧ Chg m m' w (w.setCell ⟨m.D, i, none⟩ v) := by
  have hb : m'.blks = m.blks := by simp [MS.blks, hD, hf, hl]
  have hapart := h.apart
  have hne : ∀ k, k ∈ m.fv.ownBlock.toList ++ bblks m.l → k ≠ m.D := by
    intro k hk e
    subst e
    simp only [MS.blks, List.nodup_cons] at hapart
    exact hapart.1 hk
  have own : ∀ {v' : Value} {n sz : Nat} {e : TypeId} {xs : List Value}, w.ownsRow B e sz v' n xs → (∀ k, v'.ownBlock = some k → k ≠ m.D) → (w.setCell ⟨m.D, i, none⟩ v).ownsRow B e sz v' n xs := by
    intro v' n sz e xs ho hm
    exact ho.kept (row := some m.D) ⟨rfl, rfl, rfl, by simp, fun k _ hk => Below.heap_setCell _ _ _ _ (fun e => hk (by rw [e]))⟩ (by
      cases hv : v'.ownBlock with
      | none => exact .inl rfl
      | some k => right; intro e; simp at e; exact hm k hv e)
  refine ⟨⟨?_, ?_, ?_, ?_, ?_⟩, ⟨rfl, rfl, rfl, by simp, fun k _ hk => Below.heap_setCell _ _ _ _ (fun e => hk (by simp [MS.blks, e])), fun k hk => .inl (by rw [hb] at hk; exact hk)⟩⟩
  · rw [hD, hm]; exact Joins.block_setCell h.head (i := i) v
  · rw [hD]; exact h.base
  · rw [hf, hl]; exact own h.row fun k hk => hne k (by simp [hk])
  · rw [hl]; intro f hf'; exact own (h.body f hf') fun k hk => hne k (by
      simp only [List.mem_append, bblks, List.mem_flatMap]; exact .inr ⟨f, hf', by simp [hk]⟩)
  · rw [hb]; exact hapart
end Go.Proofs.YtopigchjdegpeaaDoor
