/-
  Rows of floats; what is sorted, and that there is one such list.
-/
import Derived.Test.YtgdgapklkodnjaaFloatC
import Derived.Test.YtgdgapklkodnjaaFloatLay
import Derived.Laws.OwnMore
namespace Go.Proofs.Ytgdgapklkodnjaa
open Go.RowKit Go.Shelf Go.Lib Go.Sort

theorem run_store_flt (P : Program) (w : World) (a : Addr) (m : Mode) (k : FloatKind) (b : Nat) : (store a (.float k b) m).run P w = stored P w a (.float k b) m := run_store P w a _ m rfl

theorem floatInfo : (Try.prog.info? 22).map (fun i => (i.zero, i.size, i.bytes)) = some (some (.float .f64 0), 1, 8) := by kernel_rfl

def fcs (l : List Nat) : List Value := l.map (Value.float .f64)
theorem fcs_len (l : List Nat) : (fcs l).length = l.length := by simp [fcs]
/-- The slice v is the call's own, and holds the numbers l. -/
def OwnF (B : Nat) (v : Value) (l : List Nat) (w : World) : Prop := w.ownsRow B 22 1 v l.length (fcs l)
/-- The slice v can be read: its elements are the numbers l. -/
def FIn (w : World) (v : Value) (l : List Nat) : Prop :=
  (v = .slice none 0 0 ∧ l = []) ∨ ∃ g cap, v = .slice (some ⟨g, 0, none⟩) l.length cap ∧ g < w.heap.size ∧ ∀ j (h : j < l.length), w.cell? ⟨g, j, none⟩ = some (.float .f64 l[j])

theorem FIn.below {w w' : World} {v : Value} {l : List Nat} (h : FIn w v l) (hb : Below w.heap.size w w') : FIn w' v l := by
  rcases h with ⟨rfl, rfl⟩ | ⟨g, cap, rfl, hg, hc⟩
  · exact .inl ⟨rfl, rfl⟩
  · exact .inr ⟨g, cap, rfl, Nat.lt_of_lt_of_le hg hb.size, fun j hj => by rw [hb.cell (p := ⟨g, j, none⟩) hg]; exact hc j hj⟩

theorem OwnF.fin {B : Nat} {v : Value} {l : List Nat} {w : World} (h : OwnF B v l w) : FIn w v l := by
  obtain ⟨hl, hv⟩ := h
  rcases hv with ⟨rfl, h0⟩ | ⟨g, cap, cur, rfl, hb, hg, hn, hm, hs, htk⟩
  · obtain rfl : l = [] := List.length_eq_zero_iff.1 h0
    exact .inl ⟨rfl, rfl⟩
  · refine .inr ⟨g, cap, rfl, ?_, fun j hj => ?_⟩
    · exact (Array.getElem?_eq_some_iff.1 hg).1
    · have h2 := World.ownsRow.cellAt (base := B) (size := 1) (n := l.length) (g := g) (cap := cap) (xs := fcs l) (w := w) (e := 22) ⟨hl, .inr ⟨g, cap, cur, rfl, hb, hg, hn, hm, hs, htk⟩⟩ j (by omega)
      rw [h2]
      simp [fcs, hj]

/-- a new row of n numbers, each 0 -/
theorem make_floats (n : Nat) (hn : n ≤ 65536) (W : World) :
    (Instr.makeSlice 39 (.int .i64 (n : Int)) (.int .i64 (n : Int))).run Try.prog W = .ok (.slice (some ⟨W.heap.size, 0, none⟩) n n) (W.alloc (.cells (List.replicate n (Value.float .f64 0)).toArray 22)) := by
  obtain ⟨i0, hi, hz0, hz1, hz2⟩ := info_parts floatInfo
  have h := run_make (P := Try.prog) (w := W) 39 22 i0 (.float .f64 0) Try.underlying39 hi hz0 .i64 .i64 (n : Int) (n : Int) (by omega) (by omega) (by rw [hz2]; omega) (by omega)
  rw [h, hz1]
  congr 3
  apply Array.ext_getElem?
  intro j
  simp [madeCells]
  by_cases hj : j < n
  · simp [hj, Value.cells, Nat.mod_one]
  · simp [hj]

/-- the row of cleaned numbers, its first k laid -/
def cRow (l : List Nat) (k : Nat) : List Nat := (l.take k).map cln ++ List.replicate (l.length - k) 0
theorem cRow_len (l : List Nat) (k : Nat) : (cRow l k).length = l.length := by simp [cRow]; omega
theorem cRow_zero (l : List Nat) : cRow l 0 = List.replicate l.length 0 := by simp [cRow]
theorem cRow_all (l : List Nat) : cRow l l.length = l.map cln := by simp [cRow]
theorem cRow_set (l : List Nat) (k : Nat) (h : k < l.length) : (cRow l k).set k (cln l[k]) = cRow l (k + 1) := by
  unfold cRow
  apply List.ext_getElem (by simp; omega)
  intro i h1 h2
  rw [List.getElem_set]
  by_cases hi : k = i
  · subst hi
    rw [if_pos rfl, List.getElem_append_left (by simp; omega)]
    simp
  · rw [if_neg hi]
    by_cases hl : i < k
    · rw [List.getElem_append_left (by simp; omega), List.getElem_append_left (by simp; omega)]
      simp
    · rw [List.getElem_append_right (by simp; omega), List.getElem_append_right (by simp; omega)]
      simp
theorem fcs_set (l : List Nat) (k b : Nat) : (fcs l).set k (.float .f64 b) = fcs (l.set k b) := by
  unfold fcs; rw [List.map_set]
theorem ownF_made (W : World) (n : Nat) (hn : n ≤ 65536) : OwnF W.heap.size (.slice (some ⟨W.heap.size, 0, none⟩) n n) (List.replicate n 0) (W.alloc (.cells (List.replicate n (Value.float .f64 0)).toArray 22)) := by
  unfold OwnF
  have h := World.ownsRow_lit (base := W.heap.size) (e := 22) (size := 1) W (List.replicate n (Value.float .f64 0)).toArray n (Nat.le_refl _) (by unfold maxLen; omega) (by simp)
  have e : fcs (List.replicate n 0) = List.replicate n (Value.float .f64 0) := by simp [fcs]
  rw [e, List.length_replicate]
  simpa using h

/-! what is sorted -/
def IsSort (l r : List Nat) : Prop := r.Perm (l.map cln) ∧ r.Pairwise (fun a b => keyB a ≤ keyB b)
theorem IsSort.uniq {l r r' : List Nat} (hl : ∀ x ∈ l, x < 18446744073709551616) (h : IsSort l r) (h' : IsSort l r') : r = r' := by
  refine List.Perm.eq_of_pairwise (le := fun a b => keyB a ≤ keyB b) ?_ h.2 h'.2 (h.1.trans h'.1.symm)
  intro a b ha hb h1 h2
  have m1 := (h.1.mem_iff).1 ha
  have m2 := (h'.1.mem_iff).1 hb
  obtain ⟨x, hx, rfl⟩ := List.mem_map.1 m1
  obtain ⟨y, hy, rfl⟩ := List.mem_map.1 m2
  have := keyB_inj (cln_lt (hl x hx)) (cln_lt (hl y hy)) (Nat.le_antisymm h1 h2)
  rwa [cln_cln, cln_cln] at this

/-! the sort's own words -/
def encF (x : UInt64) : Value := .float .f64 x.toNat
def cfF (x y : UInt64) : Int := cmpK x.toNat y.toNat
theorem lt_cmpK (a b : Nat) : decide (cmpK a b < 0) = decide (keyB a < keyB b) := by
  unfold cmpK cmpI
  by_cases h : keyB a < keyB b
  · rw [if_pos (by omega)]; simp [h]
  · rw [if_neg (by omega)]
    split <;> simp [h]
theorem lt_cfF (x y : UInt64) : ltOf cfF x y = decide (keyB x.toNat < keyB y.toNat) := lt_cmpK _ _
theorem swoF : SWO (ltOf cfF) := {
  irrefl := fun x => by rw [lt_cfF]; simp
  trans := fun x y z h1 h2 => by rw [lt_cfF] at *; simp only [decide_eq_true_eq] at *; omega
  ntrans := fun x y z h1 h2 => by rw [lt_cfF] at *; simp only [decide_eq_false_iff_not] at *; omega }
theorem cmpLaysF (blk off size : Nat) (w : World) : CmpLays1 Try.prog 28 #[] encF cfF blk off size w :=
  CmpReads.lays fun _ _ _ _ x y => (cmpSort x.toNat y.toNat x.toNat_lt y.toNat_lt _).mono fun _ _ ⟨he, hw⟩ => ⟨he, 0, hw.symm⟩

def arrF (l : List Nat) : Array UInt64 := (l.map UInt64.ofNat).toArray
theorem below_sorted (w : World) (B blk off n : Nat) (d : Array UInt64) (os : Array Obj) (hB : B ≤ blk) (hblk : blk < w.heap.size) : Go.RowKit.Below B w (sortWorld encF w blk off n d os) := by
  refine ⟨rfl, rfl, rfl, ?_, fun k hk => ?_⟩
  · unfold sortWorld; rw [size_grow, Sort.size_putRow]; exact Nat.le_add_right _ _
  · unfold sortWorld
    rw [heap_grow_old _ _ (by rw [Sort.size_putRow]; show k < w.heap.size; omega)]
    unfold putRow mapBlock
    rw [Array.getElem?_modify, if_neg (by omega)]
    rfl

theorem sortCall (l : List Nat) (hl : ∀ x ∈ l, x < 18446744073709551616) (g cap B : Nat) (hB : B ≤ g) (w : World) (hlen : l.length ≤ 65536)
    (hown : OwnF B (.slice (some ⟨g, 0, none⟩) l.length cap) (l.map cln) w) :
    Calls Try.prog 27 #[.slice (some ⟨g, 0, none⟩) l.length cap, .func (.func 28) #[] #[]] w fun e w' =>
      e = .returned (.tuple #[]) ∧ ∃ r, IsSort l r ∧ FIn w' (.slice (some ⟨g, 0, none⟩) l.length cap) r ∧ Go.RowKit.Below B w w' := by
  have hn : (l.map cln).length = l.length := by simp
  have hfin := hown.fin
  obtain ⟨hg, hc⟩ : g < w.heap.size ∧ ∀ j (h : j < (l.map cln).length), w.cell? ⟨g, j, none⟩ = some (.float .f64 (l.map cln)[j]) := by
    rcases hfin with ⟨h, _⟩ | ⟨g', cap', h, hg, hc⟩
    · cases h
    · injection h with h1 h2 h3
      injection h1 with h1
      injection h1 with h1
      subst h1
      exact ⟨hg, hc⟩
  have hsz : (arrF (l.map cln)).size = l.length := by simp [arrF]
  have hel : ∀ j, j < l.length → (arrF (l.map cln))[j]!.toNat = (l.map cln)[j]! := by
    intro j hj
    have h1 : j < (arrF (l.map cln)).size := by omega
    have h2 : j < (l.map cln).length := by omega
    rw [getElem!_pos _ j h1, getElem!_pos _ j h2]
    have h3 : cln l[j] < 18446744073709551616 := cln_lt (hl _ (List.getElem_mem _))
    simp [arrF]
    omega
  have hH : Holds encF w g 0 (arrF (l.map cln)) := by
    intro j hj
    rw [hsz] at hj
    refine ⟨?_, ?_⟩
    · unfold encF
      rw [hel j hj, Nat.zero_add, hc j (by omega), getElem!_pos (l.map cln) j (by omega)]
    · have h2 : w.ownsRow B 22 1 (.slice (some ⟨g, 0, none⟩) l.length cap) l.length (fcs (l.map cln)) := by
        have h := hown; unfold OwnF at h; rw [hn] at h; exact h
      exact World.ownsRow.frozenAt h2 _
  have eg : ∀ args w, (callFunc 28 args).run Try.prog w = .ok (.enter 28 args) w := enters_of Try.func28 (by kernel_rfl) rfl
  have hcon := Any.slices_SortFunc sortF encF (fun _ => rfl) cfF swoF 28 #[] g 0 cap (arrF (l.map cln)) w eg (cmpLaysF g 0 _ w) hH hg (by omega)
  rw [hsz] at hcon
  refine Calls.mono (f := 27) hcon ?_
  rintro e w' ⟨rfl, d', n, os, hp, hs, rfl⟩
  obtain ⟨hp1, _, hp2⟩ := hp
  have e1 : d'.extract 0 l.length = d' := by rw [← hsz, ← hp1]; exact Array.extract_size
  have e2 : (arrF (l.map cln)).extract 0 l.length = arrF (l.map cln) := by rw [← hsz]; exact Array.extract_size
  rw [e1, e2] at hp2
  have hrl : (d'.toList.map UInt64.toNat).length = l.length := by simp; omega
  refine ⟨rfl, d'.toList.map UInt64.toNat, ⟨?_, ?_⟩, .inr ⟨g, cap, by rw [hrl], lt_sortWorld encF w g 0 n d' os hg, fun j hj => ?_⟩, below_sorted w B g 0 n d' os hB hg⟩
  · have h := hp2.map UInt64.toNat
    refine h.trans ?_
    have e : (arrF (l.map cln)).toList.map UInt64.toNat = l.map cln := by
      apply List.ext_getElem (by simp [arrF])
      intro i h1 h2
      have h3 : i < l.length := by simpa using h2
      have h4 : cln l[i] < 18446744073709551616 := cln_lt (hl _ (List.getElem_mem _))
      simp [arrF]
      omega
    rw [e]
  · rw [List.pairwise_map, List.pairwise_iff_getElem]
    intro i j hi hj hij
    have h := hs i j (Nat.zero_le _) hij (by simp at hj; omega)
    rw [lt_cfF] at h
    simp only [decide_eq_false_iff_not, Nat.not_lt] at h
    rw [getElem!_pos d' j (by simpa using hj), getElem!_pos d' i (by simpa using hi)] at h
    simpa using h
  · have h := (holds_sortWorld encF w g 0 n (arrF (l.map cln)) d' os hg hH hp1 j (by simp at hj; omega)).1
    rw [Nat.zero_add] at h
    rw [h]
    have hj' : j < d'.size := by simpa using hj
    unfold encF
    rw [getElem!_pos d' j hj']
    simp
end Go.Proofs.Ytgdgapklkodnjaa
