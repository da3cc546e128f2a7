/-
  Rows of floats; what is sorted, and that there is one such list.
  Chapter 20 in plain words: a backup as it is seen.
  Rows of structs of any kind: how they lie, are read, and are appended to.
-/
import Derived.Test.YtchnklekeinhiaaGreatGV13
import Derived.Test.YtchnklekeinhiaaGreatFloatLay
import Derived.Laws.OwnMore
import Derived.Test.YtchnklekeinhiaaGreatGV10
import Derived.Deep.MidRow
import Derived.Deep.WholeRow
import Derived.Great.BuildSlice
namespace Go.Proofs.YtchnklekeinhiaaGreat
set_option maxRecDepth 100000
open Go.RowKit Go.Shelf Go.Lib Go.Sort

theorem run_store_flt (P : Program) (w : World) (a : Addr) (m : Mode) (k : FloatKind) (b : Nat) : (store a (.float k b) m).run P w = stored P w a (.float k b) m := run_store P w a _ m rfl

theorem floatInfo : (Tryz.prog.info? 55).map (fun i => (i.zero, i.size, i.bytes)) = some (some (.float .f64 0), 1, 8) := by kernel_rfl

def flcs (l : List Nat) : List Value := l.map (Value.float .f64)
theorem flcs_len (l : List Nat) : (flcs l).length = l.length := by simp [flcs]
/-- The slice v is the call's own, and holds the numbers l. -/
def OwnFl (B : Nat) (v : Value) (l : List Nat) (w : World) : Prop := w.ownsRow B 55 1 v l.length (flcs l)
/-- The slice v can be read: its elements are the numbers l. -/
def FlIn (w : World) (v : Value) (l : List Nat) : Prop :=
  (v = .slice none 0 0 ∧ l = []) ∨ ∃ g cap, v = .slice (some ⟨g, 0, none⟩) l.length cap ∧ g < w.heap.size ∧ ∀ j (h : j < l.length), w.cell? ⟨g, j, none⟩ = some (.float .f64 l[j])

theorem FlIn.below {w w' : World} {v : Value} {l : List Nat} (h : FlIn w v l) (hb : Below w.heap.size w w') : FlIn w' v l := by
  rcases h with ⟨rfl, rfl⟩ | ⟨g, cap, rfl, hg, hc⟩
  · exact .inl ⟨rfl, rfl⟩
  · exact .inr ⟨g, cap, rfl, Nat.lt_of_lt_of_le hg hb.size, fun j hj => by rw [hb.cell (p := ⟨g, j, none⟩) hg]; exact hc j hj⟩

theorem OwnFl.fin {B : Nat} {v : Value} {l : List Nat} {w : World} (h : OwnFl B v l w) : FlIn w v l := by
  obtain ⟨hl, hv⟩ := h
  rcases hv with ⟨rfl, h0⟩ | ⟨g, cap, cur, rfl, hb, hg, hn, hm, hs, htk⟩
  · obtain rfl : l = [] := List.length_eq_zero_iff.1 h0
    exact .inl ⟨rfl, rfl⟩
  · refine .inr ⟨g, cap, rfl, ?_, fun j hj => ?_⟩
    · exact (Array.getElem?_eq_some_iff.1 hg).1
    · have h2 := World.ownsRow.cellAt (base := B) (size := 1) (n := l.length) (g := g) (cap := cap) (xs := flcs l) (w := w) (e := 55) ⟨hl, .inr ⟨g, cap, cur, rfl, hb, hg, hn, hm, hs, htk⟩⟩ j (by omega)
      rw [h2]
      simp [flcs, hj]

/-- .. and lies no lower than lo -/
def FlFrom (w : World) (lo : Nat) (v : Value) (l : List Nat) : Prop :=
  (v = .slice none 0 0 ∧ l = []) ∨ ∃ g cap, v = .slice (some ⟨g, 0, none⟩) l.length cap ∧ lo ≤ g ∧ g < w.heap.size ∧ ∀ j (h : j < l.length), w.cell? ⟨g, j, none⟩ = some (.float .f64 l[j])
theorem FlFrom.fin {w : World} {lo : Nat} {v : Value} {l : List Nat} (h : FlFrom w lo v l) : FlIn w v l := by
  rcases h with h | ⟨g, cap, h1, -, h2, h3⟩
  · exact .inl h
  · exact .inr ⟨g, cap, h1, h2, h3⟩
theorem FlIn.from {w : World} {g n c : Nat} {l : List Nat} (h : FlIn w (.slice (some ⟨g, 0, none⟩) n c) l) {lo : Nat} (hl : lo ≤ g) : FlFrom w lo (.slice (some ⟨g, 0, none⟩) n c) l := by
  rcases h with ⟨h, -⟩ | ⟨g', cap, he, h2, h3⟩
  · cases h
  · injection he with h4 h5 h6
    injection h4 with h4
    injection h4 with h7 h8 h9
    subst h7 h5 h6
    exact .inr ⟨_, _, rfl, hl, h2, h3⟩
theorem OwnFl.from {B : Nat} {v : Value} {l : List Nat} {w : World} (h : OwnFl B v l w) : FlFrom w B v l := by
  have hf := h.fin
  obtain ⟨hl, hv⟩ := h
  rcases hv with ⟨rfl, h0⟩ | ⟨g, cap, cur, rfl, hb, hg, hn, hm, hs, htk⟩
  · exact .inl ⟨rfl, List.length_eq_zero_iff.1 h0⟩
  · exact hf.from hb

/-- a new row of n numbers, each 0 -/
theorem make_floats (n : Nat) (hn : n ≤ 65536) (W : World) :
    (Instr.makeSlice 28 (.int .i64 (n : Int)) (.int .i64 (n : Int))).run Tryz.prog W = .ok (.slice (some ⟨W.heap.size, 0, none⟩) n n) (W.alloc (.cells (List.replicate n (Value.float .f64 0)).toArray 55)) := by
  obtain ⟨i0, hi, hz0, hz1, hz2⟩ := info_parts floatInfo
  have h := run_make (P := Tryz.prog) (w := W) 28 55 i0 (.float .f64 0) Tryz.underlying28 hi hz0 .i64 .i64 (n : Int) (n : Int) (by omega) (by omega) (by rw [hz2]; omega) (by omega)
  rw [h, hz1]
  congr 3
  apply Array.ext_getElem?
  intro j
  simp [madeCells]
  by_cases hj : j < n
  · simp [hj, Value.cells, Nat.mod_one]
  · simp [hj]

/-- the row of cleaned numbers, its first k laid -/
def cRow (l : List Nat) (k : Nat) : List Nat := (l.take k).map cln ++ List.replicate (l.length - k) 0
theorem cRow_len (l : List Nat) (k : Nat) : (cRow l k).length = l.length := by simp [cRow]; omega
theorem cRow_zero (l : List Nat) : cRow l 0 = List.replicate l.length 0 := by simp [cRow]
theorem cRow_all (l : List Nat) : cRow l l.length = l.map cln := by simp [cRow]
theorem cRow_set (l : List Nat) (k : Nat) (h : k < l.length) : (cRow l k).set k (cln l[k]) = cRow l (k + 1) := by
  unfold cRow
  apply List.ext_getElem (by simp; omega)
  intro i h1 h2
  rw [List.getElem_set]
  by_cases hi : k = i
  · subst hi
    rw [if_pos rfl, List.getElem_append_left (by simp; omega)]
    simp
  · rw [if_neg hi]
    by_cases hl : i < k
    · rw [List.getElem_append_left (by simp; omega), List.getElem_append_left (by simp; omega)]
      simp
    · rw [List.getElem_append_right (by simp; omega), List.getElem_append_right (by simp; omega)]
      simp
theorem flcs_set (l : List Nat) (k b : Nat) : (flcs l).set k (.float .f64 b) = flcs (l.set k b) := by
  unfold flcs; rw [List.map_set]
theorem ownFl_made (W : World) (n : Nat) (hn : n ≤ 65536) : OwnFl W.heap.size (.slice (some ⟨W.heap.size, 0, none⟩) n n) (List.replicate n 0) (W.alloc (.cells (List.replicate n (Value.float .f64 0)).toArray 55)) := by
  unfold OwnFl
  have h := World.ownsRow_lit (base := W.heap.size) (e := 55) (size := 1) W (List.replicate n (Value.float .f64 0)).toArray n (Nat.le_refl _) (by unfold maxLen; omega) (by simp)
  have e : flcs (List.replicate n 0) = List.replicate n (Value.float .f64 0) := by simp [flcs]
  rw [e, List.length_replicate]
  simpa using h

/-! what is sorted -/
def IsSort (l r : List Nat) : Prop := r.Perm (l.map cln) ∧ r.Pairwise (fun a b => keyB a ≤ keyB b)
theorem IsSort.uniq {l r r' : List Nat} (hl : ∀ x ∈ l, x < 18446744073709551616) (h : IsSort l r) (h' : IsSort l r') : r = r' := by
  refine List.Perm.eq_of_pairwise (le := fun a b => keyB a ≤ keyB b) ?_ h.2 h'.2 (h.1.trans h'.1.symm)
  intro a b ha hb h1 h2
  have m1 := (h.1.mem_iff).1 ha
  have m2 := (h'.1.mem_iff).1 hb
  obtain ⟨x, hx, rfl⟩ := List.mem_map.1 m1
  obtain ⟨y, hy, rfl⟩ := List.mem_map.1 m2
  have := keyB_inj (cln_lt (hl x hx)) (cln_lt (hl y hy)) (Nat.le_antisymm h1 h2)
  rwa [cln_cln, cln_cln] at this

/-! the sort's own words -/
def flEnc (x : UInt64) : Value := .float .f64 x.toNat
def flCf (x y : UInt64) : Int := cmpK x.toNat y.toNat
theorem lt_cmpK (a b : Nat) : decide (cmpK a b < 0) = decide (keyB a < keyB b) := by
  unfold cmpK cmpI
  by_cases h : keyB a < keyB b
  · rw [if_pos (by omega)]; simp [h]
  · rw [if_neg (by omega)]
    split <;> simp [h]
theorem flLt_cf (x y : UInt64) : ltOf flCf x y = decide (keyB x.toNat < keyB y.toNat) := lt_cmpK _ _
theorem flSwo : SWO (ltOf flCf) := {
  irrefl := fun x => by rw [flLt_cf]; simp
  trans := fun x y z h1 h2 => by rw [flLt_cf] at *; simp only [decide_eq_true_eq] at *; omega
  ntrans := fun x y z h1 h2 => by rw [flLt_cf] at *; simp only [decide_eq_false_iff_not] at *; omega }
theorem flCmpLays (blk off size : Nat) (w : World) : CmpLays1 Tryz.prog 93 #[] flEnc flCf blk off size w :=
  CmpReads.lays fun _ _ _ _ x y => (cmpSort x.toNat y.toNat x.toNat_lt y.toNat_lt _).mono fun _ _ ⟨he, hw⟩ => ⟨he, 0, hw.symm⟩

def flArr (l : List Nat) : Array UInt64 := (l.map UInt64.ofNat).toArray
theorem flBelow_sorted (w : World) (B blk off n : Nat) (d : Array UInt64) (os : Array Obj) (hB : B ≤ blk) (hblk : blk < w.heap.size) : Go.RowKit.Below B w (sortWorld flEnc w blk off n d os) := by
  refine ⟨rfl, rfl, rfl, ?_, fun k hk => ?_⟩
  · unfold sortWorld; rw [size_grow, Sort.size_putRow]; exact Nat.le_add_right _ _
  · unfold sortWorld
    rw [heap_grow_old _ _ (by rw [Sort.size_putRow]; show k < w.heap.size; omega)]
    unfold putRow mapBlock
    rw [Array.getElem?_modify, if_neg (by omega)]
    rfl

theorem flSortCall (l : List Nat) (hl : ∀ x ∈ l, x < 18446744073709551616) (g cap B : Nat) (hB : B ≤ g) (w : World) (hlen : l.length ≤ 65536)
    (hown : OwnFl B (.slice (some ⟨g, 0, none⟩) l.length cap) (l.map cln) w) :
    Calls Tryz.prog 92 #[.slice (some ⟨g, 0, none⟩) l.length cap, .func (.func 93) #[] #[]] w fun e w' =>
      e = .returned (.tuple #[]) ∧ ∃ r, IsSort l r ∧ FlIn w' (.slice (some ⟨g, 0, none⟩) l.length cap) r ∧ Go.RowKit.Below B w w' := by
  have hn : (l.map cln).length = l.length := by simp
  have hfin := hown.fin
  obtain ⟨hg, hc⟩ : g < w.heap.size ∧ ∀ j (h : j < (l.map cln).length), w.cell? ⟨g, j, none⟩ = some (.float .f64 (l.map cln)[j]) := by
    rcases hfin with ⟨h, _⟩ | ⟨g', cap', h, hg, hc⟩
    · cases h
    · injection h with h1 h2 h3
      injection h1 with h1
      injection h1 with h1
      subst h1
      exact ⟨hg, hc⟩
  have hsz : (flArr (l.map cln)).size = l.length := by simp [flArr]
  have hel : ∀ j, j < l.length → (flArr (l.map cln))[j]!.toNat = (l.map cln)[j]! := by
    intro j hj
    have h1 : j < (flArr (l.map cln)).size := by omega
    have h2 : j < (l.map cln).length := by omega
    rw [getElem!_pos _ j h1, getElem!_pos _ j h2]
    have h3 : cln l[j] < 18446744073709551616 := cln_lt (hl _ (List.getElem_mem _))
    simp [flArr]
    omega
  have hH : Holds flEnc w g 0 (flArr (l.map cln)) := by
    intro j hj
    rw [hsz] at hj
    refine ⟨?_, ?_⟩
    · unfold flEnc
      rw [hel j hj, Nat.zero_add, hc j (by omega), getElem!_pos (l.map cln) j (by omega)]
    · have h2 : w.ownsRow B 55 1 (.slice (some ⟨g, 0, none⟩) l.length cap) l.length (flcs (l.map cln)) := by
        have h := hown; unfold OwnFl at h; rw [hn] at h; exact h
      exact World.ownsRow.frozenAt h2 _
  have eg : ∀ args w, (callFunc 93 args).run Tryz.prog w = .ok (.enter 93 args) w := enters_of Tryz.func93 (by kernel_rfl) rfl
  have hcon := Any.slices_SortFunc flLaysF flEnc (fun _ => rfl) flCf flSwo 93 #[] g 0 cap (flArr (l.map cln)) w eg (flCmpLays g 0 _ w) hH hg (by omega)
  rw [hsz] at hcon
  refine Calls.mono (f := 92) hcon ?_
  rintro e w' ⟨rfl, d', n, os, hp, hs, rfl⟩
  obtain ⟨hp1, _, hp2⟩ := hp
  have e1 : d'.extract 0 l.length = d' := by rw [← hsz, ← hp1]; exact Array.extract_size
  have e2 : (flArr (l.map cln)).extract 0 l.length = flArr (l.map cln) := by rw [← hsz]; exact Array.extract_size
  rw [e1, e2] at hp2
  have hrl : (d'.toList.map UInt64.toNat).length = l.length := by simp; omega
  refine ⟨rfl, d'.toList.map UInt64.toNat, ⟨?_, ?_⟩, .inr ⟨g, cap, by rw [hrl], lt_sortWorld flEnc w g 0 n d' os hg, fun j hj => ?_⟩, flBelow_sorted w B g 0 n d' os hB hg⟩
  · have h := hp2.map UInt64.toNat
    refine h.trans ?_
    have e : (flArr (l.map cln)).toList.map UInt64.toNat = l.map cln := by
      apply List.ext_getElem (by simp [flArr])
      intro i h1 h2
      have h3 : i < l.length := by simpa using h2
      have h4 : cln l[i] < 18446744073709551616 := cln_lt (hl _ (List.getElem_mem _))
      simp [flArr]
      omega
    rw [e]
  · rw [List.pairwise_map, List.pairwise_iff_getElem]
    intro i j hi hj hij
    have h := hs i j (Nat.zero_le _) hij (by simp at hj; omega)
    rw [flLt_cf] at h
    simp only [decide_eq_false_iff_not, Nat.not_lt] at h
    rw [getElem!_pos d' j (by simpa using hj), getElem!_pos d' i (by simpa using hi)] at h
    simpa using h
  · have h := (holds_sortWorld flEnc w g 0 n (flArr (l.map cln)) d' os hg hH hp1 j (by simp at hj; omega)).1
    rw [Nat.zero_add] at h
    rw [h]
    have hj' : j < d'.size := by simpa using hj
    unfold flEnc
    rw [getElem!_pos d' j hj']
    simp
end Go.Proofs.YtchnklekeinhiaaGreat

namespace Go.Proofs.YtchnklekeinhiaaGreat
set_option linter.unusedSimpArgs false
set_option linter.unusedVariables false

/-- a backup -/
structure Ent where
  n : ByteArray
  m : Man
  lb : ByteArray
  tg : List ByteArray
  kp : List Nat
  ds : List Dt
abbrev zEn : Ent := ⟨ByteArray.empty, ⟨0, 0, []⟩, ByteArray.empty, [], [], []⟩
/-- the numbers that are read of texts -/
def numsV (el : List ByteArray) : List Nat := el.filterMap (fun s => if rdN s.data.toList = 0 then some (rdB s.data.toList) else none)
/-- the last value of some facts -/
def LastV (l : List Ft) (v : ByteArray) : Prop := ∃ s, OrderR l s ∧ (lastR s).1 = v
theorem LastV.same {l k : List Ft} {v u : ByteArray} (hp : l.Perm k) (h : LastV l v) (h2 : LastV k u) : v = u := by
  obtain ⟨s, hs, rfl⟩ := h
  obtain ⟨t, ht, rfl⟩ := h2
  rw [OrderR.last hp hs ht]
/-- what the backup of a name is -/
structure EntR (l : List Ft) (n : ByteArray) (e : Ent) : Prop where
  nm : e.n = n
  m : ∃ v, LastV (ofR 1 n l) v ∧ e.m = (readM v).1
  lb : LastV (ofR 2 n l) e.lb
  tg : ElemsR (ofR 3 n l) e.tg
  kp : ∃ el, ElemsR (ofR 4 n l) el ∧ IsSort (numsV el) e.kp
  ds : e.ds = sortD ((ofR 1 n l).map (·.d))
theorem numsV_lt {el : List ByteArray} : ∀ x ∈ numsV el, x < 18446744073709551616 := by
  intro x hx
  unfold numsV at hx
  obtain ⟨s, -, h⟩ := List.mem_filterMap.1 hx
  split at h
  · obtain rfl := Option.some.inj h; exact rdB_lt _
  · cases h
theorem sortD_perm {a b : List Dt} (h : a.Perm b) : sortD a = sortD b :=
  rise_same (rise_sortD _) (rise_sortD _) fun z => by rw [mem_sortD, mem_sortD, h.mem_iff]
theorem EntR.same {l k : List Ft} {n : ByteArray} {a b : Ent} (hp : l.Perm k) (h : EntR l n a) (h2 : EntR k n b) : a = b := by
  obtain ⟨n1, m1, l1, t1, k1, d1⟩ := a
  obtain ⟨n2, m2, l2, t2, k2, d2⟩ := b
  obtain ⟨v, hv, e1⟩ := h.m
  obtain ⟨u, hu, e2⟩ := h2.m
  have hvu := LastV.same (ofR_perm hp 1 n) hv hu
  have hlb := LastV.same (ofR_perm hp 2 n) h.lb h2.lb
  have htg := ElemsR.same (fun f => (ofR_perm hp 3 n).mem_iff) h.tg h2.tg
  obtain ⟨x, hx, s1⟩ := h.kp
  obtain ⟨y, hy, s2⟩ := h2.kp
  have hxy := ElemsR.same (fun f => (ofR_perm hp 4 n).mem_iff) hx hy
  subst hxy
  have hkp := IsSort.uniq numsV_lt s1 s2
  have hn1 := h.nm
  have hn2 := h2.nm
  have hd1 := h.ds
  have hd2 := h2.ds
  simp only at e1 e2 hlb htg hkp hn1 hn2 hd1 hd2
  rw [hn1, hn2, e1, e2, hvu, hlb, htg, hkp, hd1, hd2, sortD_perm ((ofR_perm hp 1 n).map (·.d))]
end Go.Proofs.YtchnklekeinhiaaGreat

namespace Go.Proofs.YtchnklekeinhiaaGreat
set_option linter.unusedSimpArgs false
set_option linter.unusedVariables false
set_option maxRecDepth 100000
open Go.RowKit

/-- how a kind of things lies in cells -/
structure EncG (α : Type) where
  enc : α → List Value
  n : Nat
  T : TypeId
  S : TypeId
  z : Value
  by' : Nat
  len : ∀ a, (enc a).length = n
  cell : ∀ a, ∀ u ∈ enc a, u.oneCell' = true
  pos : 0 < n
  info : (Tryz.prog.info? T).map (fun i => (i.zero, i.size, i.bytes)) = some (some z, n, by')
  und : Tryz.prog.underlying S = some (.slice T)
  zs : z.cells.size = n
  lim : by' ≤ 1000000
section
variable {α : Type} (E : EncG α)
def rowG (l : List α) : List Value := l.flatMap E.enc
theorem rowG_len (l : List α) : (rowG E l).length = l.length * E.n := by
  induction l with
  | nil => simp [rowG]
  | cons d r ih =>
    have e : rowG E (d :: r) = E.enc d ++ rowG E r := rfl
    rw [e, List.length_append, E.len, ih, List.length_cons, Nat.add_mul]
    omega
theorem rowG_append (a b : List α) : rowG E (a ++ b) = rowG E a ++ rowG E b := by simp [rowG]
theorem rowG_at : ∀ (l : List α) (j : Nat) (f : α), l[j]? = some f → ∀ i u, (E.enc f)[i]? = some u → (rowG E l)[j * E.n + i]? = some u := by
  intro l
  induction l with
  | nil => intro j f h; simp at h
  | cons x r ih =>
    intro j f h i u hu
    have hi : i < E.n := by have := (List.getElem?_eq_some_iff.1 hu).1; rwa [E.len] at this
    have e : rowG E (x :: r) = E.enc x ++ rowG E r := rfl
    cases j with
    | zero => simp at h; subst h; rw [e, Nat.zero_mul, Nat.zero_add, List.getElem?_append_left (by rw [E.len]; exact hi)]; exact hu
    | succ j =>
      have e2 : (j + 1) * E.n + i - E.n = j * E.n + i := by rw [Nat.add_mul, Nat.one_mul]; omega
      rw [e, List.getElem?_append_right (by rw [E.len, Nat.add_mul]; omega), E.len, e2]
      exact ih j f (by simpa using h) i u hu
theorem rowG_cell (l : List α) : ∀ u ∈ rowG E l, u.oneCell' = true := by
  intro u hu
  simp only [rowG, List.mem_flatMap] at hu
  obtain ⟨d, _, hd⟩ := hu
  exact E.cell d u hd
/-- the slice v is the call's own, and holds l -/
def OwnG (B : Nat) (v : Value) (l : List α) (w : World) : Prop := w.ownsRow B E.T E.n v l.length (rowG E l)
/-- at a stand l, to be read -/
def GIn (w : World) (a : Option Addr) (l : List α) : Prop :=
  l = [] ∨ ∃ b off, a = some ⟨b, off, none⟩ ∧ b < w.heap.size ∧ ∀ j f, l[j]? = some f → w.rangeAt b (off + j * E.n) (E.enc f)
variable {E}
theorem range_belowG {w w' : World} {b o : Nat} {cs : List Value} (h : w.rangeAt b o cs) (hb : Below w.heap.size w w') (hlt : b < w.heap.size) : w'.rangeAt b o cs := fun j v hv => by
  rw [hb.cell (p := ⟨b, o + j, none⟩) hlt]; exact h j v hv
theorem GIn.below {w w' : World} {a : Option Addr} {l : List α} (h : GIn E w a l) (hb : Below w.heap.size w w') : GIn E w' a l := by
  rcases h with h | ⟨b, off, rfl, hlt, hc⟩
  · exact .inl h
  · exact .inr ⟨b, off, rfl, Nat.lt_of_lt_of_le hlt hb.size, fun j f hj => range_belowG (hc j f hj) hb hlt⟩
theorem GIn.alloc {w : World} {a : Option Addr} {l : List α} (h : GIn E w a l) (o : Obj) : GIn E (w.alloc o) a l := h.below ((Below.refl _ _).alloc (Nat.le_refl _) o)
theorem GIn.at {w : World} {a : Option Addr} {l : List α} (h : GIn E w a l) {j : Nat} {f : α} (hj : l[j]? = some f) :
    ∃ b off, a = some ⟨b, off, none⟩ ∧ b < w.heap.size ∧ w.rangeAt b (off + j * E.n) (E.enc f) := by
  rcases h with rfl | ⟨b, off, rfl, hlt, hc⟩
  · simp at hj
  · exact ⟨b, off, rfl, hlt, hc j f hj⟩
theorem GIn.cells {w : World} {a : Option Addr} {l : List α} (h : GIn E w a l) {x : Addr} (hx : a = some x) : ∀ j u, (rowG E l)[j]? = some u → w.cell? (x.add j) = some u := by
  intro j u hu
  rcases h with rfl | ⟨b, off, he, hlt, hc⟩
  · simp [rowG] at hu
  · rw [hx] at he
    injection he with he
    subst he
    have hj : j < l.length * E.n := by rw [← rowG_len]; exact (List.getElem?_eq_some_iff.1 hu).1
    have hil : j / E.n < l.length := Nat.div_lt_of_lt_mul (by rw [Nat.mul_comm]; exact hj)
    have hk : j % E.n < (E.enc l[j / E.n]).length := by rw [E.len]; exact Nat.mod_lt _ E.pos
    have h1 := rowG_at E l (j / E.n) l[j / E.n] (List.getElem?_eq_getElem hil) (j % E.n) _ (List.getElem?_eq_getElem hk)
    have hdm : j / E.n * E.n + j % E.n = j := by rw [Nat.mul_comm]; exact Nat.div_add_mod j E.n
    rw [hdm, hu] at h1
    have h2 := hc (j / E.n) _ (List.getElem?_eq_getElem hil) (j % E.n) u (by rw [List.getElem?_eq_getElem hk, ← h1])
    have e1 : ∀ k, (⟨b, off, none⟩ : Addr).add k = ⟨b, off + k, none⟩ := fun k => by cases k <;> simp [Addr.add]
    rw [e1, ← hdm, ← Nat.add_assoc]
    exact h2
theorem gin_new (w : World) (d : α) : GIn E (w.alloc (.cells (E.enc d).toArray E.T)) (some ⟨w.heap.size, 0, none⟩) [d] :=
  .inr ⟨w.heap.size, 0, rfl, by simp, fun j x hj i u hu => by
    match j, hj with
    | 0, hj =>
      simp at hj; subst hj
      rw [Joins.cell_of_block (heap_alloc_new w _)]
      simpa using hu⟩
theorem ownG_nil (B : Nat) (w : World) : OwnG E B (.slice none 0 0) [] w := World.ownsRow_nil _ _ _ _
theorem OwnG.gin {B : Nat} {v : Value} {l : List α} {w : World} (h : OwnG E B v l w) : ∃ a cap, v = .slice a l.length cap ∧ GIn E w a l ∧ l.length ≤ cap ∧ cap ≤ maxLen := by
  obtain ⟨hl, hv⟩ := h
  rcases hv with ⟨rfl, h0⟩ | ⟨g, cap, cur, rfl, hB, hg, hn, hm, hs, htk⟩
  · exact ⟨none, 0, by rw [h0], .inl (List.length_eq_zero_iff.1 h0), by rw [h0]; exact Nat.le_refl _, by simp [maxLen]⟩
  · refine ⟨_, cap, rfl, .inr ⟨g, 0, rfl, lt_of_block hg, fun j f hj i u hu => ?_⟩, hn, hm⟩
    have h1 := rowG_at E l j f hj i u hu
    have c1 := Lib.cells_of_row hg (l.length * E.n) (j * E.n + i) _ (by rw [htk]; exact h1)
    have e1 : ∀ k, (⟨g, 0, none⟩ : Addr).add k = ⟨g, 0 + k, none⟩ := fun k => by cases k <;> simp [Addr.add]
    rw [e1] at c1
    rw [Nat.add_assoc]
    exact c1
theorem OwnG.below {B C : Nat} {v : Value} {l : List α} {w w' : World} (h : OwnG E B v l w) (hb : Below C w w') (hC : w.heap.size ≤ C) : OwnG E B v l w' := by
  unfold OwnG at *
  refine ⟨h.1, ?_⟩
  rcases h.2 with hn | ⟨g, cap, cur, hv, hB, hg, rest⟩
  · exact .inl hn
  · exact .inr ⟨g, cap, cur, hv, hB, by rw [hb.block g (Nat.lt_of_lt_of_le (lt_of_block hg) hC)]; exact hg, rest⟩
theorem OwnG.mono {B C : Nat} {v : Value} {l : List α} {w : World} (h : OwnG E B v l w) (hC : C ≤ B) : OwnG E C v l w := by
  refine ⟨h.1, ?_⟩
  rcases h.2 with hn | ⟨g, cap, cur, hv, hB, rest⟩
  · exact .inl hn
  · exact .inr ⟨g, cap, cur, hv, by omega, rest⟩
theorem OwnG.alloc {B : Nat} {v : Value} {l : List α} {w : World} (h : OwnG E B v l w) (o : Obj) : OwnG E B v l (w.alloc o) := World.ownsRow.alloc h o
theorem OwnG.lt {B : Nat} {v : Value} {l : List α} {w : World} (h : OwnG E B v l w) (g : Nat) (hg : v.ownBlock = some g) : B ≤ g ∧ g < w.heap.size := World.ownsRow.lt h g hg
theorem infoG (E : EncG α) : ∃ i, Tryz.prog.info? E.T = some i ∧ i.zero = some E.z ∧ i.size = E.n ∧ i.bytes = E.by' := by
  have h := E.info
  cases hi : Tryz.prog.info? E.T with
  | none => rw [hi] at h; simp at h
  | some i =>
    rw [hi] at h
    simp only [Option.map_some, Option.some.injEq, Prod.mk.injEq] at h
    exact ⟨i, rfl, h.1, h.2.1, h.2.2⟩
/-- what is laid behind a row of the call's own -/
theorem appG {w : World} {B c : Nat} {v : Value} {xs ys : List α} {p : Option Addr} (h : OwnG E B v xs w) (hp : GIn E w p ys) (hb : B ≤ w.heap.size) (n : Nat) (hn : xs.length + ys.length = n) (hl : n ≤ 200000) :
    ∃ p' c' w', (Builtin.append_ #[E.S, E.S] E.S #[v, .slice p ys.length c]).run Tryz.prog w = .ok (.slice p' n c') w' ∧ OwnG E B (.slice p' n c') (xs ++ ys) w' ∧ Below B w w' ∧ w.grownBy w' v.ownBlock ∧ SF w v (.slice p' n c') := by
  obtain ⟨i0, hi, hz0, hz1, hz2⟩ := infoG E
  have hsrc : Src Tryz.prog E.n E.S (.slice p ys.length c) ys.length (rowG E ys) w := by
    cases p with
    | none =>
      have : ys = [] := by
        rcases hp with h | ⟨_, _, h, _⟩
        · exact h
        · cases h
      subst this
      exact Src.ofNil _ E.und c
    | some x => exact Src.ofSlice _ E.und x ys.length c _ (rowG_len E ys) (hp.cells rfl) (rowG_cell E ys)
  have hlim := E.lim
  have hm := Nat.mul_le_mul hl hlim
  rw [← hn] at hm
  obtain ⟨v', w', hr, ho, hg, hsf, -⟩ := run_append_sf (P := Tryz.prog) w B E.S E.S E.S E.T i0 _ E.n E.by' E.und hi hz0 hz1 hz2 E.zs v xs.length (rowG E xs) h _ ys.length (rowG E ys) hsrc (by unfold maxLen; omega) (by omega) hb
  have ho' : OwnG E B v' (xs ++ ys) w' := by
    unfold OwnG
    rw [List.length_append, rowG_append]
    exact ho
  obtain ⟨p', c', rfl, -, -⟩ := ho'.gin
  rw [List.length_append, hn] at ho' hr hsf
  exact ⟨p', c', w', hr, ho', (Below.refl _ _).grown hg hb (fun j hj => (World.ownsRow.lt h j hj).1), hg, hsf⟩
end
end Go.Proofs.YtchnklekeinhiaaGreat
