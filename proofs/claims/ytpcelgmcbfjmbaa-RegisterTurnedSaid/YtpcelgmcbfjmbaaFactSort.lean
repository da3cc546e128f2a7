/-
  slices.SortFunc of facts.
-/
import Derived.Test.YtpcelgmcbfjmbaaFactOrd
import Derived.Test.YtpcelgmcbfjmbaaFactCln
import Derived.Test.YtpcelgmcbfjmbaaFactLay
import Derived.BigQuiet
namespace Go.Proofs.Ytpcelgmcbfjmbaa
set_option maxRecDepth 100000
open Go.RowKit Go.Shelf Go.Lib Go.Sort

/-! the order, as sorting asks for it -/
theorem lt_cmpF (a b : Ft) : ltOf cmpF a b = ltF a b := cmpO_neg ltF a b
theorem swoF : SWO (ltOf cmpF) := {
  irrefl := fun x => by rw [lt_cmpF]; exact ltF_irr x
  trans := fun x y z h1 h2 => by rw [lt_cmpF] at *; exact ltF_trans h1 h2
  ntrans := fun x y z h1 h2 => by
    rw [lt_cmpF] at *
    rcases ltF_tri x z with h | h | h
    · rcases ltF_tri x y with k | k | k
      · rw [k] at h1; cases h1
      · subst k; rw [h] at h2; cases h2
      · rcases ltF_tri y z with m | m | m
        · rw [m] at h2; cases h2
        · subst m; rw [ltF_asym k] at h; cases h
        · have := ltF_trans m k; rw [ltF_asym this] at h; cases h
    · subst h; exact ltF_irr _
    · exact ltF_asym h }
theorem orderFq (a b : Ft) (w : World) : Calls Try.prog 47 #[.agg (fcs a).toArray, .agg (fcs b).toArray] w fun e w' => e = .returned (.int .i64 (cmpF a b)) ∧ ∃ q os, w' = grow (w.drewN q) os := orderF a b w
instance : Inhabited Ft := ⟨⟨(0, 0), ⟨0, 0, 0⟩, 0, ⟨#[]⟩, ⟨#[]⟩⟩⟩
theorem cmpLaysF (blk off size : Nat) (w : World) : CmpLays Try.prog 47 #[] fcs 8 cmpF blk off size w := fun _ _ _ _ x y => orderFq x y _

theorem below_sortedF (w : World) (B blk off n : Nat) (d : Array Ft) (os : Array Obj) (hB : B ≤ blk) (hblk : blk < w.heap.size) : Go.RowKit.Below B w (sortWorldK fcs 8 w blk off n d os) := by
  refine ⟨rfl, rfl, rfl, ?_, fun k hk => ?_⟩
  · unfold sortWorldK putRowK; rw [size_grow, Sort.size_putRow]; exact Nat.le_add_right _ _
  · unfold sortWorldK putRowK
    rw [heap_grow_old _ _ (by rw [Sort.size_putRow]; show k < w.heap.size; omega)]
    unfold putRow mapBlock
    rw [Array.getElem?_modify, if_neg (by omega)]
    rfl

theorem holds_ownF {w : World} {B g cap : Nat} {l : List Ft} (h : OwnF B (.slice (some ⟨g, 0, none⟩) l.length cap) l w) : HoldsK fcs 8 w g 0 l.toArray := by
  intro t ht
  have ht2 : t < l.length * 8 := by rw [size_flatK] at ht; simpa using ht
  have hil : t / 8 < l.length := by omega
  rw [get_flatK _ _ _ _ (by simpa using ht2)]
  have hg : l.toArray[t / 8]! = l[t / 8] := by rw [getElem!_pos l.toArray (t / 8) (by simpa using hil)]; simp
  rw [hg]
  unfold OwnF at h
  refine ⟨?_, World.ownsRow.frozenAt h _⟩
  rw [Nat.zero_add, World.ownsRow.cellAt h t ht2]
  have hk : t % 8 < (fcs l[t / 8]).length := by rw [fcs_len]; omega
  have h1 := rowF_at l (t / 8) l[t / 8] (List.getElem?_eq_getElem hil) (t % 8) _ (List.getElem?_eq_getElem hk)
  rw [show t / 8 * 8 + t % 8 = t by omega] at h1
  rw [h1, getElem!_pos (fcs l[t / 8]) (t % 8) hk]
  rfl

/-- Block g holds the facts l, and may be written. -/
structure FH (w : World) (g : Nat) (l : List Ft) : Prop where
  lt : g < w.heap.size
  at' : ∀ j f, l[j]? = some f → w.rangeAt g (j * 8) (fcs f)
  free : w.there g 0 (l.length * 8)

theorem sortCallF (l : List Ft) (v : Value) (B : Nat) (w : World) (hlen : l.length ≤ 65536) (hown : OwnF B v l w) (_hB : B ≤ w.heap.size) :
    Calls Try.prog 24 #[v, .func (.func 47) #[] #[]] w fun e w' =>
      e = .returned (.tuple #[]) ∧ ((l = [] ∧ v = .slice none 0 0 ∧ w' = w) ∨ ∃ (s : List Ft) (g cap : Nat), v = .slice (some ⟨g, 0, none⟩) s.length cap ∧ s.length ≤ cap ∧ B ≤ g ∧ s.length = l.length ∧ s.Perm l ∧ s.Pairwise (fun a b => ltF b a = false) ∧ FH w' g s ∧ Go.RowKit.Below B w w') := by
  obtain ⟨hl, hv⟩ := id hown
  rcases hv with ⟨rfl, h0⟩ | ⟨g, cap, cur, rfl, hBg, hg, hn, hm, hs, htk⟩
  · have hl0 : l = [] := List.length_eq_zero_iff.1 h0
    subst hl0
    have hcon := AnyF.slices_SortFunc_none (P := Try.prog) (ρ := sortFl_ren) sortFl none 0 (.func (.func 47) #[] #[]) w
    exact Calls.mono (f := 24) hcon fun e w' h => by
      obtain ⟨he, hw⟩ := h
      exact ⟨he, .inl ⟨rfl, rfl, hw⟩⟩
  · have hH := holds_ownF hown
    have hlt : g < w.heap.size := lt_of_block hg
    have eg : ∀ args w, (callFunc 47 args).run Try.prog w = .ok (.enter 47 args) w := enters_of Try.func47 (by kernel_rfl) rfl
    have hsz : l.toArray.size = l.length := by simp
    have hcon := AnyQ.slices_SortFunc sortFl 8 Try.isAgg39 Try.sizeOf39 fcs (fun _ => rfl) fcs_cell cmpF swoF 47 #[] g 0 cap l.toArray w eg (cmpLaysF g 0 _ w) hH hlt (by omega)
    rw [hsz] at hcon
    refine Calls.mono (f := 24) hcon ?_
    rintro e w' ⟨rfl, d', n, os, hp, hsd, rfl⟩
    obtain ⟨hp1, _, hp2⟩ := hp
    have e1 : d'.extract 0 l.length = d' := by rw [← hsz, ← hp1]; exact Array.extract_size
    have e2 : l.toArray.extract 0 l.length = l.toArray := by rw [← hsz]; exact Array.extract_size
    rw [e1, e2] at hp2
    have hdl : d'.toList.length = l.length := by simp; omega
    have hK := holdsK_sortWorldK fcs 8 w g 0 n l.toArray d' os hlt hH (by omega)
    refine ⟨rfl, .inr ⟨d'.toList, g, cap, by rw [hdl], by rw [hdl]; exact hn, hBg, hdl, by simpa using hp2, ?_, ⟨lt_sortWorldK fcs 8 w g 0 n d' os hlt, fun j f hj c u hu => ?_, fun t ht => ?_⟩, below_sortedF w B g 0 n d' os hBg hlt⟩⟩
    · rw [List.pairwise_iff_getElem]
      intro i j hi hj hij
      have h := hsd i j (Nat.zero_le _) hij (by omega)
      rw [lt_cmpF] at h
      rw [getElem!_pos d' j (by simpa using hj), getElem!_pos d' i (by simpa using hi)] at h
      simpa using h
    · have hjl : j < d'.size := by have := (List.getElem?_eq_some_iff.1 hj).1; simpa using this
      have hc : c < 8 := by have := (List.getElem?_eq_some_iff.1 hu).1; rwa [fcs_len] at this
      have c0 := (hK.cell (i := j) (c := c) hjl hc).1
      have hd : d'[j]! = f := by
        rw [getElem!_pos d' j hjl]
        have := hj
        rw [Array.getElem?_toList, Array.getElem?_eq_getElem hjl] at this
        exact Option.some.inj this
      rw [hd, getElem!_pos (fcs f) c (by rw [fcs_len]; exact hc)] at c0
      rw [Nat.zero_add] at c0
      rw [c0, ← hu, List.getElem?_eq_getElem (by rw [fcs_len]; exact hc)]
    · have htl : t / 8 < d'.size := by simp at ht; omega
      have c0 := hK.cell (i := t / 8) (c := t % 8) htl (by omega)
      rw [show 0 + t / 8 * 8 + t % 8 = 0 + t by omega] at c0
      exact ⟨by rw [c0.1]; rfl, c0.2⟩

end Go.Proofs.Ytpcelgmcbfjmbaa
