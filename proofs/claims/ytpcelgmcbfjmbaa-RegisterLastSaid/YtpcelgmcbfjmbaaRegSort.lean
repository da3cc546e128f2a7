/-
  slices.SortFunc of facts by register's order.
-/
import Derived.Test.YtpcelgmcbfjmbaaFactSort
import Derived.Test.YtpcelgmcbfjmbaaRegMax
namespace Go.Proofs.Ytpcelgmcbfjmbaa
set_option linter.unusedSimpArgs false
set_option linter.unusedVariables false
set_option maxRecDepth 100000
open Go.RowKit Go.Shelf Go.Lib Go.Sort

theorem lt_cmpR (a b : Ft) : ltOf cmpR a b = ltR a b := cmpO_neg ltR a b
theorem ltR_asy {a b : Ft} (h : ltR a b = true) : ltR b a = false := ltR_asym h
theorem swoR : SWO (ltOf cmpR) := {
  irrefl := fun x => by rw [lt_cmpR]; exact ltR_irr x
  trans := fun x y z h1 h2 => by rw [lt_cmpR] at *; exact ltR_trans h1 h2
  ntrans := fun x y z h1 h2 => by
    rw [lt_cmpR] at *
    have e : ∀ p q : Ft, ltR p q = ltK (keyR p) (keyR q) := fun _ _ => rfl
    rcases ltR_tri x z with h | h | h
    · rcases ltR_tri x y with k | k | k
      · rw [k] at h1; cases h1
      · rw [e, k, ← e] at h; rw [h] at h2; cases h2
      · rcases ltR_tri y z with m | m | m
        · rw [m] at h2; cases h2
        · rw [e, ← m, ← e] at h; rw [h] at h1; cases h1
        · have := ltR_trans m k; rw [ltR_asym this] at h; cases h
    · rw [e, h, ← e]; exact ltR_irr _
    · exact ltR_asym h }
theorem orderRq (a b : Ft) (w : World) : Calls Try.prog 21 #[.agg (fcs a).toArray, .agg (fcs b).toArray] w fun e w' => e = .returned (.int .i64 (cmpR a b)) ∧ ∃ q os, w' = grow (w.drewN q) os := orderR a b w
theorem cmpLaysR (blk off size : Nat) (w : World) : CmpLays Try.prog 21 #[] fcs 8 cmpR blk off size w := fun _ _ _ _ x y => orderRq x y _

theorem sortCallR (l : List Ft) (v : Value) (B : Nat) (w : World) (hlen : l.length ≤ 65536) (hown : OwnF B v l w) (_hB : B ≤ w.heap.size) :
    Calls Try.prog 24 #[v, .func (.func 21) #[] #[]] w fun e w' =>
      e = .returned (.tuple #[]) ∧ ((l = [] ∧ v = .slice none 0 0 ∧ w' = w) ∨ ∃ (s : List Ft) (g cap : Nat), v = .slice (some ⟨g, 0, none⟩) s.length cap ∧ s.length ≤ cap ∧ B ≤ g ∧ s.length = l.length ∧ s.Perm l ∧ s.Pairwise (fun a b => ltR b a = false) ∧ FH w' g s ∧ Go.RowKit.Below B w w') := by
  obtain ⟨hl, hv⟩ := id hown
  rcases hv with ⟨rfl, h0⟩ | ⟨g, cap, cur, rfl, hBg, hg, hn, hm, hs, htk⟩
  · have hl0 : l = [] := List.length_eq_zero_iff.1 h0
    subst hl0
    have hcon := AnyF.slices_SortFunc_none (P := Try.prog) (ρ := sortFl_ren) sortFl none 0 (.func (.func 21) #[] #[]) w
    exact Calls.mono (f := 24) hcon fun e w' h => by
      obtain ⟨he, hw⟩ := h
      exact ⟨he, .inl ⟨rfl, rfl, hw⟩⟩
  · have hH := holds_ownF hown
    have hlt : g < w.heap.size := lt_of_block hg
    have eg : ∀ args w, (callFunc 21 args).run Try.prog w = .ok (.enter 21 args) w := enters_of Try.func21 (by kernel_rfl) rfl
    have hsz : l.toArray.size = l.length := by simp
    have hcon := AnyQ.slices_SortFunc sortFl 8 Try.isAgg39 Try.sizeOf39 fcs (fun _ => rfl) fcs_cell cmpR swoR 21 #[] g 0 cap l.toArray w eg (cmpLaysR g 0 _ w) hH hlt (by omega)
    rw [hsz] at hcon
    refine Calls.mono (f := 24) hcon ?_
    rintro e w' ⟨rfl, d', n, os, hp, hsd, rfl⟩
    obtain ⟨hp1, _, hp2⟩ := hp
    have e1 : d'.extract 0 l.length = d' := by rw [← hsz, ← hp1]; exact Array.extract_size
    have e2 : l.toArray.extract 0 l.length = l.toArray := by rw [← hsz]; exact Array.extract_size
    rw [e1, e2] at hp2
    have hdl : d'.toList.length = l.length := by simp; omega
    have hK := holdsK_sortWorldK fcs 8 w g 0 n l.toArray d' os hlt hH (by omega)
    refine ⟨rfl, .inr ⟨d'.toList, g, cap, by rw [hdl], by rw [hdl]; exact hn, hBg, hdl, by simpa using hp2, ?_, ⟨lt_sortWorldK fcs 8 w g 0 n d' os hlt, fun j f hj c u hu => ?_, fun t ht => ?_⟩, below_sortedF w B g 0 n d' os hBg hlt⟩⟩
    · rw [List.pairwise_iff_getElem]
      intro i j hi hj hij
      have h := hsd i j (Nat.zero_le _) hij (by omega)
      rw [lt_cmpR] at h
      rw [getElem!_pos d' j (by simpa using hj), getElem!_pos d' i (by simpa using hi)] at h
      simpa using h
    · have hjl : j < d'.size := by have := (List.getElem?_eq_some_iff.1 hj).1; simpa using this
      have hc : c < 8 := by have := (List.getElem?_eq_some_iff.1 hu).1; rwa [fcs_len] at this
      have c0 := (hK.cell (i := j) (c := c) hjl hc).1
      have hd : d'[j]! = f := by
        rw [getElem!_pos d' j hjl]
        have := hj
        rw [Array.getElem?_toList, Array.getElem?_eq_getElem hjl] at this
        exact Option.some.inj this
      rw [hd, getElem!_pos (fcs f) c (by rw [fcs_len]; exact hc)] at c0
      rw [Nat.zero_add] at c0
      rw [c0, ← hu, List.getElem?_eq_getElem (by rw [fcs_len]; exact hc)]
    · have htl : t / 8 < d'.size := by simp at ht; omega
      have c0 := hK.cell (i := t / 8) (c := t % 8) htl (by omega)
      rw [show 0 + t / 8 * 8 + t % 8 = 0 + t by omega] at c0
      exact ⟨by rw [c0.1]; rfl, c0.2⟩

end Go.Proofs.Ytpcelgmcbfjmbaa
