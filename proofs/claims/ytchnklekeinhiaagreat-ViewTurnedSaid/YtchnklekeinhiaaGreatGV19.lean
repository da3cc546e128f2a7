/-
  slices.Clone of facts.
  slices.SortFunc at []api.Fact: its bodies are those that the library's contract was proved of.
  slices.SortFunc of facts.
-/
import Derived.Test.YtchnklekeinhiaaGreatGV11
import Derived.Deep.Cut
import Derived.BigQuiet
import Derived.Shelf.SlSortCmp.NoneTotal
import Derived.Test.YtchnklekeinhiaaGreatFactOrd
namespace Go.Proofs.YtchnklekeinhiaaGreat
set_option maxRecDepth 100000
open Go.RowKit Go.Lib Go.Sort

theorem FIn.cells {w : World} {a : Option Addr} {l : List Ft} (h : FIn w a l) {x : Addr} (hx : a = some x) : ∀ j u, (rowF l)[j]? = some u → w.cell? (x.add j) = some u := by
  intro j u hj
  rcases h with rfl | ⟨b, off, ha, hlt, hc⟩
  · simp [rowF] at hj
  · obtain rfl := Option.some.inj (hx.symm.trans ha)
    have e1 : ∀ k, (⟨b, off, none⟩ : Addr).add k = ⟨b, off + k, none⟩ := fun k => by cases k <;> simp [Addr.add]
    rw [e1]
    obtain ⟨i, f, k, hi, rfl, hu⟩ := rowF_get l j u hj
    rw [← Nat.add_assoc]
    exact hc i f hi k u hu

theorem own_emptyF (w : World) (e : TypeId) (sz : Nat) : (w.alloc (.cells #[] e)).ownsRow w.heap.size e sz (.slice (some ⟨w.heap.size, 0, none⟩) 0 0) 0 [] :=
  ⟨by simp, .inr ⟨w.heap.size, 0, #[], rfl, Nat.le_refl _, heap_alloc_new w _, Nat.le_refl _, by simp [maxLen], by simp, by simp⟩⟩

set_option maxHeartbeats 1000000 in
set_option maxRecDepth 100000 in
theorem cloneF (l : List Ft) (a : Option Addr) (cap : Nat) (w : World) (h : FIn w a l) (hl : l.length ≤ 65536) :
    Calls Tryz.prog 68 #[.slice a l.length cap] w fun e w' => ∃ v', e = .returned v' ∧ OwnF w.heap.size v' l w' ∧ Below w.heap.size w w' := by
  obtain ⟨i0, hi, hz0, hz1, hz2⟩ := info_parts factInfo
  have hq := fun (w : World) (a : Option Addr) (n c : Nat) => Lib.run_eql_slice_nil (P := Tryz.prog) w 22 48 a n c 0 0 Tryz.underlying22
  cases a with
  | none =>
    have hl0 : l = [] := by
      rcases h with h | ⟨b, off, ha, _⟩
      · exact h
      · cases ha
    subst hl0
    clear h
    go_enter Tryz.func68, Tryz.ntmps68
    go_wp2_with fail
    go_ret
    exact ⟨_, rfl, ownF_nil _ _, Below.refl _ _⟩
  | some x =>
    have hcells := (h.alloc (.cells #[] 48)).cells rfl
    obtain ⟨v', W', hr, ho, hgr, hsf, hform⟩ := run_append_sf (P := Tryz.prog) (w.alloc (.cells #[] 48)) w.heap.size 22 22 22 48 i0 _ 8 80 Tryz.underlying22 hi hz0 hz1 hz2 rfl _ 0 [] (own_emptyF w _ _)
      (.slice (some x) l.length cap) l.length (rowF l) (Src.ofSlice _ Tryz.underlying22 x l.length cap _ (rowF_len l) hcells (rowF_cell l)) (by unfold maxLen; omega) (by omega) (by simp)
    simp only [Nat.zero_add, List.nil_append] at ho
    have hbel : Below w.heap.size w W' := (Joins.below_alloc1 w _).grown hgr (by simp) (fun k hk => by simp [Value.ownBlock] at hk; omega)
    have HF := Lib.hid (show OwnF w.heap.size v' l W' ∧ Below w.heap.size w W' from ⟨ho, hbel⟩)
    clear h hcells ho hgr hsf hform hbel hi hz0 hz1 hz2
    generalize l.length = n at *
    go_enter Tryz.func68, Tryz.ntmps68
    go_wp2_with (at_builtin; refine wpList_append_run rfl _ _ 22 22 rfl (.slice (some ⟨w.heap.size, 0, none⟩) 0 0) (.slice (some x) n cap) _ W' rfl rfl hr ?_)
    go_ret
    exact ⟨_, rfl, HF.out.1, HF.out.2⟩
end Go.Proofs.YtchnklekeinhiaaGreat

namespace Go.Proofs.YtchnklekeinhiaaGreat
set_option maxRecDepth 100000
open Go.Shelf

def sortFl_ren : Go.Shelf.Ren := ⟨fun | 6 => 69 | 15 => 90 | 14 => 100 | 28 => 129 | 29 => 130 | 20 => 134 | 21 => 135 | 22 => 136 | 23 => 137 | 24 => 138 | 25 => 139 | 26 => 140 | 27 => 141 | 46 => 163 | 47 => 150 | 48 => 151 | 49 => 164 | 50 => 165 | 57 => 171 | n => n, fun | 22 => 22 | 24 => 48 | 25 => 84 | 3 => 3 | 39 => 122 | 0 => 0 | 53 => 132 | 55 => 97 | 4 => 4 | 46 => 152 | 45 => 151 | 50 => 145 | 5 => 5 | 9 => 9 | 66 => 174 | 70 => 178 | 76 => 189 | 77 => 190 | n => n, fun | n => n⟩
theorem sortFl : SlLaysF0.n6 Tryz.prog sortFl_ren := {
  mixed := by kernel_rfl
  f6 := ⟨Tryz.f69.name, by decide, Tryz.func69.trans (congrArg some (by kernel_rfl))⟩
  f14 := ⟨Tryz.f100.name, by decide, Tryz.func100.trans (congrArg some (by kernel_rfl))⟩
  f15 := Tryz.func90.trans (congrArg some (by kernel_rfl))
  f20 := ⟨Tryz.f134.name, by decide, Tryz.func134.trans (congrArg some (by kernel_rfl))⟩
  f21 := ⟨Tryz.f135.name, by decide, Tryz.func135.trans (congrArg some (by kernel_rfl))⟩
  f22 := ⟨Tryz.f136.name, by decide, Tryz.func136.trans (congrArg some (by kernel_rfl))⟩
  f23 := ⟨Tryz.f137.name, by decide, Tryz.func137.trans (congrArg some (by kernel_rfl))⟩
  f24 := ⟨Tryz.f138.name, by decide, Tryz.func138.trans (congrArg some (by kernel_rfl))⟩
  f25 := ⟨Tryz.f139.name, by decide, Tryz.func139.trans (congrArg some (by kernel_rfl))⟩
  f26 := ⟨Tryz.f140.name, by decide, Tryz.func140.trans (congrArg some (by kernel_rfl))⟩
  f27 := ⟨Tryz.f141.name, by decide, Tryz.func141.trans (congrArg some (by kernel_rfl))⟩
  f28 := Tryz.func129.trans (congrArg some (by kernel_rfl))
  f29 := Tryz.func130.trans (congrArg some (by kernel_rfl))
  f46 := ⟨Tryz.f163.name, by decide, Tryz.func163.trans (congrArg some (by kernel_rfl))⟩
  f47 := Tryz.func150.trans (congrArg some (by kernel_rfl))
  f48 := Tryz.func151.trans (congrArg some (by kernel_rfl))
  f49 := ⟨Tryz.f164.name, by decide, Tryz.func164.trans (congrArg some (by kernel_rfl))⟩
  f50 := ⟨Tryz.f165.name, by decide, Tryz.func165.trans (congrArg some (by kernel_rfl))⟩
  f57 := ⟨Tryz.f171.name, by decide, Tryz.func171.trans (congrArg some (by kernel_rfl))⟩
  t0 := Tryz.underlying0
  a0 := Tryz.isAgg0
  z0 := Tryz.sizeOf0
  v0 := Tryz.zeroValue0
  t3 := Tryz.underlying3
  a3 := Tryz.isAgg3
  z3 := Tryz.sizeOf3
  v3 := Tryz.zeroValue3
  t4 := Tryz.underlying4
  a4 := Tryz.isAgg4
  z4 := Tryz.sizeOf4
  v4 := Tryz.zeroValue4
  t5 := Tryz.underlying5
  a5 := Tryz.isAgg5
  z5 := Tryz.sizeOf5
  v5 := Tryz.zeroValue5
  t9 := Tryz.underlying9
  a9 := Tryz.isAgg9
  z9 := Tryz.sizeOf9
  v9 := Tryz.zeroValue9
  t22 := Tryz.underlying22
  a22 := Tryz.isAgg22
  z22 := Tryz.sizeOf22
  v22 := Tryz.zeroValue22
  t25 := Tryz.underlying84
  a25 := Tryz.isAgg84
  z25 := Tryz.sizeOf84
  v25 := Tryz.zeroValue84
  t39 := Tryz.underlying122
  a39 := Tryz.isAgg122
  z39 := Tryz.sizeOf122
  v39 := Tryz.zeroValue122
  t45 := Tryz.underlying151
  a45 := Tryz.isAgg151
  z45 := Tryz.sizeOf151
  v45 := Tryz.zeroValue151
  t46 := Tryz.underlying152
  a46 := Tryz.isAgg152
  z46 := Tryz.sizeOf152
  v46 := Tryz.zeroValue152
  t50 := Tryz.underlying145
  a50 := Tryz.isAgg145
  z50 := Tryz.sizeOf145
  v50 := Tryz.zeroValue145
  t53 := Tryz.underlying132
  a53 := Tryz.isAgg132
  z53 := Tryz.sizeOf132
  v53 := Tryz.zeroValue132
  t55 := Tryz.underlying97
  a55 := Tryz.isAgg97
  z55 := Tryz.sizeOf97
  v55 := Tryz.zeroValue97
  t66 := Tryz.underlying174
  a66 := Tryz.isAgg174
  z66 := Tryz.sizeOf174
  v66 := Tryz.zeroValue174
  t70 := Tryz.underlying178
  a70 := Tryz.isAgg178
  z70 := Tryz.sizeOf178
  v70 := Tryz.zeroValue178
  t76 := Tryz.underlying189
  a76 := Tryz.isAgg189
  z76 := Tryz.sizeOf189
  v76 := Tryz.zeroValue189
  t77 := Tryz.underlying190
  a77 := Tryz.isAgg190
  z77 := Tryz.sizeOf190
  v77 := Tryz.zeroValue190 }
end Go.Proofs.YtchnklekeinhiaaGreat

namespace Go.Proofs.YtchnklekeinhiaaGreat
set_option maxRecDepth 100000
open Go.RowKit Go.Shelf Go.Lib Go.Sort

/-! the order, as sorting asks for it -/
theorem lt_cmpF (a b : Ft) : ltOf cmpF a b = ltF a b := cmpO_neg ltF a b
theorem swoF : SWO (ltOf cmpF) := {
  irrefl := fun x => by rw [lt_cmpF]; exact ltF_irr x
  trans := fun x y z h1 h2 => by rw [lt_cmpF] at *; exact ltF_trans h1 h2
  ntrans := fun x y z h1 h2 => by
    rw [lt_cmpF] at *
    rcases ltF_tri x z with h | h | h
    · rcases ltF_tri x y with k | k | k
      · rw [k] at h1; cases h1
      · subst k; rw [h] at h2; cases h2
      · rcases ltF_tri y z with m | m | m
        · rw [m] at h2; cases h2
        · subst m; rw [ltF_asym k] at h; cases h
        · have := ltF_trans m k; rw [ltF_asym this] at h; cases h
    · subst h; exact ltF_irr _
    · exact ltF_asym h }
theorem orderFq (a b : Ft) (w : World) : Calls Tryz.prog 70 #[.agg (fcs a).toArray, .agg (fcs b).toArray] w fun e w' => e = .returned (.int .i64 (cmpF a b)) ∧ ∃ q os, w' = grow (w.drewN q) os := orderF a b w
instance : Inhabited Ft := ⟨⟨(0, 0), ⟨0, 0, 0⟩, 0, ⟨#[]⟩, ⟨#[]⟩⟩⟩
theorem cmpLaysF (blk off size : Nat) (w : World) : CmpLays Tryz.prog 70 #[] fcs 8 cmpF blk off size w := fun _ _ _ _ x y => orderFq x y _

theorem below_sortedF (w : World) (B blk off n : Nat) (d : Array Ft) (os : Array Obj) (hB : B ≤ blk) (hblk : blk < w.heap.size) : Go.RowKit.Below B w (sortWorldK fcs 8 w blk off n d os) := by
  refine ⟨rfl, rfl, rfl, ?_, fun k hk => ?_⟩
  · unfold sortWorldK putRowK; rw [size_grow, Sort.size_putRow]; exact Nat.le_add_right _ _
  · unfold sortWorldK putRowK
    rw [heap_grow_old _ _ (by rw [Sort.size_putRow]; show k < w.heap.size; omega)]
    unfold putRow mapBlock
    rw [Array.getElem?_modify, if_neg (by omega)]
    rfl

theorem holds_ownF {w : World} {B g cap : Nat} {l : List Ft} (h : OwnF B (.slice (some ⟨g, 0, none⟩) l.length cap) l w) : HoldsK fcs 8 w g 0 l.toArray := by
  intro t ht
  have ht2 : t < l.length * 8 := by rw [size_flatK] at ht; simpa using ht
  have hil : t / 8 < l.length := by omega
  rw [get_flatK _ _ _ _ (by simpa using ht2)]
  have hg : l.toArray[t / 8]! = l[t / 8] := by rw [getElem!_pos l.toArray (t / 8) (by simpa using hil)]; simp
  rw [hg]
  unfold OwnF at h
  refine ⟨?_, World.ownsRow.frozenAt h _⟩
  rw [Nat.zero_add, World.ownsRow.cellAt h t ht2]
  have hk : t % 8 < (fcs l[t / 8]).length := by rw [fcs_len]; omega
  have h1 := rowF_at l (t / 8) l[t / 8] (List.getElem?_eq_getElem hil) (t % 8) _ (List.getElem?_eq_getElem hk)
  rw [show t / 8 * 8 + t % 8 = t by omega] at h1
  rw [h1, getElem!_pos (fcs l[t / 8]) (t % 8) hk]
  rfl

/-- Block g holds the facts l, and may be written. -/
structure FH (w : World) (g : Nat) (l : List Ft) : Prop where
  lt : g < w.heap.size
  at' : ∀ j f, l[j]? = some f → w.rangeAt g (j * 8) (fcs f)
  free : w.there g 0 (l.length * 8)

theorem sortCallF (l : List Ft) (v : Value) (B : Nat) (w : World) (hlen : l.length ≤ 65536) (hown : OwnF B v l w) (_hB : B ≤ w.heap.size) :
    Calls Tryz.prog 69 #[v, .func (.func 70) #[] #[]] w fun e w' =>
      e = .returned (.tuple #[]) ∧ ((l = [] ∧ v = .slice none 0 0 ∧ w' = w) ∨ ∃ (s : List Ft) (g cap : Nat), v = .slice (some ⟨g, 0, none⟩) s.length cap ∧ s.length ≤ cap ∧ B ≤ g ∧ s.length = l.length ∧ s.Perm l ∧ s.Pairwise (fun a b => ltF b a = false) ∧ FH w' g s ∧ Go.RowKit.Below B w w') := by
  obtain ⟨hl, hv⟩ := id hown
  rcases hv with ⟨rfl, h0⟩ | ⟨g, cap, cur, rfl, hBg, hg, hn, hm, hs, htk⟩
  · have hl0 : l = [] := List.length_eq_zero_iff.1 h0
    subst hl0
    have hcon := AnyF.slices_SortFunc_none (P := Tryz.prog) (ρ := sortFl_ren) sortFl none 0 (.func (.func 70) #[] #[]) w
    exact Calls.mono (f := 69) hcon fun e w' h => by
      obtain ⟨he, hw⟩ := h
      exact ⟨he, .inl ⟨rfl, rfl, hw⟩⟩
  · have hH := holds_ownF hown
    have hlt : g < w.heap.size := lt_of_block hg
    have eg : ∀ args w, (callFunc 70 args).run Tryz.prog w = .ok (.enter 70 args) w := enters_of Tryz.func70 (by kernel_rfl) rfl
    have hsz : l.toArray.size = l.length := by simp
    have hcon := AnyQ.slices_SortFunc sortFl 8 Tryz.isAgg48 Tryz.sizeOf48 fcs (fun _ => rfl) fcs_cell cmpF swoF 70 #[] g 0 cap l.toArray w eg (cmpLaysF g 0 _ w) hH hlt (by omega)
    rw [hsz] at hcon
    refine Calls.mono (f := 69) hcon ?_
    rintro e w' ⟨rfl, d', n, os, hp, hsd, rfl⟩
    obtain ⟨hp1, _, hp2⟩ := hp
    have e1 : d'.extract 0 l.length = d' := by rw [← hsz, ← hp1]; exact Array.extract_size
    have e2 : l.toArray.extract 0 l.length = l.toArray := by rw [← hsz]; exact Array.extract_size
    rw [e1, e2] at hp2
    have hdl : d'.toList.length = l.length := by simp; omega
    have hK := holdsK_sortWorldK fcs 8 w g 0 n l.toArray d' os hlt hH (by omega)
    refine ⟨rfl, .inr ⟨d'.toList, g, cap, by rw [hdl], by rw [hdl]; exact hn, hBg, hdl, by simpa using hp2, ?_, ⟨lt_sortWorldK fcs 8 w g 0 n d' os hlt, fun j f hj c u hu => ?_, fun t ht => ?_⟩, below_sortedF w B g 0 n d' os hBg hlt⟩⟩
    · rw [List.pairwise_iff_getElem]
      intro i j hi hj hij
      have h := hsd i j (Nat.zero_le _) hij (by omega)
      rw [lt_cmpF] at h
      rw [getElem!_pos d' j (by simpa using hj), getElem!_pos d' i (by simpa using hi)] at h
      simpa using h
    · have hjl : j < d'.size := by have := (List.getElem?_eq_some_iff.1 hj).1; simpa using this
      have hc : c < 8 := by have := (List.getElem?_eq_some_iff.1 hu).1; rwa [fcs_len] at this
      have c0 := (hK.cell (i := j) (c := c) hjl hc).1
      have hd : d'[j]! = f := by
        rw [getElem!_pos d' j hjl]
        have := hj
        rw [Array.getElem?_toList, Array.getElem?_eq_getElem hjl] at this
        exact Option.some.inj this
      rw [hd, getElem!_pos (fcs f) c (by rw [fcs_len]; exact hc)] at c0
      rw [Nat.zero_add] at c0
      rw [c0, ← hu, List.getElem?_eq_getElem (by rw [fcs_len]; exact hc)]
    · have htl : t / 8 < d'.size := by simp at ht; omega
      have c0 := hK.cell (i := t / 8) (c := t % 8) htl (by omega)
      rw [show 0 + t / 8 * 8 + t % 8 = 0 + t by omega] at c0
      exact ⟨by rw [c0.1]; rfl, c0.2⟩

end Go.Proofs.YtchnklekeinhiaaGreat
