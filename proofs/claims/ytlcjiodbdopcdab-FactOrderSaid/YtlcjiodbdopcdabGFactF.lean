/-
  slices.SortFunc at []api.Fact: its bodies are those that the library's contract was proved of.
  slices.Clone and slices.SortFunc of facts.
-/
import Derived.Test.YtlcjiodbdopcdabFactRow
import Derived.Shelf.SlSortCmp.NoneTotal
import Derived.Test.YtlcjiodbdopcdabFactOrd
import Derived.BigQuiet
namespace Go.Proofs.Ytlcjiodbdopcdab
set_option maxRecDepth 100000
open Go.Shelf

def sortFl_ren : Go.Shelf.Ren := ⟨fun | 6 => 15 | 15 => 33 | 14 => 32 | 28 => 60 | 29 => 61 | 20 => 52 | 21 => 53 | 22 => 54 | 23 => 55 | 24 => 56 | 25 => 57 | 26 => 58 | 27 => 59 | 46 => 70 | 47 => 71 | 48 => 72 | 49 => 73 | 50 => 74 | 57 => 78 | n => n, fun | 22 => 29 | 24 => 27 | 25 => 42 | 3 => 3 | 39 => 61 | 0 => 0 | 53 => 90 | 55 => 92 | 4 => 4 | 46 => 83 | 45 => 82 | 50 => 87 | 5 => 5 | 9 => 9 | 66 => 113 | 70 => 117 | 76 => 122 | 77 => 123 | n => n, fun | n => n⟩
theorem sortFl : SlLaysF0.n6 Try.prog sortFl_ren := {
  mixed := by kernel_rfl
  f6 := ⟨Try.f15.name, by decide, Try.func15.trans (congrArg some (by kernel_rfl))⟩
  f14 := ⟨Try.f32.name, by decide, Try.func32.trans (congrArg some (by kernel_rfl))⟩
  f15 := Try.func33.trans (congrArg some (by kernel_rfl))
  f20 := ⟨Try.f52.name, by decide, Try.func52.trans (congrArg some (by kernel_rfl))⟩
  f21 := ⟨Try.f53.name, by decide, Try.func53.trans (congrArg some (by kernel_rfl))⟩
  f22 := ⟨Try.f54.name, by decide, Try.func54.trans (congrArg some (by kernel_rfl))⟩
  f23 := ⟨Try.f55.name, by decide, Try.func55.trans (congrArg some (by kernel_rfl))⟩
  f24 := ⟨Try.f56.name, by decide, Try.func56.trans (congrArg some (by kernel_rfl))⟩
  f25 := ⟨Try.f57.name, by decide, Try.func57.trans (congrArg some (by kernel_rfl))⟩
  f26 := ⟨Try.f58.name, by decide, Try.func58.trans (congrArg some (by kernel_rfl))⟩
  f27 := ⟨Try.f59.name, by decide, Try.func59.trans (congrArg some (by kernel_rfl))⟩
  f28 := Try.func60.trans (congrArg some (by kernel_rfl))
  f29 := Try.func61.trans (congrArg some (by kernel_rfl))
  f46 := ⟨Try.f70.name, by decide, Try.func70.trans (congrArg some (by kernel_rfl))⟩
  f47 := Try.func71.trans (congrArg some (by kernel_rfl))
  f48 := Try.func72.trans (congrArg some (by kernel_rfl))
  f49 := ⟨Try.f73.name, by decide, Try.func73.trans (congrArg some (by kernel_rfl))⟩
  f50 := ⟨Try.f74.name, by decide, Try.func74.trans (congrArg some (by kernel_rfl))⟩
  f57 := ⟨Try.f78.name, by decide, Try.func78.trans (congrArg some (by kernel_rfl))⟩
  t0 := Try.underlying0
  a0 := Try.isAgg0
  z0 := Try.sizeOf0
  v0 := Try.zeroValue0
  t3 := Try.underlying3
  a3 := Try.isAgg3
  z3 := Try.sizeOf3
  v3 := Try.zeroValue3
  t4 := Try.underlying4
  a4 := Try.isAgg4
  z4 := Try.sizeOf4
  v4 := Try.zeroValue4
  t5 := Try.underlying5
  a5 := Try.isAgg5
  z5 := Try.sizeOf5
  v5 := Try.zeroValue5
  t9 := Try.underlying9
  a9 := Try.isAgg9
  z9 := Try.sizeOf9
  v9 := Try.zeroValue9
  t22 := Try.underlying29
  a22 := Try.isAgg29
  z22 := Try.sizeOf29
  v22 := Try.zeroValue29
  t25 := Try.underlying42
  a25 := Try.isAgg42
  z25 := Try.sizeOf42
  v25 := Try.zeroValue42
  t39 := Try.underlying61
  a39 := Try.isAgg61
  z39 := Try.sizeOf61
  v39 := Try.zeroValue61
  t45 := Try.underlying82
  a45 := Try.isAgg82
  z45 := Try.sizeOf82
  v45 := Try.zeroValue82
  t46 := Try.underlying83
  a46 := Try.isAgg83
  z46 := Try.sizeOf83
  v46 := Try.zeroValue83
  t50 := Try.underlying87
  a50 := Try.isAgg87
  z50 := Try.sizeOf87
  v50 := Try.zeroValue87
  t53 := Try.underlying90
  a53 := Try.isAgg90
  z53 := Try.sizeOf90
  v53 := Try.zeroValue90
  t55 := Try.underlying92
  a55 := Try.isAgg92
  z55 := Try.sizeOf92
  v55 := Try.zeroValue92
  t66 := Try.underlying113
  a66 := Try.isAgg113
  z66 := Try.sizeOf113
  v66 := Try.zeroValue113
  t70 := Try.underlying117
  a70 := Try.isAgg117
  z70 := Try.sizeOf117
  v70 := Try.zeroValue117
  t76 := Try.underlying122
  a76 := Try.isAgg122
  z76 := Try.sizeOf122
  v76 := Try.zeroValue122
  t77 := Try.underlying123
  a77 := Try.isAgg123
  z77 := Try.sizeOf123
  v77 := Try.zeroValue123 }
end Go.Proofs.Ytlcjiodbdopcdab

namespace Go.Proofs.Ytlcjiodbdopcdab
set_option maxRecDepth 100000
open Go.RowKit Go.Shelf Go.Lib Go.Sort

theorem FIn.cells {w : World} {a : Option Addr} {l : List Ft} (h : FIn w a l) {x : Addr} (hx : a = some x) : ∀ j u, (rowF l)[j]? = some u → w.cell? (x.add j) = some u := by
  intro j u hj
  rcases h with rfl | ⟨b, off, ha, hlt, hc⟩
  · simp [rowF] at hj
  · obtain rfl := Option.some.inj (hx.symm.trans ha)
    have e1 : ∀ k, (⟨b, off, none⟩ : Addr).add k = ⟨b, off + k, none⟩ := fun k => by cases k <;> simp [Addr.add]
    rw [e1]
    obtain ⟨i, f, k, hi, rfl, hu⟩ := rowF_get l j u hj
    rw [← Nat.add_assoc]
    exact hc i f hi k u hu

theorem own_emptyF (w : World) (e : TypeId) (sz : Nat) : (w.alloc (.cells #[] e)).ownsRow w.heap.size e sz (.slice (some ⟨w.heap.size, 0, none⟩) 0 0) 0 [] :=
  ⟨by simp, .inr ⟨w.heap.size, 0, #[], rfl, Nat.le_refl _, heap_alloc_new w _, Nat.le_refl _, by simp [maxLen], by simp, by simp⟩⟩

set_option maxHeartbeats 1000000 in
set_option maxRecDepth 100000 in
theorem cloneF (l : List Ft) (a : Option Addr) (cap : Nat) (w : World) (h : FIn w a l) (hl : l.length ≤ 65536) :
    Calls Try.prog 14 #[.slice a l.length cap] w fun e w' => ∃ v', e = .returned v' ∧ OwnF w.heap.size v' l w' ∧ Below w.heap.size w w' := by
  obtain ⟨i0, hi, hz0, hz1, hz2⟩ := info_parts factInfo
  have hq := fun (w : World) (a : Option Addr) (n c : Nat) => Lib.run_eql_slice_nil (P := Try.prog) w 29 27 a n c 0 0 Try.underlying29
  cases a with
  | none =>
    have hl0 : l = [] := by
      rcases h with h | ⟨b, off, ha, _⟩
      · exact h
      · cases ha
    subst hl0
    clear h
    go_enter Try.func14, Try.ntmps14
    go_wp2_with fail
    go_ret
    exact ⟨_, rfl, ownF_nil _ _, Below.refl _ _⟩
  | some x =>
    have hcells := (h.alloc (.cells #[] 27)).cells rfl
    obtain ⟨v', W', hr, ho, hgr, hsf, hform⟩ := run_append_sf (P := Try.prog) (w.alloc (.cells #[] 27)) w.heap.size 29 29 29 27 i0 _ 8 80 Try.underlying29 hi hz0 hz1 hz2 rfl _ 0 [] (own_emptyF w _ _)
      (.slice (some x) l.length cap) l.length (rowF l) (Src.ofSlice _ Try.underlying29 x l.length cap _ (rowF_len l) hcells (rowF_cell l)) (by unfold maxLen; omega) (by omega) (by simp)
    simp only [Nat.zero_add, List.nil_append] at ho
    have hbel : Below w.heap.size w W' := (Joins.below_alloc1 w _).grown hgr (by simp) (fun k hk => by simp [Value.ownBlock] at hk; omega)
    have HF := Lib.hid (show OwnF w.heap.size v' l W' ∧ Below w.heap.size w W' from ⟨ho, hbel⟩)
    clear h hcells ho hgr hsf hform hbel hi hz0 hz1 hz2
    generalize l.length = n at *
    go_enter Try.func14, Try.ntmps14
    go_wp2_with (at_builtin; refine wpList_append_run rfl _ _ 29 29 rfl (.slice (some ⟨w.heap.size, 0, none⟩) 0 0) (.slice (some x) n cap) _ W' rfl rfl hr ?_)
    go_ret
    exact ⟨_, rfl, HF.out.1, HF.out.2⟩

/-! the order, as sorting asks for it -/
theorem lt_cmpF (a b : Ft) : ltOf cmpF a b = ltF a b := cmpO_neg ltF a b
theorem swoF : SWO (ltOf cmpF) := {
  irrefl := fun x => by rw [lt_cmpF]; exact ltF_irr x
  trans := fun x y z h1 h2 => by rw [lt_cmpF] at *; exact ltF_trans h1 h2
  ntrans := fun x y z h1 h2 => by
    rw [lt_cmpF] at *
    rcases ltF_tri x z with h | h | h
    · rcases ltF_tri x y with k | k | k
      · rw [k] at h1; cases h1
      · subst k; rw [h] at h2; cases h2
      · rcases ltF_tri y z with m | m | m
        · rw [m] at h2; cases h2
        · subst m; rw [ltF_asym k] at h; cases h
        · have := ltF_trans m k; rw [ltF_asym this] at h; cases h
    · subst h; exact ltF_irr _
    · exact ltF_asym h }
theorem orderFq (a b : Ft) (w : World) : Calls Try.prog 13 #[.agg (fcs a).toArray, .agg (fcs b).toArray] w fun e w' => e = .returned (.int .i64 (cmpF a b)) ∧ ∃ q os, w' = grow (w.drewN q) os := orderF a b w
instance : Inhabited Ft := ⟨⟨(0, 0), ⟨0, 0, 0⟩, 0, ⟨#[]⟩, ⟨#[]⟩⟩⟩
theorem cmpLaysF (blk off size : Nat) (w : World) : CmpLays Try.prog 13 #[] fcs 8 cmpF blk off size w := fun _ _ _ _ x y => orderFq x y _

theorem below_sortedF (w : World) (B blk off n : Nat) (d : Array Ft) (os : Array Obj) (hB : B ≤ blk) (hblk : blk < w.heap.size) : Go.RowKit.Below B w (sortWorldK fcs 8 w blk off n d os) := by
  refine ⟨rfl, rfl, rfl, ?_, fun k hk => ?_⟩
  · unfold sortWorldK putRowK; rw [size_grow, Sort.size_putRow]; exact Nat.le_add_right _ _
  · unfold sortWorldK putRowK
    rw [heap_grow_old _ _ (by rw [Sort.size_putRow]; show k < w.heap.size; omega)]
    unfold putRow mapBlock
    rw [Array.getElem?_modify, if_neg (by omega)]
    rfl

theorem holds_ownF {w : World} {B g cap : Nat} {l : List Ft} (h : OwnF B (.slice (some ⟨g, 0, none⟩) l.length cap) l w) : HoldsK fcs 8 w g 0 l.toArray := by
  intro t ht
  have ht2 : t < l.length * 8 := by rw [size_flatK] at ht; simpa using ht
  have hil : t / 8 < l.length := by omega
  rw [get_flatK _ _ _ _ (by simpa using ht2)]
  have hg : l.toArray[t / 8]! = l[t / 8] := by rw [getElem!_pos l.toArray (t / 8) (by simpa using hil)]; simp
  rw [hg]
  unfold OwnF at h
  refine ⟨?_, World.ownsRow.frozenAt h _⟩
  rw [Nat.zero_add, World.ownsRow.cellAt h t ht2]
  have hk : t % 8 < (fcs l[t / 8]).length := by rw [fcs_len]; omega
  have h1 := rowF_at l (t / 8) l[t / 8] (List.getElem?_eq_getElem hil) (t % 8) _ (List.getElem?_eq_getElem hk)
  rw [show t / 8 * 8 + t % 8 = t by omega] at h1
  rw [h1, getElem!_pos (fcs l[t / 8]) (t % 8) hk]
  rfl

/-- Block g holds the facts l, and may be written. -/
structure FH (w : World) (g : Nat) (l : List Ft) : Prop where
  lt : g < w.heap.size
  at' : ∀ j f, l[j]? = some f → w.rangeAt g (j * 8) (fcs f)
  free : w.there g 0 (l.length * 8)

theorem sortCallF (l : List Ft) (v : Value) (B : Nat) (w : World) (hlen : l.length ≤ 65536) (hown : OwnF B v l w) (_hB : B ≤ w.heap.size) :
    Calls Try.prog 15 #[v, .func (.func 13) #[] #[]] w fun e w' =>
      e = .returned (.tuple #[]) ∧ ((l = [] ∧ v = .slice none 0 0 ∧ w' = w) ∨ ∃ (s : List Ft) (g cap : Nat), v = .slice (some ⟨g, 0, none⟩) s.length cap ∧ s.length ≤ cap ∧ B ≤ g ∧ s.length = l.length ∧ s.Perm l ∧ s.Pairwise (fun a b => ltF b a = false) ∧ FH w' g s ∧ Go.RowKit.Below B w w') := by
  obtain ⟨hl, hv⟩ := id hown
  rcases hv with ⟨rfl, h0⟩ | ⟨g, cap, cur, rfl, hBg, hg, hn, hm, hs, htk⟩
  · have hl0 : l = [] := List.length_eq_zero_iff.1 h0
    subst hl0
    have hcon := AnyF.slices_SortFunc_none (P := Try.prog) (ρ := sortFl_ren) sortFl none 0 (.func (.func 13) #[] #[]) w
    exact Calls.mono (f := 15) hcon fun e w' h => by
      obtain ⟨he, hw⟩ := h
      exact ⟨he, .inl ⟨rfl, rfl, hw⟩⟩
  · have hH := holds_ownF hown
    have hlt : g < w.heap.size := lt_of_block hg
    have eg : ∀ args w, (callFunc 13 args).run Try.prog w = .ok (.enter 13 args) w := enters_of Try.func13 (by kernel_rfl) rfl
    have hsz : l.toArray.size = l.length := by simp
    have hcon := AnyQ.slices_SortFunc sortFl 8 Try.isAgg27 Try.sizeOf27 fcs (fun _ => rfl) fcs_cell cmpF swoF 13 #[] g 0 cap l.toArray w eg (cmpLaysF g 0 _ w) hH hlt (by omega)
    rw [hsz] at hcon
    refine Calls.mono (f := 15) hcon ?_
    rintro e w' ⟨rfl, d', n, os, hp, hsd, rfl⟩
    obtain ⟨hp1, _, hp2⟩ := hp
    have e1 : d'.extract 0 l.length = d' := by rw [← hsz, ← hp1]; exact Array.extract_size
    have e2 : l.toArray.extract 0 l.length = l.toArray := by rw [← hsz]; exact Array.extract_size
    rw [e1, e2] at hp2
    have hdl : d'.toList.length = l.length := by simp; omega
    have hK := holdsK_sortWorldK fcs 8 w g 0 n l.toArray d' os hlt hH (by omega)
    refine ⟨rfl, .inr ⟨d'.toList, g, cap, by rw [hdl], by rw [hdl]; exact hn, hBg, hdl, by simpa using hp2, ?_, ⟨lt_sortWorldK fcs 8 w g 0 n d' os hlt, fun j f hj c u hu => ?_, fun t ht => ?_⟩, below_sortedF w B g 0 n d' os hBg hlt⟩⟩
    · rw [List.pairwise_iff_getElem]
      intro i j hi hj hij
      have h := hsd i j (Nat.zero_le _) hij (by omega)
      rw [lt_cmpF] at h
      rw [getElem!_pos d' j (by simpa using hj), getElem!_pos d' i (by simpa using hi)] at h
      simpa using h
    · have hjl : j < d'.size := by have := (List.getElem?_eq_some_iff.1 hj).1; simpa using this
      have hc : c < 8 := by have := (List.getElem?_eq_some_iff.1 hu).1; rwa [fcs_len] at this
      have c0 := (hK.cell (i := j) (c := c) hjl hc).1
      have hd : d'[j]! = f := by
        rw [getElem!_pos d' j hjl]
        have := hj
        rw [Array.getElem?_toList, Array.getElem?_eq_getElem hjl] at this
        exact Option.some.inj this
      rw [hd, getElem!_pos (fcs f) c (by rw [fcs_len]; exact hc)] at c0
      rw [Nat.zero_add] at c0
      rw [c0, ← hu, List.getElem?_eq_getElem (by rw [fcs_len]; exact hc)]
    · have htl : t / 8 < d'.size := by simp at ht; omega
      have c0 := hK.cell (i := t / 8) (c := t % 8) htl (by omega)
      rw [show 0 + t / 8 * 8 + t % 8 = 0 + t by omega] at c0
      exact ⟨by rw [c0.1]; rfl, c0.2⟩

end Go.Proofs.Ytlcjiodbdopcdab
