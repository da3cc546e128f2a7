/-
  slices.Clone of facts.
-/
import Derived.Test.YtpcelgmcbfjmbaaFactRow
import Derived.Deep.Cut
import Derived.BigQuiet
namespace Go.Proofs.Ytpcelgmcbfjmbaa
set_option maxRecDepth 100000
open Go.RowKit Go.Lib Go.Sort

theorem FIn.cells {w : World} {a : Option Addr} {l : List Ft} (h : FIn w a l) {x : Addr} (hx : a = some x) : ∀ j u, (rowF l)[j]? = some u → w.cell? (x.add j) = some u := by
  intro j u hj
  rcases h with rfl | ⟨b, off, ha, hlt, hc⟩
  · simp [rowF] at hj
  · obtain rfl := Option.some.inj (hx.symm.trans ha)
    have e1 : ∀ k, (⟨b, off, none⟩ : Addr).add k = ⟨b, off + k, none⟩ := fun k => by cases k <;> simp [Addr.add]
    rw [e1]
    obtain ⟨i, f, k, hi, rfl, hu⟩ := rowF_get l j u hj
    rw [← Nat.add_assoc]
    exact hc i f hi k u hu

theorem own_emptyF (w : World) (e : TypeId) (sz : Nat) : (w.alloc (.cells #[] e)).ownsRow w.heap.size e sz (.slice (some ⟨w.heap.size, 0, none⟩) 0 0) 0 [] :=
  ⟨by simp, .inr ⟨w.heap.size, 0, #[], rfl, Nat.le_refl _, heap_alloc_new w _, Nat.le_refl _, by simp [maxLen], by simp, by simp⟩⟩

set_option maxHeartbeats 1000000 in
set_option maxRecDepth 100000 in
theorem cloneF (l : List Ft) (a : Option Addr) (cap : Nat) (w : World) (h : FIn w a l) (hl : l.length ≤ 65536) :
    Calls Try.prog 23 #[.slice a l.length cap] w fun e w' => ∃ v', e = .returned v' ∧ OwnF w.heap.size v' l w' ∧ Below w.heap.size w w' := by
  obtain ⟨i0, hi, hz0, hz1, hz2⟩ := info_parts factInfo
  have hq := fun (w : World) (a : Option Addr) (n c : Nat) => Lib.run_eql_slice_nil (P := Try.prog) w 22 39 a n c 0 0 Try.underlying22
  cases a with
  | none =>
    have hl0 : l = [] := by
      rcases h with h | ⟨b, off, ha, _⟩
      · exact h
      · cases ha
    subst hl0
    clear h
    go_enter Try.func23, Try.ntmps23
    go_wp2_with fail
    go_ret
    exact ⟨_, rfl, ownF_nil _ _, Below.refl _ _⟩
  | some x =>
    have hcells := (h.alloc (.cells #[] 39)).cells rfl
    obtain ⟨v', W', hr, ho, hgr, hsf, hform⟩ := run_append_sf (P := Try.prog) (w.alloc (.cells #[] 39)) w.heap.size 22 22 22 39 i0 _ 8 80 Try.underlying22 hi hz0 hz1 hz2 rfl _ 0 [] (own_emptyF w _ _)
      (.slice (some x) l.length cap) l.length (rowF l) (Src.ofSlice _ Try.underlying22 x l.length cap _ (rowF_len l) hcells (rowF_cell l)) (by unfold maxLen; omega) (by omega) (by simp)
    simp only [Nat.zero_add, List.nil_append] at ho
    have hbel : Below w.heap.size w W' := (Joins.below_alloc1 w _).grown hgr (by simp) (fun k hk => by simp [Value.ownBlock] at hk; omega)
    have HF := Lib.hid (show OwnF w.heap.size v' l W' ∧ Below w.heap.size w W' from ⟨ho, hbel⟩)
    clear h hcells ho hgr hsf hform hbel hi hz0 hz1 hz2
    generalize l.length = n at *
    go_enter Try.func23, Try.ntmps23
    go_wp2_with (at_builtin; refine wpList_append_run rfl _ _ 22 22 rfl (.slice (some ⟨w.heap.size, 0, none⟩) 0 0) (.slice (some x) n cap) _ W' rfl rfl hr ?_)
    go_ret
    exact ⟨_, rfl, HF.out.1, HF.out.2⟩
end Go.Proofs.Ytpcelgmcbfjmbaa
