/-
  seglog: slices.Clone of texts; Base, Records, Len.
-/
import Derived.Test.YtjimgncefeldbaaGreatDoorSegOpen
namespace Go.Proofs.YtjimgncefeldbaaGreatDoor
open Go.RowKit Go.Sort

/-- what Clone answers: a row of texts -/
def TextsPost (rs : List ByteArray) (w : World) (e : Ending) (w' : World) : Prop := ∃ ra cap, e = .returned (.slice ra rs.length cap) ∧ StrRow w' ra rs ∧ Below w.heap.size w w' ∧ ∀ b off, ra = some ⟨b, off, none⟩ → w.heap.size ≤ b

set_option maxHeartbeats 1000000 in
set_option maxRecDepth 100000 in
theorem cloneT_any (ra : Option Addr) (rs : List ByteArray) (cap : Nat) (w : World) (hrow : StrRow w ra rs) (hl : rs.length ≤ 4194304) (hcm : rs.length ≤ cap) (_hcx : cap ≤ maxLen) :
    Calls Tryz.prog 44 #[.slice ra rs.length cap] w (TextsPost rs w) := by
  obtain ⟨i0, hi, hz0, hz1, hz2⟩ := info_parts strInfo8
  cases ra with
  | none =>
    have h0 : rs = [] := by
      rcases hrow with h | ⟨b, off, e, _⟩
      · exact h
      · cases e
    subst h0
    have HF := Lib.hid (show TextsPost [] w (.returned (.slice none 0 0)) w from ⟨none, 0, rfl, .inl rfl, Below.refl _ _, fun _ _ e => by cases e⟩)
    clear hrow
    have hq := fun (w : World) (a : Option Addr) (n c : Nat) => Lib.run_eql_slice_nil (P := Tryz.prog) w 40 9 a n c 0 0 Tryz.underlying40
    go_enter Tryz.func44, Tryz.ntmps44
    go_wp2_with fail
    go_ret
    exact HF.out
  | some ad =>
    have hcells : ∀ j u, (rs.map Value.string)[j]? = some u → (w.alloc (.cells #[] 9)).cell? (ad.add j) = some u := by
      intro j u hj
      rw [List.getElem?_map] at hj
      rcases hrow with h | ⟨b, off, e, hlt, hc⟩
      · rw [h] at hj; simp at hj
      · cases e
        have hjl : j < rs.length := by
          by_cases hjl : j < rs.length
          · exact hjl
          · rw [List.getElem?_eq_none (by omega)] at hj; simp at hj
        have h1 := hc j hjl
        rw [List.getElem?_eq_getElem hjl] at hj
        simp only [Option.map_some, Option.some.injEq] at hj
        rw [List.getD_eq_getElem?_getD, List.getElem?_eq_getElem hjl] at h1
        have e1 : (⟨b, off, none⟩ : Addr).add j = ⟨b, off + j, none⟩ := by cases j <;> simp [Addr.add]
        rw [e1, ← hj, (Joins.below_alloc1 w _).cell (p := ⟨b, off + j, none⟩) hlt]
        exact h1
    obtain ⟨v', W', hr, ho, hgr, hsf, hform⟩ := run_append_sf (P := Tryz.prog) (w.alloc (.cells #[] 9)) w.heap.size 40 40 40 9 i0 (.string ByteArray.empty) 1 16 Tryz.underlying40 hi hz0 hz1 hz2 rfl _ 0 [] (own_empty0 w _ _)
      (.slice (some ad) rs.length cap) rs.length (rs.map Value.string) (Src.ofSlice _ Tryz.underlying40 ad rs.length cap _ (by simp) hcells (fun u hu => by simp at hu; obtain ⟨x, _, rfl⟩ := hu; rfl)) (by unfold maxLen; omega) (by omega) (by simp)
    simp only [Nat.zero_add, List.nil_append] at ho hform
    have hbel : Below w.heap.size w W' := (Joins.below_alloc1 w _).grown hgr (by simp) (fun k hk => by simp [Value.ownBlock] at hk; omega)
    obtain ⟨rb, c2, rfl, hrow2, hbase2, _⟩ := ownS_from (B := w.heap.size) (l := rs) ho
    have HF := Lib.hid (show TextsPost rs w (.returned (.slice rb rs.length c2)) W' from ⟨rb, c2, rfl, hrow2, hbel, hbase2⟩)
    clear hrow hcells ho hgr hsf hform hbel hi hz0 hz1 hz2 hrow2 hbase2
    generalize rs.length = n at *
    have hq := fun (w : World) (a : Option Addr) (n c : Nat) => Lib.run_eql_slice_nil (P := Tryz.prog) w 40 9 a n c 0 0 Tryz.underlying40
    go_enter Tryz.func44, Tryz.ntmps44
    go_wp2_with (at_builtin; refine wpList_append_run rfl _ _ 40 40 rfl (.slice (some ⟨w.heap.size, 0, none⟩) 0 0) (.slice (some ad) n cap) _ W' rfl rfl hr ?_)
    go_ret
    exact HF.out

set_option maxHeartbeats 1000000 in
set_option maxRecDepth 100000 in
theorem records_any {L D g : Nat} {base : ByteArray} {ra : Option Addr} {cap : Nat} {en : Bool} (rs : List ByteArray) (w : World) (h : LogC L D g base (.slice ra rs.length cap) en w) (hrow : StrRow w ra rs) (hl : rs.length ≤ 4194304) (hcm : rs.length ≤ cap) (hcx : cap ≤ maxLen) :
    Calls Tryz.prog 13 #[.pointer (some ⟨L, 0, none⟩)] w (TextsPost rs w) := by
  have c5 := h.c5
  have hcl := cloneT_any ra rs cap w hrow hl hcm hcx
  clear h hrow
  generalize hn : rs.length = n at c5 hcl hl hcm
  have HCL := Lib.hid hcl
  have HN := Lib.hid hn
  clear hcl hn
  go_enter Tryz.func13, Tryz.ntmps13
  go_wp2_with fail
  refine HCL.out.mono ?_
  rintro e w1 ⟨rb, c2, rfl, hrow2, hb2, hbs2⟩
  have HF := Lib.hid (show TextsPost rs w (.returned (.slice rb rs.length c2)) w1 from ⟨rb, c2, rfl, hrow2, hb2, hbs2⟩)
  clear hrow2 hb2 hbs2
  rw [HN.out] at *
  go_wp2_with fail
  go_ret
  exact HF.out

set_option maxHeartbeats 1000000 in
set_option maxRecDepth 100000 in
theorem base_any {L D g : Nat} {base : ByteArray} {rv : Value} {en : Bool} (w : World) (h : LogC L D g base rv en w) :
    Calls Tryz.prog 11 #[.pointer (some ⟨L, 0, none⟩)] w fun e w' => e = .returned (.string base) ∧ w = w' := by
  have c4 := h.c4
  clear h
  go_enter Tryz.func11, Tryz.ntmps11
  go_wp2_with fail
  go_ret
  exact ⟨rfl, rfl⟩

set_option maxHeartbeats 1000000 in
set_option maxRecDepth 100000 in
theorem len_any {L D g n cap : Nat} {base : ByteArray} {ra : Option Addr} {en : Bool} (w : World) (h : LogC L D g base (.slice ra n cap) en w) :
    Calls Tryz.prog 30 #[.pointer (some ⟨L, 0, none⟩)] w fun e w' => e = .returned (.int .i64 (n : Int)) ∧ w = w' := by
  have c5 := h.c5
  clear h
  go_enter Tryz.func30, Tryz.ntmps30
  go_wp2_with fail
  go_ret
  exact ⟨rfl, rfl⟩
end Go.Proofs.YtjimgncefeldbaaGreatDoor
