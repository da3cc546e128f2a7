/-
  float.Sort: what the call answers.
-/
import Derived.Test.YtgdgapklkodnjaaFloatRow
namespace Go.Proofs.Ytgdgapklkodnjaa
open Go.RowKit

attribute [local go_sem] run_store_flt

set_option maxHeartbeats 1000000 in
set_option maxRecDepth 100000 in
theorem sortC (l : List Nat) (v : Value) (w : World) (hin : FIn w v l) (hl : ∀ x ∈ l, x < 18446744073709551616) (hlen : l.length ≤ 1000) :
    Calls Try.prog 22 #[v] w fun e w' => ∃ v' r, e = .returned v' ∧ IsSort l r ∧ FIn w' v' r ∧ Below w.heap.size w w' := by
  obtain ⟨p, cap, hv, hcell⟩ : ∃ p cap, v = .slice p l.length cap ∧ ∀ j (h : j < l.length), ∃ g, p = some ⟨g, 0, none⟩ ∧ g < w.heap.size ∧ w.cell? ⟨g, j, none⟩ = some (.float .f64 l[j]) := by
    rcases hin with ⟨rfl, rfl⟩ | ⟨g, cap, rfl, hg, hc⟩
    · exact ⟨none, 0, rfl, fun j hj => by simp at hj⟩
    · exact ⟨_, cap, rfl, fun j hj => ⟨g, rfl, hg, hc j hj⟩⟩
  subst hv
  clear hin
  have hmk := make_floats l.length (by omega) w
  have hown0 := ownF_made w l.length (by omega)
  rw [← cRow_zero] at hown0
  have HO := Lib.hid hown0
  clear hown0
  have HC := Lib.hid hcell
  have HL := Lib.hid hl
  clear hcell hl
  obtain ⟨n, hn⟩ : ∃ n, n = l.length := ⟨_, rfl⟩
  rw [← hn] at hmk HO hlen ⊢
  have HN := Lib.hid hn
  clear hn
  go_enter Try.func22, Try.ntmps22
  go_wp2
  go_loopw [4, 5, 11] (fun _ _ i wr => ∃ k : Nat, k ≤ n ∧ i = .int .i64 (k : Int) ∧ OwnF w.heap.size (.slice (some ⟨w.heap.size, 0, none⟩) n n) (cRow l k) wr ∧ Below w.heap.size w wr) (fun _ _ i _ => n - (intOf i).toNat)
  case atStart => exact ⟨0, by omega, rfl, HO.out, (Below.refl _ _).alloc (Nat.le_refl _) _⟩
  case round =>
    clear HO hmk
    obtain ⟨k, hk, rfl, hown, hb⟩ := hrel
    by_cases hlt : k < n
    · have hkl : k < l.length := by rw [← HN.out]; exact hlt
      obtain ⟨g, hp, hg, hc⟩ := HC.out k hkl
      subst hp
      rw [← hb.cell (p := ⟨g, k, none⟩) hg] at hc
      have hset := cRow_set l k hkl
      have hrow : wr.ownsRow w.heap.size 22 1 (.slice (some ⟨w.heap.size, 0, none⟩) n n) n (fcs (cRow l k)) := by
        have h := hown; unfold OwnF at h; rw [cRow_len, ← HN.out] at h; exact h
      have hfz : wr.frozen? ⟨w.heap.size, k, none⟩ = false := World.ownsRow.frozenAt hrow k
      have hcell := World.ownsRow.cellAt hrow k (by omega)
      have hst := (World.ownsRow.stored hrow k (.float .f64 (cln l[k]))).1
      rw [fcs_set, hset] at hst
      have hcl : ∃ u : Nat, (fcs (cRow l k))[k]? = some (.float .f64 u) := by
        have hll : k < (fcs (cRow l k)).length := by rw [fcs_len, cRow_len]; exact hkl
        exact ⟨_, by rw [List.getElem?_eq_getElem hll]; simp [fcs]; rfl⟩
      obtain ⟨u, hu⟩ := hcl
      rw [hu] at hcell
      have hcc := fun W => cleanC l[k] W
      generalize cln l[k] = z at hst hcc
      generalize l[k] = y at hc hcc
      have hbs := hb.size
      have HST := Lib.hid hst
      have HB := Lib.hid hb
      have HCC := Lib.hid hcc
      clear hst hb hu hrow hset hown hcc
      go_wp2_with fail
      refine (HCC.out _).mono ?_
      rintro e w1 ⟨rfl, rfl⟩
      go_wp2
      exact ⟨⟨k + 1, by omega, by go_num, by unfold OwnF; rw [cRow_len, ← HN.out]; exact HST.out, HB.out.setCell (Nat.le_refl _) _⟩, by simp [intOf]; omega⟩
    · obtain rfl : k = n := by omega
      have hcon := sortCall l HL.out w.heap.size k w.heap.size (Nat.le_refl _) wr (by rw [← HN.out]; omega) (by have h := hown; rw [HN.out, cRow_all] at h; rw [HN.out]; exact h)
      rw [← HN.out] at hcon
      have HCON := Lib.hid hcon
      have HB := Lib.hid hb
      clear hcon hb hown
      go_wp2_with fail
      refine (HCON.out).mono ?_
      rintro e w1 ⟨rfl, r, h1, h2, h3⟩
      have H1 := Lib.hid h1
      have H2 := Lib.hid h2
      have H3 := Lib.hid (HB.out.trans h3)
      clear h1 h2 h3
      go_wp2
      go_ret
      exact ⟨_, r, rfl, H1.out, H2.out, H3.out⟩
end Go.Proofs.Ytgdgapklkodnjaa
