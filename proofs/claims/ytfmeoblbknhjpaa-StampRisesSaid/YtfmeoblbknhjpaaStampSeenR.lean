/-
  stamp: Seen, of the document.
-/
import Derived.Test.YtfmeoblbknhjpaaStampSeen
namespace Go.Proofs.Ytfmeoblbknhjpaa
open Go.RowKit
set_option maxRecDepth 100000

theorem SRow.third (w : World) (a b : Obj) (d : St) : SRow (((w.alloc a).alloc b).alloc (.cells #[.int .i64 d.t, .int .i64 d.c, .int .i64 d.r] 23)) (w.heap.size + 2) d := by
  have h := heap_alloc_new ((w.alloc a).alloc b) (.cells #[.int .i64 d.t, .int .i64 d.c, .int .i64 d.r] 23)
  rw [World.size_alloc, World.size_alloc] at h
  exact h

set_option maxHeartbeats 8000000 in
theorem seenR (l o : St) (now : Int) (w : World) : Calls Try.prog 9 #[.agg #[.int .i64 l.t, .int .i64 l.c, .int .i64 l.r], .agg #[.int .i64 o.t, .int .i64 o.c, .int .i64 o.r], .int .i64 now] w fun e w' => e = .returned (two (seenS l o now)) ∧ Below w.heap.size w w' := by
  have h1 := fun W => checkR l W
  have h2 := fun W => checkR o W
  have hb : ∃ b0 b1 b2 b3 : Bool, (chkS l != 0) = b0 ∧ (chkS o != 0) = b1 ∧ decide (now < 0) = b2 ∧ decide ((1099511627776 : Int) < now) = b3 ∧
      seenS l o now = if (b0 || b1 || b2 || b3) = true then (zS, 2) else (if (topS l o).t < now then ⟨now, 0, l.r⟩ else ⟨(topS l o).t, (topS l o).c, l.r⟩, 0) := by
    refine ⟨_, _, _, _, rfl, rfl, rfl, rfl, ?_⟩
    unfold seenS badN
    congr 1
    simp only [Bool.or_eq_true, decide_eq_true_eq, bne_iff_ne, ne_eq]
    exact propext ⟨by omega, by omega⟩
  obtain ⟨b0, b1, b2, b3, e0, e1, e2, e3, hn⟩ := hb
  have htop : topS l o = if l.t < o.t ∨ (l.t = o.t ∧ l.c < o.c) then o else l := rfl
  generalize topS l o = T at hn htop
  generalize seenS l o now = X at hn ⊢
  generalize chkS l = E1 at *
  generalize chkS o = E2 at *
  obtain ⟨lt, lc, lr⟩ := l
  obtain ⟨ot, oc, or'⟩ := o
  unfold boxS at h1 h2
  simp only at *
  have fin : X = (zS, 2) → (b0 || b1 || b2 || b3) = true → Calls Try.prog 9 #[.agg #[.int .i64 lt, .int .i64 lc, .int .i64 lr], .agg #[.int .i64 ot, .int .i64 oc, .int .i64 or'], .int .i64 now] w fun e w' => e = .returned (two X) ∧ Below w.heap.size w w' := by
    rintro rfl hz
    clear hn htop
    cases b0
    rotate_left
    · clear hz
      go_enter Try.func9, Try.ntmps9
      go_wp2_with fail
      refine (h1 _).mono ?_
      rintro e w1 ⟨rfl, rfl⟩
      go_wp2
      exact bodyPost_ret (retS rfl _ _ (w.heap.size + 2) zS _ rfl rfl ((SRow.third w _ _ zS).alloc _)) rfl ⟨rfl, belowMore (belowMore (belowMore (below1 w _) _) _) _⟩
    cases b1
    rotate_left
    · clear hz
      go_enter Try.func9, Try.ntmps9
      go_wp2_with fail
      refine (h1 _).mono ?_
      rintro e w1 ⟨rfl, rfl⟩
      go_wp2_with fail
      refine (h2 _).mono ?_
      rintro e w1 ⟨rfl, rfl⟩
      go_wp2
      exact bodyPost_ret (retS rfl _ _ (w.heap.size + 2) zS _ rfl rfl (((SRow.third w _ _ zS).alloc _).alloc _)) rfl ⟨rfl, belowMore (belowMore (belowMore (belowMore (below1 w _) _) _) _) _⟩
    cases b2
    rotate_left
    · clear hz
      go_enter Try.func9, Try.ntmps9
      go_wp2_with fail
      refine (h1 _).mono ?_
      rintro e w1 ⟨rfl, rfl⟩
      go_wp2_with fail
      refine (h2 _).mono ?_
      rintro e w1 ⟨rfl, rfl⟩
      go_wp2
      exact bodyPost_ret (retS rfl _ _ (w.heap.size + 2) zS _ rfl rfl (((SRow.third w _ _ zS).alloc _).alloc _)) rfl ⟨rfl, belowMore (belowMore (belowMore (belowMore (below1 w _) _) _) _) _⟩
    cases b3
    · cases hz
    · clear hz
      go_enter Try.func9, Try.ntmps9
      go_wp2_with fail
      refine (h1 _).mono ?_
      rintro e w1 ⟨rfl, rfl⟩
      go_wp2_with fail
      refine (h2 _).mono ?_
      rintro e w1 ⟨rfl, rfl⟩
      go_wp2
      exact bodyPost_ret (retS rfl _ _ (w.heap.size + 2) zS _ rfl rfl (((SRow.third w _ _ zS).alloc _).alloc _)) rfl ⟨rfl, belowMore (belowMore (belowMore (belowMore (below1 w _) _) _) _) _⟩
  by_cases hz : (b0 || b1 || b2 || b3) = true
  · exact fin (by rw [hn, if_pos hz]) hz
  rw [if_neg hz] at hn
  clear fin
  obtain ⟨rfl, rfl, rfl, rfl⟩ : b0 = false ∧ b1 = false ∧ b2 = false ∧ b3 = false := by
    revert hz; cases b0 <;> cases b1 <;> cases b2 <;> cases b3 <;> simp
  clear hz
  rcases Int.lt_trichotomy lt ot with hd | hd | hd
  · rw [if_pos (.inl hd)] at htop; subst htop
    have g1 : decide (lt < ot) = true := by simp [hd]
    clear hd
    simp only at hn
    by_cases hc : ot < now
    · have h5 : decide (ot < now) = true := by simp; omega
      rw [if_pos (by simp at h5; exact h5)] at hn
      have HN := Lib.hid hn
      clear hn hc
      go_enter Try.func9, Try.ntmps9
      go_wp2_with fail
      refine (h1 _).mono ?_
      rintro e w1 ⟨rfl, rfl⟩
      go_wp2_with fail
      refine (h2 _).mono ?_
      rintro e w1 ⟨rfl, rfl⟩
      go_wp2
      exact bodyPost_ret (retS rfl _ _ (w.heap.size + 2) ⟨now, 0, lr⟩ _ rfl rfl ((((SRow.third w _ _ ⟨now, 0, lr⟩).alloc _).alloc _).alloc _)) rfl ⟨by rw [HN.out]; rfl, belowMore (belowMore (belowMore (belowMore (belowMore (below1 w _) _) _) _) _) _⟩
    · have h5 : decide (ot < now) = false := by simp; omega
      rw [if_neg (by simp at h5; omega)] at hn
      have HN := Lib.hid hn
      clear hn hc
      go_enter Try.func9, Try.ntmps9
      go_wp2_with fail
      refine (h1 _).mono ?_
      rintro e w1 ⟨rfl, rfl⟩
      go_wp2_with fail
      refine (h2 _).mono ?_
      rintro e w1 ⟨rfl, rfl⟩
      go_wp2
      exact bodyPost_ret (retS rfl _ _ (w.heap.size + 2) ⟨ot, oc, lr⟩ _ rfl rfl ((((SRow.third w _ _ ⟨ot, oc, lr⟩).alloc _).alloc _).alloc _)) rfl ⟨by rw [HN.out]; rfl, belowMore (belowMore (belowMore (belowMore (belowMore (below1 w _) _) _) _) _) _⟩
  · have g1 : decide (lt < ot) = false := by simp; omega
    have g2 : (ot == lt) = true := by simp [hd]
    by_cases hq : lc < oc
    · rw [if_pos (.inr ⟨hd, hq⟩)] at htop; subst htop
      have g3 : decide (lc < oc) = true := by simp [hq]
      clear hd hq
      simp only at hn
      by_cases hc : ot < now
      · have h5 : decide (ot < now) = true := by simp; omega
        rw [if_pos (by simp at h5; exact h5)] at hn
        have HN := Lib.hid hn
        clear hn hc
        go_enter Try.func9, Try.ntmps9
        go_wp2_with fail
        refine (h1 _).mono ?_
        rintro e w1 ⟨rfl, rfl⟩
        go_wp2_with fail
        refine (h2 _).mono ?_
        rintro e w1 ⟨rfl, rfl⟩
        go_wp2
        exact bodyPost_ret (retS rfl _ _ (w.heap.size + 2) ⟨now, 0, lr⟩ _ rfl rfl ((((SRow.third w _ _ ⟨now, 0, lr⟩).alloc _).alloc _).alloc _)) rfl ⟨by rw [HN.out]; rfl, belowMore (belowMore (belowMore (belowMore (belowMore (below1 w _) _) _) _) _) _⟩
      · have h5 : decide (ot < now) = false := by simp; omega
        rw [if_neg (by simp at h5; omega)] at hn
        have HN := Lib.hid hn
        clear hn hc
        go_enter Try.func9, Try.ntmps9
        go_wp2_with fail
        refine (h1 _).mono ?_
        rintro e w1 ⟨rfl, rfl⟩
        go_wp2_with fail
        refine (h2 _).mono ?_
        rintro e w1 ⟨rfl, rfl⟩
        go_wp2
        exact bodyPost_ret (retS rfl _ _ (w.heap.size + 2) ⟨ot, oc, lr⟩ _ rfl rfl ((((SRow.third w _ _ ⟨ot, oc, lr⟩).alloc _).alloc _).alloc _)) rfl ⟨by rw [HN.out]; rfl, belowMore (belowMore (belowMore (belowMore (belowMore (below1 w _) _) _) _) _) _⟩
    · rw [if_neg (by omega)] at htop; subst htop
      have g3 : decide (lc < oc) = false := by simp; omega
      clear hd hq
      simp only at hn
      by_cases hc : lt < now
      · have h5 : decide (lt < now) = true := by simp; omega
        rw [if_pos (by simp at h5; exact h5)] at hn
        have HN := Lib.hid hn
        clear hn hc
        go_enter Try.func9, Try.ntmps9
        go_wp2_with fail
        refine (h1 _).mono ?_
        rintro e w1 ⟨rfl, rfl⟩
        go_wp2_with fail
        refine (h2 _).mono ?_
        rintro e w1 ⟨rfl, rfl⟩
        go_wp2
        exact bodyPost_ret (retS rfl _ _ (w.heap.size + 2) ⟨now, 0, lr⟩ _ rfl rfl ((((SRow.third w _ _ ⟨now, 0, lr⟩).alloc _).alloc _).alloc _)) rfl ⟨by rw [HN.out]; rfl, belowMore (belowMore (belowMore (belowMore (belowMore (below1 w _) _) _) _) _) _⟩
      · have h5 : decide (lt < now) = false := by simp; omega
        rw [if_neg (by simp at h5; omega)] at hn
        have HN := Lib.hid hn
        clear hn hc
        go_enter Try.func9, Try.ntmps9
        go_wp2_with fail
        refine (h1 _).mono ?_
        rintro e w1 ⟨rfl, rfl⟩
        go_wp2_with fail
        refine (h2 _).mono ?_
        rintro e w1 ⟨rfl, rfl⟩
        go_wp2
        exact bodyPost_ret (retS rfl _ _ (w.heap.size + 2) ⟨lt, lc, lr⟩ _ rfl rfl ((((SRow.third w _ _ ⟨lt, lc, lr⟩).alloc _).alloc _).alloc _)) rfl ⟨by rw [HN.out]; rfl, belowMore (belowMore (belowMore (belowMore (belowMore (below1 w _) _) _) _) _) _⟩
  · rw [if_neg (by omega)] at htop; subst htop
    have g1 : decide (lt < ot) = false := by simp; omega
    have g2 : (ot == lt) = false := by simp; omega
    clear hd
    simp only at hn
    by_cases hc : lt < now
    · have h5 : decide (lt < now) = true := by simp; omega
      rw [if_pos (by simp at h5; exact h5)] at hn
      have HN := Lib.hid hn
      clear hn hc
      go_enter Try.func9, Try.ntmps9
      go_wp2_with fail
      refine (h1 _).mono ?_
      rintro e w1 ⟨rfl, rfl⟩
      go_wp2_with fail
      refine (h2 _).mono ?_
      rintro e w1 ⟨rfl, rfl⟩
      go_wp2
      exact bodyPost_ret (retS rfl _ _ (w.heap.size + 2) ⟨now, 0, lr⟩ _ rfl rfl ((((SRow.third w _ _ ⟨now, 0, lr⟩).alloc _).alloc _).alloc _)) rfl ⟨by rw [HN.out]; rfl, belowMore (belowMore (belowMore (belowMore (belowMore (below1 w _) _) _) _) _) _⟩
    · have h5 : decide (lt < now) = false := by simp; omega
      rw [if_neg (by simp at h5; omega)] at hn
      have HN := Lib.hid hn
      clear hn hc
      go_enter Try.func9, Try.ntmps9
      go_wp2_with fail
      refine (h1 _).mono ?_
      rintro e w1 ⟨rfl, rfl⟩
      go_wp2_with fail
      refine (h2 _).mono ?_
      rintro e w1 ⟨rfl, rfl⟩
      go_wp2
      exact bodyPost_ret (retS rfl _ _ (w.heap.size + 2) ⟨lt, lc, lr⟩ _ rfl rfl ((((SRow.third w _ _ ⟨lt, lc, lr⟩).alloc _).alloc _).alloc _)) rfl ⟨by rw [HN.out]; rfl, belowMore (belowMore (belowMore (belowMore (belowMore (below1 w _) _) _) _) _) _⟩
end Go.Proofs.Ytfmeoblbknhjpaa