/-
  register: slices.MaxFunc of facts by their order.
-/
import Derived.Test.YtpcelgmcbfjmbaaRegOrd
import Derived.Test.YtpcelgmcbfjmbaaFactSame
import Derived.Deep.Cut
import Derived.Deep.DeepCutAuto
import Derived.BigQuiet
namespace Go.Proofs.Ytpcelgmcbfjmbaa
set_option linter.unusedSimpArgs false
set_option linter.unusedVariables false
open Go.RowKit Go.Sort
set_option maxRecDepth 100000

theorem cmpO_pos {α : Type} {lt : α → α → Bool} (h : TotO lt) (a b : α) : decide (0 < cmpO lt a b) = lt b a := by
  unfold cmpO
  cases h1 : lt a b with
  | true =>
    have : lt b a = false := by
      cases h2 : lt b a with
      | false => rfl
      | true => have := h.trans h1 h2; rw [h.irr] at this; cases this
    simp [this]
  | false => cases lt b a <;> simp
theorem cmpR_pos (a b : Ft) : decide (0 < cmpR a b) = ltR b a := by
  have e : ∀ x y : Ft, cmpR x y = cmpO ltK (keyR x) (keyR y) := fun _ _ => rfl
  rw [e, cmpO_pos totR]; rfl

/-- a latest one of the first t -/
structure MaxR (l : List Ft) (t : Nat) (m : Ft) : Prop where
  mem : m ∈ l.take t
  top : ∀ x ∈ l.take t, ltR m x = false
theorem MaxR.one {l : List Ft} {z : Ft} (h : l[0]? = some z) : MaxR l 1 z := by
  have e : l.take 1 = [z] := by
    cases l with
    | nil => simp at h
    | cons x r => simp at h; simp [h]
  exact ⟨by rw [e]; simp, fun x hx => by rw [e] at hx; obtain rfl := List.mem_singleton.1 hx; exact ltR_irr _⟩
theorem MaxR.more {l : List Ft} {t : Nat} {m x : Ft} (h : MaxR l t m) (hx : l[t]? = some x) (hr : ltR m x = true) : MaxR l (t + 1) x := by
  obtain ⟨ht, rfl⟩ := List.getElem?_eq_some_iff.1 hx
  rw [show MaxR l (t + 1) l[t] ↔ (l[t] ∈ l.take (t + 1) ∧ ∀ y ∈ l.take (t + 1), ltR l[t] y = false) from ⟨fun k => ⟨k.mem, k.top⟩, fun k => ⟨k.1, k.2⟩⟩, List.take_succ_eq_append_getElem ht]
  refine ⟨List.mem_append_right _ (List.mem_singleton.2 rfl), fun y hy => ?_⟩
  rcases List.mem_append.1 hy with hy | hy
  · cases q : ltR l[t] y with
    | false => rfl
    | true => have := ltR_trans hr q; rw [h.top y hy] at this; cases this
  · obtain rfl := List.mem_singleton.1 hy; exact ltR_irr _
theorem MaxR.same {l : List Ft} {t : Nat} {m x : Ft} (h : MaxR l t m) (hx : l[t]? = some x) (hr : ltR m x = false) : MaxR l (t + 1) m := by
  obtain ⟨ht, rfl⟩ := List.getElem?_eq_some_iff.1 hx
  rw [show MaxR l (t + 1) m ↔ (m ∈ l.take (t + 1) ∧ ∀ y ∈ l.take (t + 1), ltR m y = false) from ⟨fun k => ⟨k.mem, k.top⟩, fun k => ⟨k.1, k.2⟩⟩, List.take_succ_eq_append_getElem ht]
  refine ⟨List.mem_append_left _ h.mem, fun y hy => ?_⟩
  rcases List.mem_append.1 hy with hy | hy
  · exact h.top y hy
  · obtain rfl := List.mem_singleton.1 hy; exact hr
/-- it says what the last one of all that rise says -/
theorem MaxR.last {l s : List Ft} {m : Ft} (h : MaxR l l.length m) (ho : OrderR l s) : lastR s = (m.v, true) := by
  have hm := h.mem
  have ht := h.top
  rw [List.take_length] at hm ht
  have hms : m ∈ s := ho.perm.mem_iff.2 hm
  have hne : s ≠ [] := fun e => by rw [e] at hms; cases hms
  have hw := ho.weak
  have hz : s.getLast? = some (s.getLast hne) := List.getLast?_eq_some_getLast hne
  unfold lastR
  rw [hz]
  have hzl : s.getLast hne ∈ l := ho.perm.mem_iff.1 (List.getLast_mem hne)
  have h1 := ht _ hzl
  have h2 : ltR (s.getLast hne) m = false := by
    unfold WeakR at hw
    rw [← List.dropLast_concat_getLast hne, List.pairwise_append] at hw
    rw [← List.dropLast_concat_getLast hne] at hms
    rcases List.mem_append.1 hms with k | k
    · exact hw.2.2 m k _ (by simp)
    · obtain e := List.mem_singleton.1 k
      rw [← e]; exact ltR_irr _
  rcases ltR_tri m (s.getLast hne) with k | k | k
  · rw [h1] at k; cases k
  · have := congrArg (fun p => p.2.2) k
    simp only [keyR] at this
    simp [this]
  · rw [h2] at k; cases k

theorem orderRb (a b : Ft) (w : World) : Calls Try.prog 21 #[.agg (fcs a).toArray, .agg (fcs b).toArray] w fun e w' => e = .returned (.int .i64 (cmpR a b)) ∧ Below w.heap.size w w' :=
  (orderR a b w).mono fun _ _ h => ⟨h.1, h.2.below⟩

abbrev zBlk : Obj := .cells zcs 39
set_option maxHeartbeats 4000000 in
theorem maxC (l : List Ft) (a : Option Addr) (cap : Nat) (w : World) (h : FIn w a l) (hl : l.length ≤ 65536) (h0 : 0 < l.length) :
    Calls Try.prog 20 #[.slice a l.length cap, .func (.func 21) #[] #[]] w fun e w' => ∃ m, e = .returned (.agg (fcs m).toArray) ∧ MaxR l l.length m ∧ Below w.heap.size w w' := by
  obtain ⟨z, hz⟩ : ∃ d, l[0]? = some d := ⟨_, List.getElem?_eq_getElem h0⟩
  have H := Lib.hid h
  have HM0 := Lib.hid (MaxR.one hz)
  have hi1 : decide ((l.length : Int) < 1) = false := by simp; omega
  have hi0 : (0 : Int) < (l.length : Int) := by omega
  have HW0 := Lib.hid (show (w.alloc zBlk).heap[w.heap.size]? = some (.cells zcs 39 (0, 0)) ∧ Below w.heap.size w (w.alloc zBlk) from ⟨heap_alloc_new w _, (Below.refl _ _).alloc (Nat.le_refl _) _⟩)
  have HS0 := Lib.hid (show (w.alloc zBlk).heap.size = w.heap.size + 1 from by simp)
  have HZ := Lib.hid hz
  clear h hz h0
  go_enter Try.func20, Try.ntmps20
  go_upto_region 1 with fail
  change Code.wp _ _ _ _ (w.alloc zBlk)
  generalize w.alloc zBlk = W0 at *
  obtain ⟨b, off, rfl, hbl, c0⟩ := (H.out.below HW0.out.2).at HZ.out
  rw [Nat.zero_mul, Nat.add_zero] at c0
  have HC0 := Lib.hid (range_below c0 ((Below.refl _ W0).alloc (Nat.le_refl _) zBlk) hbl)
  have HC1 := Lib.hid c0
  have HB1 := Lib.hid (HW0.out.2.trans ((boxZ_below W0 z).mono HW0.out.2.size))
  have HR1 := Lib.hid (boxZ_row W0 z)
  have HR0 := Lib.hid (show (boxZ W0 z).heap[w.heap.size]? = some (.cells zcs 39 (0, 0)) from by rw [(boxZ_below W0 z).block _ (by rw [HS0.out]; omega)]; exact HW0.out.1)
  clear c0 hbl
  go_wp2_with (first
    | ((with_reducible refine fl_load ?_ (.tmp 12) ?_ b off z ?_ ?_ ?_); rfl; rfl; rfl; (first | exact HC1.out | exact HC0.out); simp only [Act.put, List.setIfInBounds_toArray, List.set_cons_zero, List.set_cons_succ])
    | ((with_reducible refine fl_store ?_ (.tmp 5) (.tmp 13) ?_ W0.heap.size z ?_ ?_ ?_ ?_); rfl; rfl; rfl; rfl; exact boxZ_old W0))
  go_loopw [6] (fun i wr => ∃ (k : Nat) (m : Ft), i = .int .i64 ((k : Int) + 1) ∧ k + 1 ≤ l.length ∧ Hid (MaxR l (k + 1) m) ∧ Hid (FRow wr W0.heap.size m) ∧ Hid (wr.heap[w.heap.size]? = some (.cells zcs 39 (0, 0))) ∧ Hid (Below w.heap.size w wr)) (fun i _ => l.length + 1 - (intOf i).toNat)
  case atStart => exact ⟨0, z, by simp, by omega, HM0, HR1, HR0, HB1⟩
  case round =>
    clear HM0 HR1 HR0 HB1 HC0 HC1 HZ
    obtain ⟨k, m, rfl, hk, HM, HR, HZ, HB⟩ := hrel
    have hgl := HR.out.lt
    by_cases hlt : k + 1 < l.length
    · obtain ⟨x, hx⟩ : ∃ d, l[k + 1]? = some d := ⟨_, List.getElem?_eq_getElem hlt⟩
      obtain ⟨b', off', hbe, hbl, c0⟩ := (H.out.below HB.out).at hx
      have hbe2 := Option.some.inj hbe
      obtain ⟨rfl, rfl⟩ : b = b' ∧ off = off' := by injection hbe2 with h1 h2; exact ⟨h1, h2⟩
      have HX := Lib.hid hx
      have HRX := Lib.hid (range_regrown c0 hbl)
      have HRM := Lib.hid (range_regrown HR.out.range HR.out.lt)
      have hi2 : (k : Int) + 1 < (l.length : Int) := by omega
      have hi4 : (0 : Int) ≤ (k : Int) + 1 := by omega
      have HO := Lib.hid (fun d os => Calls.regrown_of (orderRb x m (grow (redrawn wr d) os)))
      have hp := cmpR_pos x m
      generalize cmpR x m = c at *
      clear hx hbe hbe2 hgl
      cases hr : ltR m x with
      | true =>
        rw [hr] at hp
        have HM2 := Lib.hid (HM.out.more HX.out hr)
        clear hr HM
        go_upto_region 7 with fail
        refine wp_region_quiet_below (by kernel_rfl) (by kernel_rfl) ?_
        repeat (first
          | ((with_reducible refine fq_load ?_ (.tmp 23) ?_ b (off + (k + 1) * 8) x ?_ ?_ ?_); rfl; rfl; rfl; exact HRX.out; simp only [Act.put, List.setIfInBounds_toArray, List.set_cons_zero, List.set_cons_succ])
          | ((with_reducible refine fq_load ?_ (.tmp 5) ?_ W0.heap.size 0 m ?_ ?_ ?_); rfl; rfl; rfl; exact HRM.out; simp only [Act.put, List.setIfInBounds_toArray, List.set_cons_zero, List.set_cons_succ])
          | go_big_quiet_step ((go_at_call 21; with_reducible exact HO.out _ _)) | quiet_step ((go_at_call 21; with_reducible exact HO.out _ _)))
        refine wpQuiet_nil ?_
        intro _ hw'
        obtain ⟨⟨dq, osq⟩, hw''⟩ := hw'
        subst hw''
        have hb9 := below_regrown wr dq osq
        have HB9 := Lib.hid (HB.out.trans (hb9.mono HB.out.size))
        have HR9 := Lib.hid (HR.out.keep hb9)
        have HZ9 := Lib.hid (show (grow (redrawn wr dq) osq).heap[w.heap.size]? = some (.cells zcs 39 (0, 0)) from by rw [hb9.block _ (lt_of_block HZ.out)]; exact HZ.out)
        have HC9 := Lib.hid (range_below c0 hb9 hbl)
        clear hb9 HRX HRM HO HB HR HZ c0 hbl
        generalize grow (redrawn wr dq) osq = W at *
        go_wp2_with (first
          | ((with_reducible refine fl_load ?_ (.tmp 30) ?_ b (off + (k + 1) * 8) x ?_ ?_ ?_); rfl; rfl; rfl; exact HC9.out; simp only [Act.put, List.setIfInBounds_toArray, List.set_cons_zero, List.set_cons_succ])
          | ((with_reducible refine fl_store ?_ (.tmp 5) (.tmp 31) ?_ W0.heap.size x ?_ ?_ ?_ ?_); rfl; rfl; rfl; rfl; exact ⟨_, HR9.out, rfl⟩))
        have hne : w.heap.size ≠ W0.heap.size := by have := HS0.out; omega
        go_roundw
        case rel => exact ⟨k + 1, x, by go_num, by omega, HM2, Lib.hid (setRow_heap _ _ _ _ _ _ HR9.out), Lib.hid (by rw [setRow_other _ _ _ _ hne]; exact HZ9.out), Lib.hid (belowRow HB9.out (by have := HS0.out; omega) _)⟩
        case measure => simp [intOf]; omega
      | false =>
        rw [hr] at hp
        have HM2 := Lib.hid (HM.out.same HX.out hr)
        clear hr HM
        go_upto_region 7 with fail
        refine wp_region_quiet_below (by kernel_rfl) (by kernel_rfl) ?_
        repeat (first
          | ((with_reducible refine fq_load ?_ (.tmp 23) ?_ b (off + (k + 1) * 8) x ?_ ?_ ?_); rfl; rfl; rfl; exact HRX.out; simp only [Act.put, List.setIfInBounds_toArray, List.set_cons_zero, List.set_cons_succ])
          | ((with_reducible refine fq_load ?_ (.tmp 5) ?_ W0.heap.size 0 m ?_ ?_ ?_); rfl; rfl; rfl; exact HRM.out; simp only [Act.put, List.setIfInBounds_toArray, List.set_cons_zero, List.set_cons_succ])
          | go_big_quiet_step ((go_at_call 21; with_reducible exact HO.out _ _)) | quiet_step ((go_at_call 21; with_reducible exact HO.out _ _)))
        refine wpQuiet_nil ?_
        intro _ hw'
        obtain ⟨⟨dq, osq⟩, hw''⟩ := hw'
        subst hw''
        have hb9 := below_regrown wr dq osq
        have HB9 := Lib.hid (HB.out.trans (hb9.mono HB.out.size))
        have HR9 := Lib.hid (HR.out.keep hb9)
        have HZ9 := Lib.hid (show (grow (redrawn wr dq) osq).heap[w.heap.size]? = some (.cells zcs 39 (0, 0)) from by rw [hb9.block _ (lt_of_block HZ.out)]; exact HZ.out)
        clear hb9 HRX HRM HO HB HR HZ c0 hbl
        generalize grow (redrawn wr dq) osq = W at *
        go_wp2_with fail
        go_roundw
        case rel => exact ⟨k + 1, m, by go_num, by omega, HM2, HR9, HZ9, HB9⟩
        case measure => simp [intOf]; omega
    · have hke : k + 1 = l.length := by omega
      have HMM := Lib.hid (show MaxR l l.length m from by rw [← hke]; exact HM.out)
      have hi2 : ¬ (k : Int) + 1 < (l.length : Int) := by omega
      clear HM hke
      go_wp2_with (first
        | ((with_reducible refine fl_load ?_ (.tmp 5) ?_ W0.heap.size 0 m ?_ ?_ ?_); rfl; rfl; rfl; exact HR.out.range; simp only [Act.put, List.setIfInBounds_toArray, List.set_cons_zero, List.set_cons_succ])
        | ((with_reducible refine fl_store ?_ (.tmp 4) (.tmp 32) ?_ w.heap.size m ?_ ?_ ?_ ?_); rfl; rfl; rfl; rfl; exact ⟨_, HZ.out, rfl⟩))
      refine bodyPost_ret (results_cell_row rfl _ _ w.heap.size 39 (fcs m).toArray (0, 0) _ rfl (setRow_heap _ _ _ _ _ _ HZ.out) Try.underlying39 rfl factSize) rfl ?_
      exact ⟨m, rfl, HMM.out, belowRow HB.out (Nat.le_refl _) _⟩
end Go.Proofs.Ytpcelgmcbfjmbaa
