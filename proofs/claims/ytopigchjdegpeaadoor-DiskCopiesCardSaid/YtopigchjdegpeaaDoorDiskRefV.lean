/-
  almonryref06: with.
-/
import Derived.Test.YtopigchjdegpeaaDoorDiskRefP
namespace Go.Proofs.YtopigchjdegpeaaDoor
open Go.RowKit

theorem own_le {B B' : Nat} {e : TypeId} {z n : Nat} {v : Value} {xs : List Value} {w : World} (h : w.ownsRow B e z v n xs) (hb : B' ≤ B) : w.ownsRow B' e z v n xs :=
  ⟨h.1, h.2.imp id fun ⟨g, cap, cur, h1, h2, h3⟩ => ⟨g, cap, cur, h1, Nat.le_trans hb h2, h3⟩⟩

theorem src_take {B g n c k : Nat} {l : List FS} {w : World} (h : OwnR B (.slice (some ⟨g, 0, none⟩) n c) l w) : ∀ (j : Nat) (u : Value), (rflat (l.take k))[j]? = some u → w.cell? ((⟨g, 0, none⟩ : Addr).add j) = some u := by
  intro j u hu
  refine World.ownsRow.cells h (g := g) rfl j u ?_
  rw [← List.take_append_drop k l, rflat_app, List.getElem?_append_left (List.getElem?_eq_some_iff.1 hu).1]
  exact hu
theorem src_drop {B g n c k : Nat} {l : List FS} {w : World} (hk : k ≤ l.length) (h : OwnR B (.slice (some ⟨g, 0, none⟩) n c) l w) : ∀ (j : Nat) (u : Value), (rflat (l.drop k))[j]? = some u → w.cell? ((⟨g, k * 3, none⟩ : Addr).add j) = some u := by
  intro j u hu
  have e : ((⟨g, k * 3, none⟩ : Addr).add j) = (⟨g, 0, none⟩ : Addr).add (k * 3 + j) := by simp only [Addr.add]; by_cases h1 : j = 0 <;> by_cases h2 : k * 3 = 0 <;> simp [h1, h2]
  rw [e]
  refine World.ownsRow.cells h (g := g) rfl _ u ?_
  rw [← List.take_append_drop k l, rflat_app, List.getElem?_append_right (by rw [rflat_len, List.length_take, Nat.min_eq_left hk]; omega), rflat_len, List.length_take, Nat.min_eq_left hk, Nat.add_sub_cancel_left]
  exact hu

set_option maxHeartbeats 4000000 in
set_option maxRecDepth 100000 in
theorem with_any (l : List FS) (f : FS) (p : Option Addr) (c : Nat) (w : World) (hr : RRow w p l) (hl : l.length ≤ 1024) :
    Calls Tryd.prog 57 #[.slice p l.length c, .agg #[.string f.name, .string ⟨f.body.toArray⟩, .int .i64 (f.sure : Int)]] w (RowLeft (rwith l f) w) := by
  obtain ⟨i0, hi, hz0, hz1, hz2⟩ := info_parts refInfo
  have hw : ∀ w', Below w.heap.size w w' → Calls Tryd.prog 58 #[.slice p l.length c, .string f.name] w' (RowLeft (rwo l f.name) w') := fun w' hb => without_any l f.name p c w' (hr.below hb) hl
  have HW := Lib.hid hw
  clear hw hr
  go_enter Tryd.func57, Tryd.ntmps57
  have hB0 := Joins.below_alloc1 w (.cells #[.string f.name, .string ⟨f.body.toArray⟩, .int .i64 (f.sure : Int)] 66)
  have h1 := HW.out _ hB0
  have c0 : (w.alloc (.cells #[.string f.name, .string ⟨f.body.toArray⟩, .int .i64 (f.sure : Int)] 66)).cell? ⟨w.heap.size, 0, none⟩ = some (.string f.name) := by simp [go_sem]
  have HC := Lib.hid c0
  clear c0
  generalize hls : rwo l f.name = ls at *
  have hll : ls.length ≤ 1024 := by rw [← hls]; exact Nat.le_trans (rwo_len l f.name) hl
  go_wp2_with fail
  refine h1.mono ?_
  rintro e w1 ⟨v, rfl, hown, hb⟩
  obtain ⟨q, cq, rfl, hrow, hq1, hq2, hq3⟩ := hown.row
  have hwl : w.heap.size < w1.heap.size := by have := hb.size; simp at this; omega
  have hk1 : w1.cell? ⟨w.heap.size, 1, none⟩ = some (.string ⟨f.body.toArray⟩) := by
    rw [hb.cell (p := ⟨w.heap.size, 1, none⟩) (by simp [go_sem])]; simp [go_sem]
  have hk2 : w1.cell? ⟨w.heap.size, 2, none⟩ = some (.int .i64 (f.sure : Int)) := by
    rw [hb.cell (p := ⟨w.heap.size, 2, none⟩) (by simp [go_sem])]; simp [go_sem]
  have HK := Lib.hid (And.intro hk1 hk2)
  clear hk1 hk2
  have c1 := HC.out
  rw [← hb.cell (p := ⟨w.heap.size, 0, none⟩) (by simp [go_sem])] at c1
  have HR := Lib.hid hrow
  have HB := Lib.hid hb
  have HO := Lib.hid hown
  have HQ := Lib.hid hq3
  clear hrow hown hb hq3 h1 hB0
  go_wp2_with fail
  go_loopw [5] (fun i wr => ∃ k : Nat, k ≤ ls.length ∧ i = .int .i64 k ∧ Hid (∀ (j : Nat) (g : FS), j < k → ls[j]? = some g → cmpS f.name g < 0) ∧ Hid (wr.heap = w1.heap ∧ Below w1.heap.size w1 wr)) (fun i _ => ls.length - (intOf i).toNat)
  case atStart => exact ⟨0, Nat.zero_le _, rfl, fun j g hj => absurd hj (by omega), rfl, Below.refl _ _⟩
  case round =>
    obtain ⟨k, hk, rfl, hall, hwr⟩ := hrel
    have c2 : wr.cell? ⟨w.heap.size, 0, none⟩ = some (.string f.name) := by
      rw [← c1]; exact World.cell?_of_block (by rw [hwr.out.1])
    by_cases hlt : k < ls.length
    · obtain ⟨g, hg⟩ : ∃ g, ls[k]? = some g := ⟨_, List.getElem?_eq_getElem hlt⟩
      obtain ⟨b, off, rfl, hbl, d0, _, _⟩ : ∃ b off, q = some ⟨b, off, none⟩ ∧ b < wr.heap.size ∧ wr.cell? ⟨b, off + k * 3, none⟩ = some (.string g.name) ∧ wr.cell? ⟨b, off + k * 3 + 1, none⟩ = some (.string ⟨g.body.toArray⟩) ∧ wr.cell? ⟨b, off + k * 3 + 2, none⟩ = some (.int .i64 (g.sure : Int)) := by
        rcases HR.out.below hwr.out.2 with h | ⟨b, off, he, hb, hc⟩
        · rw [h] at hg; simp at hg
        · exact ⟨b, off, he, hb, hc k g hg⟩
      have hi0 : (0 : Int) ≤ (k : Int) := by omega
      have hi1 : (k : Int) < (ls.length : Int) := by omega
      have HG := Lib.hid hg
      clear hg
      have hle := less_cmpS f.name g
      cases hb2 : decide (cmpS f.name g < 0)
      · rw [hb2] at hle
        have HE := Lib.hid hb2
        clear hb2
        go_wp2_with fail
        go_region
        have hqs : (some ⟨b, off, none⟩ : Option Addr) ≠ none := by simp
        have hat : Hid (∀ g', ls[k]? = some g' → ¬ cmpS f.name g' < 0) := fun g' hg' => by rw [HG.out] at hg'; cases hg'; exact of_decide_eq_false HE.out
        have hkk := rless_at hk hall.out (fun g' hg' => by have := hat.out g' hg'; omega)
        obtain ⟨rfl, hg0⟩ : off = 0 ∧ w.heap.size + 1 ≤ b := by
          rcases HQ.out with ⟨h, _⟩ | ⟨g, h, hg⟩
          · simp at h
          · cases h; exact ⟨rfl, by simpa [go_sem] using hg⟩
        have hg1 : b < w1.heap.size := by
          have := (World.ownsRow.lt HO.out b rfl).2
          omega
        go_wp2_with (at_builtin; refine wpList_append_own _ rfl _ _ 28 rfl w1.heap.size 66 i0 (.agg #[.string ByteArray.empty, .string ByteArray.empty, .int .i64 0]) 3 40 Tryd.underlying28 hi hz0 hz1 hz2 rfl (by decide) _ _ _ rfl (World.ownsRow_nil _ _ _ _) ⟨b, 0, none⟩ k cq (rflat (ls.take k)) rfl ?l1 ?c1 ?c2 ?c3 ?c4 ?c5 ?_)
        case l1 => rw [rflat_len, List.length_take, Nat.min_eq_left hk]
        case c1 =>
          intro j u hj
          have := src_take HO.out j u hj
          rw [← hwr.out.2.drew.cell (p := (⟨b, 0, none⟩ : Addr).add j) (by simp only [Addr.add]; split <;> exact hg1)] at this
          have ea : (⟨b, 0, none⟩ : Addr).add j = ⟨b, j, none⟩ := by simp only [Addr.add]; split <;> simp_all
          first | exact this | (rw [ea] at this; exact this)
        case c2 => exact fun u hu => rflat_one _ u hu
        case c3 => unfold maxLen; omega
        case c4 => omega
        case c5 => simp [hwr.out.1]
        intro v2 w2 hown2 hg2 _
        have hB2 : Below w1.heap.size w1 w2 := hwr.out.2.drew.grown hg2 (by simp [hwr.out.1]) (fun j hj => by simp [Value.ownBlock] at hj)
        have e0 : w2.cell? ⟨w.heap.size, 0, none⟩ = some (.string f.name) := by rw [hB2.cell (p := ⟨w.heap.size, 0, none⟩) hwl]; exact c1
        have e1 : w2.cell? ⟨w.heap.size, 1, none⟩ = some (.string ⟨f.body.toArray⟩) := by rw [hB2.cell (p := ⟨w.heap.size, 1, none⟩) hwl]; exact HK.out.1
        have e2 : w2.cell? ⟨w.heap.size, 2, none⟩ = some (.int .i64 (f.sure : Int)) := by rw [hB2.cell (p := ⟨w.heap.size, 2, none⟩) hwl]; exact HK.out.2
        have HB2 := Lib.hid hB2
        clear hB2 hg2
        go_wp2_with (at_builtin; refine wpList_append_own _ rfl _ _ 28 rfl w1.heap.size 66 i0 (.agg #[.string ByteArray.empty, .string ByteArray.empty, .int .i64 0]) 3 40 Tryd.underlying28 hi hz0 hz1 hz2 rfl (by decide) _ _ _ rfl (World.ownsRow.alloc hown2 _) ⟨w2.heap.size, 0, none⟩ 1 1 [.string f.name, .string ⟨f.body.toArray⟩, .int .i64 (f.sure : Int)] rfl rfl ?d1 ?d2 ?d3 ?d4 ?d5 ?_)
        case d1 =>
          intro j u hj
          match j, hj with
          | 0, hj => simp at hj; subst hj; simp [Addr.add]
          | 1, hj => simp at hj; subst hj; simp [Addr.add, go_sem]
          | 2, hj => simp at hj; subst hj; simp [Addr.add, go_sem]
        case d2 => intro u hu; simp at hu; rcases hu with rfl | rfl | rfl <;> rfl
        case d3 => unfold maxLen; omega
        case d4 => omega
        case d5 => have := HB2.out.size; simp; omega
        intro v3 w3 hown3 hg3 _
        have hB3 : Below w1.heap.size w1 w3 := (HB2.out.alloc HB2.out.size _).grown hg3 (by have := HB2.out.size; simp; omega) (fun j hj => (World.ownsRow.lt hown2 j hj).1)
        have HB3 := Lib.hid hB3
        clear hB3 hg3 hown2 e0 e1 e2
        go_wp2_with (at_builtin; refine wpList_append_own _ rfl _ _ 28 rfl w1.heap.size 66 i0 (.agg #[.string ByteArray.empty, .string ByteArray.empty, .int .i64 0]) 3 40 Tryd.underlying28 hi hz0 hz1 hz2 rfl (by decide) _ _ _ rfl hown3 ⟨b, k * 3, none⟩ (ls.length - k) (cq - k) (rflat (ls.drop k)) rfl ?e0 ?e1 ?e2 ?e3 ?e4 ?e5 ?_)
        case e0 => rw [rflat_len, List.length_drop]
        case e1 =>
          intro j u hj
          have := src_drop hk HO.out j u hj
          rw [← HB3.out.cell (p := (⟨b, k * 3, none⟩ : Addr).add j) (by simp only [Addr.add]; split <;> exact hg1)] at this
          exact this
        case e2 => exact fun u hu => rflat_one _ u hu
        case e3 => unfold maxLen; omega
        case e4 => omega
        case e5 => exact HB3.out.size
        intro v4 w4 hown4 hg4 _
        have hB4 : Below w1.heap.size w1 w4 := HB3.out.grown hg4 HB3.out.size (fun j hj => (World.ownsRow.lt hown3 j hj).1)
        have el : (sins ls k f).length = k + 1 + (ls.length - k) := by simp [sins, Nat.min_eq_left hk]; omega
        have er : rflat (sins ls k f) = rflat (ls.take k) ++ .string f.name :: .string ⟨f.body.toArray⟩ :: .int .i64 (f.sure : Int) :: rflat (ls.drop k) := by simp [sins, rflat, rcell]
        have HF : Hid (RowLeft (rwith l f) w (.returned v4) w4) := by
          refine ⟨v4, rfl, ?_, ((Joins.below_alloc1 w _).trans (HB.out.mono (by simp))).trans (hB4.mono (by omega))⟩
          unfold OwnR rwith
          rw [hls, hkk, el, er]
          have hlast := own_le (B' := w.heap.size) (B := w1.heap.size) hown4 (by omega)
          exact hlast
        clear hown4 hown3 hg4 hB4 hkk el er hat
        go_wp2_with fail
        go_ret
        exact HF.out
      · rw [hb2] at hle
        have HE := Lib.hid hb2
        clear hb2
        go_wp2_with fail
        go_region
        go_wp2_with fail
        go_roundw
        case rel =>
          refine ⟨k + 1, by omega, by go_num, fun j g' hj hg' => ?_, hwr.out.1, hwr.out.2.drew⟩
          by_cases he : j = k
          · subst he; rw [HG.out] at hg'; cases hg'; exact of_decide_eq_true HE.out
          · exact hall.out j g' (by omega) hg'
        case measure => simp [intOf]; omega
    · have hat : Hid (∀ g', ls[k]? = some g' → ¬ cmpS f.name g' < 0) := fun g' hg' => absurd (List.getElem?_eq_some_iff.1 hg').1 hlt
      rcases HQ.out with ⟨rfl, h0, rfl⟩ | ⟨b, rfl, hg0'⟩
      · have hk0 : k = 0 := by rw [h0] at hk; simpa using hk
        have HN := Lib.hid h0
        subst hk0
        have hlen : ls.length = 0 := by rw [h0]; rfl
        clear h0
        rw [hlen] at *
        have e1 : wr.cell? ⟨w.heap.size, 1, none⟩ = some (.string ⟨f.body.toArray⟩) := by
          rw [← HK.out.1]; exact World.cell?_of_block (by rw [hwr.out.1])
        have e2 : wr.cell? ⟨w.heap.size, 2, none⟩ = some (.int .i64 (f.sure : Int)) := by
          rw [← HK.out.2]; exact World.cell?_of_block (by rw [hwr.out.1])
        have hws : wr.heap.size = w1.heap.size := by rw [hwr.out.1]
        go_wp2_with fail
        go_region
        go_wp2_with (at_builtin; refine wpList_append_own _ rfl _ _ 28 rfl w1.heap.size 66 i0 (.agg #[.string ByteArray.empty, .string ByteArray.empty, .int .i64 0]) 3 40 Tryd.underlying28 hi hz0 hz1 hz2 rfl (by decide) _ _ _ rfl (World.ownsRow_nil _ _ _ _) ⟨w1.heap.size, 0, none⟩ 1 1 [.string f.name, .string ⟨f.body.toArray⟩, .int .i64 (f.sure : Int)] rfl rfl ?d1 ?d2 ?d3 ?d4 ?d5 ?_)
        case d1 =>
          intro j u hj
          rw [← hws]
          match j, hj with
          | 0, hj => simp at hj; subst hj; simp [Addr.add]
          | 1, hj => simp at hj; subst hj; simp [Addr.add, go_sem]
          | 2, hj => simp at hj; subst hj; simp [Addr.add, go_sem]
        case d2 => intro u hu; simp at hu; rcases hu with rfl | rfl | rfl <;> rfl
        case d3 => unfold maxLen; omega
        case d4 => omega
        case d5 => simp [hws]
        intro v3 w3 hown3 hg3 _
        have hB3 : Below w1.heap.size w1 w3 := (hwr.out.2.drew.alloc (by simp [hws]) _).grown hg3 (by simp [hws]) (fun j hj => by simp [Value.ownBlock] at hj)
        have HF : Hid (RowLeft (rwith l f) w (.returned v3) w3) := by
          refine ⟨v3, rfl, ?_, ((Joins.below_alloc1 w _).trans (HB.out.mono (by simp))).trans (hB3.mono (by omega))⟩
          unfold OwnR rwith
          rw [hls, HN.out]
          have hlast := own_le (B' := w.heap.size) (B := w1.heap.size) hown3 (by omega)
          exact hlast
        have hnone := run_append_owned_none (P := Tryd.prog) w3 w1.heap.size 28 28 66 i0 3 Tryd.underlying28 hi v3 _ _ hown3
        clear hg3 hB3 e1 e2
        go_wp2_with (at_builtin; refine wpList_append_run rfl _ _ _ _ rfl _ _ _ _ rfl rfl hnone ?_)
        go_wp2_with fail
        go_ret
        exact HF.out
      · have hg0 : w.heap.size + 1 ≤ b := by simpa [go_sem] using hg0'
        clear hg0'
        by_cases hcq : cq = k
        · subst hcq
          go_wp2_with fail
          go_region
          have hkk := rless_at hk hall.out (fun g' hg' => by have := hat.out g' hg'; omega)
          have hg1 : b < w1.heap.size := by
            have := (World.ownsRow.lt HO.out b rfl).2
            omega
          go_wp2_with (at_builtin; refine wpList_append_own _ rfl _ _ 28 rfl w1.heap.size 66 i0 (.agg #[.string ByteArray.empty, .string ByteArray.empty, .int .i64 0]) 3 40 Tryd.underlying28 hi hz0 hz1 hz2 rfl (by decide) _ _ _ rfl (World.ownsRow_nil _ _ _ _) ⟨b, 0, none⟩ cq cq (rflat (ls.take cq)) rfl ?l1 ?c1 ?c2 ?c3 ?c4 ?c5 ?_)
          case l1 => rw [rflat_len, List.length_take, Nat.min_eq_left hk]
          case c1 =>
            intro j u hj
            have := src_take HO.out j u hj
            rw [← hwr.out.2.drew.cell (p := (⟨b, 0, none⟩ : Addr).add j) (by simp only [Addr.add]; split <;> exact hg1)] at this
            have ea : (⟨b, 0, none⟩ : Addr).add j = ⟨b, j, none⟩ := by simp only [Addr.add]; split <;> simp_all
            first | exact this | (rw [ea] at this; exact this)
          case c2 => exact fun u hu => rflat_one _ u hu
          case c3 => unfold maxLen; omega
          case c4 => omega
          case c5 => simp [hwr.out.1]
          intro v2 w2 hown2 hg2 _
          have hB2 : Below w1.heap.size w1 w2 := hwr.out.2.drew.grown hg2 (by simp [hwr.out.1]) (fun j hj => by simp [Value.ownBlock] at hj)
          have e0 : w2.cell? ⟨w.heap.size, 0, none⟩ = some (.string f.name) := by rw [hB2.cell (p := ⟨w.heap.size, 0, none⟩) hwl]; exact c1
          have e1 : w2.cell? ⟨w.heap.size, 1, none⟩ = some (.string ⟨f.body.toArray⟩) := by rw [hB2.cell (p := ⟨w.heap.size, 1, none⟩) hwl]; exact HK.out.1
          have e2 : w2.cell? ⟨w.heap.size, 2, none⟩ = some (.int .i64 (f.sure : Int)) := by rw [hB2.cell (p := ⟨w.heap.size, 2, none⟩) hwl]; exact HK.out.2
          have HB2 := Lib.hid hB2
          clear hB2 hg2
          go_wp2_with (at_builtin; refine wpList_append_own _ rfl _ _ 28 rfl w1.heap.size 66 i0 (.agg #[.string ByteArray.empty, .string ByteArray.empty, .int .i64 0]) 3 40 Tryd.underlying28 hi hz0 hz1 hz2 rfl (by decide) _ _ _ rfl (World.ownsRow.alloc hown2 _) ⟨w2.heap.size, 0, none⟩ 1 1 [.string f.name, .string ⟨f.body.toArray⟩, .int .i64 (f.sure : Int)] rfl rfl ?d1 ?d2 ?d3 ?d4 ?d5 ?_)
          case d1 =>
            intro j u hj
            match j, hj with
            | 0, hj => simp at hj; subst hj; simp [Addr.add]
            | 1, hj => simp at hj; subst hj; simp [Addr.add, go_sem]
            | 2, hj => simp at hj; subst hj; simp [Addr.add, go_sem]
          case d2 => intro u hu; simp at hu; rcases hu with rfl | rfl | rfl <;> rfl
          case d3 => unfold maxLen; omega
          case d4 => omega
          case d5 => have := HB2.out.size; simp; omega
          intro v3 w3 hown3 hg3 _
          have hB3 : Below w1.heap.size w1 w3 := (HB2.out.alloc HB2.out.size _).grown hg3 (by have := HB2.out.size; simp; omega) (fun j hj => (World.ownsRow.lt hown2 j hj).1)
          have HB3 := Lib.hid hB3
          clear hB3 hg3 hown2 e0 e1 e2
          go_wp2_with (at_builtin; go_loud (refine wpList_append_own _ rfl _ _ 28 rfl w1.heap.size 66 i0 (.agg #[.string ByteArray.empty, .string ByteArray.empty, .int .i64 0]) 3 40 Tryd.underlying28 hi hz0 hz1 hz2 rfl (by decide) _ _ _ rfl hown3 _ _ _ (rflat (ls.drop cq)) rfl ?e0 ?e1 ?e2 ?e3 ?e4 ?e5 ?_))
          case e0 => rw [rflat_len, List.length_drop]; omega
          case e1 =>
            intro j u hj
            rw [List.drop_eq_nil_of_le (by omega)] at hj
            simp [rflat] at hj
          case e2 => exact fun u hu => rflat_one _ u hu
          case e3 => unfold maxLen; omega
          case e4 => omega
          case e5 => exact HB3.out.size
          intro v4 w4 hown4 hg4 _
          have hB4 : Below w1.heap.size w1 w4 := HB3.out.grown hg4 HB3.out.size (fun j hj => (World.ownsRow.lt hown3 j hj).1)
          have el : (sins ls cq f).length = cq + 1 := by simp [sins, Nat.min_eq_left hk]; omega
          have er : rflat (sins ls cq f) = rflat (ls.take cq) ++ .string f.name :: .string ⟨f.body.toArray⟩ :: .int .i64 (f.sure : Int) :: rflat (ls.drop cq) := by simp [sins, rflat, rcell]
          have HF : Hid (RowLeft (rwith l f) w (.returned v4) w4) := by
            refine ⟨v4, rfl, ?_, ((Joins.below_alloc1 w _).trans (HB.out.mono (by simp))).trans (hB4.mono (by omega))⟩
            unfold OwnR rwith
            rw [hls, hkk, el, er]
            have hlast := own_le (B' := w.heap.size) (B := w1.heap.size) hown4 (by omega)
            exact hlast
          clear hown4 hown3 hg4 hB4 hkk el er hat
          go_wp2_with fail
          go_ret
          exact HF.out
        · go_wp2_with fail
          go_region
          have hkk := rless_at hk hall.out (fun g' hg' => by have := hat.out g' hg'; omega)
          have hg1 : b < w1.heap.size := by
            have := (World.ownsRow.lt HO.out b rfl).2
            omega
          go_wp2_with (at_builtin; refine wpList_append_own _ rfl _ _ 28 rfl w1.heap.size 66 i0 (.agg #[.string ByteArray.empty, .string ByteArray.empty, .int .i64 0]) 3 40 Tryd.underlying28 hi hz0 hz1 hz2 rfl (by decide) _ _ _ rfl (World.ownsRow_nil _ _ _ _) ⟨b, 0, none⟩ k cq (rflat (ls.take k)) rfl ?l1 ?c1 ?c2 ?c3 ?c4 ?c5 ?_)
          case l1 => rw [rflat_len, List.length_take, Nat.min_eq_left hk]
          case c1 =>
            intro j u hj
            have := src_take HO.out j u hj
            rw [← hwr.out.2.drew.cell (p := (⟨b, 0, none⟩ : Addr).add j) (by simp only [Addr.add]; split <;> exact hg1)] at this
            have ea : (⟨b, 0, none⟩ : Addr).add j = ⟨b, j, none⟩ := by simp only [Addr.add]; split <;> simp_all
            first | exact this | (rw [ea] at this; exact this)
          case c2 => exact fun u hu => rflat_one _ u hu
          case c3 => unfold maxLen; omega
          case c4 => omega
          case c5 => simp [hwr.out.1]
          intro v2 w2 hown2 hg2 _
          have hB2 : Below w1.heap.size w1 w2 := hwr.out.2.drew.grown hg2 (by simp [hwr.out.1]) (fun j hj => by simp [Value.ownBlock] at hj)
          have e0 : w2.cell? ⟨w.heap.size, 0, none⟩ = some (.string f.name) := by rw [hB2.cell (p := ⟨w.heap.size, 0, none⟩) hwl]; exact c1
          have e1 : w2.cell? ⟨w.heap.size, 1, none⟩ = some (.string ⟨f.body.toArray⟩) := by rw [hB2.cell (p := ⟨w.heap.size, 1, none⟩) hwl]; exact HK.out.1
          have e2 : w2.cell? ⟨w.heap.size, 2, none⟩ = some (.int .i64 (f.sure : Int)) := by rw [hB2.cell (p := ⟨w.heap.size, 2, none⟩) hwl]; exact HK.out.2
          have HB2 := Lib.hid hB2
          clear hB2 hg2
          go_wp2_with (at_builtin; refine wpList_append_own _ rfl _ _ 28 rfl w1.heap.size 66 i0 (.agg #[.string ByteArray.empty, .string ByteArray.empty, .int .i64 0]) 3 40 Tryd.underlying28 hi hz0 hz1 hz2 rfl (by decide) _ _ _ rfl (World.ownsRow.alloc hown2 _) ⟨w2.heap.size, 0, none⟩ 1 1 [.string f.name, .string ⟨f.body.toArray⟩, .int .i64 (f.sure : Int)] rfl rfl ?d1 ?d2 ?d3 ?d4 ?d5 ?_)
          case d1 =>
            intro j u hj
            match j, hj with
            | 0, hj => simp at hj; subst hj; simp [Addr.add]
            | 1, hj => simp at hj; subst hj; simp [Addr.add, go_sem]
            | 2, hj => simp at hj; subst hj; simp [Addr.add, go_sem]
          case d2 => intro u hu; simp at hu; rcases hu with rfl | rfl | rfl <;> rfl
          case d3 => unfold maxLen; omega
          case d4 => omega
          case d5 => have := HB2.out.size; simp; omega
          intro v3 w3 hown3 hg3 _
          have hB3 : Below w1.heap.size w1 w3 := (HB2.out.alloc HB2.out.size _).grown hg3 (by have := HB2.out.size; simp; omega) (fun j hj => (World.ownsRow.lt hown2 j hj).1)
          have HB3 := Lib.hid hB3
          clear hB3 hg3 hown2 e0 e1 e2
          go_wp2_with (at_builtin; refine wpList_append_own _ rfl _ _ 28 rfl w1.heap.size 66 i0 (.agg #[.string ByteArray.empty, .string ByteArray.empty, .int .i64 0]) 3 40 Tryd.underlying28 hi hz0 hz1 hz2 rfl (by decide) _ _ _ rfl hown3 ⟨b, k * 3, none⟩ (ls.length - k) (cq - k) (rflat (ls.drop k)) rfl ?e0 ?e1 ?e2 ?e3 ?e4 ?e5 ?_)
          case e0 => rw [rflat_len, List.length_drop]
          case e1 =>
            intro j u hj
            have := src_drop hk HO.out j u hj
            rw [← HB3.out.cell (p := (⟨b, k * 3, none⟩ : Addr).add j) (by simp only [Addr.add]; split <;> exact hg1)] at this
            exact this
          case e2 => exact fun u hu => rflat_one _ u hu
          case e3 => unfold maxLen; omega
          case e4 => omega
          case e5 => exact HB3.out.size
          intro v4 w4 hown4 hg4 _
          have hB4 : Below w1.heap.size w1 w4 := HB3.out.grown hg4 HB3.out.size (fun j hj => (World.ownsRow.lt hown3 j hj).1)
          have el : (sins ls k f).length = k + 1 + (ls.length - k) := by simp [sins, Nat.min_eq_left hk]; omega
          have er : rflat (sins ls k f) = rflat (ls.take k) ++ .string f.name :: .string ⟨f.body.toArray⟩ :: .int .i64 (f.sure : Int) :: rflat (ls.drop k) := by simp [sins, rflat, rcell]
          have HF : Hid (RowLeft (rwith l f) w (.returned v4) w4) := by
            refine ⟨v4, rfl, ?_, ((Joins.below_alloc1 w _).trans (HB.out.mono (by simp))).trans (hB4.mono (by omega))⟩
            unfold OwnR rwith
            rw [hls, hkk, el, er]
            have hlast := own_le (B' := w.heap.size) (B := w1.heap.size) hown4 (by omega)
            exact hlast
          clear hown4 hown3 hg4 hB4 hkk el er hat
          go_wp2_with fail
          go_ret
          exact HF.out
end Go.Proofs.YtopigchjdegpeaaDoor
