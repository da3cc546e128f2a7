/-
  almonrylaw05: the walk of FloatSorts.
-/
import Derived.Test.YtgdgapklkodnjaaFloatLaws
import Derived.Test.YtgdgapklkodnjaaKit
namespace Go.Proofs.Ytgdgapklkodnjaa
open Go.RowKit

attribute [local go_sem] run_store_flt

theorem nums_of {w : World} {a : Option Addr} {len cap : Nat} {zs : List Int} (h : IsRow .u64 w a len cap zs) :
    ∃ l : List Nat, l.length = len ∧ (∀ x ∈ l, x < 18446744073709551616) ∧ ∀ j (hj : j < l.length), ∃ b off, a = some ⟨b, off, none⟩ ∧ b < w.heap.size ∧ w.cell? ⟨b, off + j, none⟩ = some (.int .u64 (l[j] : Nat)) := by
  rcases h with ⟨rfl, rfl, rfl, rfl⟩ | ⟨x, rfl, hl, hm, hz, hcell, hwf⟩
  · exact ⟨[], rfl, (fun x hx => absurd hx (by simp)), fun j hj => by simp at hj⟩
  · have hzl : ∀ z ∈ zs, 0 ≤ z ∧ z ≤ 18446744073709551615 := fun z hz => bounds_u64 (hwf z hz)
    refine ⟨(zs.take len).map Int.toNat, by simp; omega, ?_, fun j hj => ?_⟩
    · intro y hy
      obtain ⟨z, hz1, rfl⟩ := List.mem_map.1 hy
      have := hzl z (List.mem_of_mem_take hz1)
      omega
    · have hj2 : j < len ∧ j < zs.length := by simp at hj; omega
      obtain ⟨b, off, spot⟩ := x
      have hc := hcell j hj2.2
      have hc0 := hcell 0 (by omega)
      have hspot : spot = none := by simpa [Addr.add] using World.cell?_spot hc0
      subst hspot
      have e1 : (⟨b, off, none⟩ : Addr).add j = ⟨b, off + j, none⟩ := by cases j <;> simp [Addr.add]
      rw [e1] at hc
      refine ⟨b, off, rfl, by have := World.block_lt_of_cell? w _ hc; simpa using this, ?_⟩
      rw [hc]
      have h1 : zs.getD j 0 = zs[j] := by rw [List.getD_eq_getElem?_getD, List.getElem?_eq_getElem hj2.2]; rfl
      have h2 := hzl zs[j] (List.getElem_mem _)
      rw [h1]
      simp
      omega

set_option maxHeartbeats 4000000 in
set_option maxRecDepth 100000 in
theorem sorts_law (a0 : Option Addr) (len0 cap0 : Nat) (z0 : List Int) (w : World) (w0 : IsRow .u64 w a0 len0 cap0 z0) :
    Calls Try.prog 5 #[.slice a0 len0 cap0] w fun e w' => e = .returned (.bool true) ∧ Below w.heap.size w w' := by
  obtain ⟨l, hll, hl, hcell⟩ := nums_of w0
  clear w0
  by_cases hlen : len0 ≤ 60
  · obtain ⟨i0, hi, hz0, hz1, hz2⟩ := info_parts floatInfo
    have hn : decide (60 < (len0 : Int)) = false := by simp; omega
    have HC := Lib.hid hcell
    have HL := Lib.hid hl
    have HN := Lib.hid hll
    clear hcell hl hll
    go_enter Try.func5, Try.ntmps5
    go_wp2
    clear hn
    go_loopw [3, 4] (fun v i wr => ∃ j : Nat, j ≤ len0 ∧ i = .int .i64 (j : Int) ∧ OwnF w.heap.size v (l.take j) wr ∧ Below w.heap.size w wr) (fun _ i _ => len0 - (intOf i).toNat)
    case atStart => exact ⟨0, by omega, rfl, by rw [List.take_zero]; exact ownF_nil _ _, Below.refl _ _⟩
    case round =>
      obtain ⟨j, hj, rfl, hown, hb⟩ := hrel
      by_cases hlt : j < len0
      · have hjl : j < l.length := by rw [HN.out]; exact hlt
        obtain ⟨b, off, hp, hg, hc⟩ := HC.out j hjl
        subst hp
        rw [← hb.cell (p := ⟨b, off + j, none⟩) hg] at hc
        have htk : l.take (j + 1) = l.take j ++ [l[j]] := List.take_succ_eq_append_getElem hjl
        have hff := fun W => ffrom l[j] W
        generalize l[j] = y at hc hff htk
        have hbs := hb.size
        obtain ⟨pv, cv, hvv⟩ := ownF_lenOf hown
        have htl : (l.take j).length = j := by rw [List.length_take]; omega
        rw [htl] at hvv
        have HB := Lib.hid hb
        have HT := Lib.hid htk
        have hj60 : j ≤ 60 := by omega
        have hrow : wr.ownsRow w.heap.size 22 1 (.slice pv j cv) j (fcs (l.take j)) := by
          have h := hown; unfold OwnF at h; rw [htl, hvv] at h; exact h
        subst hvv
        have HTL := Lib.hid htl
        clear hb htk hown htl
        go_wp2_with (at_builtin; refine wpList_append_own _ rfl _ _ 39 rfl w.heap.size 22 i0 (.float .f64 0) 1 8 Try.underlying39 hi hz0 hz1 hz2 rfl (by decide) _ _ _ rfl (hrow.alloc _) ⟨wr.heap.size, 0, none⟩ 1 1 [Value.float .f64 y] rfl rfl ?c1 ?c2 ?c3 ?c4 ?c5 ?_)
        case c1 =>
          intro j u hj
          match j, hj with
          | 0, hj => simp at hj; subst hj; simp [Addr.add]
        case c2 => intro u hu; simp at hu; subst hu; rfl
        case c3 => unfold maxLen; omega
        case c4 => omega
        case c5 => simp; omega
        intro v' w1 hown' hgrow _
        have hb1 : Below w.heap.size w w1 := (HB.out.alloc (by omega) _).grown hgrow (by simp; omega) (fun j hj => (hrow.lt j hj).1)
        have hown2 : OwnF w.heap.size v' (l.take j ++ [y]) w1 := ownF_more (by rw [HTL.out]; exact hown')
        rw [← HT.out] at hown2
        have HO2 := Lib.hid hown2
        have HB1 := Lib.hid hb1
        clear hown2 hb1 hown' hgrow hrow hc
        go_wp2
        exact ⟨⟨j + 1, by omega, by go_num, HO2.out, HB1.out⟩, by simp [intOf]; omega⟩
      · obtain rfl : j = len0 := by omega
        rw [List.take_of_length_le (by rw [HN.out]; omega)] at hown
        have hfin := hown.fin
        have hl1000 : l.length ≤ 1000 := by rw [HN.out]; omega
        have hbs := hb.size
        have HB := Lib.hid hb
        have HF := Lib.hid hfin
        have HLE := Lib.hid hl1000
        generalize hvv : u3 = v at hown
        clear hb hfin hl1000 hown
        subst hvv
        go_wp2_with fail
        refine (sortC l _ _ HF.out HL.out HLE.out).mono ?_
        rintro e w1 ⟨v1, r1, rfl, s1, q1, hb1⟩
        have HS1 := Lib.hid s1
        have HQ1 := Lib.hid q1
        have HF1 := Lib.hid (HF.out.below hb1)
        have HB1 := Lib.hid (HB.out.trans (hb1.mono hbs))
        have hbs1 := HB1.out.size
        clear s1 q1 hb1 HF HB
        go_wp2_with fail
        refine (sortR l _ _ HF1.out HL.out HLE.out).mono ?_
        rintro e w2 ⟨v2, r2, rfl, s2, q2, hb2⟩
        obtain rfl := IsSort.uniq HL.out HS1.out s2
        have HQ2 := Lib.hid q2
        have HQ3 := Lib.hid (HQ1.out.below hb2)
        have HB2 := Lib.hid (HB1.out.trans (hb2.mono hbs1))
        have hbs2 := HB2.out.size
        clear s2 q2 hb2 HF1 HB1 HQ1
        go_wp2_with fail
        refine (allR r1 _ _ _ HQ3.out HQ2.out (by rw [isSort_len HS1.out]; exact HLE.out)).mono ?_
        rintro e w3 ⟨rfl, hb3⟩
        have HB3 := Lib.hid (HB2.out.trans (hb3.mono hbs2))
        have hbs3 := HB3.out.size
        clear hb3 HB2
        go_wp2_with fail
        refine (floatAwake _).mono ?_
        rintro e w4 ⟨rfl, hb4⟩
        have HB4 := Lib.hid (HB3.out.trans (hb4.mono hbs3))
        clear hb4 HB3
        go_wp2
        go_ret
        exact ⟨rfl, HB4.out⟩
  · have hn : decide (60 < (len0 : Int)) = true := by simp; omega
    clear hlen hcell hl hll
    go_enter Try.func5, Try.ntmps5
    go_wp2_with fail
    refine (floatAwake _).mono ?_
    rintro e w3 ⟨rfl, hb3⟩
    have HB3 := Lib.hid hb3
    clear hb3
    go_wp2
    go_ret
    exact ⟨rfl, HB3.out⟩
end Go.Proofs.Ytgdgapklkodnjaa
