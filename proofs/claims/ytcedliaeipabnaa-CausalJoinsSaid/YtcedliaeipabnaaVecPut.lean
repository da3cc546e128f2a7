/-
  Put: the program's, and the document's.
-/
import Derived.Test.YtcedliaeipabnaaGCauP
import Derived.Test.YtcedliaeipabnaaGCauK
import Derived.Test.YtcedliaeipabnaaGCauL
import Derived.Test.YtcedliaeipabnaaGCauA
namespace Go.Proofs.Ytcedliaeipabnaa
set_option maxRecDepth 100000
open Go.Shelf Go.RowKit Go.Sort

theorem natV_at {l : Vc} (h : chkV l = 0) {k : Nat} (hk : k < l.length) : l.getD k 0 = (((natV l).getD k 0 : Nat) : Int) ∧ (natV l).getD k 0 ≤ 9007199254740992 := by
  have hm := List.getElem_mem hk
  have h0 := (chkV_ok h _ hm).1
  have h1 := (chkV_ok h _ hm).2
  have e1 : (natV l)[k]? = some l[k].toNat := by simp [natV, List.getElem?_eq_getElem hk]
  have e2 : l[k]? = some l[k] := List.getElem?_eq_getElem hk
  rw [List.getD_eq_getElem?_getD, List.getD_eq_getElem?_getD, e1, e2]
  simp only [Option.getD_some]
  omega

set_option maxHeartbeats 4000000 in
set_option maxRecDepth 100000 in
theorem vputC (l : Vc) (hl : l.length = 16) (w : World) : Calls Try.prog 44 #[.agg (ics l)] w fun e w' => e = .returned (.tuple #[.string (putV l).1, .int .i64 (putV l).2]) ∧ Go.RowKit.Below w.heap.size w w' := by
  have hp : putV l = if chkV l = 0 then (⟨(encN (natV l)).toArray⟩, 0) else (⟨#[]⟩, 2) := rfl
  have HL := Lib.hid hl
  have HN := Lib.hid (VRow.new w l)
  have HCK := Lib.hid (fun W => vchkC l hl W)
  by_cases hz : chkV l = 0
  · rw [if_pos hz] at hp
    rw [hz] at HCK
    have HP := Lib.hid hp
    have HAT := Lib.hid (fun k (hk : k < 16) => natV_at hz (k := k) (by rw [hl]; exact hk))
    have hnl : (natV l).length = 16 := by rw [natV_len]; exact hl
    have HLAY := Lib.hid (fun W h => layI (some ⟨w.heap.size, 0, none⟩) 16 (natV l) W h (by omega) (fun n hn => by
      obtain ⟨i, hi, rfl⟩ := List.mem_iff_getElem.1 hn
      have := (HAT.out i (by omega)).2
      rwa [List.getD_eq_getElem?_getD, List.getElem?_eq_getElem hi] at this))
    rw [hnl] at HLAY
    have HROW := Lib.hid (fun (W : World) (h : VRow W w.heap.size l) => show IntRow W (some ⟨w.heap.size, 0, none⟩) (natV l) from .inr ⟨w.heap.size, rfl, h.lt, fun j hj => by
      rw [h.cell j (by omega), (HAT.out j (by omega)).1]⟩)
    clear hp hz hl hnl HAT
    go_enter Try.func44, Try.ntmps44
    go_wp2_with ((with_reducible refine vl_load ?_ (.tmp 1) ?_ w.heap.size l ?_ ?_ ?_ ?_); rfl; rfl; rfl; exact HN.out; exact HL.out)
    refine (HCK.out _).mono ?_
    rintro e w1 ⟨rfl, hb1⟩
    have HB1 := Lib.hid ((boxV_below w l).trans (hb1.mono (boxV_below w l).size))
    have HN1 := Lib.hid (HROW.out w1 (HN.out.keep hb1))
    clear hb1 HCK HN HROW
    go_wp2_with fail
    refine (HLAY.out _ HN1.out).mono ?_
    rintro e w2 ⟨rfl, hb2⟩
    have H2 := Lib.hid (HB1.out.trans (hb2.mono HB1.out.size))
    clear hb2
    go_wp2_with fail
    go_ret2
    rw [HP.out]
    exact ⟨rfl, H2.out⟩
  · rw [if_neg hz] at hp
    have h2 : chkV l = 2 := (chkV_cases l).resolve_left hz
    rw [h2] at HCK
    have HP := Lib.hid hp
    clear hp hz h2 hl
    go_enter Try.func44, Try.ntmps44
    go_wp2_with ((with_reducible refine vl_load ?_ (.tmp 1) ?_ w.heap.size l ?_ ?_ ?_ ?_); rfl; rfl; rfl; exact HN.out; exact HL.out)
    refine (HCK.out _).mono ?_
    rintro e w1 ⟨rfl, hb1⟩
    have HB1 := Lib.hid ((boxV_below w l).trans (hb1.mono (boxV_below w l).size))
    clear hb1
    go_wp2_with fail
    go_ret2
    rw [HP.out]
    exact ⟨rfl, HB1.out⟩

set_option maxHeartbeats 4000000 in
set_option maxRecDepth 100000 in
theorem vputR (l : Vc) (hl : l.length = 16) (w : World) : Calls Try.prog 47 #[.agg (ics l)] w fun e w' => e = .returned (.tuple #[.string (putV l).1, .int .i64 (putV l).2]) ∧ Go.RowKit.Below w.heap.size w w' := by
  have hp : putV l = if chkV l = 0 then (⟨(encN (natV l)).toArray⟩, 0) else (⟨#[]⟩, 2) := rfl
  have HL := Lib.hid hl
  have HN := Lib.hid (VRow.new w l)
  have HCK := Lib.hid (fun W => vchkR l hl W)
  by_cases hz : chkV l = 0
  · rw [if_pos hz] at hp
    rw [hz] at HCK
    have HP := Lib.hid hp
    have HAT := Lib.hid (fun k (hk : k < 16) => natV_at hz (k := k) (by rw [hl]; exact hk))
    have hnl : (natV l).length = 16 := by rw [natV_len]; exact hl
    have HNL := Lib.hid hnl
    clear hp hz hl hnl
    go_enter Try.func47, Try.ntmps47
    go_wp2_with ((with_reducible refine vl_load ?_ (.tmp 1) ?_ w.heap.size l ?_ ?_ ?_ ?_); rfl; rfl; rfl; exact HN.out; exact HL.out)
    refine (HCK.out _).mono ?_
    rintro e w1 ⟨rfl, hb1⟩
    have HB1 := Lib.hid ((boxV_below w l).trans (hb1.mono (boxV_below w l).size))
    have HN1 := Lib.hid (HN.out.keep hb1)
    clear hb1 HCK HN
    go_wp2_with fail
    go_loopw [5, 6] (fun s i wr => ∃ k : Nat, k ≤ 16 ∧ i = .int .i64 k ∧ s = .string ⟨(encN ((natV l).take k)).toArray⟩ ∧ VRow wr w.heap.size l ∧ Go.RowKit.Below w.heap.size w wr) (fun _ i _ => 16 - (intOf i).toNat)
    case atStart => exact ⟨0, Nat.zero_le _, rfl, rfl, HN1.out, HB1.out⟩
    case round =>
      rename_i wr
      obtain ⟨k, hk, rfl, rfl, r0, rB⟩ := hrel
      by_cases hlt : k < 16
      · have hcell := r0.cell k (by rw [HL.out]; exact hlt)
        have hz0 := r0.lt
        obtain ⟨hat, hsm⟩ := HAT.out k hlt
        rw [hat] at hcell
        have HPN := Lib.hid (refnum_ok _ hsm wr)
        have he := encN_snoc (natV l) (k := k) (by rw [HNL.out]; exact hlt)
        have hle : (encN ((natV l).take k)).length ≤ 160 := by
          have h1 := encN_len ((natV l).take k) (fun n hn => by
            obtain ⟨i, hi, rfl⟩ := List.mem_iff_getElem.1 hn
            have hi2 : i < 16 := by rw [List.length_take, HNL.out] at hi; omega
            have := (HAT.out i hi2).2
            rw [List.getD_eq_getElem?_getD, List.getElem?_eq_getElem (by rw [HNL.out]; exact hi2)] at this
            rw [List.getElem_take]
            exact this)
          have h2 : ((natV l).take k).length ≤ 16 := by rw [List.length_take, HNL.out]; omega
          omega
        have hul := Lib.uvarint_length64 (x := (natV l).getD k 0) (by omega)
        clear hat
        generalize (natV l).getD k 0 = x at *
        have hj : (⟨(encN ((natV l).take k)).toArray⟩ : ByteArray) ++ ⟨(Lib.uvarint x).toArray⟩ = ⟨(encN ((natV l).take (k + 1))).toArray⟩ := by rw [append_str, ← he]
        have h1 : (⟨(encN ((natV l).take k)).toArray⟩ : ByteArray).size ≤ 160 := hle
        have h2 : (⟨(Lib.uvarint x).toArray⟩ : ByteArray).size ≤ 10 := hul
        have hadd := fun W => run_string_add_sum (P := Try.prog) (w := W) ⟨(encN ((natV l).take k)).toArray⟩ ⟨(Lib.uvarint x).toArray⟩ (by omega)
        rw [hj] at hadd
        have R0 := Lib.hid r0
        have RB := Lib.hid rB
        clear hj h1 h2 he r0 rB
        go_wp2_with fail
        refine HPN.out.mono ?_
        rintro e w2 ⟨rfl, hb2⟩
        have R2 := Lib.hid (And.intro (R0.out.keep hb2) (RB.out.trans (hb2.mono RB.out.size)))
        clear hb2 hcell R0 RB
        go_wp2_with fail
        go_roundw
        case rel => exact ⟨k + 1, by omega, by go_num, rfl, R2.out.1, R2.out.2⟩
        case measure => simp [intOf]; omega
      · obtain rfl : k = 16 := by omega
        rw [List.take_of_length_le (by rw [HNL.out]; omega)]
        have HB := Lib.hid rB
        clear r0 rB
        go_wp2_with fail
        go_ret2
        rw [HP.out]
        exact ⟨rfl, HB.out⟩
  · rw [if_neg hz] at hp
    have h2 : chkV l = 2 := (chkV_cases l).resolve_left hz
    rw [h2] at HCK
    have HP := Lib.hid hp
    clear hp hz h2 hl
    go_enter Try.func47, Try.ntmps47
    go_wp2_with ((with_reducible refine vl_load ?_ (.tmp 1) ?_ w.heap.size l ?_ ?_ ?_ ?_); rfl; rfl; rfl; exact HN.out; exact HL.out)
    refine (HCK.out _).mono ?_
    rintro e w1 ⟨rfl, hb1⟩
    have HB1 := Lib.hid ((boxV_below w l).trans (hb1.mono (boxV_below w l).size))
    clear hb1
    go_wp2_with fail
    go_ret2
    rw [HP.out]
    exact ⟨rfl, HB1.out⟩
end Go.Proofs.Ytcedliaeipabnaa
