/-
  fact, the document's: put, Put.
-/
import Derived.Test.YtkodololdjainaaGreatFactChR
import Derived.Test.YtkodololdjainaaGreatFactPut
namespace Go.Proofs.YtkodololdjainaaGreat
set_option maxRecDepth 100000
open Go.RowKit Go.Sort

set_option maxHeartbeats 4000000 in
theorem put1FR (f : Ft) (hd : chkFm f = 0) (w : World) : Calls Tryz.prog 61 #[.agg (fcs f).toArray] w fun e w' => e = .returned (.string ⟨(encF1 f).toArray⟩) ∧ Go.RowKit.Below w.heap.size w w' := by
  obtain ⟨h1, h2, h3, h4, h5, h6, h7⟩ := chkF_ok hd
  have k1 := chkD_ok h1
  have k2 := chkS_ok h2
  have hin := boxF_in w f
  have hsz := boxF_size w f
  have hg := (boxF_gr w f).below
  obtain ⟨ns, hns⟩ : ∃ ns : List Nat, ns = [f.d.1.toNat, f.d.2.toNat, f.s.t.toNat, f.s.c.toNat, f.k.toNat] := ⟨_, rfl⟩
  have hnl : ns.length = 5 := by rw [hns]; rfl
  have hsm : ∀ k, k < 5 → ns.getD k 0 ≤ 9007199254740992 := fun k hk => by
    rw [hns]
    match k, hk with
    | 0, _ => simp; omega
    | 1, _ => simp; omega
    | 2, _ => simp; omega
    | 3, _ => simp; omega
    | 4, _ => simp; omega
  have hrow : ∀ j, j < 5 → ((boxF w f).alloc (.cells #[.int .i64 f.d.1, .int .i64 f.d.2, .int .i64 f.s.t, .int .i64 f.s.c, .int .i64 f.k] 3)).cell? ⟨w.heap.size + 1, j, none⟩ = some (.int .i64 ((ns.getD j 0 : Nat) : Int)) := by
    intro j hj
    have hb := heap_alloc_new (boxF w f) (.cells #[.int .i64 f.d.1, .int .i64 f.d.2, .int .i64 f.s.t, .int .i64 f.s.c, .int .i64 f.k] 3)
    rw [boxF_size] at hb
    rw [Joins.cell_of_block hb, hns]
    match j, hj with
    | 0, _ => simp; omega
    | 1, _ => simp; omega
    | 2, _ => simp; omega
    | 3, _ => simp; omega
    | 4, _ => simp; omega
  have hbx : Go.RowKit.Below (boxF w f).heap.size (boxF w f) ((boxF w f).alloc (.cells #[.int .i64 f.d.1, .int .i64 f.d.2, .int .i64 f.s.t, .int .i64 f.s.c, .int .i64 f.k] 3)) := (Below.refl _ _).alloc (Nat.le_refl _) _
  have hb : Go.RowKit.Below w.heap.size w ((boxF w f).alloc (.cells #[.int .i64 f.d.1, .int .i64 f.d.2, .int .i64 f.s.t, .int .i64 f.s.c, .int .i64 f.k] 3)) := hg.trans (hbx.mono hg.size)
  have he : (⟨(encN ns).toArray⟩ : ByteArray) ++ ⟨(encX f.n).toArray⟩ ++ ⟨(encX f.v).toArray⟩ = ⟨(encF1 f).toArray⟩ := by
    rw [append_str, append_str, hns]
    simp [encN, encF1]
  have cells : ∀ j v, (fcs f)[j]? = some v → (boxF w f).cell? ⟨w.heap.size, j, none⟩ = some v := fun j v hv => by
    have := hin j v hv
    rwa [Nat.zero_add] at this
  have hcl : ∀ j v, (fcs f)[j]? = some v → ((boxF w f).alloc (.cells #[.int .i64 f.d.1, .int .i64 f.d.2, .int .i64 f.s.t, .int .i64 f.s.c, .int .i64 f.k] 3)).cell? ⟨w.heap.size, j, none⟩ = some v := fun j v hv => by
    rw [hbx.cell (p := ⟨w.heap.size, j, none⟩) (by show w.heap.size < _; omega)]
    exact cells j v hv
  have c0 := cells 0 _ rfl
  have c1 := cells 1 _ rfl
  have c2 := cells 2 _ rfl
  have c3 := cells 3 _ rfl
  have c5 := cells 5 _ rfl
  have hT1 := fun W => reftext_ok f.n (by omega) W
  have hT2 := fun W => reftext_ok f.v (by omega) W
  have hx1 : Lib.uvarint f.n.size ++ f.n.data.toList = encX f.n := rfl
  have hx2 : Lib.uvarint f.v.size ++ f.v.data.toList = encX f.v := rfl
  rw [hx1] at hT1
  rw [hx2] at hT2
  have hz1 := encX_len f.n (by omega)
  have hz2 := encX_len f.v (by omega)
  have hs1 : (⟨(encX f.n).toArray⟩ : ByteArray).size ≤ 65546 := by simpa [ByteArray.size] using hz1
  have hs2 : (⟨(encX f.v).toArray⟩ : ByteArray).size ≤ 65546 := by simpa [ByteArray.size] using hz2
  have hle : ∀ k, k ≤ 5 → (⟨(encN (ns.take k)).toArray⟩ : ByteArray).size ≤ 50 := fun k hk => by
    have h := encN_len (ns.take k) (fun n hn => by
      obtain ⟨i, hi, rfl⟩ := List.mem_iff_getElem.1 (List.mem_of_mem_take hn)
      have := hsm i (by omega)
      rwa [List.getD_eq_getElem?_getD, List.getElem?_eq_getElem hi] at this)
    rw [List.length_take] at h
    simp only [ByteArray.size, List.size_toArray]
    omega
  have hsz2 : ((boxF w f).alloc (.cells #[.int .i64 f.d.1, .int .i64 f.d.2, .int .i64 f.s.t, .int .i64 f.s.c, .int .i64 f.k] 3)).heap.size = w.heap.size + 2 := by simp [boxF]
  have HLE := Lib.hid hle
  have HSM := Lib.hid hsm
  have HNL := Lib.hid hnl
  have HE := Lib.hid he
  have HROW := Lib.hid hrow
  have HB := Lib.hid hb
  have HCL := Lib.hid hcl
  have HT1 := Lib.hid hT1
  have HT2 := Lib.hid hT2
  clear hin cells hrow hb hbx he hz1 hz2 hd h1 h2 h3 h4 h5 h6 h7 k1 k2 hg hns hcl hT1 hT2 hx1 hx2 hle hsm hnl hsz
  generalize (⟨(encX f.n).toArray⟩ : ByteArray) = E1 at *
  generalize (⟨(encX f.v).toArray⟩ : ByteArray) = E2 at *
  unfold boxF at c0 c1 c2 c3 c5 HROW HB HCL hsz2
  go_enter Tryz.func61, Tryz.ntmps61
  go_upto_region 3 with fail
  clear c0 c1 c2 c3 c5
  generalize (w.alloc (.cells (fcs f).toArray 88)).alloc (.cells #[.int .i64 f.d.1, .int .i64 f.d.2, .int .i64 f.s.t, .int .i64 f.s.c, .int .i64 f.k] 3) = W at *
  go_wp2_with fail
  go_loopw [3, 5] (fun s i wr => ∃ k : Nat, k ≤ 5 ∧ i = .int .i64 k ∧ s = .string ⟨(encN (ns.take k)).toArray⟩ ∧ Hid (Go.RowKit.Below W.heap.size W wr)) (fun _ i _ => 5 - (intOf i).toNat)
  case atStart => exact ⟨0, by omega, rfl, by simp [encN], Lib.hid (Below.refl _ _)⟩
  case round =>
    obtain ⟨k, hk, rfl, rfl, HBR⟩ := hrel
    by_cases hlt : k < 5
    · have hi1 : (k : Int) < (5 : Int) := by omega
      have hlw : w.heap.size + 1 < W.heap.size := by omega
      have hcell : wr.cell? ⟨w.heap.size + 1, k, none⟩ = some (.int .i64 ((ns.getD k 0 : Nat) : Int)) := by rw [HBR.out.cell (p := ⟨w.heap.size + 1, k, none⟩) hlw]; exact HROW.out k hlt
      have HN := Lib.hid (fun W => refnum_ok (ns.getD k 0) (HSM.out k hlt) W)
      have hE := encN_snoc ns (k := k) (by rw [HNL.out]; exact hlt)
      have hul := Lib.uvarint_length64 (x := ns.getD k 0) (by have := HSM.out k hlt; omega)
      have hfin : (⟨(encN (ns.take k)).toArray⟩ : ByteArray) ++ ⟨(Lib.uvarint (ns.getD k 0)).toArray⟩ = ⟨(encN (ns.take (k + 1))).toArray⟩ := by rw [append_str, hE]
      have HF := Lib.hid hfin
      have zA := HLE.out k hk
      have zB : (⟨(Lib.uvarint (ns.getD k 0)).toArray⟩ : ByteArray).size ≤ 10 := by simpa [ByteArray.size] using hul
      clear hE hfin hul hlw
      generalize ns.getD k 0 = x at *
      generalize (⟨(encN (ns.take k)).toArray⟩ : ByteArray) = X1 at *
      generalize (⟨(Lib.uvarint x).toArray⟩ : ByteArray) = X2 at *
      go_wp2_with fail
      refine (HN.out _).mono ?_
      rintro e w2 ⟨rfl, hb2⟩
      have HB2 := Lib.hid (HBR.out.trans (hb2.mono HBR.out.size))
      clear hb2 hcell
      go_wp2_with fail
      go_roundw
      case rel => exact ⟨k + 1, by omega, by go_num, by rw [HF.out], HB2⟩
      case measure => simp [intOf]; omega
    · obtain rfl : k = 5 := by omega
      have hlw : w.heap.size < W.heap.size := by omega
      have c6 : wr.cell? ⟨w.heap.size, 6, none⟩ = some (.string f.n) := by rw [HBR.out.cell (p := ⟨w.heap.size, 6, none⟩) hlw]; exact HCL.out 6 _ rfl
      have e5 : ns.take 5 = ns := by rw [← HNL.out, List.take_length]
      have zA := HLE.out 5 (by omega)
      rw [e5] at zA
      rw [e5]
      have HLW := Lib.hid hlw
      clear e5 hlw hk
      generalize (⟨(encN ns).toArray⟩ : ByteArray) = X1 at *
      go_wp2_with fail
      refine (HT1.out _).mono ?_
      rintro e w2 ⟨rfl, hb2⟩
      have HB2 := Lib.hid (HBR.out.trans (hb2.mono HBR.out.size))
      have c7 : w2.cell? ⟨w.heap.size, 7, none⟩ = some (.string f.v) := by rw [HB2.out.cell (p := ⟨w.heap.size, 7, none⟩) HLW.out]; exact HCL.out 7 _ rfl
      clear hb2 c6
      go_wp2_with fail
      refine (HT2.out _).mono ?_
      rintro e w3 ⟨rfl, hb3⟩
      have HB3 := Lib.hid (HB.out.trans ((HB2.out.trans (hb3.mono HB2.out.size)).mono HB.out.size))
      have zC : (X1 ++ E1).size ≤ 65596 := by rw [ByteArray.size_append]; omega
      clear hb3 c7
      go_wp2_with fail
      go_ret
      rw [← HE.out]
      exact ⟨rfl, HB3.out⟩

set_option maxHeartbeats 4000000 in
set_option maxRecDepth 100000 in
theorem putFR (l : List Ft) (a : Option Addr) (cap : Nat) (w : World) (h : FIn w a l) (hl : l.length ≤ maxLen) (hv : ∀ f ∈ l, f.v.size ≤ 5000) :
    Calls Tryz.prog 24 #[.slice a l.length cap] w fun e w' => e = .returned (.tuple #[.string (putF rdM l).1, .int .i64 (putF rdM l).2]) ∧ Go.RowKit.Below w.heap.size w w' := by
  have H := Lib.hid h
  have hck := fun W (hh : FIn W a l) => chkFsR l a cap W hh hl hv
  clear h
  unfold maxLen at hl
  have hpd : putF rdM l = if 4096 < l.length then (⟨#[]⟩, 3) else if chkFs rdM l = 0 then (⟨(encFs l).toArray⟩, 0) else (⟨#[]⟩, chkFs rdM l) := rfl
  by_cases hbig : 4096 < l.length
  · rw [if_pos hbig] at hpd
    rw [hpd]
    clear hpd hck
    have hbi : (4096 : Int) < (l.length : Int) := by omega
    go_enter Tryz.func24, Tryz.ntmps24
    go_wp2_with fail
    go_ret2
    exact ⟨rfl, Below.refl _ _⟩
  · rw [if_neg hbig] at hpd
    have hsm : l.length ≤ 4096 := by omega
    have hbi : ¬ (4096 : Int) < (l.length : Int) := by omega
    by_cases he : chkFs rdM l = 0
    · rw [if_pos he] at hpd
      have HPD := Lib.hid hpd
      obtain ⟨hgood, -⟩ := chkFs_ok he
      rw [he] at hck
      have HG := Lib.hid hgood
      have hnum0 := fun W => refnum_ok l.length (by omega) W
      clear hpd he hgood hbig
      go_enter Tryz.func24, Tryz.ntmps24
      go_wp2_with fail
      refine (hck _ H.out).mono ?_
      rintro e w1 ⟨rfl, hb1⟩
      have HB1 := Lib.hid hb1
      have hs1 := hb1.size
      clear hb1 hck
      go_wp2_with fail
      refine (hnum0 _).mono ?_
      rintro e w2 ⟨rfl, hb2⟩
      have HB2 := Lib.hid (HB1.out.trans (hb2.mono hs1))
      clear hb2 hnum0
      go_wp2_with fail
      go_loopw [5, 7] (fun v i wr => ∃ k : Nat, k ≤ l.length ∧ i = .int .i64 k ∧ v = .string ⟨(Lib.uvarint l.length ++ encF (l.take k)).toArray⟩ ∧ Go.RowKit.Below w.heap.size w wr) (fun _ i _ => l.length - (intOf i).toNat)
      case atStart => exact ⟨0, Nat.zero_le _, rfl, by simp [encF], HB2.out⟩
      case round =>
        obtain ⟨k, hk, rfl, rfl, hb⟩ := hrel
        have HB := Lib.hid hb
        have hbs := hb.size
        clear hb
        by_cases hlt : k < l.length
        · obtain ⟨d, hd⟩ : ∃ d, l[k]? = some d := ⟨_, List.getElem?_eq_getElem hlt⟩
          have hdin := H.out.below HB.out
          have HDIN := Lib.hid hdin
          obtain ⟨b, off, rfl, hbl, c0⟩ := hdin.at hd
          have hi1 : (k : Int) < (l.length : Int) := by omega
          have hdk := HG.out d (List.mem_of_getElem? hd)
          have hde : l[k] = d := by rw [List.getElem?_eq_getElem hlt] at hd; exact Option.some.inj hd
          have hex : encF (l.take (k + 1)) = encF (l.take k) ++ encF1 d := by rw [List.take_succ_eq_append_getElem hlt, encF_snoc, hde]
          have hel := encF_len (l.take k) (fun x hx => HG.out x (List.mem_of_mem_take hx))
          rw [List.length_take] at hel
          have hul0 := Lib.uvarint_length64 (x := l.length) (by omega)
          have hul1 := encF1_len d hdk
          have HP := Lib.hid (fun W => put1FR d hdk W)
          have hfin : (⟨(Lib.uvarint l.length ++ encF (l.take k)).toArray⟩ : ByteArray) ++ ⟨(encF1 d).toArray⟩ = ⟨(Lib.uvarint l.length ++ encF (l.take (k + 1))).toArray⟩ := by
            rw [append_str, hex, List.append_assoc]
          have HF := Lib.hid hfin
          have HC0 := Lib.hid c0
          have z1 : (⟨(Lib.uvarint l.length ++ encF (l.take k)).toArray⟩ : ByteArray).size ≤ 100000000 := by simp only [ByteArray.size, List.size_toArray, List.length_append]; omega
          have z2 : (⟨(encF1 d).toArray⟩ : ByteArray).size ≤ 20000 := by simpa [ByteArray.size] using hul1
          clear hex hel hul0 hul1 hfin hd hde hdk hdin c0
          generalize (⟨(Lib.uvarint l.length ++ encF (l.take k)).toArray⟩ : ByteArray) = x1 at *
          generalize (⟨(encF1 d).toArray⟩ : ByteArray) = x2 at *
          go_wp2_with ((with_reducible refine fl_load ?_ (.tmp 31) ?_ b (off + k * 8) d ?_ ?_ ?_); rfl; rfl; rfl; exact HC0.out; simp only [Act.put, List.setIfInBounds_toArray, List.set_cons_zero, List.set_cons_succ])
          refine (HP.out _).mono ?_
          rintro e w4 ⟨rfl, hb4⟩
          have HB4 := Lib.hid (HB.out.trans (hb4.mono hbs))
          clear hb4
          go_wp2_with fail
          go_roundw
          case rel => exact ⟨k + 1, by omega, by go_num, by rw [HF.out], HB4.out⟩
          case measure => simp [intOf]; omega
        · obtain rfl : k = l.length := by omega
          have hfin : (⟨(Lib.uvarint l.length ++ encF (l.take l.length)).toArray⟩ : ByteArray) = ⟨(encFs l).toArray⟩ := by rw [List.take_length]; rfl
          rw [hfin]
          clear hfin
          go_wp2_with fail
          go_ret2
          rw [HPD.out]
          exact ⟨rfl, HB.out⟩
    · rw [if_neg he] at hpd
      rw [hpd]
      have hne : (chkFs rdM l != 0) = true := by simp [he]
      generalize chkFs rdM l = E at *
      clear hpd he
      go_enter Tryz.func24, Tryz.ntmps24
      go_wp2_with fail
      refine (hck _ H.out).mono ?_
      rintro e w1 ⟨rfl, hb1⟩
      have HB1 := Lib.hid hb1
      clear hb1
      go_wp2_with fail
      go_ret2
      exact ⟨rfl, HB1.out⟩
end Go.Proofs.YtkodololdjainaaGreat
