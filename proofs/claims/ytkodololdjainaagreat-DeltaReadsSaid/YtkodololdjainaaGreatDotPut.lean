/-
  Put: the program's (over list.Put, list.Lay), and the document's.
-/
import Derived.Test.YtkodololdjainaaGreatGDelD
import Derived.Test.YtkodololdjainaaGreatGDelJ
import Derived.Test.YtkodololdjainaaGreatGDelE
import Derived.Test.YtkodololdjainaaGreatGDelA
namespace Go.Proofs.YtkodololdjainaaGreat
set_option maxRecDepth 100000
open Go.Shelf Go.RowKit Go.Sort

theorem encD_one (d : Dt) : encN [d.1.toNat, d.2.toNat] = Lib.uvarint d.1.toNat ++ Lib.uvarint d.2.toNat := by simp [encN]

set_option maxHeartbeats 1000000 in
theorem putDotC (d : Dt) (hd : chkD d = 0) (w : World) : Calls Tryz.prog 58 #[.agg #[.int .i64 d.1, .int .i64 d.2]] w fun e w' => e = .returned (.tuple #[.string ⟨(Lib.uvarint d.1.toNat ++ Lib.uvarint d.2.toNat).toArray⟩, .int .i64 0]) ∧ Go.RowKit.Below w.heap.size w w' := by
  have hok := chkD_ok hd
  have he := encD_one d
  rw [← he]
  have hlay := fun W h => layI (some ⟨w.heap.size + 1, 0, none⟩) 2 [d.1.toNat, d.2.toNat] W h (by simp) (by simp; omega)
  have hrow : IntRow ((boxD w d).alloc (.cells #[.int .i64 d.1, .int .i64 d.2] 3)) (some ⟨w.heap.size + 1, 0, none⟩) [d.1.toNat, d.2.toNat] := by
    refine .inr ⟨w.heap.size + 1, rfl, by simp [boxD], fun j hj => ?_⟩
    have hb := heap_alloc_new (boxD w d) (.cells #[.int .i64 d.1, .int .i64 d.2] 3)
    rw [boxD_size] at hb
    rw [Joins.cell_of_block hb]
    match j, hj with
    | 0, _ => simp; omega
    | 1, _ => simp; omega
    | j + 2, hj => simp at hj; omega
  have hb : Go.RowKit.Below w.heap.size w ((boxD w d).alloc (.cells #[.int .i64 d.1, .int .i64 d.2] 3)) := (boxD_below w d).alloc (by rw [boxD_size]; omega) _
  have HROW := Lib.hid hrow
  have HB := Lib.hid hb
  have HLAY := Lib.hid hlay
  unfold boxD at HROW HB
  generalize encN [d.1.toNat, d.2.toNat] = E at *
  clear hrow hb hlay hok he hd
  simp only [List.length_cons, List.length_nil] at HLAY
  obtain ⟨r, q⟩ := d
  simp only at *
  go_enter Tryz.func58, Tryz.ntmps58
  go_wp2_with fail
  refine (HLAY.out _ HROW.out).mono ?_
  rintro e w1 ⟨rfl, hb1⟩
  have H2 := Lib.hid (HB.out.trans (hb1.mono HB.out.size))
  clear hb1
  go_wp2_with fail
  go_ret2
  exact ⟨rfl, H2.out⟩

set_option maxHeartbeats 4000000 in
set_option maxRecDepth 100000 in
theorem layD (l : List Dt) (a : Option Addr) (cap : Nat) (w : World) (h : DIn w a l) (hl : l.length ≤ 4096) (hg : ∀ d ∈ l, chkD d = 0) :
    Calls Tryz.prog 81 #[.slice a l.length cap, .func (.func 58) #[] #[]] w fun e w' => e = .returned (.tuple #[.string ⟨(encD l).toArray⟩, .int .i64 0]) ∧ Go.RowKit.Below w.heap.size w w' := by
  have HROW := Lib.hid h
  have HG := Lib.hid hg
  have hb0 : Go.RowKit.Below w.heap.size w (w.alloc (.cells #[.pointer none, .slice none 0 0] 92)) := (Below.refl _ _).alloc (Nat.le_refl _) _
  have HB0 := Lib.hid hb0
  have HBN := Lib.hid (bld_new w)
  clear h hg hb0
  go_enter Tryz.func81, Tryz.ntmps81
  go_wp2_with fail
  go_loopw [13] (fun i wr => ∃ k : Nat, k ≤ l.length ∧ i = .int .i64 k ∧ Hid (Lib.IsBuilder 92 5 w.heap.size w.heap.size (Lib.byteCells (encD (l.take k))) wr ∧ Go.RowKit.Below w.heap.size w wr)) (fun i _ => l.length - (intOf i).toNat)
  case atStart => exact ⟨0, Nat.zero_le _, rfl, ⟨HBN.out, HB0.out⟩⟩
  case round =>
    rename_i wr
    obtain ⟨k, hk, rfl, hh⟩ := hrel
    by_cases hlt : k < l.length
    · obtain ⟨d, hd⟩ : ∃ d, l[k]? = some d := ⟨_, List.getElem?_eq_getElem hlt⟩
      obtain ⟨b, off, rfl, hbl, c0, c1⟩ := (HROW.out.below hh.out.2).at hd
      have hi1 : (k : Int) < (l.length : Int) := by omega
      have hbs := hh.out.2.size
      have hde : l[k] = d := by rw [List.getElem?_eq_getElem hlt] at hd; exact Option.some.inj hd
      have hdk := HG.out d (List.mem_of_getElem? hd)
      have hok := chkD_ok hdk
      have HP := Lib.hid (fun W => putDotC d hdk W)
      have HE := Lib.hid (show encD (l.take (k + 1)) = encD (l.take k) ++ (Lib.uvarint d.1.toNat ++ Lib.uvarint d.2.toNat) by rw [List.take_succ_eq_append_getElem hlt, encD_snoc, hde])
      have hel := encD_len (l.take k) (fun x hx => HG.out x (List.mem_of_mem_take hx))
      rw [List.length_take] at hel
      have HLE := Lib.hid hel
      have hul1 := Lib.uvarint_length64 (x := d.1.toNat) (by omega)
      have hul2 := Lib.uvarint_length64 (x := d.2.toNat) (by omega)
      have hul : (Lib.uvarint d.1.toNat ++ Lib.uvarint d.2.toNat).length ≤ 20 := by rw [List.length_append]; omega
      clear hd hde hdk hok hel hul1 hul2
      generalize Lib.uvarint d.1.toNat ++ Lib.uvarint d.2.toNat = X at *
      obtain ⟨R, hR⟩ : ∃ R : ByteArray, ⟨X.toArray⟩ = R := ⟨_, rfl⟩
      have HR := Lib.hid hR
      rw [hR] at HP
      clear hR
      obtain ⟨r, q⟩ := d
      simp only at c0 c1 HP
      go_wp2_with fail
      refine (HP.out _).mono ?_
      rintro e w2 ⟨rfl, hb2⟩
      have hb3 : Go.RowKit.Below wr.heap.size wr w2 := ((Below.refl _ _).alloc (Nat.le_refl _) _).trans (hb2.mono (by simp))
      have hbl := bld_below hh.out.1 hb3
      have HB2 := Lib.hid (hh.out.2.trans (hb3.mono hbs))
      have hRl : R.data.toList = X := by rw [← HR.out]
      have hws := Any.Builder_WriteString bldW bldX w.heap.size w.heap.size (Lib.byteCells (encD (l.take k))) R w2 hbl (by
        have h2 := congrArg List.length hRl
        rw [ba_len] at h2
        have h3 := HLE.out
        simp only [Lib.byteCells, List.length_map]
        omega) HB2.out.size
      have HWS := Lib.hid hws
      have HRL := Lib.hid hRl
      clear hb2 hb3 hbl hws hRl c0 c1
      go_wp2_with fail
      refine HWS.out.mono ?_
      rintro e w3 ⟨rfl, hbl3, hb3⟩
      have H3 := Lib.hid (show Lib.IsBuilder 92 5 w.heap.size w.heap.size (Lib.byteCells (encD (l.take (k + 1)))) w3 ∧ Go.RowKit.Below w.heap.size w w3 from ⟨by
        rw [HE.out, ← HRL.out]
        right
        have e : Lib.byteCells (encD (l.take k) ++ R.data.toList) = Lib.byteCells (encD (l.take k)) ++ Lib.strCells R := by simp [Lib.byteCells, Lib.strCells]
        rw [e]; exact hbl3, HB2.out.trans hb3⟩)
      clear hbl3 hb3
      go_wp2_with fail
      go_roundw
      case rel => exact ⟨k + 1, by omega, by go_num, H3⟩
      case measure => simp [intOf]; omega
    · obtain rfl : k = l.length := by omega
      have hs := Any.Builder_String_any bldS bldX w.heap.size w.heap.size (encD (l.take l.length)) wr hh.out.1 hh.out.2.size
      rw [List.take_length] at hs
      have HS := Lib.hid hs
      have HB := Lib.hid hh.out.2
      clear hs hh
      go_wp2_with fail
      refine HS.out.mono ?_
      rintro e w2 ⟨rfl, hb2⟩
      have H2 := Lib.hid (HB.out.trans hb2)
      clear hb2
      go_wp2_with fail
      go_ret2
      exact ⟨rfl, H2.out⟩

set_option maxHeartbeats 4000000 in
set_option maxRecDepth 100000 in
theorem lputD (l : List Dt) (a : Option Addr) (cap : Nat) (w : World) (h : DIn w a l) (hl : l.length ≤ maxLen) :
    Calls Tryz.prog 56 #[.slice a l.length cap, .func (.func 57) #[] #[], .func (.func 35) #[] #[], .func (.func 58) #[] #[]] w fun e w' => e = .returned (.tuple #[.string (putD l).1, .int .i64 (putD l).2]) ∧ Go.RowKit.Below w.heap.size w w' := by
  have H := Lib.hid h
  have hck := fun W (hh : DIn W a l) => chkLC l a cap W hh hl
  clear h
  unfold maxLen at hl
  have hpd : putD l = if 4096 < l.length then (⟨#[]⟩, 3) else if chkL l = 0 then (⟨(encDs l).toArray⟩, 0) else (⟨#[]⟩, chkL l) := rfl
  by_cases hbig : 4096 < l.length
  · rw [if_pos hbig] at hpd
    rw [hpd]
    clear hpd hck
    have hbi : (4096 : Int) < (l.length : Int) := by omega
    go_enter Tryz.func56, Tryz.ntmps56
    go_wp2_with fail
    go_ret2
    exact ⟨rfl, Below.refl _ _⟩
  · rw [if_neg hbig] at hpd
    have hsm : l.length ≤ 4096 := by omega
    have hbi : ¬ (4096 : Int) < (l.length : Int) := by omega
    by_cases he : chkL l = 0
    · rw [if_pos he] at hpd
      obtain ⟨hgood, -⟩ := chkL_ok he
      rw [he] at hck
      have hnum := fun W => num_ok l.length (by omega) W
      have hlay := fun W (hh : DIn W a l) => layD l a cap W hh hsm hgood
      have hel := encD_len l hgood
      have hul := Lib.uvarint_length64 (x := l.length) (by omega)
      have hfin : (⟨(Lib.uvarint l.length).toArray⟩ : ByteArray) ++ ⟨(encD l).toArray⟩ = ⟨(encDs l).toArray⟩ := by rw [append_str]; rfl
      have hz1 : (⟨(Lib.uvarint l.length).toArray⟩ : ByteArray).size ≤ 10 := by simpa [ByteArray.size] using hul
      have hz2 : (⟨(encD l).toArray⟩ : ByteArray).size ≤ 100000 := by simp only [ByteArray.size, List.size_toArray]; omega
      rw [← hfin] at hpd
      have HPD := Lib.hid hpd
      have HLAY := Lib.hid hlay
      have HNUM := Lib.hid hnum
      clear hpd he hgood hbig hel hul hfin hlay hnum
      generalize (⟨(Lib.uvarint l.length).toArray⟩ : ByteArray) = x1 at *
      generalize (⟨(encD l).toArray⟩ : ByteArray) = x2 at *
      go_enter Tryz.func56, Tryz.ntmps56
      go_wp2_with fail
      refine (hck _ H.out).mono ?_
      rintro e w1 ⟨rfl, hb1⟩
      have HB1 := Lib.hid hb1
      clear hb1 hck
      go_wp2_with fail
      refine (HNUM.out _).mono ?_
      rintro e w2 ⟨rfl, hb2⟩
      have HB2 := Lib.hid (HB1.out.trans (hb2.mono HB1.out.size))
      clear hb2
      go_wp2_with fail
      refine (HLAY.out _ (H.out.below HB2.out)).mono ?_
      rintro e w3 ⟨rfl, hb3⟩
      have HB3 := Lib.hid (HB2.out.trans (hb3.mono HB2.out.size))
      clear hb3
      go_wp2_with fail
      go_ret2
      rw [HPD.out]
      exact ⟨rfl, HB3.out⟩
    · rw [if_neg he] at hpd
      rw [hpd]
      have hne : (chkL l != 0) = true := by simp [he]
      generalize chkL l = E at *
      clear hpd he
      go_enter Tryz.func56, Tryz.ntmps56
      go_wp2_with fail
      refine (hck _ H.out).mono ?_
      rintro e w1 ⟨rfl, hb1⟩
      have HB1 := Lib.hid hb1
      clear hb1
      go_wp2_with fail
      go_ret2
      exact ⟨rfl, HB1.out⟩

theorem putDC (l : List Dt) (a : Option Addr) (cap : Nat) (w : World) (h : DIn w a l) (hl : l.length ≤ maxLen) :
    Calls Tryz.prog 20 #[.slice a l.length cap] w fun e w' => e = .returned (.tuple #[.string (putD l).1, .int .i64 (putD l).2]) ∧ Go.RowKit.Below w.heap.size w w' := by
  have H := Lib.hid (lputD l a cap w h hl)
  clear h hl
  go_enter Tryz.func20, Tryz.ntmps20
  go_wp2_with fail
  refine H.out.mono ?_
  rintro e w1 ⟨rfl, hb1⟩
  go_wp2_with fail
  go_ret2
  exact ⟨rfl, hb1⟩

theorem str_join (a b c : List UInt8) : (⟨a.toArray⟩ : ByteArray) ++ ⟨b.toArray⟩ ++ ⟨c.toArray⟩ = ⟨(a ++ (b ++ c)).toArray⟩ := by
  rw [append_str, append_str, List.append_assoc]

set_option maxHeartbeats 4000000 in
set_option maxRecDepth 100000 in
theorem putDR (l : List Dt) (a : Option Addr) (cap : Nat) (w : World) (h : DIn w a l) (hl : l.length ≤ maxLen) :
    Calls Tryz.prog 25 #[.slice a l.length cap] w fun e w' => e = .returned (.tuple #[.string (putD l).1, .int .i64 (putD l).2]) ∧ Go.RowKit.Below w.heap.size w w' := by
  have H := Lib.hid h
  have hck := fun W (hh : DIn W a l) => chkLR l a cap W hh hl
  clear h
  unfold maxLen at hl
  have hpd : putD l = if 4096 < l.length then (⟨#[]⟩, 3) else if chkL l = 0 then (⟨(encDs l).toArray⟩, 0) else (⟨#[]⟩, chkL l) := rfl
  by_cases hbig : 4096 < l.length
  · rw [if_pos hbig] at hpd
    rw [hpd]
    clear hpd hck
    have hbi : (4096 : Int) < (l.length : Int) := by omega
    go_enter Tryz.func25, Tryz.ntmps25
    go_wp2_with fail
    go_ret2
    exact ⟨rfl, Below.refl _ _⟩
  · rw [if_neg hbig] at hpd
    have hsm : l.length ≤ 4096 := by omega
    have hbi : ¬ (4096 : Int) < (l.length : Int) := by omega
    by_cases he : chkL l = 0
    · rw [if_pos he] at hpd
      have HPD := Lib.hid hpd
      obtain ⟨hgood, -⟩ := chkL_ok he
      rw [he] at hck
      have HG := Lib.hid hgood
      have hnum0 := fun W => refnum_ok l.length (by omega) W
      clear hpd he hgood hbig
      go_enter Tryz.func25, Tryz.ntmps25
      go_wp2_with fail
      refine (hck _ H.out).mono ?_
      rintro e w1 ⟨rfl, hb1⟩
      have HB1 := Lib.hid hb1
      have hs1 := hb1.size
      clear hb1 hck
      go_wp2_with fail
      refine (hnum0 _).mono ?_
      rintro e w2 ⟨rfl, hb2⟩
      have HB2 := Lib.hid (HB1.out.trans (hb2.mono hs1))
      clear hb2 hnum0
      go_wp2_with fail
      go_loopw [5, 7] (fun v i wr => ∃ k : Nat, k ≤ l.length ∧ i = .int .i64 k ∧ v = .string ⟨(Lib.uvarint l.length ++ encD (l.take k)).toArray⟩ ∧ Go.RowKit.Below w.heap.size w wr) (fun _ i _ => l.length - (intOf i).toNat)
      case atStart => exact ⟨0, Nat.zero_le _, rfl, by simp [encD], HB2.out⟩
      case round =>
        obtain ⟨k, hk, rfl, rfl, hb⟩ := hrel
        have HB := Lib.hid hb
        have hbs := hb.size
        clear hb
        by_cases hlt : k < l.length
        · obtain ⟨d, hd⟩ : ∃ d, l[k]? = some d := ⟨_, List.getElem?_eq_getElem hlt⟩
          have hdin := H.out.below HB.out
          have HDIN := Lib.hid hdin
          obtain ⟨b, off, rfl, hbl, c0, c1⟩ := hdin.at hd
          have hi1 : (k : Int) < (l.length : Int) := by omega
          have hdok := chkD_ok (HG.out d (List.mem_of_getElem? hd))
          have hde : l[k] = d := by rw [List.getElem?_eq_getElem hlt] at hd; exact Option.some.inj hd
          have hex : encD (l.take (k + 1)) = encD (l.take k) ++ (Lib.uvarint d.1.toNat ++ Lib.uvarint d.2.toNat) := by rw [List.take_succ_eq_append_getElem hlt, encD_snoc, hde]
          have hel := encD_len (l.take k) (fun x hx => HG.out x (List.mem_of_mem_take hx))
          rw [List.length_take] at hel
          have hul0 := Lib.uvarint_length64 (x := l.length) (by omega)
          obtain ⟨r, q⟩ := d
          simp only at c0 c1 hdok hex
          obtain ⟨r, rfl⟩ : ∃ n : Nat, r = n := ⟨r.toNat, by omega⟩
          obtain ⟨q, rfl⟩ : ∃ n : Nat, q = n := ⟨q.toNat, by omega⟩
          simp only [Int.toNat_natCast] at hex
          have hul1 := Lib.uvarint_length64 (x := r) (by omega)
          have hul2 := Lib.uvarint_length64 (x := q) (by omega)
          have hn1 := fun W => refnum_ok r (by omega) W
          have hn2 := fun W => refnum_ok q (by omega) W
          have hfin : (⟨(Lib.uvarint l.length ++ encD (l.take k)).toArray⟩ : ByteArray) ++ ⟨(Lib.uvarint r).toArray⟩ ++ ⟨(Lib.uvarint q).toArray⟩ = ⟨(Lib.uvarint l.length ++ encD (l.take (k + 1))).toArray⟩ := by
            rw [str_join, hex]; simp
          have HF := Lib.hid hfin
          have z1 : (⟨(Lib.uvarint l.length ++ encD (l.take k)).toArray⟩ : ByteArray).size ≤ 100000 := by simp only [ByteArray.size, List.size_toArray, List.length_append]; omega
          have z2 : (⟨(Lib.uvarint r).toArray⟩ : ByteArray).size ≤ 10 := by simpa [ByteArray.size] using hul1
          have z3 : (⟨(Lib.uvarint q).toArray⟩ : ByteArray).size ≤ 10 := by simpa [ByteArray.size] using hul2
          have z4 : ((⟨(Lib.uvarint l.length ++ encD (l.take k)).toArray⟩ : ByteArray) ++ ⟨(Lib.uvarint r).toArray⟩).size ≤ 100010 := by rw [ByteArray.size_append]; omega
          clear hex hel hul0 hul1 hul2 hfin hd hde hdok hdin
          generalize (⟨(Lib.uvarint l.length ++ encD (l.take k)).toArray⟩ : ByteArray) = x1 at *
          generalize (⟨(Lib.uvarint r).toArray⟩ : ByteArray) = x2 at *
          generalize (⟨(Lib.uvarint q).toArray⟩ : ByteArray) = x3 at *
          go_wp2_with fail
          refine (hn1 _).mono ?_
          rintro e w3 ⟨rfl, hb3⟩
          have c1' : w3.cell? ⟨b, off + k * 2 + 1, none⟩ = some (.int .i64 (q : Int)) := by rw [hb3.cell (p := ⟨b, off + k * 2 + 1, none⟩) hbl]; exact c1
          have hbl3 : b < w3.heap.size := Nat.lt_of_lt_of_le hbl hb3.size
          have HB3 := Lib.hid (HB.out.trans (hb3.mono hbs))
          have hbs3 := HB3.out.size
          clear hb3 c0 c1 hbl
          go_wp2_with fail
          refine (hn2 _).mono ?_
          rintro e w4 ⟨rfl, hb4⟩
          have HB4 := Lib.hid (HB3.out.trans (hb4.mono hbs3))
          clear hb4 c1'
          go_wp2_with fail
          go_roundw
          case rel => exact ⟨k + 1, by omega, by go_num, by rw [HF.out], HB4.out⟩
          case measure => simp [intOf]; omega
        · obtain rfl : k = l.length := by omega
          have hfin : (⟨(Lib.uvarint l.length ++ encD (l.take l.length)).toArray⟩ : ByteArray) = ⟨(encDs l).toArray⟩ := by rw [List.take_length]; rfl
          rw [hfin]
          clear hfin
          go_wp2_with fail
          go_ret2
          rw [HPD.out]
          exact ⟨rfl, HB.out⟩
    · rw [if_neg he] at hpd
      rw [hpd]
      have hne : (chkL l != 0) = true := by simp [he]
      generalize chkL l = E at *
      clear hpd he
      go_enter Tryz.func25, Tryz.ntmps25
      go_wp2_with fail
      refine (hck _ H.out).mono ?_
      rintro e w1 ⟨rfl, hb1⟩
      have HB1 := Lib.hid hb1
      clear hb1
      go_wp2_with fail
      go_ret2
      exact ⟨rfl, HB1.out⟩
end Go.Proofs.YtkodololdjainaaGreat
