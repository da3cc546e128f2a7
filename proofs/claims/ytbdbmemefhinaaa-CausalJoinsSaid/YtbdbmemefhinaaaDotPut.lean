/-
  Put: the program's (over putNumbers), and the document's.
-/
import Derived.Test.YtbdbmemefhinaaaGCauG
import Derived.Test.YtbdbmemefhinaaaGCauK
import Derived.Test.YtbdbmemefhinaaaGCauB
import Derived.Test.YtbdbmemefhinaaaGCauL
import Derived.Test.YtbdbmemefhinaaaGCauA
namespace Go.Proofs.Ytbdbmemefhinaaa
set_option maxRecDepth 100000
open Go.Shelf Go.RowKit Go.Sort

set_option maxHeartbeats 4000000 in
set_option maxRecDepth 100000 in
theorem putN_any (a : Option Addr) (cap : Nat) (ns : List Nat) (w : World) (hrow : IntRow w a ns) (hl : ns.length ≤ 100000) (hsz : ∀ n ∈ ns, n ≤ 9007199254740992) :
    Calls Try.prog 73 #[.slice a ns.length cap] w fun e w' => e = .returned (.tuple #[.string ⟨(encN ns).toArray⟩, .int .i64 0]) ∧ Go.RowKit.Below w.heap.size w w' := by
  have HROW := Lib.hid hrow
  have HSZ := Lib.hid hsz
  have hb0 : Go.RowKit.Below w.heap.size w (w.alloc (.cells #[.pointer none, .slice none 0 0] 100)) := (Below.refl _ _).alloc (Nat.le_refl _) _
  have HB0 := Lib.hid hb0
  have HBN := Lib.hid (bld_new w)
  clear hrow hsz hb0
  go_enter Try.func73, Try.ntmps73
  go_wp2_with fail
  go_loopw [11] (fun i wr => ∃ k : Nat, k ≤ ns.length ∧ i = .int .i64 k ∧ Hid (Lib.IsBuilder 100 5 w.heap.size w.heap.size (Lib.byteCells (encN (ns.take k))) wr ∧ Go.RowKit.Below w.heap.size w wr)) (fun i _ => ns.length - (intOf i).toNat)
  case atStart => exact ⟨0, Nat.zero_le _, rfl, ⟨HBN.out, HB0.out⟩⟩
  case round =>
    rename_i wr
    obtain ⟨k, hk, rfl, hh⟩ := hrel
    by_cases hlt : k < ns.length
    · obtain ⟨b, rfl, hlt', hc⟩ : ∃ b, a = some ⟨b, 0, none⟩ ∧ b < w.heap.size ∧ ∀ j, j < ns.length → wr.cell? ⟨b, j, none⟩ = some (.int .i64 (ns.getD j 0 : Nat)) := by
        rcases HROW.out with h | ⟨b, rfl, h1, h2⟩
        · rw [h] at hlt; simp at hlt
        · exact ⟨b, rfl, h1, fun j hj => by rw [hh.out.2.cell (p := ⟨b, j, none⟩) h1]; exact h2 j hj⟩
      have hck := hc k hlt
      have hbs := hh.out.2.size
      have hbw : b < wr.heap.size := by omega
      have hmem : ns.getD k 0 ∈ ns := by rw [List.getD_eq_getElem?_getD, List.getElem?_eq_getElem hlt]; exact List.getElem_mem _
      have HP := Lib.hid (num_ok _ (HSZ.out _ hmem) wr)
      have HE := Lib.hid (encN_snoc ns hlt)
      have HLE := Lib.hid (encN_len (ns.take k) (fun n hn => HSZ.out n (List.mem_of_mem_take hn)))
      have hul := Lib.uvarint_length64 (x := ns.getD k 0) (by have := HSZ.out _ hmem; omega)
      clear hc hmem
      generalize ns.getD k 0 = x at *
      obtain ⟨R, hR⟩ : ∃ R : ByteArray, ⟨(Lib.uvarint x).toArray⟩ = R := ⟨_, rfl⟩
      have HR := Lib.hid hR
      rw [hR] at HP
      clear hR
      go_wp2_with fail
      refine HP.out.mono ?_
      rintro e w2 ⟨rfl, hb2⟩
      have hbl := bld_below hh.out.1 hb2
      have HB2 := Lib.hid (hh.out.2.trans (hb2.mono hbs))
      have hRl : R.data.toList = Lib.uvarint x := by rw [← HR.out]
      have hws := Any.Builder_WriteString bldW bldX w.heap.size w.heap.size (Lib.byteCells (encN (ns.take k))) R w2 hbl (by
        have h2 := congrArg List.length hRl
        rw [ba_len] at h2
        have h3 := HLE.out
        rw [List.length_take] at h3
        simp only [Lib.byteCells, List.length_map]
        omega) HB2.out.size
      have HWS := Lib.hid hws
      have HRL := Lib.hid hRl
      clear hb2 hbl hws hRl hck
      go_wp2_with fail
      refine HWS.out.mono ?_
      rintro e w3 ⟨rfl, hbl3, hb3⟩
      have H3 := Lib.hid (show Lib.IsBuilder 100 5 w.heap.size w.heap.size (Lib.byteCells (encN (ns.take (k + 1)))) w3 ∧ Go.RowKit.Below w.heap.size w w3 from ⟨by
        rw [HE.out, ← HRL.out]
        right
        have e : Lib.byteCells (encN (ns.take k) ++ R.data.toList) = Lib.byteCells (encN (ns.take k)) ++ Lib.strCells R := by simp [Lib.byteCells, Lib.strCells]
        rw [e]; exact hbl3, HB2.out.trans hb3⟩)
      clear hbl3 hb3
      go_wp2_with fail
      go_roundw
      case rel => exact ⟨k + 1, by omega, by go_num, H3⟩
      case measure => simp [intOf]; omega
    · obtain rfl : k = ns.length := by omega
      have hs := Any.Builder_String_any bldS bldX w.heap.size w.heap.size (encN (ns.take ns.length)) wr hh.out.1 hh.out.2.size
      rw [List.take_length] at hs
      have HS := Lib.hid hs
      have HB := Lib.hid hh.out.2
      clear hs hh
      go_wp2_with fail
      refine HS.out.mono ?_
      rintro e w2 ⟨rfl, hb2⟩
      have H2 := Lib.hid (HB.out.trans hb2)
      clear hb2
      go_wp2_with fail
      go_ret2
      exact ⟨rfl, H2.out⟩

/-- the numbers of a list's bytes -/
def nums (l : List Dt) : List Nat := l.flatMap fun d => [d.1.toNat, d.2.toNat]
theorem encN_nums : ∀ l : List Dt, encN (nums l) = encD l := by
  intro l
  induction l with
  | nil => rfl
  | cons d r ih =>
    have e : nums (d :: r) = [d.1.toNat, d.2.toNat] ++ nums r := rfl
    rw [e, encN_append, ih]
    simp [encN, encD]
theorem nums_len (l : List Dt) : (nums l).length = l.length * 2 := by
  induction l with
  | nil => rfl
  | cons d r ih => simp only [nums, List.flatMap_cons, List.length_append, List.length_cons] at ih ⊢; rw [ih]; simp; omega
theorem nums_take_succ (l : List Dt) {k : Nat} {d : Dt} (hd : l[k]? = some d) : nums (l.take (k + 1)) = nums (l.take k) ++ [d.1.toNat, d.2.toNat] := by
  obtain ⟨hk, he⟩ := List.getElem?_eq_some_iff.1 hd
  rw [List.take_succ_eq_append_getElem hk, he]; simp [nums]
theorem nums_small {l : List Dt} (h : ∀ d ∈ l, chkD d = 0) : ∀ n ∈ nums l, n ≤ 9007199254740992 := by
  intro n hn
  simp only [nums, List.mem_flatMap] at hn
  obtain ⟨d, hd, hx⟩ := hn
  obtain ⟨a, b, c, e⟩ := chkD_ok (h d hd)
  simp at hx
  omega

set_option maxHeartbeats 4000000 in
set_option maxRecDepth 100000 in
theorem putDC (l : List Dt) (a : Option Addr) (cap : Nat) (w : World) (h : DIn w a l) (hl : l.length ≤ maxLen) :
    Calls Try.prog 45 #[.slice a l.length cap] w fun e w' => e = .returned (.tuple #[.string (putD l).1, .int .i64 (putD l).2]) ∧ Go.RowKit.Below w.heap.size w w' := by
  have H := Lib.hid h
  have hck := fun W (hh : DIn W a l) => chkLC l a cap W hh hl
  clear h
  unfold maxLen at hl
  have hpd : putD l = if 4096 < l.length then (⟨#[]⟩, 3) else if chkL l = 0 then (⟨(encDs l).toArray⟩, 0) else (⟨#[]⟩, chkL l) := rfl
  by_cases hbig : 4096 < l.length
  · rw [if_pos hbig] at hpd
    rw [hpd]
    clear hpd hck
    have hbi : (4096 : Int) < (l.length : Int) := by omega
    go_enter Try.func45, Try.ntmps45
    go_wp2_with fail
    go_ret2
    exact ⟨rfl, Below.refl _ _⟩
  · rw [if_neg hbig] at hpd
    have hsm : l.length ≤ 4096 := by omega
    have hbi : ¬ (4096 : Int) < (l.length : Int) := by omega
    by_cases he : chkL l = 0
    · rw [if_pos he] at hpd
      have HPD := Lib.hid hpd
      obtain ⟨hgood, -⟩ := chkL_ok he
      rw [he] at hck
      have HG := Lib.hid hgood
      obtain ⟨i0, hi, hz0, hz1, hz2⟩ := info_parts intInfo
      clear hpd he hgood hbig
      go_enter Try.func45, Try.ntmps45
      go_wp2_with fail
      refine (hck _ H.out).mono ?_
      rintro e w1 ⟨rfl, hb1⟩
      have HB1 := Lib.hid hb1
      have hs1 := hb1.size
      have hown0 : OwnI w1.heap.size (.slice (some ⟨w1.heap.size, 0, none⟩) 1 1) (l.length :: nums (l.take 0)) (w1.alloc (.cells #[.int .i64 (l.length : Int)] 3)) := by
        have h := World.ownsRow_lit (base := w1.heap.size) (e := 3) (size := 1) w1 #[.int .i64 (l.length : Int)] 1 (Nat.le_refl _) (by simp [maxLen]) (by simp)
        exact h
      have HO0 := Lib.hid hown0
      clear hb1 hown0 hck
      go_wp2_with fail
      go_loopw [5, 21] (fun v i wr => ∃ k : Nat, k ≤ l.length ∧ i = .int .i64 k ∧ OwnI w1.heap.size v (l.length :: nums (l.take k)) wr ∧ Go.RowKit.Below w1.heap.size w1 wr) (fun _ i _ => l.length - (intOf i).toNat)
      case atStart => exact ⟨0, Nat.zero_le _, rfl, HO0.out, (Below.refl _ _).alloc (Nat.le_refl _) _⟩
      case round =>
        obtain ⟨k, hk, rfl, hown, hb⟩ := hrel
        have HOWN := Lib.hid hown
        have HB := Lib.hid hb
        have hbs := hb.size
        have hnl : (l.length :: nums (l.take k)).length = 1 + k * 2 := by rw [List.length_cons, nums_len, List.length_take]; omega
        clear hown hb
        by_cases hlt : k < l.length
        · obtain ⟨d, hd⟩ : ∃ d, l[k]? = some d := ⟨_, List.getElem?_eq_getElem hlt⟩
          obtain ⟨b, off, rfl, hbl, c0, c1⟩ := (H.out.below (HB1.out.trans (HB.out.mono hs1))).at hd
          have hi1 : (k : Int) < (l.length : Int) := by omega
          have hdok := chkD_ok (HG.out d (List.mem_of_getElem? hd))
          have hnx := nums_take_succ l hd
          obtain ⟨r, q⟩ := d
          simp only at c0 c1 hdok hnx
          obtain ⟨r, rfl⟩ : ∃ n : Nat, r = n := ⟨r.toNat, by omega⟩
          obtain ⟨q, rfl⟩ : ∃ n : Nat, q = n := ⟨q.toNat, by omega⟩
          have HNX := Lib.hid hnx
          clear hnx hd hdok
          go_wp2_with (at_builtin; refine wpList_append_own _ rfl _ _ 107 rfl w1.heap.size 3 i0 (.int .i64 0) 1 8 Try.underlying107 hi hz0 hz1 hz2 rfl (by decide) _ _ _ rfl ((World.ownsRow.alloc HOWN.out _).alloc _) ⟨wr.heap.size + 1, 0, none⟩ 2 2 [Value.int .i64 r, Value.int .i64 q] rfl rfl ?c1 ?c2 ?c3 ?c4 ?c5 ?_)
          case c1 =>
            intro j u hj
            match j, hj with
            | 0, hj => simp at hj; subst hj; simp [Addr.add, go_sem]
            | 1, hj => simp at hj; subst hj; simp [Addr.add, go_sem]
          case c2 => intro u hu; simp at hu; rcases hu with rfl | rfl <;> rfl
          case c3 => rw [hnl]; unfold maxLen; omega
          case c4 => rw [hnl]; omega
          case c5 => simp; omega
          intro v' w3 hown4 hg3 _
          have hB3 : Go.RowKit.Below w1.heap.size w1 w3 := ((HB.out.alloc hbs _).alloc (by simp; omega) _).grown hg3 (by simp; omega) (fun j hj => (World.ownsRow.lt HOWN.out j hj).1)
          have hown5 : OwnI w1.heap.size v' (l.length :: nums (l.take (k + 1))) w3 := by
            rw [HNX.out]
            unfold OwnI
            have e : (l.length :: (nums (l.take k) ++ [(r : Int).toNat, (q : Int).toNat])) = (l.length :: nums (l.take k)) ++ [r, q] := by simp
            rw [e, List.length_append, List.map_append, hnl]
            exact hown4
          have HOWN5 := Lib.hid hown5
          have HB3 := Lib.hid hB3
          clear hown4 hg3 hown5 hB3 hnl
          go_wp2_with fail
          go_roundw
          case rel => exact ⟨k + 1, by omega, by go_num, HOWN5.out, HB3.out⟩
          case measure => simp [intOf]; omega
        · obtain rfl : k = l.length := by omega
          obtain ⟨ra, rc, hv, hrow, -, -⟩ := ownI_row HOWN.out
          have hgs := nums_small HG.out
          rw [hnl] at hv
          subst hv
          rw [List.take_length] at hrow hnl
          have hfin : encN (l.length :: nums l) = encDs l := by show Lib.uvarint l.length ++ encN (nums l) = _; rw [encN_nums]; rfl
          have hput := putN_any ra rc (l.length :: nums l) wr hrow (by rw [hnl]; omega) (fun n hn => by
            rcases List.mem_cons.1 hn with rfl | hn
            · omega
            · exact hgs n hn)
          rw [hfin, hnl] at hput
          have HPUT := Lib.hid hput
          clear hrow hgs hnl hfin hput
          go_wp2_with fail
          refine HPUT.out.mono ?_
          rintro e w3 ⟨rfl, hb3⟩
          have HB3 := Lib.hid (HB1.out.trans ((HB.out.trans (hb3.mono hbs)).mono hs1))
          clear hb3
          go_wp2_with fail
          go_ret2
          rw [HPD.out]
          exact ⟨rfl, HB3.out⟩
    · rw [if_neg he] at hpd
      rw [hpd]
      have hne : (chkL l != 0) = true := by simp [he]
      generalize chkL l = E at *
      clear hpd he
      go_enter Try.func45, Try.ntmps45
      go_wp2_with fail
      refine (hck _ H.out).mono ?_
      rintro e w1 ⟨rfl, hb1⟩
      have HB1 := Lib.hid hb1
      clear hb1
      go_wp2_with fail
      go_ret2
      exact ⟨rfl, HB1.out⟩

theorem str_join (a b c : List UInt8) : (⟨a.toArray⟩ : ByteArray) ++ ⟨b.toArray⟩ ++ ⟨c.toArray⟩ = ⟨(a ++ (b ++ c)).toArray⟩ := by
  rw [append_str, append_str, List.append_assoc]

set_option maxHeartbeats 4000000 in
set_option maxRecDepth 100000 in
theorem putDR (l : List Dt) (a : Option Addr) (cap : Nat) (w : World) (h : DIn w a l) (hl : l.length ≤ maxLen) :
    Calls Try.prog 48 #[.slice a l.length cap] w fun e w' => e = .returned (.tuple #[.string (putD l).1, .int .i64 (putD l).2]) ∧ Go.RowKit.Below w.heap.size w w' := by
  have H := Lib.hid h
  have hck := fun W (hh : DIn W a l) => chkLR l a cap W hh hl
  clear h
  unfold maxLen at hl
  have hpd : putD l = if 4096 < l.length then (⟨#[]⟩, 3) else if chkL l = 0 then (⟨(encDs l).toArray⟩, 0) else (⟨#[]⟩, chkL l) := rfl
  by_cases hbig : 4096 < l.length
  · rw [if_pos hbig] at hpd
    rw [hpd]
    clear hpd hck
    have hbi : (4096 : Int) < (l.length : Int) := by omega
    go_enter Try.func48, Try.ntmps48
    go_wp2_with fail
    go_ret2
    exact ⟨rfl, Below.refl _ _⟩
  · rw [if_neg hbig] at hpd
    have hsm : l.length ≤ 4096 := by omega
    have hbi : ¬ (4096 : Int) < (l.length : Int) := by omega
    by_cases he : chkL l = 0
    · rw [if_pos he] at hpd
      have HPD := Lib.hid hpd
      obtain ⟨hgood, -⟩ := chkL_ok he
      rw [he] at hck
      have HG := Lib.hid hgood
      have hnum0 := fun W => refnum_ok l.length (by omega) W
      clear hpd he hgood hbig
      go_enter Try.func48, Try.ntmps48
      go_wp2_with fail
      refine (hck _ H.out).mono ?_
      rintro e w1 ⟨rfl, hb1⟩
      have HB1 := Lib.hid hb1
      have hs1 := hb1.size
      clear hb1 hck
      go_wp2_with fail
      refine (hnum0 _).mono ?_
      rintro e w2 ⟨rfl, hb2⟩
      have HB2 := Lib.hid (HB1.out.trans (hb2.mono hs1))
      clear hb2 hnum0
      go_wp2_with fail
      go_loopw [5, 7] (fun v i wr => ∃ k : Nat, k ≤ l.length ∧ i = .int .i64 k ∧ v = .string ⟨(Lib.uvarint l.length ++ encD (l.take k)).toArray⟩ ∧ Go.RowKit.Below w.heap.size w wr) (fun _ i _ => l.length - (intOf i).toNat)
      case atStart => exact ⟨0, Nat.zero_le _, rfl, by simp [encD], HB2.out⟩
      case round =>
        obtain ⟨k, hk, rfl, rfl, hb⟩ := hrel
        have HB := Lib.hid hb
        have hbs := hb.size
        clear hb
        by_cases hlt : k < l.length
        · obtain ⟨d, hd⟩ : ∃ d, l[k]? = some d := ⟨_, List.getElem?_eq_getElem hlt⟩
          have hdin := H.out.below HB.out
          have HDIN := Lib.hid hdin
          obtain ⟨b, off, rfl, hbl, c0, c1⟩ := hdin.at hd
          have hi1 : (k : Int) < (l.length : Int) := by omega
          have hdok := chkD_ok (HG.out d (List.mem_of_getElem? hd))
          have hde : l[k] = d := by rw [List.getElem?_eq_getElem hlt] at hd; exact Option.some.inj hd
          have hex : encD (l.take (k + 1)) = encD (l.take k) ++ (Lib.uvarint d.1.toNat ++ Lib.uvarint d.2.toNat) := by rw [List.take_succ_eq_append_getElem hlt, encD_snoc, hde]
          have hel := encD_len (l.take k) (fun x hx => HG.out x (List.mem_of_mem_take hx))
          rw [List.length_take] at hel
          have hul0 := Lib.uvarint_length64 (x := l.length) (by omega)
          obtain ⟨r, q⟩ := d
          simp only at c0 c1 hdok hex
          obtain ⟨r, rfl⟩ : ∃ n : Nat, r = n := ⟨r.toNat, by omega⟩
          obtain ⟨q, rfl⟩ : ∃ n : Nat, q = n := ⟨q.toNat, by omega⟩
          simp only [Int.toNat_natCast] at hex
          have hul1 := Lib.uvarint_length64 (x := r) (by omega)
          have hul2 := Lib.uvarint_length64 (x := q) (by omega)
          have hn1 := fun W => refnum_ok r (by omega) W
          have hn2 := fun W => refnum_ok q (by omega) W
          have hfin : (⟨(Lib.uvarint l.length ++ encD (l.take k)).toArray⟩ : ByteArray) ++ ⟨(Lib.uvarint r).toArray⟩ ++ ⟨(Lib.uvarint q).toArray⟩ = ⟨(Lib.uvarint l.length ++ encD (l.take (k + 1))).toArray⟩ := by
            rw [str_join, hex]; simp
          have HF := Lib.hid hfin
          have z1 : (⟨(Lib.uvarint l.length ++ encD (l.take k)).toArray⟩ : ByteArray).size ≤ 100000 := by simp only [ByteArray.size, List.size_toArray, List.length_append]; omega
          have z2 : (⟨(Lib.uvarint r).toArray⟩ : ByteArray).size ≤ 10 := by simpa [ByteArray.size] using hul1
          have z3 : (⟨(Lib.uvarint q).toArray⟩ : ByteArray).size ≤ 10 := by simpa [ByteArray.size] using hul2
          have z4 : ((⟨(Lib.uvarint l.length ++ encD (l.take k)).toArray⟩ : ByteArray) ++ ⟨(Lib.uvarint r).toArray⟩).size ≤ 100010 := by rw [ByteArray.size_append]; omega
          clear hex hel hul0 hul1 hul2 hfin hd hde hdok hdin
          generalize (⟨(Lib.uvarint l.length ++ encD (l.take k)).toArray⟩ : ByteArray) = x1 at *
          generalize (⟨(Lib.uvarint r).toArray⟩ : ByteArray) = x2 at *
          generalize (⟨(Lib.uvarint q).toArray⟩ : ByteArray) = x3 at *
          go_wp2_with fail
          refine (hn1 _).mono ?_
          rintro e w3 ⟨rfl, hb3⟩
          have c1' : w3.cell? ⟨b, off + k * 2 + 1, none⟩ = some (.int .i64 (q : Int)) := by rw [hb3.cell (p := ⟨b, off + k * 2 + 1, none⟩) hbl]; exact c1
          have hbl3 : b < w3.heap.size := Nat.lt_of_lt_of_le hbl hb3.size
          have HB3 := Lib.hid (HB.out.trans (hb3.mono hbs))
          have hbs3 := HB3.out.size
          clear hb3 c0 c1 hbl
          go_wp2_with fail
          refine (hn2 _).mono ?_
          rintro e w4 ⟨rfl, hb4⟩
          have HB4 := Lib.hid (HB3.out.trans (hb4.mono hbs3))
          clear hb4 c1'
          go_wp2_with fail
          go_roundw
          case rel => exact ⟨k + 1, by omega, by go_num, by rw [HF.out], HB4.out⟩
          case measure => simp [intOf]; omega
        · obtain rfl : k = l.length := by omega
          have hfin : (⟨(Lib.uvarint l.length ++ encD (l.take l.length)).toArray⟩ : ByteArray) = ⟨(encDs l).toArray⟩ := by rw [List.take_length]; rfl
          rw [hfin]
          clear hfin
          go_wp2_with fail
          go_ret2
          rw [HPD.out]
          exact ⟨rfl, HB.out⟩
    · rw [if_neg he] at hpd
      rw [hpd]
      have hne : (chkL l != 0) = true := by simp [he]
      generalize chkL l = E at *
      clear hpd he
      go_enter Try.func48, Try.ntmps48
      go_wp2_with fail
      refine (hck _ H.out).mono ?_
      rintro e w1 ⟨rfl, hb1⟩
      have HB1 := Lib.hid hb1
      clear hb1
      go_wp2_with fail
      go_ret2
      exact ⟨rfl, HB1.out⟩
end Go.Proofs.Ytbdbmemefhinaaa
