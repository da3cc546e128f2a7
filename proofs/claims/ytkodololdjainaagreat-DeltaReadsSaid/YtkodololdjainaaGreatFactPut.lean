/-
  Put of facts, the program's: list.Lay of texts, putFact, list.Lay, list.Put, fact.Put.
-/
import Derived.Test.YtkodololdjainaaGreatFactLst
import Derived.Test.YtkodololdjainaaGreatGDelJ
import Derived.Test.YtkodololdjainaaGreatGDelA
namespace Go.Proofs.YtkodololdjainaaGreat
set_option maxRecDepth 100000
open Go.Shelf Go.RowKit Go.Sort

def encXs (l : List ByteArray) : List UInt8 := l.flatMap encX
theorem encXs_snoc (l : List ByteArray) {k : Nat} (hk : k < l.length) : encXs (l.take (k + 1)) = encXs (l.take k) ++ encX (l.getD k ByteArray.empty) := by
  have e : encXs (l.take k ++ [l[k]]) = encXs (l.take k) ++ encX l[k] := by unfold encXs; rw [List.flatMap_append, List.flatMap_singleton]
  rw [List.take_succ_eq_append_getElem hk, List.getD_eq_getElem?_getD, List.getElem?_eq_getElem hk, Option.getD_some, e]
theorem encX_len (s : ByteArray) (h : s.size ≤ 65536) : (encX s).length ≤ 65546 := by
  have h1 := Lib.uvarint_length64 (x := s.size) (by omega)
  have h2 := ba_len s
  unfold encX
  rw [List.length_append]
  omega
theorem encXs_len : ∀ (l : List ByteArray), (∀ s ∈ l, s.size ≤ 65536) → (encXs l).length ≤ l.length * 65546 := by
  intro l
  induction l with
  | nil => intro _; simp [encXs]
  | cons s r ih =>
    intro h
    have h1 := ih (fun x hx => h x (by simp [hx]))
    have h2 := encX_len s (h s (by simp))
    have e : encXs (s :: r) = encX s ++ encXs r := rfl
    rw [e, List.length_append, List.length_cons]
    omega
theorem encF1_len (f : Ft) (h : chkFm f = 0) : (encF1 f).length ≤ 20000 := by
  obtain ⟨h1, h2, h3, h4, h5, h6, h7⟩ := chkF_ok h
  have k1 := chkD_ok h1
  have k2 := chkS_ok h2
  have u1 := Lib.uvarint_length64 (x := f.d.1.toNat) (by omega)
  have u2 := Lib.uvarint_length64 (x := f.d.2.toNat) (by omega)
  have u3 := Lib.uvarint_length64 (x := f.s.t.toNat) (by omega)
  have u4 := Lib.uvarint_length64 (x := f.s.c.toNat) (by omega)
  have u5 := Lib.uvarint_length64 (x := f.k.toNat) (by omega)
  have u6 := Lib.uvarint_length64 (x := f.n.size) (by omega)
  have u7 := Lib.uvarint_length64 (x := f.v.size) (by omega)
  have v6 := ba_len f.n
  have v7 := ba_len f.v
  unfold encF1 encX
  simp only [List.length_append]
  omega
theorem encF_len : ∀ (l : List Ft), (∀ f ∈ l, chkFm f = 0) → (encF l).length ≤ l.length * 20000 := by
  intro l
  induction l with
  | nil => intro _; simp [encF]
  | cons s r ih =>
    intro h
    have h1 := ih (fun x hx => h x (by simp [hx]))
    have h2 := encF1_len s (h s (by simp))
    have e : encF (s :: r) = encF1 s ++ encF r := rfl
    rw [e, List.length_append, List.length_cons]
    omega

set_option maxHeartbeats 4000000 in
set_option maxRecDepth 100000 in
theorem layX (a : Option Addr) (cap : Nat) (ns : List ByteArray) (w : World) (hrow : StrRow w a ns) (hl : ns.length ≤ 4096) (hsz : ∀ n ∈ ns, n.size ≤ 65536) :
    Calls Tryz.prog 21 #[.slice a ns.length cap, .func (.func 22) #[] #[]] w fun e w' => e = .returned (.tuple #[.string ⟨(encXs ns).toArray⟩, .int .i64 0]) ∧ Go.RowKit.Below w.heap.size w w' := by
  have HROW := Lib.hid hrow
  have HSZ := Lib.hid hsz
  have hb0 : Go.RowKit.Below w.heap.size w (w.alloc (.cells #[.pointer none, .slice none 0 0] 92)) := (Below.refl _ _).alloc (Nat.le_refl _) _
  have HB0 := Lib.hid hb0
  have HBN := Lib.hid (bld_new w)
  clear hrow hsz hb0
  go_enter Tryz.func21, Tryz.ntmps21
  go_wp2_with fail
  go_loopw [13] (fun i wr => ∃ k : Nat, k ≤ ns.length ∧ i = .int .i64 k ∧ Hid (Lib.IsBuilder 92 5 w.heap.size w.heap.size (Lib.byteCells (encXs (ns.take k))) wr ∧ Go.RowKit.Below w.heap.size w wr)) (fun i _ => ns.length - (intOf i).toNat)
  case atStart => exact ⟨0, Nat.zero_le _, rfl, ⟨HBN.out, HB0.out⟩⟩
  case round =>
    rename_i wr
    obtain ⟨k, hk, rfl, hh⟩ := hrel
    by_cases hlt : k < ns.length
    · obtain ⟨b, off, rfl, hbw, hck⟩ : ∃ b off, a = some ⟨b, off, none⟩ ∧ b < wr.heap.size ∧ wr.cell? ⟨b, off + k, none⟩ = some (.string (ns.getD k ByteArray.empty)) := by
        rcases HROW.out.below hh.out.2 with h | ⟨b, off, rfl, h1, h2⟩
        · rw [h] at hlt; simp at hlt
        · exact ⟨b, off, rfl, h1, h2 k hlt⟩
      have hi1 : (k : Int) < (ns.length : Int) := by omega
      have hbs := hh.out.2.size
      have hmem : ns.getD k ByteArray.empty ∈ ns := by rw [List.getD_eq_getElem?_getD, List.getElem?_eq_getElem hlt]; exact List.getElem_mem _
      have HP := Lib.hid (text_ok _ (HSZ.out _ hmem) wr)
      have HE := Lib.hid (encXs_snoc ns hlt)
      have HLE := Lib.hid (encXs_len (ns.take k) (fun n hn => HSZ.out n (List.mem_of_mem_take hn)))
      have hul := encX_len _ (HSZ.out _ hmem)
      have hx : Lib.uvarint (ns.getD k ByteArray.empty).size ++ (ns.getD k ByteArray.empty).data.toList = encX (ns.getD k ByteArray.empty) := rfl
      rw [hx] at HP
      clear hmem hx
      generalize ns.getD k ByteArray.empty = x at *
      obtain ⟨R, hR⟩ : ∃ R : ByteArray, ⟨(encX x).toArray⟩ = R := ⟨_, rfl⟩
      have HR := Lib.hid hR
      rw [hR] at HP
      clear hR
      go_wp2_with fail
      refine HP.out.mono ?_
      rintro e w2 ⟨rfl, hb2⟩
      have hbl := bld_below hh.out.1 hb2
      have HB2 := Lib.hid (hh.out.2.trans (hb2.mono hbs))
      have hRl : R.data.toList = encX x := by rw [← HR.out]
      have hws := Any.Builder_WriteString bldW bldX w.heap.size w.heap.size (Lib.byteCells (encXs (ns.take k))) R w2 hbl (by
        have h2 := congrArg List.length hRl
        rw [ba_len] at h2
        have h3 := HLE.out
        rw [List.length_take] at h3
        simp only [Lib.byteCells, List.length_map]
        omega) HB2.out.size
      have HWS := Lib.hid hws
      have HRL := Lib.hid hRl
      clear hb2 hbl hws hRl hck
      go_wp2_with fail
      refine HWS.out.mono ?_
      rintro e w3 ⟨rfl, hbl3, hb3⟩
      have H3 := Lib.hid (show Lib.IsBuilder 92 5 w.heap.size w.heap.size (Lib.byteCells (encXs (ns.take (k + 1)))) w3 ∧ Go.RowKit.Below w.heap.size w w3 from ⟨by
        rw [HE.out, ← HRL.out]
        right
        have e : Lib.byteCells (encXs (ns.take k) ++ R.data.toList) = Lib.byteCells (encXs (ns.take k)) ++ Lib.strCells R := by simp [Lib.byteCells, Lib.strCells]
        rw [e]; exact hbl3, HB2.out.trans hb3⟩)
      clear hbl3 hb3
      go_wp2_with fail
      go_roundw
      case rel => exact ⟨k + 1, by omega, by go_num, H3⟩
      case measure => simp [intOf]; omega
    · obtain rfl : k = ns.length := by omega
      have hs := Any.Builder_String_any bldS bldX w.heap.size w.heap.size (encXs (ns.take ns.length)) wr hh.out.1 hh.out.2.size
      rw [List.take_length] at hs
      have HS := Lib.hid hs
      have HB := Lib.hid hh.out.2
      clear hs hh
      go_wp2_with fail
      refine HS.out.mono ?_
      rintro e w2 ⟨rfl, hb2⟩
      have H2 := Lib.hid (HB.out.trans hb2)
      clear hb2
      go_wp2_with fail
      go_ret2
      exact ⟨rfl, H2.out⟩


set_option maxHeartbeats 4000000 in
theorem putFactC (f : Ft) (hd : chkFm f = 0) (w : World) : Calls Tryz.prog 55 #[.agg (fcs f).toArray] w fun e w' => e = .returned (.tuple #[.string ⟨(encF1 f).toArray⟩, .int .i64 0]) ∧ Go.RowKit.Below w.heap.size w w' := by
  obtain ⟨h1, h2, h3, h4, h5, h6, h7⟩ := chkF_ok hd
  have k1 := chkD_ok h1
  have k2 := chkS_ok h2
  have hin := boxF_in w f
  have hsz := boxF_size w f
  have hg := (boxF_gr w f).below
  have hlay := fun W h => layI (some ⟨w.heap.size + 1, 0, none⟩) 5 [f.d.1.toNat, f.d.2.toNat, f.s.t.toNat, f.s.c.toNat, f.k.toNat] W h (by simp) (by simp; omega)
  have hlax := fun g W h => layX (some ⟨g, 0, none⟩) 2 [f.n, f.v] W h (by simp) (by simp; omega)
  have hrow : IntRow ((boxF w f).alloc (.cells #[.int .i64 f.d.1, .int .i64 f.d.2, .int .i64 f.s.t, .int .i64 f.s.c, .int .i64 f.k] 3)) (some ⟨w.heap.size + 1, 0, none⟩) [f.d.1.toNat, f.d.2.toNat, f.s.t.toNat, f.s.c.toNat, f.k.toNat] := by
    refine .inr ⟨w.heap.size + 1, rfl, by simp [boxF], fun j hj => ?_⟩
    have hb := heap_alloc_new (boxF w f) (.cells #[.int .i64 f.d.1, .int .i64 f.d.2, .int .i64 f.s.t, .int .i64 f.s.c, .int .i64 f.k] 3)
    rw [boxF_size] at hb
    rw [Joins.cell_of_block hb]
    match j, hj with
    | 0, _ => simp; omega
    | 1, _ => simp; omega
    | 2, _ => simp; omega
    | 3, _ => simp; omega
    | 4, _ => simp; omega
    | j + 5, hj => simp at hj; omega
  have hb : Go.RowKit.Below w.heap.size w ((boxF w f).alloc (.cells #[.int .i64 f.d.1, .int .i64 f.d.2, .int .i64 f.s.t, .int .i64 f.s.c, .int .i64 f.k] 3)) := hg.alloc (by rw [boxF_size]; omega) _
  have hbx : Go.RowKit.Below (boxF w f).heap.size (boxF w f) ((boxF w f).alloc (.cells #[.int .i64 f.d.1, .int .i64 f.d.2, .int .i64 f.s.t, .int .i64 f.s.c, .int .i64 f.k] 3)) := (Below.refl _ _).alloc (Nat.le_refl _) _
  have he : (⟨(encN [f.d.1.toNat, f.d.2.toNat, f.s.t.toNat, f.s.c.toNat, f.k.toNat]).toArray⟩ : ByteArray) ++ ⟨(encXs [f.n, f.v]).toArray⟩ = ⟨(encF1 f).toArray⟩ := by
    rw [append_str]
    simp [encN, encXs, encF1]
  have hz := encN_len [f.d.1.toNat, f.d.2.toNat, f.s.t.toNat, f.s.c.toNat, f.k.toNat] (by simp; omega)
  have hz2 := encXs_len [f.n, f.v] (by simp; omega)
  have hs1 : (⟨(encN [f.d.1.toNat, f.d.2.toNat, f.s.t.toNat, f.s.c.toNat, f.k.toNat]).toArray⟩ : ByteArray).size ≤ 50 := by simpa [ByteArray.size] using hz
  have hs2 : (⟨(encXs [f.n, f.v]).toArray⟩ : ByteArray).size ≤ 131092 := by simpa [ByteArray.size] using hz2
  have cells : ∀ j v, (fcs f)[j]? = some v → (boxF w f).cell? ⟨w.heap.size, j, none⟩ = some v := fun j v hv => by
    have := hin j v hv
    rwa [Nat.zero_add] at this
  have c0 := cells 0 _ rfl
  have c1 := cells 1 _ rfl
  have c2 := cells 2 _ rfl
  have c3 := cells 3 _ rfl
  have c5 := cells 5 _ rfl
  have hlt : w.heap.size < (boxF w f).heap.size := by omega
  have HCELL := Lib.hid cells
  have HLT := Lib.hid hlt
  have HE := Lib.hid he
  have HROW := Lib.hid hrow
  have HB := Lib.hid hb
  have HBX := Lib.hid hbx
  have HLAY := Lib.hid hlay
  have HLAX := Lib.hid hlax
  clear hin cells hrow hb hbx hlay hlax he hz hz2 hd h1 h2 h3 h4 h5 h6 h7 k1 k2 hg hlt
  simp only [List.length_cons, List.length_nil] at HLAY HLAX
  generalize (⟨(encN [f.d.1.toNat, f.d.2.toNat, f.s.t.toNat, f.s.c.toNat, f.k.toNat]).toArray⟩ : ByteArray) = E1 at *
  generalize (⟨(encXs [f.n, f.v]).toArray⟩ : ByteArray) = E2 at *
  unfold boxF at c0 c1 c2 c3 c5 HROW HB HBX hsz
  go_enter Tryz.func55, Tryz.ntmps55
  go_wp2_with fail
  clear c0 c1 c2 c3 c5
  refine (HLAY.out _ HROW.out).mono ?_
  rintro e w1 ⟨rfl, hb1⟩
  have hcl : ∀ j v, (fcs f)[j]? = some v → w1.cell? ⟨w.heap.size, j, none⟩ = some v := fun j v hv => by
    have hbb := HBX.out.trans (hb1.mono HBX.out.size)
    rw [hbb.cell (p := ⟨w.heap.size, j, none⟩) HLT.out]
    exact HCELL.out j v hv
  have c6 := hcl 6 _ rfl
  have c7 := hcl 7 _ rfl
  have HB1 := Lib.hid (HB.out.trans (hb1.mono HB.out.size))
  have hr2 : StrRow (w1.alloc (.cells #[.string f.n, .string f.v] 9)) (some ⟨w1.heap.size, 0, none⟩) [f.n, f.v] := by
    refine .inr ⟨w1.heap.size, 0, rfl, by simp, fun j hj => ?_⟩
    rw [Nat.zero_add, Joins.cell_of_block (heap_alloc_new w1 _)]
    match j, hj with
    | 0, _ => rfl
    | 1, _ => rfl
    | j + 2, hj => simp at hj; omega
  have HR2 := Lib.hid hr2
  have HB2 := Lib.hid (show Go.RowKit.Below w.heap.size w (w1.alloc (.cells #[.string f.n, .string f.v] 9)) from HB1.out.alloc HB1.out.size _)
  clear hb1 hcl hr2 HROW HLAY HBX HB
  go_wp2_with fail
  refine (HLAX.out _ _ HR2.out).mono ?_
  rintro e w2 ⟨rfl, hb2⟩
  have H3 := Lib.hid (HB2.out.trans (hb2.mono HB2.out.size))
  clear hb2 c6 c7
  go_wp2_with fail
  go_ret2
  rw [← HE.out]
  exact ⟨rfl, H3.out⟩

set_option maxHeartbeats 4000000 in
set_option maxRecDepth 100000 in
theorem layF (l : List Ft) (a : Option Addr) (cap : Nat) (w : World) (h : FIn w a l) (hl : l.length ≤ 4096) (hg : ∀ d ∈ l, chkFm d = 0) :
    Calls Tryz.prog 77 #[.slice a l.length cap, .func (.func 55) #[] #[]] w fun e w' => e = .returned (.tuple #[.string ⟨(encF l).toArray⟩, .int .i64 0]) ∧ Go.RowKit.Below w.heap.size w w' := by
  have HROW := Lib.hid h
  have HG := Lib.hid hg
  have hb0 : Go.RowKit.Below w.heap.size w (w.alloc (.cells #[.pointer none, .slice none 0 0] 92)) := (Below.refl _ _).alloc (Nat.le_refl _) _
  have HB0 := Lib.hid hb0
  have HBN := Lib.hid (bld_new w)
  clear h hg hb0
  go_enter Tryz.func77, Tryz.ntmps77
  go_wp2_with fail
  go_loopw [13] (fun i wr => ∃ k : Nat, k ≤ l.length ∧ i = .int .i64 k ∧ Hid (Lib.IsBuilder 92 5 w.heap.size w.heap.size (Lib.byteCells (encF (l.take k))) wr ∧ Go.RowKit.Below w.heap.size w wr)) (fun i _ => l.length - (intOf i).toNat)
  case atStart => exact ⟨0, Nat.zero_le _, rfl, ⟨HBN.out, HB0.out⟩⟩
  case round =>
    rename_i wr
    obtain ⟨k, hk, rfl, hh⟩ := hrel
    by_cases hlt : k < l.length
    · obtain ⟨d, hd⟩ : ∃ d, l[k]? = some d := ⟨_, List.getElem?_eq_getElem hlt⟩
      obtain ⟨b, off, rfl, hbl, c0⟩ := (HROW.out.below hh.out.2).at hd
      have hi1 : (k : Int) < (l.length : Int) := by omega
      have hbs := hh.out.2.size
      have hde : l[k] = d := by rw [List.getElem?_eq_getElem hlt] at hd; exact Option.some.inj hd
      have hdk := HG.out d (List.mem_of_getElem? hd)
      have HP := Lib.hid (fun W => putFactC d hdk W)
      have HE := Lib.hid (show encF (l.take (k + 1)) = encF (l.take k) ++ (encF1 d) by rw [List.take_succ_eq_append_getElem hlt, encF_snoc, hde])
      have hel := encF_len (l.take k) (fun x hx => HG.out x (List.mem_of_mem_take hx))
      rw [List.length_take] at hel
      have HLE := Lib.hid hel
      have hul := encF1_len d hdk
      have hbz := boxZ_below wr d
      have HC0 := Lib.hid c0
      clear hd hde hdk hel c0
      generalize encF1 d = X at HP HE hul
      obtain ⟨R, hR⟩ : ∃ R : ByteArray, ⟨X.toArray⟩ = R := ⟨_, rfl⟩
      have HR := Lib.hid hR
      rw [hR] at HP
      clear hR
      have HBZ := Lib.hid hbz
      clear hbz
      go_wp2_with (first
        | ((with_reducible refine fl_load ?_ (.tmp 15) ?_ b (off + k * 8) d ?_ ?_ ?_); rfl; rfl; rfl; exact HC0.out)
        | ((with_reducible refine fl_store ?_ (.tmp 8) (.tmp 16) ?_ wr.heap.size d ?_ ?_ ?_ ?_); rfl; rfl; rfl; rfl; exact boxZ_old wr)
        | ((with_reducible refine fl_load ?_ (.tmp 8) ?_ wr.heap.size 0 d ?_ ?_ ?_); rfl; rfl; rfl; exact (boxZ_row wr d).range))
      refine (HP.out _).mono ?_
      rintro e w2 ⟨rfl, hb2⟩
      have hb3 : Go.RowKit.Below wr.heap.size wr w2 := HBZ.out.trans (hb2.mono HBZ.out.size)
      have hbl := bld_below hh.out.1 hb3
      have HB2 := Lib.hid (hh.out.2.trans (hb3.mono hbs))
      have hRl : R.data.toList = X := by rw [← HR.out]
      have hws := Any.Builder_WriteString bldW bldX w.heap.size w.heap.size (Lib.byteCells (encF (l.take k))) R w2 hbl (by
        have h2 := congrArg List.length hRl
        rw [ba_len] at h2
        have h3 := HLE.out
        simp only [Lib.byteCells, List.length_map]
        omega) HB2.out.size
      have HWS := Lib.hid hws
      have HRL := Lib.hid hRl
      clear hb2 hb3 hbl hws hRl
      go_wp2_with fail
      refine HWS.out.mono ?_
      rintro e w3 ⟨rfl, hbl3, hb3⟩
      have H3 := Lib.hid (show Lib.IsBuilder 92 5 w.heap.size w.heap.size (Lib.byteCells (encF (l.take (k + 1)))) w3 ∧ Go.RowKit.Below w.heap.size w w3 from ⟨by
        rw [HE.out, ← HRL.out]
        right
        have e : Lib.byteCells (encF (l.take k) ++ R.data.toList) = Lib.byteCells (encF (l.take k)) ++ Lib.strCells R := by simp [Lib.byteCells, Lib.strCells]
        rw [e]; exact hbl3, HB2.out.trans hb3⟩)
      clear hbl3 hb3
      go_wp2_with fail
      go_roundw
      case rel => exact ⟨k + 1, by omega, by go_num, H3⟩
      case measure => simp [intOf]; omega
    · obtain rfl : k = l.length := by omega
      have hs := Any.Builder_String_any bldS bldX w.heap.size w.heap.size (encF (l.take l.length)) wr hh.out.1 hh.out.2.size
      rw [List.take_length] at hs
      have HS := Lib.hid hs
      have HB := Lib.hid hh.out.2
      clear hs hh
      go_wp2_with fail
      refine HS.out.mono ?_
      rintro e w2 ⟨rfl, hb2⟩
      have H2 := Lib.hid (HB.out.trans hb2)
      clear hb2
      go_wp2_with fail
      go_ret2
      exact ⟨rfl, H2.out⟩

set_option maxHeartbeats 4000000 in
set_option maxRecDepth 100000 in
theorem lputF (l : List Ft) (a : Option Addr) (cap : Nat) (w : World) (h : FIn w a l) (hl : l.length ≤ maxLen) (hv : ∀ f ∈ l, f.v.size ≤ 5000) :
    Calls Tryz.prog 52 #[.slice a l.length cap, .func (.func 53) #[] #[], .func (.func 54) #[] #[], .func (.func 55) #[] #[]] w fun e w' => e = .returned (.tuple #[.string (putF rdM l).1, .int .i64 (putF rdM l).2]) ∧ Go.RowKit.Below w.heap.size w w' := by
  have H := Lib.hid h
  have hck := fun W (hh : FIn W a l) => chkFsC l a cap W hh hl hv
  clear h
  unfold maxLen at hl
  have hpd : putF rdM l = if 4096 < l.length then (⟨#[]⟩, 3) else if chkFs rdM l = 0 then (⟨(encFs l).toArray⟩, 0) else (⟨#[]⟩, chkFs rdM l) := rfl
  by_cases hbig : 4096 < l.length
  · rw [if_pos hbig] at hpd
    rw [hpd]
    clear hpd hck
    have hbi : (4096 : Int) < (l.length : Int) := by omega
    go_enter Tryz.func52, Tryz.ntmps52
    go_wp2_with fail
    go_ret2
    exact ⟨rfl, Below.refl _ _⟩
  · rw [if_neg hbig] at hpd
    have hsm : l.length ≤ 4096 := by omega
    have hbi : ¬ (4096 : Int) < (l.length : Int) := by omega
    by_cases he : chkFs rdM l = 0
    · rw [if_pos he] at hpd
      obtain ⟨hgood, -⟩ := chkFs_ok he
      rw [he] at hck
      have hnum := fun W => num_ok l.length (by omega) W
      have hlay := fun W (hh : FIn W a l) => layF l a cap W hh hsm hgood
      have hel := encF_len l hgood
      have hul := Lib.uvarint_length64 (x := l.length) (by omega)
      have hfin : (⟨(Lib.uvarint l.length).toArray⟩ : ByteArray) ++ ⟨(encF l).toArray⟩ = ⟨(encFs l).toArray⟩ := by rw [append_str]; rfl
      have hz1 : (⟨(Lib.uvarint l.length).toArray⟩ : ByteArray).size ≤ 10 := by simpa [ByteArray.size] using hul
      have hz2 : (⟨(encF l).toArray⟩ : ByteArray).size ≤ 100000000 := by simp only [ByteArray.size, List.size_toArray]; omega
      rw [← hfin] at hpd
      have HPD := Lib.hid hpd
      have HLAY := Lib.hid hlay
      have HNUM := Lib.hid hnum
      clear hpd he hgood hbig hel hul hfin hlay hnum
      generalize (⟨(Lib.uvarint l.length).toArray⟩ : ByteArray) = x1 at *
      generalize (⟨(encF l).toArray⟩ : ByteArray) = x2 at *
      go_enter Tryz.func52, Tryz.ntmps52
      go_wp2_with fail
      refine (hck _ H.out).mono ?_
      rintro e w1 ⟨rfl, hb1⟩
      have HB1 := Lib.hid hb1
      clear hb1 hck
      go_wp2_with fail
      refine (HNUM.out _).mono ?_
      rintro e w2 ⟨rfl, hb2⟩
      have HB2 := Lib.hid (HB1.out.trans (hb2.mono HB1.out.size))
      clear hb2
      go_wp2_with fail
      refine (HLAY.out _ (H.out.below HB2.out)).mono ?_
      rintro e w3 ⟨rfl, hb3⟩
      have HB3 := Lib.hid (HB2.out.trans (hb3.mono HB2.out.size))
      clear hb3
      go_wp2_with fail
      go_ret2
      rw [HPD.out]
      exact ⟨rfl, HB3.out⟩
    · rw [if_neg he] at hpd
      rw [hpd]
      have hne : (chkFs rdM l != 0) = true := by simp [he]
      generalize chkFs rdM l = E at *
      clear hpd he
      go_enter Tryz.func52, Tryz.ntmps52
      go_wp2_with fail
      refine (hck _ H.out).mono ?_
      rintro e w1 ⟨rfl, hb1⟩
      have HB1 := Lib.hid hb1
      clear hb1
      go_wp2_with fail
      go_ret2
      exact ⟨rfl, HB1.out⟩

theorem putFC (l : List Ft) (a : Option Addr) (cap : Nat) (w : World) (h : FIn w a l) (hl : l.length ≤ maxLen) (hv : ∀ f ∈ l, f.v.size ≤ 5000) :
    Calls Tryz.prog 19 #[.slice a l.length cap] w fun e w' => e = .returned (.tuple #[.string (putF rdM l).1, .int .i64 (putF rdM l).2]) ∧ Go.RowKit.Below w.heap.size w w' := by
  have H := Lib.hid (lputF l a cap w h hl hv)
  clear h hl hv
  go_enter Tryz.func19, Tryz.ntmps19
  go_wp2_with fail
  refine H.out.mono ?_
  rintro e w1 ⟨rfl, hb1⟩
  go_wp2_with fail
  go_ret2
  exact ⟨rfl, hb1⟩

end Go.Proofs.YtkodololdjainaaGreat
