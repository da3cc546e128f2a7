/-
  DiskLasts' walk.
-/
import Derived.Test.YtpianbfcfabejaaDoorDiskFew
namespace Go.Proofs.YtpianbfcfabejaaDoor
open Go.RowKit

theorem take_text (b : List UInt8) (n : Nat) (hn : n ≤ b.length) : ((⟨b.toArray⟩ : ByteArray).extract 0 n).toList = (⟨(b.take n).toArray⟩ : ByteArray).toList := by
  rw [ByteArray.toList_eq, ByteArray.toList_eq]
  simp [ByteArray.extract, ByteArray.copySlice]

set_option maxHeartbeats 4000000 in
set_option maxRecDepth 100000 in
theorem lasts_law (p : Option Addr) (len cap : Nat) (ds : List Dd) (keep : Int) (a : Addr) (w : World) (hd : DdArg w p len ds) (hp : Pow a w) :
    Calls Tryd.prog 4 #[.slice p len cap, .int .i64 keep] w fun e w' => e = .returned (.bool true) ∧ Below w.heap.size w w' := by
  obtain ⟨hlen, hmx, hrow, hok⟩ := hd
  unfold maxLen at hmx
  have HP := Lib.hid hp
  have HL := Lib.hid hlen
  have HR := Lib.hid hrow
  have HO := Lib.hid hok
  clear hp hlen hrow hok
  by_cases hbig : 40 < len
  · go_enter Tryd.func4, Tryd.ntmps4
    go_wp2_with fail
    refine (diskAwake a w HP.out).mono ?_
    rintro e w1 ⟨rfl, hb⟩
    have HB := Lib.hid hb; clear hb
    go_wp2_with fail
    go_ret
    exact ⟨rfl, HB.out⟩
  · have hsm : len ≤ 40 := by omega
    clear hbig
    go_enter Tryd.func4, Tryd.ntmps4
    go_wp2_with fail
    refine (dNew 1048576 w (by omega)).mono ?_
    rintro e w1 ⟨bl, rfl, hm⟩
    have HW := Lib.hid (show AW a w w.heap.size (newS 1048576) bl w1 from ⟨hm.2, HP.out.below hm.2 HP.out.lt, hm.1, HP.out.lt⟩)
    clear hm
    go_wp2_with fail
    refine (aAppend HW.out ⟨#[97]⟩ ⟨#[115, 117, 114, 101]⟩ (0, sL [115, 117, 114, 101] 0) (by decide +kernel) (by decide) (by decide)).mono ?_
    rintro e w2 ⟨bl2, rfl, h2, -⟩
    have H2 := Lib.hid h2; clear h2
    go_wp2_with fail
    refine (aSync H2.out ⟨#[97]⟩ (0, sL [115, 117, 114, 101] 4) (by decide +kernel)).mono ?_
    rintro e w3 ⟨bl3, rfl, h3, -⟩
    have H3 := Lib.hid h3; clear h3
    go_wp2_with fail
    go_loopw [7, 8] (fun s i wr => ∃ (k : Nat) (body : List UInt8) (sure : Nat) (bl : List Nat), k ≤ len ∧ i = .int .i64 k ∧ s = .string ⟨(body.take sure).toArray⟩ ∧ sure ≤ body.length ∧ AW a w w.heap.size (sL body sure) bl wr) (fun _ i _ => len - (intOf i).toNat)
    case atStart => exact ⟨0, [115, 117, 114, 101], 4, bl3, Nat.zero_le _, rfl, rfl, by simp, H3.out⟩
    case round =>
      obtain ⟨k, body, sure, bl4, hk, rfl, rfl, hsu, haw⟩ := hrel
      have HAW := Lib.hid haw; clear haw
      by_cases hlt : k < len
      · obtain ⟨d, hdk⟩ : ∃ d, ds[k]? = some d := ⟨_, List.getElem?_eq_getElem (by rw [HL.out]; exact hlt)⟩
        obtain ⟨b, off, rfl, hbl, c0, c1, c2, c3, c4⟩ : ∃ b off, p = some ⟨b, off, none⟩ ∧ b < w.heap.size ∧ wr.cell? ⟨b, off + k * 5, none⟩ = some (.int .i64 d.kind) ∧ wr.cell? ⟨b, off + k * 5 + 1, none⟩ = some (.string d.name) ∧ wr.cell? ⟨b, off + k * 5 + 2, none⟩ = some (.string d.body) ∧ wr.cell? ⟨b, off + k * 5 + 3, none⟩ = some (.string d.dest) ∧ wr.cell? ⟨b, off + k * 5 + 4, none⟩ = some (.int .i64 d.n) := by
          rcases HR.out.below HAW.out.below with h | ⟨b, off, rfl, _, hc⟩
          · rw [h] at hdk; simp at hdk
          · refine ⟨b, off, rfl, ?_, hc k d hdk⟩
            rcases HR.out with h | ⟨b', off', he, hlt', _⟩
            · rw [h] at hdk; simp at hdk
            · simp at he; rw [he.1]; exact hlt'
        obtain ⟨_, hbs, _, _, _⟩ := HO.out d (List.mem_of_getElem? hdk)
        unfold maxLen at hbs
        have hi0 : (0 : Int) ≤ (k : Int) := by omega
        have hi1 : (k : Int) < (len : Int) := by omega
        have hfw := few_any d
        have HSZ := HAW.out.below.size
        have HQ := Lib.hid hdk
        clear hdk
        have hbw : b < wr.heap.size := Nat.lt_of_lt_of_le hbl HSZ
        obtain ⟨kd, nm, bd, dst, n⟩ := d
        simp only at c0 c1 c2 c3 c4 hbs hfw
        have H5 := Lib.hid (HAW.out.keep (Joins.below_alloc1 wr (.cells #[.int .i64 kd, .string nm, .string bd, .string dst, .int .i64 n] 34)))
        cases hfb : fewB ⟨kd, nm, bd, dst, n⟩
        · rw [hfb] at hfw
          clear hfb
          go_wp2_with fail
          refine (hfw _).mono ?_
          rintro e w5 ⟨rfl, rfl⟩
          go_wp2_with fail
          go_roundw
          case rel => exact ⟨k + 1, body, sure, bl4, by omega, by go_num, rfl, hsu, H5.out⟩
          case measure => simp [intOf]; omega
        · rw [hfb] at hfw
          clear hfb
          by_cases hk1 : 1 < kd
          · go_wp2_with fail
            refine (hfw _).mono ?_
            rintro e w5 ⟨rfl, rfl⟩
            go_wp2_with fail
            go_roundw
            case rel => exact ⟨k + 1, body, sure, bl4, by omega, by go_num, rfl, hsu, H5.out⟩
            case measure => simp [intOf]; omega
          · by_cases hk0 : kd = 0
            · subst hk0
              obtain ⟨c, b', hap, t', hb'⟩ := append_a body sure bd
              go_wp2_with fail
              refine (hfw _).mono ?_
              rintro e w5 ⟨rfl, rfl⟩
              have HA := Lib.hid (aAppend H5.out ⟨#[97]⟩ bd (c, sL b' sure) hap (by decide) (by omega))
              have HB' := Lib.hid hb'
              clear hap hb'
              go_wp2_with fail
              refine HA.out.mono ?_
              rintro e w6 ⟨bl6, rfl, h6, -⟩
              have H6 := Lib.hid h6; clear h6
              go_wp2_with fail
              go_roundw
              case rel =>
                refine ⟨k + 1, b', sure, bl6, by omega, by go_num, ?_, by rw [HB'.out, List.length_append]; omega, H6.out⟩
                rw [HB'.out, List.take_append_of_le_length hsu]
              case measure => simp [intOf]; omega
            · have hk0' : (kd == 0) = false := by simpa using hk0
              have hk1' : kd ≤ 1 := by omega
              go_wp2_with fail
              refine (hfw _).mono ?_
              rintro e w5 ⟨rfl, rfl⟩
              go_wp2_with fail
              refine (aRead H5.out ⟨#[97]⟩ (⟨body.toArray⟩, 0) (read_a _ _)).mono ?_
              rintro e w6 ⟨rfl, hb6⟩
              have H6 := Lib.hid (H5.out.keep hb6); clear hb6
              clear c0 c1 c2 c3 c4
              go_wp2_with fail
              refine (aSync H6.out ⟨#[97]⟩ (0, sL body body.length) (sync_a _ _)).mono ?_
              rintro e w7 ⟨bl7, rfl, h7, -⟩
              have H7 := Lib.hid h7; clear h7
              go_wp2_with fail
              go_roundw
              case rel => exact ⟨k + 1, body, body.length, bl7, by omega, by go_num, by rw [List.take_length], Nat.le_refl _, H7.out⟩
              case measure => simp [intOf]; omega
      · obtain rfl : k = len := by omega
        obtain ⟨q, hq1, hq2, hcr⟩ := crash_a body sure hsu keep
        have HCR := Lib.hid hcr; clear hcr
        go_wp2_with fail
        refine (aRead HAW.out ⟨#[97]⟩ (⟨body.toArray⟩, 0) (read_a _ _)).mono ?_
        rintro e w5 ⟨rfl, hb5⟩
        have H5 := Lib.hid (HAW.out.keep hb5); clear hb5
        go_wp2_with fail
        refine (aCrash H5.out keep _ HCR.out).mono ?_
        rintro e w6 ⟨bl6, rfl, h6, -⟩
        have H6 := Lib.hid h6; clear h6
        go_wp2_with fail
        refine (aRead H6.out ⟨#[97]⟩ (⟨(body.take q).toArray⟩, 0) (read_a _ _)).mono ?_
        rintro e w7 ⟨rfl, hb7⟩
        have H7 := Lib.hid (H6.out.keep hb7); clear hb7
        have hq1' := hq1
        have hbnd : body.length ≤ 1048576 := by have := HAW.out.disk.fit.total; simpa [sL, stotal] using this
        have s1 : (⟨(body.take q).toArray⟩ : ByteArray).size = q := by show (body.take q).toArray.size = q; simp; omega
        have s2 : (⟨(body.take sure).toArray⟩ : ByteArray).size = sure := by show (body.take sure).toArray.size = sure; simp; omega
        have s3 : (⟨body.toArray⟩ : ByteArray).size = body.length := rfl
        have t1 : (((⟨(body.take q).toArray⟩ : ByteArray).extract 0 sure).toList == (⟨(body.take sure).toArray⟩ : ByteArray).toList) = true := by
          rw [take_text _ _ (by simp; omega), List.take_take, show min sure q = sure by omega]; simp
        have t2 : (((⟨body.toArray⟩ : ByteArray).extract 0 q).toList == (⟨(body.take q).toArray⟩ : ByteArray).toList) = true := by
          rw [take_text _ _ hq2]; simp
        generalize (⟨(body.take q).toArray⟩ : ByteArray) = S at *
        generalize (⟨(body.take sure).toArray⟩ : ByteArray) = Wt at *
        generalize (⟨body.toArray⟩ : ByteArray) = A at *
        subst s1
        subst s2
        generalize body.length = bn at *
        subst s3
        clear HCR HAW H5 H6 hq1' hsu
        go_wp2_with fail
        refine (diskAwake a w7 H7.out.pow).mono ?_
        rintro e w8 ⟨rfl, hb8⟩
        have H8 := Lib.hid (H7.out.keep hb8); clear hb8
        go_wp2_with fail
        go_ret
        exact ⟨rfl, H8.out.below⟩

theorem lasts_row (p : Option Addr) (len cap : Nat) (ds : List Dd) (keep : Int) (w : World) (hd : DdArg w p len ds) (_hk : (Lit.int .i64 keep).wf = true) (hL : laidMetH Tryd.prog Rows.diskLastsRow.laid w) :
    Calls Tryd.prog 4 #[.slice p len cap, .int .i64 keep] w fun e w' => e = .returned (.bool true) ∧ Below w.heap.size w w' := by
  obtain ⟨a, hp⟩ := pow_of hL (by kernel_rfl)
  exact lasts_law p len cap ds keep a w hd hp
end Go.Proofs.YtpianbfcfabejaaDoor
