/-
  SeglogAny's walk.
-/
import Derived.Test.YtjimgncefeldbaaGreatDoorSegAwake
import Derived.Test.YtjimgncefeldbaaGreatDoorSegInv
import Derived.Test.YtjimgncefeldbaaGreatDoorGDeeds
namespace Go.Proofs.YtjimgncefeldbaaGreatDoor
open Go.RowKit Go.Sort

def preB : ByteArray := ⟨#[108, 111, 103, 45, 48, 48, 48, 48, 48, 48, 48]⟩
theorem pre_gen : ∀ k : Fin 9, preB ++ ⟨#[UInt8.ofNat (49 + k.val)]⟩ = genB (k.val + 1) := by decide +kernel

def seven : ByteArray := ⟨#[108, 111, 103, 45, 48, 48, 48, 48, 48, 48, 48, 55]⟩
theorem seven_gen : seven = genB 7 := by decide +kernel

theorem one_text8 (c : Nat) (hc : c < 256) (W : World) (g : Nat) (fr : Nat × Nat) (h : W.heap[g]? = some (.cells #[.int .u8 (c : Int)] 5 fr)) :
    (convert 34 9 (.slice (some ⟨g, 0, none⟩) 1 1)).run Tryz.prog W = .ok (.string ⟨#[UInt8.ofNat c]⟩) W := by
  have hcells : ∀ j, (hj : j < (⟨#[UInt8.ofNat c]⟩ : ByteArray).size) → W.cell? ⟨g, 0 + j, none⟩ = some (.int .u8 ((⟨#[UInt8.ofNat c]⟩ : ByteArray)[j].toNat : Int)) := by
    intro j hj
    have hj' : j < 1 := hj
    obtain rfl : j = 0 := by omega
    rw [Joins.cell_of_block h]
    show some (Value.int .u8 (c : Int)) = some (Value.int .u8 ((UInt8.ofNat c).toNat : Int))
    have : (UInt8.ofNat c).toNat = c := by simp; omega
    rw [this]
  exact Lib.run_convert_whole (P := Tryz.prog) W 34 5 9 Tryz.underlying34 Tryz.underlying5 Tryz.underlying9 g 0 ⟨#[UInt8.ofNat c]⟩ hcells 1

/-- what holds at the loop's head -/
def LawAt (a : Addr) (w : World) (s0 : ByteArray) (k : Nat) (wr : World) : Prop := ∃ (s : DS) (bl : List Nat), SW a w.heap.size w.heap.size s bl wr ∧ Below w.heap.size w wr ∧ SInv s0 k s

set_option maxHeartbeats 4000000 in
set_option maxRecDepth 100000 in
theorem any_law (p : Option Addr) (len cap : Nat) (ds : List Dd) (s0 : ByteArray) (a : Addr) (w : World) (hd : DdArg w p len ds) (hp : Pow a w) (ht : Pows w) (g1 : 0 < w.heap.size) (g2 : 5 < w.heap.size) (hsm : s0.size ≤ maxLen) :
    Calls Tryz.prog 3 #[.slice p len cap, .string s0] w fun e w' => e = .returned (.bool true) ∧ Below w.heap.size w w' := by
  obtain ⟨hlen, hmx, hrow, hok⟩ := hd
  unfold maxLen at hmx hsm
  have HP := Lib.hid (And.intro hp (And.intro ht (And.intro g1 g2)))
  have HL := Lib.hid hlen
  have HR := Lib.hid hrow
  have HO := Lib.hid hok
  clear hp ht g1 g2 hlen hrow hok
  by_cases hbig : 10 < len ∨ 300 < s0.size
  · have hbb : (10 < len) ∨ (¬ 10 < len ∧ 300 < s0.size) := by omega
    rcases hbb with h10 | ⟨h10, h300⟩
    · clear hbig
      have hd1 : decide ((10 : Int) < (len : Int)) = true := by simp; omega
      go_enter Tryz.func3, Tryz.ntmps3
      go_wp2_with fail
      refine (seglogAwake a w HP.out.1 HP.out.2.1 HP.out.2.2.1 HP.out.2.2.2).mono ?_
      rintro e w1 ⟨rfl, hb⟩
      have HB := Lib.hid hb; clear hb
      go_wp2_with fail
      go_ret
      exact ⟨rfl, HB.out⟩
    · clear hbig
      have hd1 : decide ((10 : Int) < (len : Int)) = false := by simp; omega
      have hd2 : decide ((300 : Int) < (s0.size : Int)) = true := by simp; omega
      clear h10
      go_enter Tryz.func3, Tryz.ntmps3
      go_wp2_with fail
      refine (seglogAwake a w HP.out.1 HP.out.2.1 HP.out.2.2.1 HP.out.2.2.2).mono ?_
      rintro e w1 ⟨rfl, hb⟩
      have HB := Lib.hid hb; clear hb
      go_wp2_with fail
      go_ret
      exact ⟨rfl, HB.out⟩
  · have h10 : len ≤ 10 := by omega
    have h300 : s0.size ≤ 300 := by omega
    have hd1 : decide ((10 : Int) < (len : Int)) = false := by simp; omega
    have hd2 : decide ((300 : Int) < (s0.size : Int)) = false := by simp; omega
    have HPUT := Lib.hid (fun W => fputR s0 (by omega) W)
    have hrsz : (recB s0).size ≤ 65550 := recB_size s0 (by omega)
    clear hbig
    go_enter Tryz.func3, Tryz.ntmps3
    go_wp2_with fail
    refine (dNew 65536 w (by omega)).mono ?_
    rintro e w1 ⟨bl, rfl, hm⟩
    have HS1 := Lib.hid (show SW a w.heap.size w.heap.size (newS 65536) bl w1 ∧ Below w.heap.size w w1 from ⟨⟨hm.1, HP.out.1.below hm.2 HP.out.2.2.1, HP.out.2.1.kept hm.2 HP.out.2.2.2, HP.out.2.2.1, HP.out.2.2.2⟩, hm.2⟩)
    clear hm
    go_wp2_with fail
    refine (HPUT.out w1).mono ?_
    rintro e w2 ⟨rfl, hb2⟩
    have HS2 := Lib.hid (And.intro (HS1.out.1.keep hb2) (HS1.out.2.trans (hb2.mono HS1.out.2.size)))
    have hdx := dAppend HS2.out.1.disk ⟨#[108, 111, 103, 45, 48, 48, 48, 48, 48, 48, 48, 55]⟩ (recB s0) a HS2.out.1.pow HS2.out.1.g1 (by decide) (by omega)
    have HDX := Lib.hid hdx
    have HI0 := Lib.hid (show SInv s0 0 (appendS (newS 65536) ⟨#[108, 111, 103, 45, 48, 48, 48, 48, 48, 48, 48, 55]⟩ (recB s0)).2 from by
      have h := inv_first s0 h300
      rw [← seven_gen] at h
      exact h)
    clear hb2 HPUT hdx
    generalize recB s0 = R at *
    go_wp2_with fail
    refine HDX.out.mono ?_
    rintro e w3 ⟨bl3, rfl, hd3, hf3⟩
    have HS3 := Lib.hid (show LawAt a w s0 0 w3 from ⟨_, bl3, HS2.out.1.step hd3 hf3, HS2.out.2.trans (hf3.below (fun k hk => (HS2.out.1.disk.lt k hk).1) HS2.out.2.size), HI0.out⟩)
    clear hd3 hf3 HDX HI0
    go_wp2_with fail
    go_loopw [9] (fun i wr => ∃ k : Nat, k ≤ len ∧ i = .int .i64 k ∧ LawAt a w s0 k wr) (fun i _ => len - (intOf i).toNat)
    case atStart => exact ⟨0, Nat.zero_le _, rfl, HS3.out⟩
    case round =>
      rename_i wr
      obtain ⟨k, hk, rfl, hla⟩ := hrel
      have HLA := Lib.hid hla
      have hbl := hla
      obtain ⟨sk, bk, hsk, hbk, hik⟩ := hla
      clear hbl
      by_cases hlt : k < len
      · obtain ⟨d, hdk⟩ : ∃ d, ds[k]? = some d := ⟨_, List.getElem?_eq_getElem (by rw [HL.out]; exact hlt)⟩
        obtain ⟨b, off, rfl, hbl, c0, c1, c2, c3, c4⟩ : ∃ b off, p = some ⟨b, off, none⟩ ∧ b < w.heap.size ∧ wr.cell? ⟨b, off + k * 5, none⟩ = some (.int .i64 d.kind) ∧ wr.cell? ⟨b, off + k * 5 + 1, none⟩ = some (.string d.name) ∧ wr.cell? ⟨b, off + k * 5 + 2, none⟩ = some (.string d.body) ∧ wr.cell? ⟨b, off + k * 5 + 3, none⟩ = some (.string d.dest) ∧ wr.cell? ⟨b, off + k * 5 + 4, none⟩ = some (.int .i64 d.n) := by
          rcases HR.out.below hbk with h | ⟨b, off, rfl, _, hc⟩
          · rw [h] at hdk; simp at hdk
          · refine ⟨b, off, rfl, ?_, hc k d hdk⟩
            rcases HR.out with h | ⟨b', off', he, hlt', _⟩
            · rw [h] at hdk; simp at hdk
            · simp at he; rw [he.1]; exact hlt'
        have hi0 : (0 : Int) ≤ (k : Int) := by omega
        have hi1 : (k : Int) < (len : Int) := by omega
        have hfw := few_any d
        have HSZ := hbk.size
        have HQ := Lib.hid hdk
        clear hdk
        have hbw : b < wr.heap.size := Nat.lt_of_lt_of_le hbl HSZ
        obtain ⟨kd, nm, bd, dst, n⟩ := d
        simp only at c0 c1 c2 c3 c4 hfw
        have hba := Joins.below_alloc1 wr (.cells #[.int .i64 kd, .string nm, .string bd, .string dst, .int .i64 n] 33)
        have H5 := Lib.hid (And.intro (hsk.keep hba) (And.intro (hbk.trans (hba.mono HSZ)) hik))
        have HNX := Lib.hid (show LawAt a w s0 (k + 1) (wr.alloc (.cells #[.int .i64 kd, .string nm, .string bd, .string dst, .int .i64 n] 33)) from ⟨sk, bk, hsk.keep hba, hbk.trans (hba.mono HSZ), hik.more⟩)
        clear hsk hbk hik hba
        cases hfb : fewB ⟨kd, nm, bd, dst, n⟩
        · rw [hfb] at hfw
          clear hfb
          go_wp2_with fail
          refine (hfw _).mono ?_
          rintro e w5 ⟨rfl, rfl⟩
          go_wp2_with fail
          go_roundw
          case rel => exact ⟨k + 1, by omega, by go_num, HNX.out⟩
          case measure => simp [intOf]; omega
        · have hbd : bd.size ≤ 500 := by simp [fewB] at hfb; exact hfb.2.2
          rw [hfb] at hfw
          clear hfb
          by_cases hk4 : kd < 4
          · have hd4 : decide (kd < 4) = true := by simpa using hk4
            go_wp2_with fail
            refine (hfw _).mono ?_
            rintro e w5 ⟨rfl, rfl⟩
            have c2' : (wr.alloc (.cells #[.int .i64 kd, .string nm, .string bd, .string dst, .int .i64 n] 33)).cell? ⟨b, off + k * 5 + 2, none⟩ = some (.string bd) := by rw [(Joins.below_alloc1 wr _).cell (p := ⟨b, off + k * 5 + 2, none⟩) hbw]; exact c2
            clear hfw
            go_wp2_with fail
            obtain ⟨V, hV⟩ : ∃ V, wr.alloc (.cells #[.int .i64 kd, .string nm, .string bd, .string dst, .int .i64 n] 33) = V := ⟨_, rfl⟩
            rw [hV] at H5 HNX c2' ⊢
            have hbV : b < V.heap.size := by rw [← hV]; simp; omega
            clear hV c0 c1 c2 c3 c4
            obtain ⟨q, hq⟩ : ∃ q : Nat, k % 9 = q := ⟨_, rfl⟩
            have hq9 : q < 9 := by omega
            have hmod : (k : Int).tmod 9 = (q : Int) := by rw [Int.tmod_eq_emod_of_nonneg (by omega)]; omega
            have hcv := one_text8 (49 + q) (by omega) (V.alloc (.cells #[.int .u8 (49 + (q : Int))] 5)).drew V.heap.size (0, 0) (show (V.alloc (.cells #[.int .u8 (49 + (q : Int))] 5)).drew.heap[V.heap.size]? = _ from heap_alloc_new V _)
            have hadd := fun W => run_string_add_sum (P := Tryz.prog) (w := W) ⟨#[108, 111, 103, 45, 48, 48, 48, 48, 48, 48, 48]⟩ ⟨#[UInt8.ofNat (49 + q)]⟩ (by show 11 + 1 ≤ _; decide)
            have hpg : (⟨#[108, 111, 103, 45, 48, 48, 48, 48, 48, 48, 48]⟩ : ByteArray) ++ ⟨#[UInt8.ofNat (49 + q)]⟩ = genB (q + 1) := pre_gen ⟨q, hq9⟩
            rw [hpg] at hadd
            have hb1 : Below V.heap.size V (V.alloc (.cells #[.int .u8 (49 + (q : Int))] 5)).drew := ((Below.refl _ _).alloc (Nat.le_refl _) _).drew
            have hap := dAppend (H5.out.1.keep hb1).disk (genB (q + 1)) bd a (H5.out.1.keep hb1).pow H5.out.1.g1 (by have := genB_size (show q + 1 < 12 by omega); omega) (by omega)
            have HINV := Lib.hid (inv_step H5.out.2.2 H5.out.1.disk.fit (by omega) (q + 1) (by omega) (by omega) bd hbd)
            have HAP := Lib.hid hap
            have HQ9 := Lib.hid hq
            clear hap hpg hq
            generalize genB (q + 1) = nm7 at *
            generalize (⟨#[UInt8.ofNat (49 + q)]⟩ : ByteArray) = ch at *
            have hw1 : IntKind.i64.wrap (49 + (q : Int)) = 49 + (q : Int) := by rw [IntKind.wrap_i64]; omega
            have hw2 : IntKind.u8.wrap (49 + (q : Int)) = 49 + (q : Int) := by rw [IntKind.wrap_u8]; omega
            go_region_with (first
              | (go_at_call 8; refine HAP.out.mono ?_; rintro e w6 ⟨bl6, rfl, hd6, hf6⟩; have HL6 := Lib.hid (show LawAt a w s0 (k + 1) w6 from ⟨_, bl6, (H5.out.1.keep hb1).step hd6 hf6, (H5.out.2.1.trans (hb1.mono H5.out.2.1.size)).trans (hf6.below (fun k hk => ((H5.out.1.keep hb1).disk.lt k hk).1) (H5.out.1.keep hb1).size), HINV.out⟩); clear hd6 hf6))
            all_goals
              go_wp2_with fail
              go_roundw
              case rel => exact ⟨k + 1, by omega, by go_num, HL6.out⟩
              case measure => simp [intOf]; omega
          · have hd4 : decide (kd < 4) = false := by simpa using hk4
            go_wp2_with fail
            refine (hfw _).mono ?_
            rintro e w5 ⟨rfl, rfl⟩
            go_wp2_with fail
            go_roundw
            case rel => exact ⟨k + 1, by omega, by go_num, HNX.out⟩
            case measure => simp [intOf]; omega
      · obtain rfl : k = len := by omega
        obtain ⟨G, t0, r, s5, ho1, ho2, hoff5, hroom5, hrl⟩ := inv_twice hik hsk.disk.fit (by omega) h300
        have H1 := Lib.hid (open_any wr hsk hik.calm.off (by rw [hik.room]; decide) G t0 r s5 ho1)
        have HSK := Lib.hid (And.intro hsk hbk)
        have HO2 := Lib.hid ho2
        clear hsk hbk hik ho1 ho2
        go_wp2_with fail
        refine H1.out.mono ?_
        rintro e w5 ⟨L1, bl1, ra1, cap1, rfl, hL1, hl1, hf1, hrow1, hra1, hc1, hx1, -⟩
        have H2 := Lib.hid (open_any w5 hl1.sw hoff5 (by rw [hroom5]; decide) G t0 r s5 HO2.out)
        have HL1 := Lib.hid (And.intro hl1 (And.intro (HSK.out.2.trans (hf1.below (fun k hk => (HSK.out.1.disk.lt k hk).1) HSK.out.2.size)) (And.intro hrow1 hra1)))
        have HC1 := Lib.hid (And.intro hc1 hx1)
        clear hl1 hf1 hrow1 hra1 hc1 hx1 hL1 H1
        go_wp2_with fail
        refine H2.out.mono ?_
        rintro e w6 ⟨L2, bl2, ra2, cap2, rfl, hL2, hl2, hf2, hrow2, hra2, hc2, hx2, -⟩
        have HA := Lib.hid (And.intro (HL1.out.1.log.fr hf2 HL1.out.1.out) (strRow_fr HL1.out.2.2.1 hf2 (fun b off e => (HL1.out.2.2.2 b off e).2)))
        have HB := Lib.hid (And.intro hl2 (And.intro (HL1.out.2.1.trans (hf2.below (fun k hk => (HL1.out.1.sw.disk.lt k hk).1) HL1.out.2.1.size)) (And.intro hrow2 (And.intro hc2 hx2))))
        clear hl2 hf2 hrow2 hra2 hc2 hx2 hL2 H2
        go_wp2_with fail
        refine (base_any w6 HA.out.1).mono ?_
        rintro e w7 ⟨rfl, rfl⟩
        go_wp2_with fail
        refine (base_any w6 HB.out.1.log).mono ?_
        rintro e w7 ⟨rfl, rfl⟩
        go_wp2_with fail
        refine (records_any r w6 HA.out.1 HA.out.2 (by omega) HC1.out.1 HC1.out.2).mono ?_
        rintro e w7 ⟨rb1, cb1, rfl, hr1, hb1, -⟩
        have HB7 := Lib.hid (And.intro (HB.out.1.keep hb1) (And.intro (HB.out.2.1.trans (hb1.mono HB.out.2.1.size)) (And.intro (HB.out.2.2.1.below hb1) hr1)))
        clear hr1 hb1
        go_wp2_with fail
        refine (records_any r w7 HB7.out.1.log HB7.out.2.2.1 (by omega) HB.out.2.2.2.1 HB.out.2.2.2.2).mono ?_
        rintro e w8 ⟨rb2, cb2, rfl, hr2, hb2, -⟩
        have HB8 := Lib.hid (And.intro (HB7.out.1.sw.keep hb2) (And.intro (HB7.out.2.1.trans (hb2.mono HB7.out.2.1.size)) (And.intro (HB7.out.2.2.2.below hb2) hr2)))
        clear hr2 hb2
        go_wp2_with fail
        refine (texts_same rb1 rb2 cb1 cb2 r w8 HB8.out.2.2.1 HB8.out.2.2.2 (by unfold maxLen; omega)).mono ?_
        rintro e w9 ⟨rfl, n, rfl⟩
        have hb9 : Below w8.heap.size w8 (w8.drewN n) := belowN (Below.refl _ _) n
        have hsw9 := HB8.out.1.keep hb9
        have hbw9 := HB8.out.2.1.trans (hb9.mono HB8.out.2.1.size)
        have hg9 := hbw9.size
        have HAW := Lib.hid (seglogAwake a (w8.drewN n) hsw9.pow hsw9.tab (by have := hsw9.g1; omega) (by have := hsw9.g2; omega))
        have HB9 := Lib.hid hbw9
        clear hb9 hsw9 hbw9
        go_wp2_with fail
        refine HAW.out.mono ?_
        rintro e w10 ⟨rfl, hb10⟩
        have HB10 := Lib.hid (HB9.out.trans (hb10.mono hg9))
        clear hb10
        go_wp2_with fail
        go_ret
        exact ⟨rfl, HB10.out⟩

theorem Pows.lt {w : World} (h : Pows w) : 5 < w.heap.size := by
  have hn : Tryz.prog.globalNamed "internal/strconv.uint64pow10" = some 5 := by kernel_rfl
  unfold Pows Lib.TabIs World.var? at h
  rw [hn] at h
  simp only [Option.bind_some] at h
  by_cases hlt : 5 < w.heap.size
  · exact hlt
  · rw [Array.getElem?_eq_none (by omega)] at h
    cases h

theorem any_row (p : Option Addr) (len cap : Nat) (ds : List Dd) (s0 : ByteArray) (w : World) (hd : DdArg w p len ds) (hs : s0.size ≤ maxLen) (hL : laidMetH Tryz.prog Rows.seglogAnyRow.laid w) :
    Calls Tryz.prog 3 #[.slice p len cap, .string s0] w fun e w' => e = .returned (.bool true) ∧ Below w.heap.size w w' := by
  obtain ⟨⟨a, hp⟩, ht⟩ := laid_of hL
  exact any_law p len cap ds s0 a w hd hp ht hp.lt ht.lt hs
end Go.Proofs.YtjimgncefeldbaaGreatDoor
