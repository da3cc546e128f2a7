/-
  DiskCopies' walk.
-/
import Derived.Test.YtopigchjdegpeaaDoorDiskAside
namespace Go.Proofs.YtopigchjdegpeaaDoor
open Go.RowKit

set_option maxHeartbeats 16000000 in
set_option maxRecDepth 100000 in
theorem copies_law (P1 : Option Addr) (len1 cap1 : Nat) (ds1 : List Dd) (P2 : Option Addr) (len2 cap2 : Nat) (ds2 : List Dd) (a : Addr) (w : World) (hd1 : DdArg w P1 len1 ds1) (hd2 : DdArg w P2 len2 ds2) (hp : Pow a w) :
    Calls Tryd.prog 4 #[.slice P1 len1 cap1, .slice P2 len2 cap2] w fun e w' => e = .returned (.bool true) ∧ Below w.heap.size w w' := by
  obtain ⟨hlen1, hmx1, hrow1, hok1⟩ := hd1
  obtain ⟨hlen2, hmx2, hrow2, hok2⟩ := hd2
  unfold maxLen at hmx1 hmx2
  have HP := Lib.hid hp
  have HL1 := Lib.hid hlen1
  have HR1 := Lib.hid hrow1
  have HO1 := Lib.hid hok1
  have HL2 := Lib.hid hlen2
  have HR2 := Lib.hid hrow2
  have HO2 := Lib.hid hok2
  clear hp hlen1 hrow1 hok1 hlen2 hrow2 hok2
  by_cases hbig : 20 < len1 ∨ 20 < len2
  · go_enter Tryd.func4, Tryd.ntmps4
    by_cases h1 : 20 < len1
    · have hdd : decide ((20 : Int) < (len1 : Int)) = true := by simp; omega
      go_wp2_with fail
      refine (diskAwake a w HP.out).mono ?_
      rintro e w1 ⟨rfl, hb⟩
      have HB := Lib.hid hb; clear hb
      go_wp2_with fail
      go_ret
      exact ⟨rfl, HB.out⟩
    · have hdd : decide ((20 : Int) < (len1 : Int)) = false := by simp; omega
      have hdd2 : decide ((20 : Int) < (len2 : Int)) = true := by simp; omega
      go_wp2_with fail
      refine (diskAwake a w HP.out).mono ?_
      rintro e w1 ⟨rfl, hb⟩
      have HB := Lib.hid hb; clear hb
      go_wp2_with fail
      go_ret
      exact ⟨rfl, HB.out⟩
  · have hsm1 : len1 ≤ 20 := by omega
    have hsm2 : len2 ≤ 20 := by omega
    have hdd : decide ((20 : Int) < (len1 : Int)) = false := by simp; omega
    have hdd2 : decide ((20 : Int) < (len2 : Int)) = false := by simp; omega
    clear hbig
    go_enter Tryd.func4, Tryd.ntmps4
    go_wp2_with fail
    refine (dNew 65536 w (by omega)).mono ?_
    rintro e w1 ⟨bl0, rfl, hm⟩
    have HW := Lib.hid (show AW a w w.heap.size (newS 65536) bl0 w1 from ⟨hm.2, HP.out.below hm.2 HP.out.lt, hm.1, HP.out.lt⟩)
    clear hm
    have hnew := refNew_any 65536 w1
    unfold rv at hnew
    have HNEW := Lib.hid hnew
    clear hnew
    go_wp2_with fail
    refine HNEW.out.mono ?_
    rintro e w2 ⟨rfl, hb2⟩
    have HPS := Lib.hid (PS.start (HW.out.keep hb2))
    clear hb2 HNEW HW
    go_wp2_with fail
    go_loopw [8] (fun i wr => ∃ (k : Nat) (s : DS) (bl : List Nat) (p : Option Addr) (c : Nat), k ≤ len1 ∧ i = .int .i64 k ∧ PS a w w.heap.size s bl w2.heap.size p c wr) (fun i _ => len1 - (intOf i).toNat)
    case atStart => exact ⟨0, _, _, _, _, Nat.zero_le _, rfl, HPS.out⟩
    case round =>
      obtain ⟨k, s, bl, p, c, hk, rfl, hps⟩ := hrel
      have HPR := Lib.hid hps
      by_cases hlt : k < len1
      · obtain ⟨d, hdk⟩ : ∃ d, ds1[k]? = some d := ⟨_, List.getElem?_eq_getElem (by rw [HL1.out]; exact hlt)⟩
        obtain ⟨b, off, rfl, hbl, c0, c1, c2, c3, c4⟩ : ∃ b off, P1 = some ⟨b, off, none⟩ ∧ b < w.heap.size ∧ w.cell? ⟨b, off + k * 5, none⟩ = some (.int .i64 d.kind) ∧ w.cell? ⟨b, off + k * 5 + 1, none⟩ = some (.string d.name) ∧ w.cell? ⟨b, off + k * 5 + 2, none⟩ = some (.string d.body) ∧ w.cell? ⟨b, off + k * 5 + 3, none⟩ = some (.string d.dest) ∧ w.cell? ⟨b, off + k * 5 + 4, none⟩ = some (.int .i64 d.n) := by
          rcases HR1.out with h | ⟨b, off, rfl, hlt', hc⟩
          · rw [h] at hdk; simp at hdk
          · exact ⟨b, off, rfl, hlt', hc k d hdk⟩
        have HC := Lib.hid (fun U (hb : Below w.heap.size w U) => (⟨(hb.cell hbl).trans c0, (hb.cell hbl).trans c1, (hb.cell hbl).trans c2, (hb.cell hbl).trans c3, (hb.cell hbl).trans c4⟩ :
          U.cell? ⟨b, off + k * 5, none⟩ = some (.int .i64 d.kind) ∧ U.cell? ⟨b, off + k * 5 + 1, none⟩ = some (.string d.name) ∧ U.cell? ⟨b, off + k * 5 + 2, none⟩ = some (.string d.body) ∧ U.cell? ⟨b, off + k * 5 + 3, none⟩ = some (.string d.dest) ∧ U.cell? ⟨b, off + k * 5 + 4, none⟩ = some (.int .i64 d.n)))
        obtain ⟨hok1, hok2, hok3, _, hok5⟩ := HO1.out d (List.mem_of_getElem? hdk)
        obtain ⟨hn0, hn1⟩ := int_range hok5
        unfold maxLen at hok1 hok2 hok3
        have hi0 : (0 : Int) ≤ (k : Int) := by omega
        have hi1 : (k : Int) < (len1 : Int) := by omega
        have hfw := few_any d
        have HQ := Lib.hid hdk
        have HDO := Lib.hid (fun (V : World) (s : DS) (D : Nat) (bl : List Nat) (p : Option Addr) (c : Nat) (h : PS a w D s bl w2.heap.size p c V) => h.doAt d (by omega) (by omega) (by omega) hn0 hn1)
        clear hdk c0 c1 c2 c3 c4 hok5
        obtain ⟨kd, nm, bd, dst, n⟩ := d
        simp only at hfw hok1 hok2 hok3 hn0 hn1 HC HDO
        obtain ⟨c0, c1, c2, c3, c4⟩ := HC.out wr hps.aw.below
        have hbw : b < wr.heap.size := Nat.lt_of_lt_of_le hbl hps.aw.below.size
        have hps5 := hps.keep (Joins.below_alloc1 wr (.cells #[.int .i64 kd, .string nm, .string bd, .string dst, .int .i64 n] 34))
        have H5 := Lib.hid hps5
        clear hps hps5
        cases hfb : fewB ⟨kd, nm, bd, dst, n⟩
        · rw [hfb] at hfw
          clear hfb
          go_wp2_with fail
          refine (hfw _).mono ?_
          rintro e w5 ⟨rfl, rfl⟩
          go_wp2_with fail
          first
           | exact ⟨⟨k + 1, s, bl, p, c, by omega, by go_num, H5.out⟩, by simp [intOf]; omega⟩
           | (go_roundw
              case rel => exact ⟨k + 1, s, bl, p, c, by omega, by go_num, H5.out⟩
              case measure => simp [intOf]; omega)
        · rw [hfb] at hfw
          clear hfb
          by_cases hk7 : kd = 7
          · subst hk7
            go_wp2_with fail
            refine (hfw _).mono ?_
            rintro e w5 ⟨rfl, rfl⟩
            go_wp2_with fail
            first
             | exact ⟨⟨k + 1, s, bl, p, c, by omega, by go_num, H5.out⟩, by simp [intOf]; omega⟩
             | (go_roundw
                case rel => exact ⟨k + 1, s, bl, p, c, by omega, by go_num, H5.out⟩
                case measure => simp [intOf]; omega)
          · have hk7' : (kd != 7) = true := by simpa using hk7
            go_wp2_with fail
            refine (hfw _).mono ?_
            rintro e w5 ⟨rfl, rfl⟩
            go_wp2_with fail
            obtain ⟨V, hV⟩ : ∃ V, wr.alloc (.cells #[.int .i64 kd, .string nm, .string bd, .string dst, .int .i64 n] 34) = V := ⟨_, rfl⟩
            rw [hV] at H5 ⊢
            clear hV c0 c1 c2 c3 c4
            have hpsV := H5.out
            have hbV : b < V.heap.size := Nat.lt_of_lt_of_le hbl hpsV.aw.below.size
            have hxlt := hpsV.lt
            obtain ⟨c0, c1, c2, c3, c4⟩ := HC.out V hpsV.aw.below
            obtain ⟨x0, x1, x2, x3, _, _, _, _⟩ := hpsV.cells
            have hko := hpsV.ko.drew
            have hkoV := hpsV.ko
            have hbse := hpsV.base
            have hVsz := hpsV.aw.below.size
            have hda := HDO.out V s _ bl p c hpsV
            obtain ⟨s2, hs2⟩ : ∃ s2, doS s ⟨kd, nm, bd, dst, n⟩ = s2 := ⟨_, rfl⟩
            rw [hs2] at hda
            unfold DoPost rv at hda
            have HDA := Lib.hid hda
            have hb0 : Below V.heap.size V V.drew := (Below.refl _ _).drew
            have hb1 : ∀ o, Below V.heap.size V (V.alloc o).drew := fun o => ((Below.refl _ _).alloc (Nat.le_refl _) o).drew
            have hyx1 : w2.heap.size ≠ V.heap.size := by omega
            have HS := Lib.hid (fun U (h : KO w w2.heap.size s p c U) => (⟨h.cells.1, h.cells.2.1, h.cells.2.2.1, h.cells.2.2.2, (HC.out U h.2).1, (HC.out U h.2).2.1, (HC.out U h.2).2.2.1, (HC.out U h.2).2.2.2.1, (HC.out U h.2).2.2.2.2⟩ :
              U.cell? ⟨w2.heap.size, 0, none⟩ = some (.int .i64 (s.room : Int)) ∧ U.cell? ⟨w2.heap.size, 1, none⟩ = some (.slice p s.l.length c) ∧ U.cell? ⟨w2.heap.size, 2, none⟩ = some (.bool s.off) ∧ U.cell? ⟨w2.heap.size, 3, none⟩ = some (.int .i64 (fz s)) ∧
              U.cell? ⟨b, off + k * 5, none⟩ = some (.int .i64 kd) ∧ U.cell? ⟨b, off + k * 5 + 1, none⟩ = some (.string nm) ∧ U.cell? ⟨b, off + k * 5 + 2, none⟩ = some (.string bd) ∧ U.cell? ⟨b, off + k * 5 + 3, none⟩ = some (.string dst) ∧ U.cell? ⟨b, off + k * 5 + 4, none⟩ = some (.int .i64 n)))
            clear hpsV hda
            go_cut [9, 10] (fun y ok wc => ok = .bool true ∧ ∃ (yb : Nat) (bl2 : List Nat) (q : Option Addr) (cq : Nat), y = .pointer (some ⟨yb, 0, none⟩) ∧ AF a w w.heap.size s2 bl2 q w2.heap.size s p c wc ∧ wc.heap[yb]? = some (dbox s2 q cq))
            case first =>
              go_region_held3 (fun U => U.cell? ⟨w2.heap.size, 0, none⟩ = some (.int .i64 (s.room : Int)) ∧ U.cell? ⟨w2.heap.size, 1, none⟩ = some (.slice p s.l.length c) ∧ U.cell? ⟨w2.heap.size, 2, none⟩ = some (.bool s.off) ∧ U.cell? ⟨w2.heap.size, 3, none⟩ = some (.int .i64 (fz s)) ∧
                  U.cell? ⟨b, off + k * 5, none⟩ = some (.int .i64 kd) ∧ U.cell? ⟨b, off + k * 5 + 1, none⟩ = some (.string nm) ∧ U.cell? ⟨b, off + k * 5 + 2, none⟩ = some (.string bd) ∧ U.cell? ⟨b, off + k * 5 + 3, none⟩ = some (.string dst) ∧ U.cell? ⟨b, off + k * 5 + 4, none⟩ = some (.int .i64 n))
                (first | (with_reducible exact HS.out _ hko) | (with_reducible exact HS.out _ (hko.alloc _)) | (with_reducible exact HS.out _ (hkoV.alloc _).drew) | (with_reducible exact HS.out _ (hko.four hyx1 hVsz _ _ _ _)) | (with_reducible exact HS.out _ ((hko.alloc _).four hyx2 hyb2 _ _ _ _)) | go_keep)
                (first
                 | ((with_reducible refine (HDA.out _ hb0).mono ?_); rintro e w6 ⟨bl6, q, cq, rfl, h6, r6, f6, far6⟩
                    have hko := (H5.out.keep hb0).koF f6
                    have HAF := Lib.hid ((H5.out.keep hb0).af h6 r6 f6 far6)
                    have hyx2 : w2.heap.size ≠ w6.heap.size := by have := HAF.out.lt; omega
                    have hyb2 : w.heap.size ≤ w6.heap.size := HAF.out.aw.below.size
                    have HNY := Lib.hid (fun (hin : w6.heap.size ∈ bl6) => by have := (h6.disk.lt _ hin).2; omega)
                    have HQY := Lib.hid (fun g off (he : q = some ⟨g, off, none⟩) => (by have := (r6.2 g off he).2; omega : g ≠ w6.heap.size))
                    clear h6 r6 f6 far6)
                 | ((with_reducible refine (HDA.out _ (hb1 _)).mono ?_); rintro e w6 ⟨bl6, q, cq, rfl, h6, r6, f6, far6⟩
                    have hko := (H5.out.keep (hb1 _)).koF f6
                    have HAF := Lib.hid ((H5.out.keep (hb1 _)).af h6 r6 f6 far6)
                    have HNV : V.heap.size ∉ bl := fun hin => by have := (H5.out.aw.disk.lt _ hin).2; omega
                    have hyc := (f6.block V.heap.size (by simp) HNV).trans (heap_alloc_new V _)
                    have u0 : w6.cell? ⟨V.heap.size, 0, none⟩ = some (.int .i64 0) := by rw [Joins.cell_of_block hyc]; rfl
                    have u1 : w6.cell? ⟨V.heap.size, 1, none⟩ = some (.slice none 0 0) := by rw [Joins.cell_of_block hyc]; rfl
                    have u2 : w6.cell? ⟨V.heap.size, 2, none⟩ = some (.bool false) := by rw [Joins.cell_of_block hyc]; rfl
                    have u3 : w6.cell? ⟨V.heap.size, 3, none⟩ = some (.int .i64 0) := by rw [Joins.cell_of_block hyc]; rfl
                    have g0 := Joins.unfrozen_of_block hyc 0
                    have g1 := Joins.unfrozen_of_block hyc 1
                    have g2 := Joins.unfrozen_of_block hyc 2
                    have g3 := Joins.unfrozen_of_block hyc 3
                    have HNY := Lib.hid (fun (hin : V.heap.size ∈ bl6) => by
                      rcases f6.fresh _ hin with h | h
                      · exact HNV h
                      · simp at h; omega)
                    have HQY := Lib.hid (fun g off (he : q = some ⟨g, off, none⟩) => (by
                      rcases far6 g off he with h | h
                      · rw [h] at he; have := (H5.out.row.2 g off he).2; omega
                      · simp at h; omega : g ≠ V.heap.size))
                    have HYC := Lib.hid hyc
                    clear h6 r6 f6 far6 hyc HNV)
                 | fail)
              all_goals
                go_wp2_with fail
                go_meet
                refine ⟨rfl, _, bl6, q, cq, rfl, ?af, ?bo⟩
                case af => first | (with_reducible exact HAF.out.alloc _) | (with_reducible exact HAF.out.four HNY.out hyx1 hVsz HQY.out _ _ _ _) | (with_reducible exact (HAF.out.alloc _).four HNY.out hyx2 hyb2 HQY.out _ _ _ _)
                case bo => first | (with_reducible exact heap_alloc_new _ _) | (with_reducible exact four_set HYC.out _ _ _ _) | (with_reducible exact four_set (heap_alloc_new _ _) _ _ _ _)
            case rest =>
              obtain ⟨rfl, yb, bl2, q, cq, rfl, haf, hyb⟩ := hcut
              have HAF := Lib.hid haf
              have y0 : wc.cell? ⟨yb, 0, none⟩ = some (.int .i64 (s2.room : Int)) := by rw [Joins.cell_of_block hyb]; rfl
              have y1 : wc.cell? ⟨yb, 1, none⟩ = some (.slice q s2.l.length cq) := by rw [Joins.cell_of_block hyb]; rfl
              have y2 : wc.cell? ⟨yb, 2, none⟩ = some (.bool s2.off) := by rw [Joins.cell_of_block hyb]; rfl
              have y3 : wc.cell? ⟨yb, 3, none⟩ = some (.int .i64 (fz s2)) := by rw [Joins.cell_of_block hyb]; rfl
              clear x0 x1 x2 x3 c0 c1 c2 c3 c4 hko hkoV
              obtain ⟨x0, x1, x2, x3, f0, f1, f2, f3⟩ := haf.cells
              have hps := haf.ps cq
              have hbwc : b < wc.heap.size := Nat.lt_of_lt_of_le hbl haf.aw.below.size
              obtain ⟨c0, c1, c2, c3, c4⟩ := HC.out wc haf.aw.below
              clear haf hyb
              go_wp2_with fail
              clear x0 x1 x2 x3 f0 f1 f2 f3 y0 y1 y2 y3 c0 c1 c2 c3 c4
              first
               | exact ⟨⟨k + 1, s2, bl2, q, cq, by omega, by go_num, hps⟩, by simp [intOf]; omega⟩
               | (go_roundw
                  case rel => exact ⟨k + 1, s2, bl2, q, cq, by omega, by go_num, hps⟩
                  case measure => simp [intOf]; omega)
      · obtain rfl : k = len1 := by omega
        have hnl : decide ((k : Int) < (k : Int)) = false := by simp
        clear hps
        go_wp2_with fail
        refine (dCopy HPR.out.aw.disk).mono ?_
        rintro e w4 ⟨D, bl4, rfl, hm4⟩
        have hcp := HPR.out.copies hm4 _ rfl
        obtain ⟨x0, x1, x2, x3, _, _, _, _⟩ := (HPR.out.keep hm4.2).cells
        have HCP := Lib.hid hcp
        clear hm4 hcp
        go_wp2_with fail
        obtain ⟨yy, hyy⟩ : ∃ yy, w4.heap.size = yy := ⟨_, rfl⟩
        rw [hyy] at HCP ⊢
        clear hyy x0 x1 x2 x3
        obtain ⟨bx, hbx⟩ : ∃ bx, w2.heap.size = bx := ⟨_, rfl⟩
        rw [hbx] at HCP HPR ⊢
        clear hbx
        obtain ⟨sO, hsO⟩ : ∃ sO, sO = s := ⟨_, rfl⟩
        obtain ⟨blO, hblO⟩ : ∃ blO, blO = bl := ⟨_, rfl⟩
        obtain ⟨pO, hpO⟩ : ∃ pO, pO = p := ⟨_, rfl⟩
        obtain ⟨cO, hcO⟩ : ∃ cO, cO = c := ⟨_, rfl⟩
        subst hsO
        subst hblO
        subst hpO
        subst hcO
        go_loopw [13] (fun i wr => ∃ (k2 : Nat) (s2 : DS) (bl2 : List Nat) (p2 : Option Addr) (c2 : Nat), k2 ≤ len2 ∧ i = .int .i64 k2 ∧ PS a w D s2 bl2 yy p2 c2 wr ∧ PS a w w.heap.size sO blO bx pO cO wr ∧ Aside blO bx pO bl2 yy) (fun i _ => len2 - (intOf i).toNat)
        case atStart => exact ⟨0, sO, bl4, pO, cO, Nat.zero_le _, rfl, HCP.out.2.1, HCP.out.1, HCP.out.2.2⟩
        case round =>
          obtain ⟨k, s, bl, p, c, hk, rfl, hps, hpd, has⟩ := hrel
          have HPR2 := Lib.hid hps
          have HPD0 := Lib.hid hpd
          have HAS := Lib.hid has
          clear hpd has
          by_cases hlt : k < len2
          · obtain ⟨d, hdk⟩ : ∃ d, ds2[k]? = some d := ⟨_, List.getElem?_eq_getElem (by rw [HL2.out]; exact hlt)⟩
            obtain ⟨b, off, rfl, hbl, c0, c1, c2, c3, c4⟩ : ∃ b off, P2 = some ⟨b, off, none⟩ ∧ b < w.heap.size ∧ w.cell? ⟨b, off + k * 5, none⟩ = some (.int .i64 d.kind) ∧ w.cell? ⟨b, off + k * 5 + 1, none⟩ = some (.string d.name) ∧ w.cell? ⟨b, off + k * 5 + 2, none⟩ = some (.string d.body) ∧ w.cell? ⟨b, off + k * 5 + 3, none⟩ = some (.string d.dest) ∧ w.cell? ⟨b, off + k * 5 + 4, none⟩ = some (.int .i64 d.n) := by
              rcases HR2.out with h | ⟨b, off, rfl, hlt', hc⟩
              · rw [h] at hdk; simp at hdk
              · exact ⟨b, off, rfl, hlt', hc k d hdk⟩
            have HC := Lib.hid (fun U (hb : Below w.heap.size w U) => (⟨(hb.cell hbl).trans c0, (hb.cell hbl).trans c1, (hb.cell hbl).trans c2, (hb.cell hbl).trans c3, (hb.cell hbl).trans c4⟩ :
              U.cell? ⟨b, off + k * 5, none⟩ = some (.int .i64 d.kind) ∧ U.cell? ⟨b, off + k * 5 + 1, none⟩ = some (.string d.name) ∧ U.cell? ⟨b, off + k * 5 + 2, none⟩ = some (.string d.body) ∧ U.cell? ⟨b, off + k * 5 + 3, none⟩ = some (.string d.dest) ∧ U.cell? ⟨b, off + k * 5 + 4, none⟩ = some (.int .i64 d.n)))
            obtain ⟨hok1, hok2, hok3, _, hok5⟩ := HO2.out d (List.mem_of_getElem? hdk)
            obtain ⟨hn0, hn1⟩ := int_range hok5
            unfold maxLen at hok1 hok2 hok3
            have hi0 : (0 : Int) ≤ (k : Int) := by omega
            have hi1 : (k : Int) < (len2 : Int) := by omega
            have hfw := few_any d
            have HQ := Lib.hid hdk
            have HDO := Lib.hid (fun (V : World) (s : DS) (D : Nat) (bl : List Nat) (p : Option Addr) (c : Nat) (h : PS a w D s bl yy p c V) => h.doAt d (by omega) (by omega) (by omega) hn0 hn1)
            clear hdk c0 c1 c2 c3 c4 hok5
            obtain ⟨kd, nm, bd, dst, n⟩ := d
            simp only at hfw hok1 hok2 hok3 hn0 hn1 HC HDO
            obtain ⟨c0, c1, c2, c3, c4⟩ := HC.out wr hps.aw.below
            have hbw : b < wr.heap.size := Nat.lt_of_lt_of_le hbl hps.aw.below.size
            have hps5 := hps.keep (Joins.below_alloc1 wr (.cells #[.int .i64 kd, .string nm, .string bd, .string dst, .int .i64 n] 34))
            have H5 := Lib.hid hps5
            clear hps hps5
            have HPD := Lib.hid (HPD0.out.keep (Joins.below_alloc1 wr (.cells #[.int .i64 kd, .string nm, .string bd, .string dst, .int .i64 n] 34)))
            cases hfb : fewB ⟨kd, nm, bd, dst, n⟩
            · rw [hfb] at hfw
              clear hfb
              go_wp2_with fail
              refine (hfw _).mono ?_
              rintro e w5 ⟨rfl, rfl⟩
              go_wp2_with fail
              first
               | exact ⟨⟨k + 1, s, bl, p, c, by omega, by go_num, H5.out, HPD.out, HAS.out⟩, by simp [intOf]; omega⟩
               | (go_roundw
                  case rel => exact ⟨k + 1, s, bl, p, c, by omega, by go_num, H5.out, HPD.out, HAS.out⟩
                  case measure => simp [intOf]; omega)
            · rw [hfb] at hfw
              clear hfb
              by_cases hk7 : kd = 7
              · subst hk7
                go_wp2_with fail
                refine (hfw _).mono ?_
                rintro e w5 ⟨rfl, rfl⟩
                go_wp2_with fail
                first
                 | exact ⟨⟨k + 1, s, bl, p, c, by omega, by go_num, H5.out, HPD.out, HAS.out⟩, by simp [intOf]; omega⟩
                 | (go_roundw
                    case rel => exact ⟨k + 1, s, bl, p, c, by omega, by go_num, H5.out, HPD.out, HAS.out⟩
                    case measure => simp [intOf]; omega)
              · have hk7' : (kd != 7) = true := by simpa using hk7
                go_wp2_with fail
                refine (hfw _).mono ?_
                rintro e w5 ⟨rfl, rfl⟩
                go_wp2_with fail
                obtain ⟨V, hV⟩ : ∃ V, wr.alloc (.cells #[.int .i64 kd, .string nm, .string bd, .string dst, .int .i64 n] 34) = V := ⟨_, rfl⟩
                rw [hV] at H5 HPD ⊢
                clear hV c0 c1 c2 c3 c4
                have hpsV := H5.out
                have hbV : b < V.heap.size := Nat.lt_of_lt_of_le hbl hpsV.aw.below.size
                have hxlt := hpsV.lt
                obtain ⟨c0, c1, c2, c3, c4⟩ := HC.out V hpsV.aw.below
                obtain ⟨x0, x1, x2, x3, _, _, _, _⟩ := hpsV.cells
                have hko := hpsV.ko.drew
                have hkoV := hpsV.ko
                have hbse := hpsV.base
                have hVsz := hpsV.aw.below.size
                have hda := HDO.out V s D bl p c hpsV
                obtain ⟨s2, hs2⟩ : ∃ s2, doS s ⟨kd, nm, bd, dst, n⟩ = s2 := ⟨_, rfl⟩
                rw [hs2] at hda
                unfold DoPost rv at hda
                have HDA := Lib.hid hda
                have hb0 : Below V.heap.size V V.drew := (Below.refl _ _).drew
                have hb1 : ∀ o, Below V.heap.size V (V.alloc o).drew := fun o => ((Below.refl _ _).alloc (Nat.le_refl _) o).drew
                have hyx1 : yy ≠ V.heap.size := by omega
                have HS := Lib.hid (fun U (h : KO w yy s p c U) => (⟨h.cells.1, h.cells.2.1, h.cells.2.2.1, h.cells.2.2.2, (HC.out U h.2).1, (HC.out U h.2).2.1, (HC.out U h.2).2.2.1, (HC.out U h.2).2.2.2.1, (HC.out U h.2).2.2.2.2⟩ :
                  U.cell? ⟨yy, 0, none⟩ = some (.int .i64 (s.room : Int)) ∧ U.cell? ⟨yy, 1, none⟩ = some (.slice p s.l.length c) ∧ U.cell? ⟨yy, 2, none⟩ = some (.bool s.off) ∧ U.cell? ⟨yy, 3, none⟩ = some (.int .i64 (fz s)) ∧
                  U.cell? ⟨b, off + k * 5, none⟩ = some (.int .i64 kd) ∧ U.cell? ⟨b, off + k * 5 + 1, none⟩ = some (.string nm) ∧ U.cell? ⟨b, off + k * 5 + 2, none⟩ = some (.string bd) ∧ U.cell? ⟨b, off + k * 5 + 3, none⟩ = some (.string dst) ∧ U.cell? ⟨b, off + k * 5 + 4, none⟩ = some (.int .i64 n)))
                have HNO := Lib.hid (And.intro (fun (hin : V.heap.size ∈ blO) => (by have := (HPD.out.aw.disk.lt _ hin).2; omega : False)) (And.intro (show bx ≠ V.heap.size by have := HPD.out.lt; omega) (fun g off (he : pO = some ⟨g, off, none⟩) => (by have := (HPD.out.row.2 g off he).2; omega : g ≠ V.heap.size))))
                clear hpsV hda
                go_cut [14, 15] (fun y ok wc => ok = .bool true ∧ ∃ (yb : Nat) (bl2 : List Nat) (q : Option Addr) (cq : Nat), y = .pointer (some ⟨yb, 0, none⟩) ∧ AF a w D s2 bl2 q yy s p c wc ∧ wc.heap[yb]? = some (dbox s2 q cq) ∧ PS a w w.heap.size sO blO bx pO cO wc ∧ Aside blO bx pO bl2 yy)
                case first =>
                  go_region_held3 (fun U => U.cell? ⟨yy, 0, none⟩ = some (.int .i64 (s.room : Int)) ∧ U.cell? ⟨yy, 1, none⟩ = some (.slice p s.l.length c) ∧ U.cell? ⟨yy, 2, none⟩ = some (.bool s.off) ∧ U.cell? ⟨yy, 3, none⟩ = some (.int .i64 (fz s)) ∧
                      U.cell? ⟨b, off + k * 5, none⟩ = some (.int .i64 kd) ∧ U.cell? ⟨b, off + k * 5 + 1, none⟩ = some (.string nm) ∧ U.cell? ⟨b, off + k * 5 + 2, none⟩ = some (.string bd) ∧ U.cell? ⟨b, off + k * 5 + 3, none⟩ = some (.string dst) ∧ U.cell? ⟨b, off + k * 5 + 4, none⟩ = some (.int .i64 n))
                    (first | (with_reducible exact HS.out _ hko) | (with_reducible exact HS.out _ (hko.alloc _)) | (with_reducible exact HS.out _ (hkoV.alloc _).drew) | (with_reducible exact HS.out _ (hko.four hyx1 hVsz _ _ _ _)) | (with_reducible exact HS.out _ ((hko.alloc _).four hyx2 hyb2 _ _ _ _)) | go_keep)
                    (first
                     | ((with_reducible refine (HDA.out _ hb0).mono ?_); rintro e w6 ⟨bl6, q, cq, rfl, h6, r6, f6, far6⟩
                        have hko := (H5.out.keep hb0).koF f6
                        have HAF := Lib.hid ((H5.out.keep hb0).af h6 r6 f6 far6)
                        have HPD6 := Lib.hid ((HPD.out.keep hb0).aside HAS.out (H5.out.keep hb0).aw f6)
                        have hyx2 : yy ≠ w6.heap.size := by have := HAF.out.lt; omega
                        have hyb2 : w.heap.size ≤ w6.heap.size := HAF.out.aw.below.size
                        have HNY := Lib.hid (fun (hin : w6.heap.size ∈ bl6) => by have := (h6.disk.lt _ hin).2; omega)
                        have HQY := Lib.hid (fun g off (he : q = some ⟨g, off, none⟩) => (by have := (r6.2 g off he).2; omega : g ≠ w6.heap.size))
                        clear h6 r6 f6 far6)
                     | ((with_reducible refine (HDA.out _ (hb1 _)).mono ?_); rintro e w6 ⟨bl6, q, cq, rfl, h6, r6, f6, far6⟩
                        have hko := (H5.out.keep (hb1 _)).koF f6
                        have HAF := Lib.hid ((H5.out.keep (hb1 _)).af h6 r6 f6 far6)
                        have HPD6 := Lib.hid ((HPD.out.keep (hb1 _)).aside HAS.out (H5.out.keep (hb1 _)).aw f6)
                        have HNV : V.heap.size ∉ bl := fun hin => by have := (H5.out.aw.disk.lt _ hin).2; omega
                        have hyc := (f6.block V.heap.size (by simp) HNV).trans (heap_alloc_new V _)
                        have u0 : w6.cell? ⟨V.heap.size, 0, none⟩ = some (.int .i64 0) := by rw [Joins.cell_of_block hyc]; rfl
                        have u1 : w6.cell? ⟨V.heap.size, 1, none⟩ = some (.slice none 0 0) := by rw [Joins.cell_of_block hyc]; rfl
                        have u2 : w6.cell? ⟨V.heap.size, 2, none⟩ = some (.bool false) := by rw [Joins.cell_of_block hyc]; rfl
                        have u3 : w6.cell? ⟨V.heap.size, 3, none⟩ = some (.int .i64 0) := by rw [Joins.cell_of_block hyc]; rfl
                        have g0 := Joins.unfrozen_of_block hyc 0
                        have g1 := Joins.unfrozen_of_block hyc 1
                        have g2 := Joins.unfrozen_of_block hyc 2
                        have g3 := Joins.unfrozen_of_block hyc 3
                        have HNY := Lib.hid (fun (hin : V.heap.size ∈ bl6) => by
                          rcases f6.fresh _ hin with h | h
                          · exact HNV h
                          · simp at h; omega)
                        have HQY := Lib.hid (fun g off (he : q = some ⟨g, off, none⟩) => (by
                          rcases far6 g off he with h | h
                          · rw [h] at he; have := (H5.out.row.2 g off he).2; omega
                          · simp at h; omega : g ≠ V.heap.size))
                        have HYC := Lib.hid hyc
                        clear h6 r6 f6 far6 hyc HNV)
                     | fail)
                  all_goals
                    go_wp2_with fail
                    go_meet
                    refine ⟨rfl, _, bl6, q, cq, rfl, ?af, ?bo, ?pd, HPD6.out.2⟩
                    case af => first | (with_reducible exact HAF.out.alloc _) | (with_reducible exact HAF.out.four HNY.out hyx1 hVsz HQY.out _ _ _ _) | (with_reducible exact (HAF.out.alloc _).four HNY.out hyx2 hyb2 HQY.out _ _ _ _)
                    case bo => first | (with_reducible exact heap_alloc_new _ _) | (with_reducible exact four_set HYC.out _ _ _ _) | (with_reducible exact four_set (heap_alloc_new _ _) _ _ _ _)
                    case pd => first | (with_reducible exact HPD6.out.1.keep (Joins.below_alloc1 _ _)) | (with_reducible exact HPD6.out.1.turned HNO.out.1 HNO.out.2.1 HNO.out.2.2 hVsz (fr_four _ _ _ _ _ _))
                case rest =>
                  obtain ⟨rfl, yb, bl2, q, cq, rfl, haf, hyb, hpd, has⟩ := hcut
                  have HAF := Lib.hid haf
                  have y0 : wc.cell? ⟨yb, 0, none⟩ = some (.int .i64 (s2.room : Int)) := by rw [Joins.cell_of_block hyb]; rfl
                  have y1 : wc.cell? ⟨yb, 1, none⟩ = some (.slice q s2.l.length cq) := by rw [Joins.cell_of_block hyb]; rfl
                  have y2 : wc.cell? ⟨yb, 2, none⟩ = some (.bool s2.off) := by rw [Joins.cell_of_block hyb]; rfl
                  have y3 : wc.cell? ⟨yb, 3, none⟩ = some (.int .i64 (fz s2)) := by rw [Joins.cell_of_block hyb]; rfl
                  clear x0 x1 x2 x3 c0 c1 c2 c3 c4 hko hkoV
                  obtain ⟨x0, x1, x2, x3, f0, f1, f2, f3⟩ := haf.cells
                  have hps := haf.ps cq
                  have hbwc : b < wc.heap.size := Nat.lt_of_lt_of_le hbl haf.aw.below.size
                  obtain ⟨c0, c1, c2, c3, c4⟩ := HC.out wc haf.aw.below
                  have HPN := Lib.hid (And.intro (hpd.turned has.e1 has.e2 has.e3 haf.base (fr_four wc yy (.int .i64 (s2.room : Int)) (.slice q s2.l.length cq) (.bool s2.off) (.int .i64 (fz s2)))) has)
                  clear haf hyb hpd has
                  go_wp2_with fail
                  clear x0 x1 x2 x3 f0 f1 f2 f3 y0 y1 y2 y3 c0 c1 c2 c3 c4
                  first
                   | exact ⟨⟨k + 1, s2, bl2, q, cq, by omega, by go_num, hps, HPN.out.1, HPN.out.2⟩, by simp [intOf]; omega⟩
                   | (go_roundw
                      case rel => exact ⟨k + 1, s2, bl2, q, cq, by omega, by go_num, hps, HPN.out.1, HPN.out.2⟩
                      case measure => simp [intOf]; omega)
          · obtain rfl : k = len2 := by omega
            have hnl2 : decide ((k : Int) < (k : Int)) = false := by simp
            clear hps
            obtain ⟨x0, x1, x2, x3, _, _, _, _⟩ := HPD0.out.cells
            go_wp2_with fail
            refine (HPD0.out.used _ (Below.refl _ _)).mono ?_
            rintro e w8 ⟨rfl, hb8⟩
            obtain ⟨y0, y1, y2, y3⟩ := HPR2.out.boxAt w8 hb8
            have HU2 := Lib.hid (HPR2.out.used w8 hb8)
            have HB8 := Lib.hid hb8
            clear hb8 x0 x1 x2 x3
            go_wp2_with fail
            refine HU2.out.mono ?_
            rintro e w9 ⟨rfl, hb9⟩
            have HB9 := Lib.hid (HB8.out.trans (hb9.mono HB8.out.size))
            clear hb9 y0 y1 y2 y3
            go_wp2_with fail
            refine (diskAwake a w9 (HPR2.out.keep HB9.out).aw.pow).mono ?_
            rintro e w10 ⟨rfl, hb10⟩
            have HBX := Lib.hid ((HPR2.out.keep HB9.out).onBelow hb10); clear hb10
            go_wp2_with fail
            go_ret
            exact ⟨rfl, HBX.out⟩

theorem copies_row (P1 : Option Addr) (len1 cap1 : Nat) (ds1 : List Dd) (P2 : Option Addr) (len2 cap2 : Nat) (ds2 : List Dd) (w : World) (hd1 : DdArg w P1 len1 ds1) (hd2 : DdArg w P2 len2 ds2) (hL : laidMetH Tryd.prog Rows.diskCopiesRow.laid w) :
    Calls Tryd.prog 4 #[.slice P1 len1 cap1, .slice P2 len2 cap2] w fun e w' => e = .returned (.bool true) ∧ Below w.heap.size w w' := by
  obtain ⟨a, hp⟩ := pow_of hL (by kernel_rfl)
  exact copies_law P1 len1 cap1 ds1 P2 len2 cap2 ds2 a w hd1 hd2 hp
end Go.Proofs.YtopigchjdegpeaaDoor
