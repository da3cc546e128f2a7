/-
  DiskPlays' walk.
-/
import Derived.Test.YtopigchjdegpeaaDoorDiskPS
namespace Go.Proofs.YtopigchjdegpeaaDoor
open Go.RowKit

set_option maxHeartbeats 8000000 in
set_option maxRecDepth 100000 in
theorem plays_law (room : Int) (hr0 : -9223372036854775808 ≤ room) (hr1 : room ≤ 9223372036854775807) (P : Option Addr) (len cap : Nat) (ds : List Dd) (a : Addr) (w : World) (hd : DdArg w P len ds) (hp : Pow a w) :
    Calls Tryd.prog 3 #[.int .i64 room, .slice P len cap] w fun e w' => e = .returned (.bool true) ∧ Below w.heap.size w w' := by
  obtain ⟨hlen, hmx, hrow, hok⟩ := hd
  unfold maxLen at hmx
  have HP := Lib.hid hp
  have HL := Lib.hid hlen
  have HR := Lib.hid hrow
  have HO := Lib.hid hok
  clear hp hlen hrow hok
  by_cases hbig : 60 < len
  · go_enter Tryd.func3, Tryd.ntmps3
    go_wp2_with fail
    refine (diskAwake a w HP.out).mono ?_
    rintro e w1 ⟨rfl, hb⟩
    have HB := Lib.hid hb; clear hb
    go_wp2_with fail
    go_ret
    exact ⟨rfl, HB.out⟩
  · have hsm : len ≤ 60 := by omega
    clear hbig
    by_cases hrm : room < 0 ∨ 4194304 < room
    · rcases hrm with h | h
      · have hd : decide (room < 0) = true := by simpa using h
        go_enter Tryd.func3, Tryd.ntmps3
        go_wp2_with fail
        refine (new_no room w (.inl h)).mono ?_
        rintro e w1 ⟨rfl, rfl⟩
        go_wp2_with fail
        refine (diskAwake a w HP.out).mono ?_
        rintro e w1 ⟨rfl, hb⟩
        have HB := Lib.hid hb; clear hb
        go_wp2_with fail
        go_ret
        exact ⟨rfl, HB.out⟩
      · have hd0 : decide (room < 0) = false := by simp; omega
        have hd : decide (4194304 < room) = true := by simpa using h
        go_enter Tryd.func3, Tryd.ntmps3
        go_wp2_with fail
        refine (new_no room w (.inr h)).mono ?_
        rintro e w1 ⟨rfl, rfl⟩
        go_wp2_with fail
        refine (diskAwake a w HP.out).mono ?_
        rintro e w1 ⟨rfl, hb⟩
        have HB := Lib.hid hb; clear hb
        go_wp2_with fail
        go_ret
        exact ⟨rfl, HB.out⟩
    · obtain ⟨rm, rfl⟩ : ∃ rm : Nat, room = (rm : Int) := ⟨room.toNat, by omega⟩
      have hrm0 : rm ≤ 4194304 := by omega
      clear hrm hr0 hr1
      go_enter Tryd.func3, Tryd.ntmps3
      go_wp2_with fail
      refine (dNew rm w hrm0).mono ?_
      rintro e w1 ⟨bl, rfl, hm⟩
      have HW := Lib.hid (show AW a w w.heap.size (newS rm) bl w1 from ⟨hm.2, HP.out.below hm.2 HP.out.lt, hm.1, HP.out.lt⟩)
      clear hm
      have hnew := refNew_any rm w1
      unfold rv at hnew
      have HNEW := Lib.hid hnew
      clear hnew
      go_wp2_with fail
      refine HNEW.out.mono ?_
      rintro e w2 ⟨rfl, hb2⟩
      have HPS := Lib.hid (PS.start (HW.out.keep hb2))
      clear hb2 HNEW HW
      go_wp2_with fail
      go_loopw [5, 8] (fun d i wr => ∃ (k : Nat) (s : DS) (D : Nat) (bl : List Nat) (p : Option Addr) (c : Nat), k ≤ len ∧ i = .int .i64 k ∧ d = .pointer (some ⟨D, 0, none⟩) ∧ PS a w D s bl w2.heap.size p c wr) (fun _ i _ => len - (intOf i).toNat)
      case atStart => exact ⟨0, _, _, _, _, _, Nat.zero_le _, rfl, rfl, HPS.out⟩
      case round =>
        obtain ⟨k, s, D, bl, p, c, hk, rfl, rfl, hps⟩ := hrel
        have HPR := Lib.hid hps
        by_cases hlt : k < len
        · obtain ⟨d, hdk⟩ : ∃ d, ds[k]? = some d := ⟨_, List.getElem?_eq_getElem (by rw [HL.out]; exact hlt)⟩
          obtain ⟨b, off, rfl, hbl, c0, c1, c2, c3, c4⟩ : ∃ b off, P = some ⟨b, off, none⟩ ∧ b < w.heap.size ∧ w.cell? ⟨b, off + k * 5, none⟩ = some (.int .i64 d.kind) ∧ w.cell? ⟨b, off + k * 5 + 1, none⟩ = some (.string d.name) ∧ w.cell? ⟨b, off + k * 5 + 2, none⟩ = some (.string d.body) ∧ w.cell? ⟨b, off + k * 5 + 3, none⟩ = some (.string d.dest) ∧ w.cell? ⟨b, off + k * 5 + 4, none⟩ = some (.int .i64 d.n) := by
            rcases HR.out with h | ⟨b, off, rfl, hlt', hc⟩
            · rw [h] at hdk; simp at hdk
            · exact ⟨b, off, rfl, hlt', hc k d hdk⟩
          have HC := Lib.hid (fun U (hb : Below w.heap.size w U) => (⟨(hb.cell hbl).trans c0, (hb.cell hbl).trans c1, (hb.cell hbl).trans c2, (hb.cell hbl).trans c3, (hb.cell hbl).trans c4⟩ :
            U.cell? ⟨b, off + k * 5, none⟩ = some (.int .i64 d.kind) ∧ U.cell? ⟨b, off + k * 5 + 1, none⟩ = some (.string d.name) ∧ U.cell? ⟨b, off + k * 5 + 2, none⟩ = some (.string d.body) ∧ U.cell? ⟨b, off + k * 5 + 3, none⟩ = some (.string d.dest) ∧ U.cell? ⟨b, off + k * 5 + 4, none⟩ = some (.int .i64 d.n)))
          have HCW := Lib.hid c3
          obtain ⟨hok1, hok2, hok3, _, hok5⟩ := HO.out d (List.mem_of_getElem? hdk)
          obtain ⟨hn0, hn1⟩ := int_range hok5
          unfold maxLen at hok1 hok2 hok3
          have hi0 : (0 : Int) ≤ (k : Int) := by omega
          have hi1 : (k : Int) < (len : Int) := by omega
          have hfw := few_any d
          have HQ := Lib.hid hdk
          have HDO := Lib.hid (fun (V : World) (s : DS) (D : Nat) (bl : List Nat) (p : Option Addr) (c : Nat) (h : PS a w D s bl w2.heap.size p c V) => h.doAt d (by omega) (by omega) (by omega) hn0 hn1)
          clear hdk c0 c1 c2 c3 c4 hok5
          obtain ⟨kd, nm, bd, dst, n⟩ := d
          simp only at hfw hok1 hok2 hok3 hn0 hn1 HC HCW HDO
          obtain ⟨c0, c1, c2, c3, c4⟩ := HC.out wr hps.aw.below
          have hbw : b < wr.heap.size := Nat.lt_of_lt_of_le hbl hps.aw.below.size
          have hps5 := hps.keep (Joins.below_alloc1 wr (.cells #[.int .i64 kd, .string nm, .string bd, .string dst, .int .i64 n] 34))
          have H5 := Lib.hid hps5
          clear hps hps5
          cases hfb : fewB ⟨kd, nm, bd, dst, n⟩
          · rw [hfb] at hfw
            clear hfb
            go_wp2_with fail
            refine (hfw _).mono ?_
            rintro e w5 ⟨rfl, rfl⟩
            go_wp2_with fail
            go_roundw
            case rel => exact ⟨k + 1, s, D, bl, p, c, by omega, by go_num, rfl, H5.out⟩
            case measure => simp [intOf]; omega
          · rw [hfb] at hfw
            clear hfb
            by_cases hk7 : kd = 7
            · subst hk7
              go_wp2_with fail
              refine (hfw _).mono ?_
              rintro e w5 ⟨rfl, rfl⟩
              go_wp2_with fail
              refine (dCopy H5.out.aw.disk).mono ?_
              rintro e w6 ⟨D6, bl6, rfl, hm6⟩
              have hps := H5.out.copied hm6
              clear hm6 c0 c1 c2 c3 c4
              have hbw6 : b < w6.heap.size := Nat.lt_of_lt_of_le hbl hps.aw.below.size
              go_wp2_with fail
              have HPV := Lib.hid hps
              have HSAME := Lib.hid hps.used
              have HRL := Lib.hid (hps.rlist dst)
              have HDL := Lib.hid (hps.dlist dst)
              have HML := Lib.hid (list_max hps.aw.disk.fit dst)
              have HS := Lib.hid (fun U hb => (⟨(hps.boxAt U hb).1, (hps.boxAt U hb).2.1, (hps.boxAt U hb).2.2.1, (hps.boxAt U hb).2.2.2, ((hps.onBelow hb).cell hbl).trans HCW.out⟩ :
                U.cell? ⟨w2.heap.size, 0, none⟩ = some (.int .i64 (s.room : Int)) ∧ U.cell? ⟨w2.heap.size, 1, none⟩ = some (.slice p s.l.length c) ∧ U.cell? ⟨w2.heap.size, 2, none⟩ = some (.bool s.off) ∧ U.cell? ⟨w2.heap.size, 3, none⟩ = some (.int .i64 (fz s)) ∧ U.cell? ⟨b, off + k * 5 + 3, none⟩ = some (.string dst)))
              have hbc := hps.drew0
              obtain ⟨s0, s1, s2c, s3, s4⟩ := HS.out _ hbc
              clear hps
              go_region_held3 (fun U => U.cell? ⟨w2.heap.size, 0, none⟩ = some (.int .i64 (s.room : Int)) ∧ U.cell? ⟨w2.heap.size, 1, none⟩ = some (.slice p s.l.length c) ∧ U.cell? ⟨w2.heap.size, 2, none⟩ = some (.bool s.off) ∧ U.cell? ⟨w2.heap.size, 3, none⟩ = some (.int .i64 (fz s)) ∧ U.cell? ⟨b, off + k * 5 + 3, none⟩ = some (.string dst)) (first | exact HS.out _ hbc | go_keep)
                (first
                 | ((with_reducible refine (HSAME.out _ hbc).mono ?_); rintro e w6 ⟨rfl, hb6⟩; have hbc := hbc.trans (hb6.mono hbc.size); clear hb6)
                 | ((with_reducible refine (HDL.out _ hbc).mono ?_); rintro e w6 ⟨v6, rfl, ho6, hb6⟩; have hbc := hbc.trans (hb6.mono hbc.size); clear hb6; obtain ⟨p6, c6, rfl, hr6⟩ := ho6.row; clear ho6)
                 | ((with_reducible refine (HRL.out _ hbc).mono ?_); rintro e w7 ⟨v7, rfl, ho7, hb7⟩; have hbc := hbc.trans (hb7.mono hbc.size); have hr6 := hr6.below hb7; clear hb7; obtain ⟨p7, c7, rfl, hr7⟩ := ho7.row; clear ho7)
                 | ((with_reducible refine (texts_any _ _ _ _ (listD s dst) (listD s dst) _ hr6 hr7 HML.out HML.out).mono ?_); rintro e w8 ⟨rfl, nq, rfl⟩; rw [show decide (listD s dst = listD s dst) = true by simp]; have hbc := hbc.trans (Joins.below_draws _ _ nq))
                 | fail)
              all_goals
                have HPN := Lib.hid (HPV.out.keep hbc)
                clear hbc hr6 hr7 s0 s1 s2c s3 s4
                go_wp2_with fail
                first
                 | exact ⟨⟨k + 1, s, D6, bl6, p, c, by omega, by go_num, rfl, HPN.out⟩, by simp [intOf]; omega⟩
                 | (go_roundw
                    case rel => exact ⟨k + 1, s, D6, bl6, p, c, by omega, by go_num, rfl, HPN.out⟩
                    case measure => simp [intOf]; omega)
            · have hk7' : (kd == 7) = false := by simpa using hk7
              go_wp2_with fail
              refine (hfw _).mono ?_
              rintro e w5 ⟨rfl, rfl⟩
              go_wp2_with fail
              obtain ⟨V, hV⟩ : ∃ V, wr.alloc (.cells #[.int .i64 kd, .string nm, .string bd, .string dst, .int .i64 n] 34) = V := ⟨_, rfl⟩
              rw [hV] at H5 ⊢
              clear hV c0 c1 c2 c3 c4
              have hpsV := H5.out
              have hbV : b < V.heap.size := Nat.lt_of_lt_of_le hbl hpsV.aw.below.size
              have hxlt := hpsV.lt
              obtain ⟨c0, c1, c2, c3, c4⟩ := HC.out V hpsV.aw.below
              obtain ⟨x0, x1, x2, x3, _, _, _, _⟩ := hpsV.cells
              have hko := hpsV.ko.drew
              have hkoV := hpsV.ko
              have hbse := hpsV.base
              have hVsz := hpsV.aw.below.size
              have hda := HDO.out V s D bl p c hpsV
              obtain ⟨s2, hs2⟩ : ∃ s2, doS s ⟨kd, nm, bd, dst, n⟩ = s2 := ⟨_, rfl⟩
              rw [hs2] at hda
              unfold DoPost rv at hda
              have HDA := Lib.hid hda
              have hb0 : Below V.heap.size V V.drew := (Below.refl _ _).drew
              have hb1 : ∀ o, Below V.heap.size V (V.alloc o).drew := fun o => ((Below.refl _ _).alloc (Nat.le_refl _) o).drew
              have hyx1 : w2.heap.size ≠ V.heap.size := by omega
              have HS := Lib.hid (fun U (h : KO w w2.heap.size s p c U) => (⟨h.cells.1, h.cells.2.1, h.cells.2.2.1, h.cells.2.2.2, (HC.out U h.2).1, (HC.out U h.2).2.1, (HC.out U h.2).2.2.1, (HC.out U h.2).2.2.2.1, (HC.out U h.2).2.2.2.2⟩ :
                U.cell? ⟨w2.heap.size, 0, none⟩ = some (.int .i64 (s.room : Int)) ∧ U.cell? ⟨w2.heap.size, 1, none⟩ = some (.slice p s.l.length c) ∧ U.cell? ⟨w2.heap.size, 2, none⟩ = some (.bool s.off) ∧ U.cell? ⟨w2.heap.size, 3, none⟩ = some (.int .i64 (fz s)) ∧
                U.cell? ⟨b, off + k * 5, none⟩ = some (.int .i64 kd) ∧ U.cell? ⟨b, off + k * 5 + 1, none⟩ = some (.string nm) ∧ U.cell? ⟨b, off + k * 5 + 2, none⟩ = some (.string bd) ∧ U.cell? ⟨b, off + k * 5 + 3, none⟩ = some (.string dst) ∧ U.cell? ⟨b, off + k * 5 + 4, none⟩ = some (.int .i64 n)))
              clear hpsV hda
              go_cut [9, 10] (fun y ok wc => ok = .bool true ∧ ∃ (yb : Nat) (bl2 : List Nat) (q : Option Addr) (cq : Nat), y = .pointer (some ⟨yb, 0, none⟩) ∧ AF a w D s2 bl2 q w2.heap.size s p c wc ∧ wc.heap[yb]? = some (dbox s2 q cq))
              case first =>
                go_region_held3 (fun U => U.cell? ⟨w2.heap.size, 0, none⟩ = some (.int .i64 (s.room : Int)) ∧ U.cell? ⟨w2.heap.size, 1, none⟩ = some (.slice p s.l.length c) ∧ U.cell? ⟨w2.heap.size, 2, none⟩ = some (.bool s.off) ∧ U.cell? ⟨w2.heap.size, 3, none⟩ = some (.int .i64 (fz s)) ∧
                    U.cell? ⟨b, off + k * 5, none⟩ = some (.int .i64 kd) ∧ U.cell? ⟨b, off + k * 5 + 1, none⟩ = some (.string nm) ∧ U.cell? ⟨b, off + k * 5 + 2, none⟩ = some (.string bd) ∧ U.cell? ⟨b, off + k * 5 + 3, none⟩ = some (.string dst) ∧ U.cell? ⟨b, off + k * 5 + 4, none⟩ = some (.int .i64 n))
                  (first | (with_reducible exact HS.out _ hko) | (with_reducible exact HS.out _ (hko.alloc _)) | (with_reducible exact HS.out _ (hkoV.alloc _).drew) | (with_reducible exact HS.out _ (hko.four hyx1 hVsz _ _ _ _)) | (with_reducible exact HS.out _ ((hko.alloc _).four hyx2 hyb2 _ _ _ _)) | go_keep)
                  (first
                   | ((with_reducible refine (HDA.out _ hb0).mono ?_); rintro e w6 ⟨bl6, q, cq, rfl, h6, r6, f6, far6⟩
                      have hko := (H5.out.keep hb0).koF f6
                      have HAF := Lib.hid ((H5.out.keep hb0).af h6 r6 f6 far6)
                      have hyx2 : w2.heap.size ≠ w6.heap.size := by have := HAF.out.lt; omega
                      have hyb2 : w.heap.size ≤ w6.heap.size := HAF.out.aw.below.size
                      have HNY := Lib.hid (fun (hin : w6.heap.size ∈ bl6) => by have := (h6.disk.lt _ hin).2; omega)
                      have HQY := Lib.hid (fun g off (he : q = some ⟨g, off, none⟩) => (by have := (r6.2 g off he).2; omega : g ≠ w6.heap.size))
                      clear h6 r6 f6 far6)
                   | ((with_reducible refine (HDA.out _ (hb1 _)).mono ?_); rintro e w6 ⟨bl6, q, cq, rfl, h6, r6, f6, far6⟩
                      have hko := (H5.out.keep (hb1 _)).koF f6
                      have HAF := Lib.hid ((H5.out.keep (hb1 _)).af h6 r6 f6 far6)
                      have HNV : V.heap.size ∉ bl := fun hin => by have := (H5.out.aw.disk.lt _ hin).2; omega
                      have hyc := (f6.block V.heap.size (by simp) HNV).trans (heap_alloc_new V _)
                      have u0 : w6.cell? ⟨V.heap.size, 0, none⟩ = some (.int .i64 0) := by rw [Joins.cell_of_block hyc]; rfl
                      have u1 : w6.cell? ⟨V.heap.size, 1, none⟩ = some (.slice none 0 0) := by rw [Joins.cell_of_block hyc]; rfl
                      have u2 : w6.cell? ⟨V.heap.size, 2, none⟩ = some (.bool false) := by rw [Joins.cell_of_block hyc]; rfl
                      have u3 : w6.cell? ⟨V.heap.size, 3, none⟩ = some (.int .i64 0) := by rw [Joins.cell_of_block hyc]; rfl
                      have g0 := Joins.unfrozen_of_block hyc 0
                      have g1 := Joins.unfrozen_of_block hyc 1
                      have g2 := Joins.unfrozen_of_block hyc 2
                      have g3 := Joins.unfrozen_of_block hyc 3
                      have HNY := Lib.hid (fun (hin : V.heap.size ∈ bl6) => by
                        rcases f6.fresh _ hin with h | h
                        · exact HNV h
                        · simp at h; omega)
                      have HQY := Lib.hid (fun g off (he : q = some ⟨g, off, none⟩) => (by
                        rcases far6 g off he with h | h
                        · rw [h] at he; have := (H5.out.row.2 g off he).2; omega
                        · simp at h; omega : g ≠ V.heap.size))
                      have HYC := Lib.hid hyc
                      clear h6 r6 f6 far6 hyc HNV)
                   | fail)
                all_goals
                  go_wp2_with fail
                  go_meet
                  refine ⟨rfl, _, bl6, q, cq, rfl, ?af, ?bo⟩
                  case af => first | (with_reducible exact HAF.out.alloc _) | (with_reducible exact HAF.out.four HNY.out hyx1 hVsz HQY.out _ _ _ _) | (with_reducible exact (HAF.out.alloc _).four HNY.out hyx2 hyb2 HQY.out _ _ _ _)
                  case bo => first | (with_reducible exact heap_alloc_new _ _) | (with_reducible exact four_set HYC.out _ _ _ _) | (with_reducible exact four_set (heap_alloc_new _ _) _ _ _ _)
              case rest =>
                obtain ⟨rfl, yb, bl2, q, cq, rfl, haf, hyb⟩ := hcut
                have HAF := Lib.hid haf
                have y0 : wc.cell? ⟨yb, 0, none⟩ = some (.int .i64 (s2.room : Int)) := by rw [Joins.cell_of_block hyb]; rfl
                have y1 : wc.cell? ⟨yb, 1, none⟩ = some (.slice q s2.l.length cq) := by rw [Joins.cell_of_block hyb]; rfl
                have y2 : wc.cell? ⟨yb, 2, none⟩ = some (.bool s2.off) := by rw [Joins.cell_of_block hyb]; rfl
                have y3 : wc.cell? ⟨yb, 3, none⟩ = some (.int .i64 (fz s2)) := by rw [Joins.cell_of_block hyb]; rfl
                clear x0 x1 x2 x3 c0 c1 c2 c3 c4 hko hkoV
                obtain ⟨x0, x1, x2, x3, f0, f1, f2, f3⟩ := haf.cells
                have hps := haf.ps cq
                have hbwc : b < wc.heap.size := Nat.lt_of_lt_of_le hbl haf.aw.below.size
                obtain ⟨c0, c1, c2, c3, c4⟩ := HC.out wc haf.aw.below
                clear haf hyb
                go_wp2_with fail
                have HPV := Lib.hid hps
                have HSAME := Lib.hid hps.used
                have HRL := Lib.hid (hps.rlist dst)
                have HDL := Lib.hid (hps.dlist dst)
                have HML := Lib.hid (list_max hps.aw.disk.fit dst)
                have HS := Lib.hid (fun U hb => (⟨(hps.boxAt U hb).1, (hps.boxAt U hb).2.1, (hps.boxAt U hb).2.2.1, (hps.boxAt U hb).2.2.2, ((hps.onBelow hb).cell hbl).trans HCW.out⟩ :
                  U.cell? ⟨w2.heap.size, 0, none⟩ = some (.int .i64 (s2.room : Int)) ∧ U.cell? ⟨w2.heap.size, 1, none⟩ = some (.slice q s2.l.length cq) ∧ U.cell? ⟨w2.heap.size, 2, none⟩ = some (.bool s2.off) ∧ U.cell? ⟨w2.heap.size, 3, none⟩ = some (.int .i64 (fz s2)) ∧ U.cell? ⟨b, off + k * 5 + 3, none⟩ = some (.string dst)))
                have hbc := hps.drew0
                obtain ⟨s0, s1, s2c, s3, s4⟩ := HS.out _ hbc
                clear hps
                go_region_held3 (fun U => U.cell? ⟨w2.heap.size, 0, none⟩ = some (.int .i64 (s2.room : Int)) ∧ U.cell? ⟨w2.heap.size, 1, none⟩ = some (.slice q s2.l.length cq) ∧ U.cell? ⟨w2.heap.size, 2, none⟩ = some (.bool s2.off) ∧ U.cell? ⟨w2.heap.size, 3, none⟩ = some (.int .i64 (fz s2)) ∧ U.cell? ⟨b, off + k * 5 + 3, none⟩ = some (.string dst)) (first | exact HS.out _ hbc | go_keep)
                  (first
                   | ((with_reducible refine (HSAME.out _ hbc).mono ?_); rintro e w6 ⟨rfl, hb6⟩; have hbc := hbc.trans (hb6.mono hbc.size); clear hb6)
                   | ((with_reducible refine (HDL.out _ hbc).mono ?_); rintro e w6 ⟨v6, rfl, ho6, hb6⟩; have hbc := hbc.trans (hb6.mono hbc.size); clear hb6; obtain ⟨p6, c6, rfl, hr6⟩ := ho6.row; clear ho6)
                   | ((with_reducible refine (HRL.out _ hbc).mono ?_); rintro e w7 ⟨v7, rfl, ho7, hb7⟩; have hbc := hbc.trans (hb7.mono hbc.size); have hr6 := hr6.below hb7; clear hb7; obtain ⟨p7, c7, rfl, hr7⟩ := ho7.row; clear ho7)
                   | ((with_reducible refine (texts_any _ _ _ _ (listD s2 dst) (listD s2 dst) _ hr6 hr7 HML.out HML.out).mono ?_); rintro e w8 ⟨rfl, nq, rfl⟩; rw [show decide (listD s2 dst = listD s2 dst) = true by simp]; have hbc := hbc.trans (Joins.below_draws _ _ nq))
                   | fail)
                all_goals
                  have HPN := Lib.hid (HPV.out.keep hbc)
                  clear hbc hr6 hr7 s0 s1 s2c s3 s4
                  go_wp2_with fail
                  first
                   | exact ⟨⟨k + 1, s2, D, bl2, q, cq, by omega, by go_num, rfl, HPN.out⟩, by simp [intOf]; omega⟩
                   | (go_roundw
                      case rel => exact ⟨k + 1, s2, D, bl2, q, cq, by omega, by go_num, rfl, HPN.out⟩
                      case measure => simp [intOf]; omega)
        · obtain rfl : k = len := by omega
          have hnl : decide ((k : Int) < (k : Int)) = false := by simp
          clear hps
          go_wp2_with fail
          refine (diskAwake a wr HPR.out.aw.pow).mono ?_
          rintro e w8 ⟨rfl, hb8⟩
          have HB8 := Lib.hid (HPR.out.onBelow hb8); clear hb8
          go_wp2_with fail
          go_ret
          exact ⟨rfl, HB8.out⟩

theorem plays_row (room : Int) (P : Option Addr) (len cap : Nat) (ds : List Dd) (w : World) (hr : (Lit.int .i64 room).wf = true) (hd : DdArg w P len ds) (hL : laidMetH Tryd.prog Rows.diskPlaysRow.laid w) :
    Calls Tryd.prog 3 #[.int .i64 room, .slice P len cap] w fun e w' => e = .returned (.bool true) ∧ Below w.heap.size w w' := by
  obtain ⟨a, hp⟩ := pow_of hL (by kernel_rfl)
  obtain ⟨h0, h1⟩ := int_range hr
  exact plays_law room h0 h1 P len cap ds a w hd hp
end Go.Proofs.YtopigchjdegpeaaDoor
