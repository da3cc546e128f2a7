/-
  Missing: the document's.
-/
import Derived.Test.YtcedliaeipabnaaCauRAdd
namespace Go.Proofs.Ytcedliaeipabnaa
set_option maxRecDepth 100000
open Go.RowKit Go.Sort

/-- of what the first one's vector has none lacks -/
theorem MissIn.back {a b : Cx} {i : Nat} {n k : Int} {m : List Dt} (h : MissIn a b (Ahead i n) m) (hn : n ≤ a.v.getD i 0 + 1) (hk : k ≤ n) : MissIn a b (Ahead i k) m :=
  h.turn fun x hx => by
    unfold Ahead
    constructor
    · rintro (h1 | ⟨h1, h2⟩)
      · exact .inl h1
      · exfalso
        have hd := hx.dot
        have hxi : x.1.toNat = i := by omega
        have h3 := hx.2
        rw [hasC_no] at h3
        refine h3 ⟨(hasC_iff.1 hx.1).1, .inl ?_⟩
        rw [hxi]
        omega
    · rintro (h1 | ⟨h1, h2⟩)
      · exact .inl h1
      · exact .inr ⟨h1, by omega⟩
/-- the first loop's end -/
theorem MissIn.after {a b : Cx} {i : Nat} {n : Int} {m : List Dt} (h : MissIn a b (Ahead i n) m) (hn : n ≤ b.v.getD i 0 + 1 ∨ n = a.v.getD i 0 + 1) (he : b.v.getD i 0 < n ∨ m.length = 4096) : MissIn a b (Ahead i (b.v.getD i 0 + 1)) m := by
  by_cases h1 : n ≤ b.v.getD i 0 + 1
  · rcases he with he | he
    · have e : n = b.v.getD i 0 + 1 := by omega
      rw [← e]; exact h
    · exact h.rest_full he fun d hd => by unfold Ahead at *; omega
  · have e := hn.resolve_left h1
    exact h.back (by omega) (by omega)
/-- a cloud's name -/
theorem lacks_cloud {a b : Cx} (hb : IsClean b) {k : Nat} {d : Dt} (hd : b.l[k]? = some d) (ha : hasC a d = false) : Lacks a b d :=
  ⟨hasC_iff.2 ⟨(hb.out d (List.mem_of_getElem? hd)).1, .inr (List.mem_of_getElem? hd)⟩, ha⟩

set_option maxHeartbeats 16000000 in
theorem missRC (a b : Cx) (pa pb : Option Addr) (ca cb : Nat) (w : World) (h : CIn w a pa) (hm : CIn w b pb) :
    Calls Try.prog 22 #[.agg (ccs a.v (.slice pa a.l.length ca)), .agg (ccs b.v (.slice pb b.l.length cb))] w fun e w' => (∃ (m : List Dt) (p : Option Addr) (k : Nat), e = .returned (.slice p m.length k) ∧ IsMiss a b m ∧ DFrom w' w.heap.size p m) ∧ Go.RowKit.Below w.heap.size w w' := by
  have HV := Lib.hid h.v16
  have HV2 := Lib.hid hm.v16
  have HI := Lib.hid (And.intro h hm)
  have HC := Lib.hid (two_ctx w a.v b.v (.slice pa a.l.length ca) (.slice pb b.l.length cb))
  unfold boxC at HC
  clear h hm
  go_enter Try.func22, Try.ntmps22
  go_upto_region 1 with fail
  change Code.wp _ _ _ _ ((w.alloc (.cells (ccs a.v (.slice pa a.l.length ca)) 26)).alloc (.cells (ccs b.v (.slice pb b.l.length cb)) 26))
  generalize (w.alloc (.cells (ccs a.v (.slice pa a.l.length ca)) 26)).alloc (.cells (ccs b.v (.slice pb b.l.length cb)) 26) = W0 at *
  go_wp2_with ((with_reducible refine cl_load ?_ (.tmp 2) ?_ w.heap.size a.v (.slice pa a.l.length ca) ?_ ?_ ?_ ?_); rfl; rfl; rfl; exact HC.out.1; exact HV.out)
  refine (cleanRC a pa ca W0 (HI.out.1.below HC.out.2.2)).mono ?_
  rintro e w1 ⟨⟨o1, p1, c1, rfl, hof1, hom1, hol1⟩, hb1⟩
  have hzW : w.heap.size + 2 ≤ W0.heap.size := by have := HC.out.2.1.lt; omega
  have X1 := Lib.hid (And.intro (HC.out.1.keep hb1) (And.intro (HC.out.2.1.keep hb1) (HC.out.2.2.trans (hb1.mono HC.out.2.2.size))))
  have HO1 := Lib.hid (And.intro hof1 (And.intro (hom1.mono hzW) hol1))
  have X2 := Lib.hid (And.intro (CRow.of_put X1.out.1 o1.v (.slice p1 o1.l.length c1)) (And.intro (X1.out.2.1.of_set (show w.heap.size + 1 ≠ w.heap.size by omega) (ccs o1.v (.slice p1 o1.l.length c1))) (And.intro (belowRow X1.out.2.2 (Nat.le_refl _) (ccs o1.v (.slice p1 o1.l.length c1))) (HO1.out.2.1.setRow (show w.heap.size < w.heap.size + 2 by omega) (ccs o1.v (.slice p1 o1.l.length c1))))))
  have hs1 := hb1.size
  clear hof1 hom1 hol1 hb1 HC
  go_upto_region 2 with ((with_reducible refine cl_store ?_ (.tmp 2) (.tmp 11) ?_ w.heap.size o1.v p1 o1.l.length c1 ?_ ?_ ?_ ?_ ?_); rfl; rfl; rfl; rfl; exact ⟨_, _, X1.out.1, HV.out⟩; exact HO1.out.2.1.v16)
  have hsz2 : (w1.setRow w.heap.size (ccs o1.v (.slice p1 o1.l.length c1))).heap.size = w1.heap.size := by simp
  generalize w1.setRow w.heap.size (ccs o1.v (.slice p1 o1.l.length c1)) = w2 at *
  go_wp2_with ((with_reducible refine cl_load ?_ (.tmp 3) ?_ (w.heap.size + 1) b.v (.slice pb b.l.length cb) ?_ ?_ ?_ ?_); rfl; rfl; rfl; exact X2.out.2.1; exact HV2.out)
  refine (cleanRC b pb cb w2 (HI.out.2.below X2.out.2.2.1)).mono ?_
  rintro e w3 ⟨⟨o2, p2, c2, rfl, hof2, hom2, hol2⟩, hb3⟩
  have HO2 := Lib.hid (And.intro hof2 (And.intro (hom2.mono (show w.heap.size + 2 ≤ w2.heap.size by omega)) hol2))
  have X3 := Lib.hid (And.intro (X2.out.1.keep hb3) (And.intro (X2.out.2.1.keep hb3) (And.intro (X2.out.2.2.1.trans (hb3.mono X2.out.2.2.1.size)) (X2.out.2.2.2.below hb3))))
  have hs3 := hb3.size
  clear hof2 hom2 hol2 hb3 X2 X1
  have H0 : Hid (CRow (w3.setRow (w.heap.size + 1) (ccs o2.v (.slice p2 o2.l.length c2))) w.heap.size o1.v (.slice p1 o1.l.length c1) ∧ CRow (w3.setRow (w.heap.size + 1) (ccs o2.v (.slice p2 o2.l.length c2))) (w.heap.size + 1) o2.v (.slice p2 o2.l.length c2) ∧ Go.RowKit.Below w.heap.size w (w3.setRow (w.heap.size + 1) (ccs o2.v (.slice p2 o2.l.length c2)))) := Lib.hid ⟨X3.out.1.of_set (by omega) _, CRow.of_put X3.out.2.1 _ _, belowRow X3.out.2.2.1 (Nat.le_succ _) _⟩
  have HM1 := Lib.hid (X3.out.2.2.2.setRow (show w.heap.size + 1 < w.heap.size + 2 by omega) (ccs o2.v (.slice p2 o2.l.length c2)))
  have HM2 := Lib.hid (HO2.out.2.1.setRow (show w.heap.size + 1 < w.heap.size + 2 by omega) (ccs o2.v (.slice p2 o2.l.length c2)))
  go_upto_region 3 with ((with_reducible refine cl_store ?_ (.tmp 3) (.tmp 13) ?_ (w.heap.size + 1) o2.v p2 o2.l.length c2 ?_ ?_ ?_ ?_ ?_); rfl; rfl; rfl; rfl; exact ⟨_, _, X3.out.2.1, HV2.out⟩; exact HO2.out.2.1.v16)
  have hsz4 : (w3.setRow (w.heap.size + 1) (ccs o2.v (.slice p2 o2.l.length c2))).heap.size = w3.heap.size := by simp
  generalize w3.setRow (w.heap.size + 1) (ccs o2.v (.slice p2 o2.l.length c2)) = W at *
  have HV3 := Lib.hid HO1.out.2.1.v16
  have HV4 := Lib.hid HO2.out.2.1.v16
  have HCA := Lib.hid (And.intro HO1.out.1.clean HO2.out.1.clean)
  have hlb : o2.l.length ≤ 32768 := HO2.out.2.1.len
  clear X3
  have hMS := MissIn.begin o1 o2
  have HMS := Lib.hid hMS
  clear hMS
  go_wp2_with fail
  go_loopw [5, 6] (fun x y wr => ∃ (i : Nat) (m : List Dt) (oa : Option Addr) (oc : Nat), x = .slice oa m.length oc ∧ y = .int .i64 i ∧ i ≤ 16 ∧ Hid (MissIn o1 o2 (Ahead i 1) m) ∧ OwnD W.heap.size (.slice oa m.length oc) m wr ∧ Go.RowKit.Below W.heap.size W wr) (fun _ y _ => 16 - (intOf y).toNat)
  case atStart => exact ⟨0, [], none, 0, rfl, rfl, by omega, HMS, ownD_nil _ _, Below.refl _ _⟩
  case round =>
    obtain ⟨i, m, oa, oc, rfl, rfl, hi, HM, ho, hb⟩ := hrel
    by_cases hlt : i < 16
    · have hva := (H0.out.1.keep hb).cell i (by rw [HV3.out]; exact hlt)
      have HX := Lib.hid (And.intro ho hb)
      have hok := HCA.out.1.ok i hlt
      have hok2 := HCA.out.2.ok i hlt
      have hent := HM.out.enter hok
      unfold okN at hok hok2
      obtain ⟨x, hx⟩ : ∃ x, o1.v.getD i 0 = x := ⟨_, rfl⟩
      obtain ⟨y, hy⟩ : ∃ y, o2.v.getD i 0 = y := ⟨_, rfl⟩
      rw [hx] at hva hok hent
      rw [hy] at hok2
      have HXY := Lib.hid (And.intro hx hy)
      have HEN := Lib.hid hent
      have hz0 := H0.out.1.lt
      have hs := hb.size
      have hgi : decide ((i : Int) < 16) = true := by simp; omega
      clear ho hb hx hy hent HM
      go_wp2_with fail
      go_loopw [5, 7] (fun u z wq => ∃ (n : Int) (m : List Dt) (oa : Option Addr) (oc : Nat), u = .slice oa m.length oc ∧ z = .int .i64 n ∧ 1 ≤ n ∧ x + 1 ≤ n ∧ (n ≤ y + 1 ∨ n = x + 1) ∧ Hid (MissIn o1 o2 (Ahead i n) m) ∧ OwnD W.heap.size (.slice oa m.length oc) m wq ∧ Go.RowKit.Below W.heap.size W wq) (fun _ z _ => (1099511627777 - intOf z).toNat)
      case atStart => exact ⟨x + 1, m, oa, oc, rfl, by go_num, by omega, by omega, .inr rfl, HEN, HX.out.1, HX.out.2⟩
      case round =>
        rename World => wq
        obtain ⟨n, m, oa, oc, rfl, rfl, hn1, hn2, hn3, HM, ho, hb⟩ := hrel
        have hvb := (H0.out.2.1.keep hb).cell i (by rw [HV4.out]; exact hlt)
        rw [HXY.out.2] at hvb
        have hzb := (H0.out.2.1.keep hb).lt
        have hml := HM.out.len
        have HXq := Lib.hid (And.intro ho hb)
        have hsq := hb.size
        clear ho hb
        by_cases hny : n ≤ y
        · by_cases hmf : m.length < 4096
          · have hg1 : decide (n ≤ y) = true := by simp [hny]
            have hg2 : decide ((m.length : Int) < 4096) = true := by simp; omega
            have hrow := (H0.out.1.keep HXq.out.2).alloc (.cells #[.int .i64 (i : Int), .int .i64 n] 31)
            have hB1 := HXq.out.2.alloc hsq (.cells #[.int .i64 (i : Int), .int .i64 n] 31)
            have HR1 := Lib.hid hrow
            have hhas := hasRC o1 ((i : Int), n) p1 c1 (wq.alloc (.cells #[.int .i64 (i : Int), .int .i64 n] 31)) ((HM1.out.below hB1).cin)
            have HH := Lib.hid hhas
            have HB1 := Lib.hid hB1
            have hbh := HCA.out.2.below hlt hn1 (by rw [HXY.out.2]; exact hny)
            have HBH := Lib.hid hbh
            clear hrow hB1 hhas hbh
            go_wp2_with ((with_reducible refine cl_load ?_ (.tmp 2) ?_ w.heap.size o1.v (.slice p1 o1.l.length c1) ?_ ?_ ?_ ?_); rfl; rfl; rfl; exact HR1.out; exact HV3.out)
            refine HH.out.mono ?_
            rintro e w5 ⟨rfl, hb5⟩
            have q0 : w5.cell? ⟨wq.heap.size, 0, none⟩ = some (.int .i64 (i : Int)) := by rw [hb5.cell (p := ⟨wq.heap.size, 0, none⟩) (by simp)]; rw [Joins.cell_of_block (heap_alloc_new wq _)]; rfl
            have q1 : w5.cell? ⟨wq.heap.size, 1, none⟩ = some (.int .i64 n) := by rw [hb5.cell (p := ⟨wq.heap.size, 1, none⟩) (by simp)]; rw [Joins.cell_of_block (heap_alloc_new wq _)]; rfl
            have hw5 := ((Below.refl wq.heap.size wq).alloc (Nat.le_refl _) (.cells #[.int .i64 (i : Int), .int .i64 n] 31)).trans (hb5.mono (by simp))
            have X5 := Lib.hid (And.intro (HXq.out.1.below hw5 (Nat.le_refl _)) (HXq.out.2.trans (hw5.mono hsq)))
            have hs5 := hw5.size
            have hzq5 : wq.heap.size < w5.heap.size := Nat.lt_of_lt_of_le (by simp) hb5.size
            clear hb5 hw5 HH HR1 HB1 HXq
            obtain ⟨u, hu⟩ : ∃ u, hasC o1 ((i : Int), n) = u := ⟨_, rfl⟩
            rw [hu]
            cases u with
            | true =>
              have HK := Lib.hid (HM.out.skip (fun hl => by have := hl.2; rw [hu] at this; cases this))
              clear hu
              go_wp2_with fail
              go_roundw
              case rel => first | exact ⟨n + 1, m, oa, oc, rfl, by go_num, by omega, by omega, .inl (by omega), HK, X5.out.1, X5.out.2⟩ | ((repeat apply Exists.intro); refine ⟨?_, rfl⟩; exact ⟨n + 1, m, oa, oc, rfl, by go_num, by omega, by omega, .inl (by omega), HK, X5.out.1, X5.out.2⟩)
              case measure => simp [intOf]; omega
            | false =>
              have HK := Lib.hid (HM.out.step ⟨HBH.out, hu⟩ hmf)
              clear hu
              have hone := din_new w5 ((i : Int), n)
              obtain ⟨q2, d2, w6, hr6, ho6, hb6⟩ := appD (c := 1) (X5.out.1.alloc (.cells #[.int .i64 (i : Int), .int .i64 n] 31)) hone (by simp; omega) (m.length + 1) (by simp) (by omega)
              have hr6' : (Builtin.append_ #[24, 24] 24 #[.slice oa m.length oc, .slice (some ⟨w5.heap.size, 0, none⟩) 1 1]).run Try.prog (w5.alloc (.cells #[.int .i64 (i : Int), .int .i64 n] 31)) = .ok (.slice q2 (m.length + 1) d2) w6 := hr6
              have X6 := Lib.hid (And.intro ho6 ((X5.out.2.alloc X5.out.2.size (.cells #[.int .i64 (i : Int), .int .i64 n] 31)).trans hb6))
              clear hr6 ho6 hb6 hone
              go_wp2_with (at_builtin; refine wpList_append_run rfl _ _ 24 24 rfl (.slice oa m.length oc) (.slice (some ⟨w5.heap.size, 0, none⟩) 1 1) _ w6 rfl rfl hr6' ?_)
              go_wp2_with fail
              go_roundw
              case rel =>
                have e9 : (m ++ [((i : Int), n)]).length = m.length + 1 := by simp
                first
                  | exact ⟨n + 1, m ++ [((i : Int), n)], q2, d2, by rw [e9], by go_num, by omega, by omega, .inl (by omega), HK, by rw [e9]; exact X6.out.1, X6.out.2⟩
                  | ((repeat apply Exists.intro); refine ⟨?_, rfl⟩; exact ⟨n + 1, m ++ [((i : Int), n)], q2, d2, by rw [e9], by go_num, by omega, by omega, .inl (by omega), HK, by rw [e9]; exact X6.out.1, X6.out.2⟩)
              case measure => simp [intOf]; omega
          · have hmf' : m.length = 4096 := by omega
            have hg1 : decide (n ≤ y) = true := by simp [hny]
            have hg2 : decide ((m.length : Int) < 4096) = false := by simp; omega
            have HAF := Lib.hid (HM.out.after (by rw [HXY.out.1, HXY.out.2]; exact hn3) (.inr hmf'))
            clear hmf hmf'
            go_wp2_with fail
            go_loopw [5, 9] (fun u z wk => ∃ (k : Nat) (n : Int) (m : List Dt) (oa : Option Addr) (oc : Nat), u = .slice oa m.length oc ∧ z = .int .i64 k ∧ k ≤ o2.l.length ∧ Hid (Seen o2 i k n ∧ MissIn o1 o2 (Ahead i n) m) ∧ OwnD W.heap.size (.slice oa m.length oc) m wk ∧ Go.RowKit.Below W.heap.size W wk) (fun _ z _ => o2.l.length - (intOf z).toNat)
            case atStart => exact ⟨0, _, m, oa, oc, rfl, rfl, Nat.zero_le _, Lib.hid ⟨Seen.start HCA.out.2 i, HAF.out⟩, HXq.out.1, HXq.out.2⟩
            case round =>
              rename World => wk
              obtain ⟨k, n, m, oa, oc, rfl, rfl, hk, HSM, ho, hb⟩ := hrel
              have r0 := H0.out.1.keep hb
              have r1 := H0.out.2.1.keep hb
              have hcl := r1.cloud HV4.out
              have hzk := r1.lt
              have hml := HSM.out.2.len
              have HXk := Lib.hid (And.intro ho hb)
              have HRG := Lib.hid r0.regrown
              have hdin := (HM2.out.below hb).new.din
              have hsk := hb.size
              clear r0 r1 ho hb
              by_cases hltk : k < o2.l.length
              · obtain ⟨d, hd⟩ : ∃ d, o2.l[k]? = some d := ⟨_, List.getElem?_eq_getElem hltk⟩
                obtain ⟨bb, off, rfl, hbl, c0, c1'⟩ := hdin.at hd
                have hi1 : (k : Int) < (o2.l.length : Int) := by omega
                have hi2 : decide ((k : Int) < (o2.l.length : Int)) = true := by simp; omega
                have q0 := fun q os => cell_regrown c0 q os
                have q1 := fun q os => cell_regrown c1' q os
                have q2 := fun q os => cell_regrown hcl q os
                have hch := fun q os => Calls.regrown_of (hasRC o1 d p1 c1 (grow (redrawn wk q) os) ((HM1.out.below HXk.out.2).cin.below (below_regrown wk q os)))
                have HD := Lib.hid hd
                obtain ⟨u, hu⟩ : ∃ u, hasC o1 d = u := ⟨_, rfl⟩
                rw [hu] at hch
                have HU := Lib.hid hu
                have HDI := Lib.hid hdin
                obtain ⟨dr, dq⟩ := d
                simp only at c0 c1' q0 q1 hch
                have HCH := Lib.hid hch
                clear hu hd hch hdin
                by_cases hr : dr = (i : Int)
                · have hrb : (dr == (i : Int)) = true := by simp [hr]
                  have hreach := HSM.out.1.reach HCA.out.2 HD.out hr HSM.out.2
                  have hnext := HSM.out.1.next HCA.out.2 HD.out hr
                  have HRN := Lib.hid (And.intro hreach hnext)
                  have HRR := Lib.hid hr
                  clear hreach hnext hr
                  cases u with
                  | true =>
                    have HK := Lib.hid (show Seen o2 i (k + 1) (dq + 1) ∧ MissIn o1 o2 (Ahead i (dq + 1)) m from ⟨HRN.out.2, HRN.out.1.skip (fun hl => by have h1 := hl.2; rw [← HRR.out, HU.out] at h1; cases h1)⟩)
                    go_upto_region 16 with fail
                    clear c0 c1' hcl
                    refine wp_region_quiet_below (by kernel_rfl) (by kernel_rfl) ?_
                    repeat (first
                      | ((with_reducible refine cq_load ?_ (.tmp 2) ?_ w.heap.size o1.v (.slice p1 o1.l.length c1) ?_ ?_ ?_ ?_); rfl; rfl; rfl; exact HRG.out; exact HV3.out; simp only [Act.put, List.setIfInBounds_toArray, List.set_cons_zero, List.set_cons_succ])
                      | go_big_quiet_step ((go_at_call 10; with_reducible exact HCH.out _ _)) | quiet_step ((go_at_call 10; with_reducible exact HCH.out _ _)))
                    refine wpQuiet_nil ?_
                    intro _ hw'
                    obtain ⟨⟨dq', osq⟩, hw''⟩ := hw'
                    subst hw''
                    have hb9 := below_regrown wk dq' osq
                    have X9 := Lib.hid (And.intro (HXk.out.1.below hb9 (Nat.le_refl _)) (HXk.out.2.trans (hb9.mono hsk)))
                    have hs9 := hb9.size
                    clear q0 q1 q2 HCH HRG HXk
                    generalize grow (redrawn wk dq') osq = U at *
                    go_wp2_with fail
                    go_roundw
                    case rel => first | exact ⟨k + 1, dq + 1, m, oa, oc, rfl, by go_num, by omega, HK, X9.out.1, X9.out.2⟩ | ((repeat apply Exists.intro); refine ⟨?_, rfl⟩; exact ⟨k + 1, dq + 1, m, oa, oc, rfl, by go_num, by omega, HK, X9.out.1, X9.out.2⟩)
                    case measure => simp [intOf]; omega
                  | false =>
                    by_cases hmf : m.length < 4096
                    · have hg2 : decide ((m.length : Int) < 4096) = true := by simp; omega
                      have hlk := lacks_cloud HCA.out.2 HD.out HU.out
                      have HK := Lib.hid (show Seen o2 i (k + 1) (dq + 1) ∧ MissIn o1 o2 (Ahead i (dq + 1)) (m ++ [(dr, dq)]) from ⟨HRN.out.2, by
                        have h1 := HRN.out.1.step (by rw [← HRR.out]; exact hlk) hmf
                        rw [← HRR.out] at h1
                        rw [← HRR.out]
                        exact h1⟩)
                      clear hlk
                      go_upto_region 16 with fail
                      clear c0 c1' hcl
                      refine wp_region_quiet_below (by kernel_rfl) (by kernel_rfl) ?_
                      repeat (first
                        | ((with_reducible refine cq_load ?_ (.tmp 2) ?_ w.heap.size o1.v (.slice p1 o1.l.length c1) ?_ ?_ ?_ ?_); rfl; rfl; rfl; exact HRG.out; exact HV3.out; simp only [Act.put, List.setIfInBounds_toArray, List.set_cons_zero, List.set_cons_succ])
                        | go_big_quiet_step ((go_at_call 10; with_reducible exact HCH.out _ _)) | quiet_step ((go_at_call 10; with_reducible exact HCH.out _ _)))
                      refine wpQuiet_nil ?_
                      intro _ hw'
                      obtain ⟨⟨dq', osq⟩, hw''⟩ := hw'
                      subst hw''
                      have hb9 := below_regrown wk dq' osq
                      have X9 := Lib.hid (And.intro (HXk.out.1.below hb9 (Nat.le_refl _)) (HXk.out.2.trans (hb9.mono hsk)))
                      have hs9 := hb9.size
                      clear q0 q1 q2 HCH HRG HXk
                      generalize grow (redrawn wk dq') osq = U at *
                      have hcl := (H0.out.2.1.keep X9.out.2).cloud HV4.out
                      obtain ⟨_, _, he9, _, c0, c1'⟩ := (HDI.out.below hb9).at HD.out
                      have hee := Option.some.inj he9
                      injection hee with hee1 hee2
                      subst hee1 hee2
                      simp only at c0 c1'
                      have hone := din_new U (dr, dq)
                      obtain ⟨q2', d2, w6, hr6, ho6, hb6⟩ := appD (c := 1) (X9.out.1.alloc (.cells #[.int .i64 dr, .int .i64 dq] 31)) hone (by simp; omega) (m.length + 1) (by simp) (by omega)
                      have hr6' : (Builtin.append_ #[24, 24] 24 #[.slice oa m.length oc, .slice (some ⟨U.heap.size, 0, none⟩) 1 1]).run Try.prog (U.alloc (.cells #[.int .i64 dr, .int .i64 dq] 31)) = .ok (.slice q2' (m.length + 1) d2) w6 := hr6
                      have X6 := Lib.hid (And.intro ho6 ((X9.out.2.alloc X9.out.2.size (.cells #[.int .i64 dr, .int .i64 dq] 31)).trans hb6))
                      clear hr6 ho6 hb6 hone he9
                      go_wp2_with (at_builtin; refine wpList_append_run rfl _ _ 24 24 rfl (.slice oa m.length oc) (.slice (some ⟨U.heap.size, 0, none⟩) 1 1) _ w6 rfl rfl hr6' ?_)
                      go_wp2_with fail
                      go_roundw
                      case rel =>
                        have e9 : (m ++ [(dr, dq)]).length = m.length + 1 := by simp
                        first
                          | exact ⟨k + 1, dq + 1, m ++ [(dr, dq)], q2', d2, by rw [e9], by go_num, by omega, HK, by rw [e9]; exact X6.out.1, X6.out.2⟩
                          | ((repeat apply Exists.intro); refine ⟨?_, rfl⟩; exact ⟨k + 1, dq + 1, m ++ [(dr, dq)], q2', d2, by rw [e9], by go_num, by omega, HK, by rw [e9]; exact X6.out.1, X6.out.2⟩)
                      case measure => simp [intOf]; omega
                    · have hg2 : decide ((m.length : Int) < 4096) = false := by simp; omega
                      have HK := Lib.hid (show Seen o2 i (k + 1) (dq + 1) ∧ MissIn o1 o2 (Ahead i (dq + 1)) m from ⟨HRN.out.2, HRN.out.1.rest_full (by omega) (fun x hx => by unfold Ahead at *; simp only at hx; omega)⟩)
                      clear hmf
                      go_upto_region 16 with fail
                      clear c0 c1' hcl
                      refine wp_region_quiet_below (by kernel_rfl) (by kernel_rfl) ?_
                      repeat (first
                        | ((with_reducible refine cq_load ?_ (.tmp 2) ?_ w.heap.size o1.v (.slice p1 o1.l.length c1) ?_ ?_ ?_ ?_); rfl; rfl; rfl; exact HRG.out; exact HV3.out; simp only [Act.put, List.setIfInBounds_toArray, List.set_cons_zero, List.set_cons_succ])
                        | go_big_quiet_step ((go_at_call 10; with_reducible exact HCH.out _ _)) | quiet_step ((go_at_call 10; with_reducible exact HCH.out _ _)))
                      refine wpQuiet_nil ?_
                      intro _ hw'
                      obtain ⟨⟨dq', osq⟩, hw''⟩ := hw'
                      subst hw''
                      have hb9 := below_regrown wk dq' osq
                      have X9 := Lib.hid (And.intro (HXk.out.1.below hb9 (Nat.le_refl _)) (HXk.out.2.trans (hb9.mono hsk)))
                      have hs9 := hb9.size
                      clear q0 q1 q2 HCH HRG HXk
                      generalize grow (redrawn wk dq') osq = U at *
                      go_wp2_with fail
                      go_roundw
                      case rel => first | exact ⟨k + 1, dq + 1, m, oa, oc, rfl, by go_num, by omega, HK, X9.out.1, X9.out.2⟩ | ((repeat apply Exists.intro); refine ⟨?_, rfl⟩; exact ⟨k + 1, dq + 1, m, oa, oc, rfl, by go_num, by omega, HK, X9.out.1, X9.out.2⟩)
                      case measure => simp [intOf]; omega
                · have hrb : (dr == (i : Int)) = false := by simp [hr]
                  have HK := Lib.hid (show Seen o2 i (k + 1) n ∧ MissIn o1 o2 (Ahead i n) m from ⟨HSM.out.1.other HD.out hr, HSM.out.2⟩)
                  clear hr
                  go_upto_region 16 with fail
                  clear c0 c1' hcl
                  refine wp_region_quiet_below (by kernel_rfl) (by kernel_rfl) ?_
                  repeat (first
                    | ((with_reducible refine cq_load ?_ (.tmp 2) ?_ w.heap.size o1.v (.slice p1 o1.l.length c1) ?_ ?_ ?_ ?_); rfl; rfl; rfl; exact HRG.out; exact HV3.out; simp only [Act.put, List.setIfInBounds_toArray, List.set_cons_zero, List.set_cons_succ])
                    | go_big_quiet_step ((go_at_call 10; with_reducible exact HCH.out _ _)) | quiet_step ((go_at_call 10; with_reducible exact HCH.out _ _)))
                  refine wpQuiet_nil ?_
                  intro _ hw'
                  obtain ⟨⟨dq', osq⟩, hw''⟩ := hw'
                  subst hw''
                  have hb9 := below_regrown wk dq' osq
                  have X9 := Lib.hid (And.intro (HXk.out.1.below hb9 (Nat.le_refl _)) (HXk.out.2.trans (hb9.mono hsk)))
                  have hs9 := hb9.size
                  clear q0 q1 q2 HCH HRG HXk
                  generalize grow (redrawn wk dq') osq = U at *
                  go_wp2_with fail
                  go_roundw
                  case rel => first | exact ⟨k + 1, n, m, oa, oc, rfl, by go_num, by omega, HK, X9.out.1, X9.out.2⟩ | ((repeat apply Exists.intro); refine ⟨?_, rfl⟩; exact ⟨k + 1, n, m, oa, oc, rfl, by go_num, by omega, HK, X9.out.1, X9.out.2⟩)
                  case measure => simp [intOf]; omega
              · have hkk : k = o2.l.length := by omega
                have hi2 : decide ((k : Int) < (o2.l.length : Int)) = false := by simp; omega
                have hov : MissIn o1 o2 (Ahead ((i : Int) + 1) 1) m := by
                  have h1 := HSM.out.1
                  rw [hkk] at h1
                  exact h1.over HSM.out.2
                have HOV := Lib.hid hov
                clear hov hkk
                go_wp2_with fail
                go_roundw
                case rel => first | exact ⟨i + 1, m, oa, oc, rfl, by go_num, by omega, HOV, HXk.out.1, HXk.out.2⟩ | ((repeat apply Exists.intro); refine ⟨?_, rfl⟩; exact ⟨i + 1, m, oa, oc, rfl, by go_num, by omega, HOV, HXk.out.1, HXk.out.2⟩)
                case measure => simp [intOf]; omega
        · have hg1 : decide (n ≤ y) = false := by simp; omega
          have HAF := Lib.hid (HM.out.after (by rw [HXY.out.1, HXY.out.2]; exact hn3) (.inl (by rw [HXY.out.2]; omega)))
          go_wp2_with fail
          go_loopw [5, 9] (fun u z wk => ∃ (k : Nat) (n : Int) (m : List Dt) (oa : Option Addr) (oc : Nat), u = .slice oa m.length oc ∧ z = .int .i64 k ∧ k ≤ o2.l.length ∧ Hid (Seen o2 i k n ∧ MissIn o1 o2 (Ahead i n) m) ∧ OwnD W.heap.size (.slice oa m.length oc) m wk ∧ Go.RowKit.Below W.heap.size W wk) (fun _ z _ => o2.l.length - (intOf z).toNat)
          case atStart => exact ⟨0, _, m, oa, oc, rfl, rfl, Nat.zero_le _, Lib.hid ⟨Seen.start HCA.out.2 i, HAF.out⟩, HXq.out.1, HXq.out.2⟩
          case round =>
            rename World => wk
            obtain ⟨k, n, m, oa, oc, rfl, rfl, hk, HSM, ho, hb⟩ := hrel
            have r0 := H0.out.1.keep hb
            have r1 := H0.out.2.1.keep hb
            have hcl := r1.cloud HV4.out
            have hzk := r1.lt
            have hml := HSM.out.2.len
            have HXk := Lib.hid (And.intro ho hb)
            have HRG := Lib.hid r0.regrown
            have hdin := (HM2.out.below hb).new.din
            have hsk := hb.size
            clear r0 r1 ho hb
            by_cases hltk : k < o2.l.length
            · obtain ⟨d, hd⟩ : ∃ d, o2.l[k]? = some d := ⟨_, List.getElem?_eq_getElem hltk⟩
              obtain ⟨bb, off, rfl, hbl, c0, c1'⟩ := hdin.at hd
              have hi1 : (k : Int) < (o2.l.length : Int) := by omega
              have hi2 : decide ((k : Int) < (o2.l.length : Int)) = true := by simp; omega
              have q0 := fun q os => cell_regrown c0 q os
              have q1 := fun q os => cell_regrown c1' q os
              have q2 := fun q os => cell_regrown hcl q os
              have hch := fun q os => Calls.regrown_of (hasRC o1 d p1 c1 (grow (redrawn wk q) os) ((HM1.out.below HXk.out.2).cin.below (below_regrown wk q os)))
              have HD := Lib.hid hd
              obtain ⟨u, hu⟩ : ∃ u, hasC o1 d = u := ⟨_, rfl⟩
              rw [hu] at hch
              have HU := Lib.hid hu
              have HDI := Lib.hid hdin
              obtain ⟨dr, dq⟩ := d
              simp only at c0 c1' q0 q1 hch
              have HCH := Lib.hid hch
              clear hu hd hch hdin
              by_cases hr : dr = (i : Int)
              · have hrb : (dr == (i : Int)) = true := by simp [hr]
                have hreach := HSM.out.1.reach HCA.out.2 HD.out hr HSM.out.2
                have hnext := HSM.out.1.next HCA.out.2 HD.out hr
                have HRN := Lib.hid (And.intro hreach hnext)
                have HRR := Lib.hid hr
                clear hreach hnext hr
                cases u with
                | true =>
                  have HK := Lib.hid (show Seen o2 i (k + 1) (dq + 1) ∧ MissIn o1 o2 (Ahead i (dq + 1)) m from ⟨HRN.out.2, HRN.out.1.skip (fun hl => by have h1 := hl.2; rw [← HRR.out, HU.out] at h1; cases h1)⟩)
                  go_upto_region 16 with fail
                  clear c0 c1' hcl
                  refine wp_region_quiet_below (by kernel_rfl) (by kernel_rfl) ?_
                  repeat (first
                    | ((with_reducible refine cq_load ?_ (.tmp 2) ?_ w.heap.size o1.v (.slice p1 o1.l.length c1) ?_ ?_ ?_ ?_); rfl; rfl; rfl; exact HRG.out; exact HV3.out; simp only [Act.put, List.setIfInBounds_toArray, List.set_cons_zero, List.set_cons_succ])
                    | go_big_quiet_step ((go_at_call 10; with_reducible exact HCH.out _ _)) | quiet_step ((go_at_call 10; with_reducible exact HCH.out _ _)))
                  refine wpQuiet_nil ?_
                  intro _ hw'
                  obtain ⟨⟨dq', osq⟩, hw''⟩ := hw'
                  subst hw''
                  have hb9 := below_regrown wk dq' osq
                  have X9 := Lib.hid (And.intro (HXk.out.1.below hb9 (Nat.le_refl _)) (HXk.out.2.trans (hb9.mono hsk)))
                  have hs9 := hb9.size
                  clear q0 q1 q2 HCH HRG HXk
                  generalize grow (redrawn wk dq') osq = U at *
                  go_wp2_with fail
                  go_roundw
                  case rel => first | exact ⟨k + 1, dq + 1, m, oa, oc, rfl, by go_num, by omega, HK, X9.out.1, X9.out.2⟩ | ((repeat apply Exists.intro); refine ⟨?_, rfl⟩; exact ⟨k + 1, dq + 1, m, oa, oc, rfl, by go_num, by omega, HK, X9.out.1, X9.out.2⟩)
                  case measure => simp [intOf]; omega
                | false =>
                  by_cases hmf : m.length < 4096
                  · have hg2 : decide ((m.length : Int) < 4096) = true := by simp; omega
                    have hlk := lacks_cloud HCA.out.2 HD.out HU.out
                    have HK := Lib.hid (show Seen o2 i (k + 1) (dq + 1) ∧ MissIn o1 o2 (Ahead i (dq + 1)) (m ++ [(dr, dq)]) from ⟨HRN.out.2, by
                      have h1 := HRN.out.1.step (by rw [← HRR.out]; exact hlk) hmf
                      rw [← HRR.out] at h1
                      rw [← HRR.out]
                      exact h1⟩)
                    clear hlk
                    go_upto_region 16 with fail
                    clear c0 c1' hcl
                    refine wp_region_quiet_below (by kernel_rfl) (by kernel_rfl) ?_
                    repeat (first
                      | ((with_reducible refine cq_load ?_ (.tmp 2) ?_ w.heap.size o1.v (.slice p1 o1.l.length c1) ?_ ?_ ?_ ?_); rfl; rfl; rfl; exact HRG.out; exact HV3.out; simp only [Act.put, List.setIfInBounds_toArray, List.set_cons_zero, List.set_cons_succ])
                      | go_big_quiet_step ((go_at_call 10; with_reducible exact HCH.out _ _)) | quiet_step ((go_at_call 10; with_reducible exact HCH.out _ _)))
                    refine wpQuiet_nil ?_
                    intro _ hw'
                    obtain ⟨⟨dq', osq⟩, hw''⟩ := hw'
                    subst hw''
                    have hb9 := below_regrown wk dq' osq
                    have X9 := Lib.hid (And.intro (HXk.out.1.below hb9 (Nat.le_refl _)) (HXk.out.2.trans (hb9.mono hsk)))
                    have hs9 := hb9.size
                    clear q0 q1 q2 HCH HRG HXk
                    generalize grow (redrawn wk dq') osq = U at *
                    have hcl := (H0.out.2.1.keep X9.out.2).cloud HV4.out
                    obtain ⟨_, _, he9, _, c0, c1'⟩ := (HDI.out.below hb9).at HD.out
                    have hee := Option.some.inj he9
                    injection hee with hee1 hee2
                    subst hee1 hee2
                    simp only at c0 c1'
                    have hone := din_new U (dr, dq)
                    obtain ⟨q2', d2, w6, hr6, ho6, hb6⟩ := appD (c := 1) (X9.out.1.alloc (.cells #[.int .i64 dr, .int .i64 dq] 31)) hone (by simp; omega) (m.length + 1) (by simp) (by omega)
                    have hr6' : (Builtin.append_ #[24, 24] 24 #[.slice oa m.length oc, .slice (some ⟨U.heap.size, 0, none⟩) 1 1]).run Try.prog (U.alloc (.cells #[.int .i64 dr, .int .i64 dq] 31)) = .ok (.slice q2' (m.length + 1) d2) w6 := hr6
                    have X6 := Lib.hid (And.intro ho6 ((X9.out.2.alloc X9.out.2.size (.cells #[.int .i64 dr, .int .i64 dq] 31)).trans hb6))
                    clear hr6 ho6 hb6 hone he9
                    go_wp2_with (at_builtin; refine wpList_append_run rfl _ _ 24 24 rfl (.slice oa m.length oc) (.slice (some ⟨U.heap.size, 0, none⟩) 1 1) _ w6 rfl rfl hr6' ?_)
                    go_wp2_with fail
                    go_roundw
                    case rel =>
                      have e9 : (m ++ [(dr, dq)]).length = m.length + 1 := by simp
                      first
                        | exact ⟨k + 1, dq + 1, m ++ [(dr, dq)], q2', d2, by rw [e9], by go_num, by omega, HK, by rw [e9]; exact X6.out.1, X6.out.2⟩
                        | ((repeat apply Exists.intro); refine ⟨?_, rfl⟩; exact ⟨k + 1, dq + 1, m ++ [(dr, dq)], q2', d2, by rw [e9], by go_num, by omega, HK, by rw [e9]; exact X6.out.1, X6.out.2⟩)
                    case measure => simp [intOf]; omega
                  · have hg2 : decide ((m.length : Int) < 4096) = false := by simp; omega
                    have HK := Lib.hid (show Seen o2 i (k + 1) (dq + 1) ∧ MissIn o1 o2 (Ahead i (dq + 1)) m from ⟨HRN.out.2, HRN.out.1.rest_full (by omega) (fun x hx => by unfold Ahead at *; simp only at hx; omega)⟩)
                    clear hmf
                    go_upto_region 16 with fail
                    clear c0 c1' hcl
                    refine wp_region_quiet_below (by kernel_rfl) (by kernel_rfl) ?_
                    repeat (first
                      | ((with_reducible refine cq_load ?_ (.tmp 2) ?_ w.heap.size o1.v (.slice p1 o1.l.length c1) ?_ ?_ ?_ ?_); rfl; rfl; rfl; exact HRG.out; exact HV3.out; simp only [Act.put, List.setIfInBounds_toArray, List.set_cons_zero, List.set_cons_succ])
                      | go_big_quiet_step ((go_at_call 10; with_reducible exact HCH.out _ _)) | quiet_step ((go_at_call 10; with_reducible exact HCH.out _ _)))
                    refine wpQuiet_nil ?_
                    intro _ hw'
                    obtain ⟨⟨dq', osq⟩, hw''⟩ := hw'
                    subst hw''
                    have hb9 := below_regrown wk dq' osq
                    have X9 := Lib.hid (And.intro (HXk.out.1.below hb9 (Nat.le_refl _)) (HXk.out.2.trans (hb9.mono hsk)))
                    have hs9 := hb9.size
                    clear q0 q1 q2 HCH HRG HXk
                    generalize grow (redrawn wk dq') osq = U at *
                    go_wp2_with fail
                    go_roundw
                    case rel => first | exact ⟨k + 1, dq + 1, m, oa, oc, rfl, by go_num, by omega, HK, X9.out.1, X9.out.2⟩ | ((repeat apply Exists.intro); refine ⟨?_, rfl⟩; exact ⟨k + 1, dq + 1, m, oa, oc, rfl, by go_num, by omega, HK, X9.out.1, X9.out.2⟩)
                    case measure => simp [intOf]; omega
              · have hrb : (dr == (i : Int)) = false := by simp [hr]
                have HK := Lib.hid (show Seen o2 i (k + 1) n ∧ MissIn o1 o2 (Ahead i n) m from ⟨HSM.out.1.other HD.out hr, HSM.out.2⟩)
                clear hr
                go_upto_region 16 with fail
                clear c0 c1' hcl
                refine wp_region_quiet_below (by kernel_rfl) (by kernel_rfl) ?_
                repeat (first
                  | ((with_reducible refine cq_load ?_ (.tmp 2) ?_ w.heap.size o1.v (.slice p1 o1.l.length c1) ?_ ?_ ?_ ?_); rfl; rfl; rfl; exact HRG.out; exact HV3.out; simp only [Act.put, List.setIfInBounds_toArray, List.set_cons_zero, List.set_cons_succ])
                  | go_big_quiet_step ((go_at_call 10; with_reducible exact HCH.out _ _)) | quiet_step ((go_at_call 10; with_reducible exact HCH.out _ _)))
                refine wpQuiet_nil ?_
                intro _ hw'
                obtain ⟨⟨dq', osq⟩, hw''⟩ := hw'
                subst hw''
                have hb9 := below_regrown wk dq' osq
                have X9 := Lib.hid (And.intro (HXk.out.1.below hb9 (Nat.le_refl _)) (HXk.out.2.trans (hb9.mono hsk)))
                have hs9 := hb9.size
                clear q0 q1 q2 HCH HRG HXk
                generalize grow (redrawn wk dq') osq = U at *
                go_wp2_with fail
                go_roundw
                case rel => first | exact ⟨k + 1, n, m, oa, oc, rfl, by go_num, by omega, HK, X9.out.1, X9.out.2⟩ | ((repeat apply Exists.intro); refine ⟨?_, rfl⟩; exact ⟨k + 1, n, m, oa, oc, rfl, by go_num, by omega, HK, X9.out.1, X9.out.2⟩)
                case measure => simp [intOf]; omega
            · have hkk : k = o2.l.length := by omega
              have hi2 : decide ((k : Int) < (o2.l.length : Int)) = false := by simp; omega
              have hov : MissIn o1 o2 (Ahead ((i : Int) + 1) 1) m := by
                have h1 := HSM.out.1
                rw [hkk] at h1
                exact h1.over HSM.out.2
              have HOV := Lib.hid hov
              clear hov hkk
              go_wp2_with fail
              go_roundw
              case rel => first | exact ⟨i + 1, m, oa, oc, rfl, by go_num, by omega, HOV, HXk.out.1, HXk.out.2⟩ | ((repeat apply Exists.intro); refine ⟨?_, rfl⟩; exact ⟨i + 1, m, oa, oc, rfl, by go_num, by omega, HOV, HXk.out.1, HXk.out.2⟩)
              case measure => simp [intOf]; omega
    · obtain rfl : i = 16 := by omega
      have hfin := HM.out.ends
      have hfr := ho.from
      have HF := Lib.hid (And.intro (hfin.clean HO1.out.1 HO2.out.1) (And.intro hfr (H0.out.2.2.trans (hb.mono H0.out.2.2.size))))
      have hsW := H0.out.2.2.size
      clear hfin hfr
      go_wp2_with fail
      go_ret
      obtain ⟨a', c', he, hfo, -⟩ := HF.out.2.1
      injection he with h1 h2 h3
      subst h1
      first
        | exact ⟨⟨m, oa, oc, rfl, HF.out.1, hfo.mono hsW⟩, HF.out.2.2⟩
        | exact ⟨⟨m, oa, ⟨oc, rfl⟩, HF.out.1, hfo.mono hsW⟩, HF.out.2.2⟩
end Go.Proofs.Ytcedliaeipabnaa
