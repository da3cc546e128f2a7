/-
  Put: the program's, and the document's.
-/
import Derived.Test.YtcedliaeipabnaaGCauP
import Derived.Test.YtcedliaeipabnaaCauRAdd
import Derived.Test.YtcedliaeipabnaaVecPut
import Derived.Test.YtcedliaeipabnaaDotPut
namespace Go.Proofs.Ytcedliaeipabnaa
set_option maxRecDepth 100000
open Go.RowKit Go.Sort

theorem putC_bad {c : Cx} (h : chkC c ≠ 0) : putC c = (⟨#[]⟩, chkC c) := by unfold putC; rw [if_pos h]
theorem putC_long {c : Cx} (h : chkC c = 0) (hl : 4096 < c.l.length) : putC c = (⟨#[]⟩, 3) := by unfold putC; rw [if_neg (by rw [h]; simp), if_pos hl]
theorem putC_ok {c : Cx} (h : chkC c = 0) (hl : ¬ 4096 < c.l.length) : putC c = (⟨(encN (natV c.v)).toArray⟩ ++ ⟨(Lib.uvarint (encT c.l).size ++ (encT c.l).data.toList).toArray⟩, 0) ∧ putV c.v = (⟨(encN (natV c.v)).toArray⟩, 0) ∧ putD c.l = (encT c.l, 0) ∧ (encT c.l).size ≤ 65536 := by
  have hcl := chkC_ok h
  refine ⟨?_, ?_, ?_, encT_size hcl.list (by omega)⟩
  · unfold putC
    rw [if_neg (by rw [h]; simp), if_neg hl, append_str]
    rfl
  · unfold putV; rw [if_pos hcl.vec]
  · unfold putD; rw [if_neg hl, if_pos hcl.list]; rfl
theorem putV_ok {c : Cx} (h : chkC c = 0) : putV c.v = (⟨(encN (natV c.v)).toArray⟩, 0) := by unfold putV; rw [if_pos (chkC_ok h).vec]
theorem putD_long {c : Cx} (hl : 4096 < c.l.length) : putD c.l = (⟨#[]⟩, 3) := by unfold putD; rw [if_pos hl]
theorem encN_short : ∀ (l : List Nat), (∀ n ∈ l, n ≤ 1099511627776) → (encN l).length ≤ l.length * 6 := by
  intro l
  induction l with
  | nil => intro _; simp [encN]
  | cons n r ih =>
    intro h
    have h1 := ih (fun x hx => h x (by simp [hx]))
    have h2 := uv_six n (h n (by simp))
    simp only [encN, List.length_append, List.length_cons]
    omega
theorem vec_short {c : Cx} (h : chkC c = 0) : (encN (natV c.v)).length ≤ 96 := by
  have hcl := chkC_ok h
  have h1 := encN_short (natV c.v) (fun n hn => by
    unfold natV at hn
    obtain ⟨x, hx, rfl⟩ := List.mem_map.1 hn
    obtain ⟨i, hi, hix⟩ := List.mem_iff_getElem.1 hx
    have := hcl.ok i (by rw [hcl.len] at hi; exact hi)
    unfold okN at this
    rw [List.getD_eq_getElem?_getD, List.getElem?_eq_getElem hi, Option.getD_some, hix] at this
    omega)
  rw [natV_len, hcl.len] at h1
  exact h1

set_option maxHeartbeats 4000000 in
theorem putCC (c : Cx) (a : Option Addr) (cap : Nat) (w : World) (h : CIn w c a) :
    Calls Try.prog 25 #[.agg (ccs c.v (.slice a c.l.length cap))] w fun e w' => e = .returned (.tuple #[.string (putC c).1, .int .i64 (putC c).2]) ∧ Go.RowKit.Below w.heap.size w w' := by
  have HV := Lib.hid h.v16
  have hlm : c.l.length ≤ maxLen := by have := h.len; unfold maxLen; omega
  have HLM := Lib.hid hlm
  have HB0 := Lib.hid (boxC_below w c.v (.slice a c.l.length cap))
  have HR0 := Lib.hid (CRow.new w c.v (.slice a c.l.length cap))
  have HI := Lib.hid h
  unfold boxC at HB0
  clear h hlm
  go_enter Try.func25, Try.ntmps25
  go_upto_region 1 with fail
  generalize w.alloc (.cells (ccs c.v (.slice a c.l.length cap)) 26) = W at *
  go_wp2_with ((with_reducible refine cl_load ?_ (.tmp 1) ?_ w.heap.size c.v (.slice a c.l.length cap) ?_ ?_ ?_ ?_); rfl; rfl; rfl; exact HR0.out; exact HV.out)
  refine (chkCC c a cap W (HI.out.below HB0.out)).mono ?_
  rintro e w1 ⟨rfl, hb1⟩
  have H1 := Lib.hid (And.intro (HR0.out.keep hb1) (HB0.out.trans (hb1.mono HB0.out.size)))
  clear hb1 HB0 HR0
  by_cases hc : chkC c = 0
  · have hpv := putV_ok hc
    have hvp := fun W => vputC c.v HV.out W
    rw [hpv] at hvp
    have hvs := vec_short hc
    have HCC := Lib.hid hc
    rw [hc]
    clear hpv hc
    go_wp2_with ((with_reducible refine cl_loadV ?_ (.tmp 15) ?_ w.heap.size c.v (.slice a c.l.length cap) ?_ ?_ ?_ ?_); rfl; rfl; rfl; exact H1.out.1; exact HV.out)
    refine (hvp w1).mono ?_
    rintro e w2 ⟨rfl, hb2⟩
    have H2 := Lib.hid (And.intro (H1.out.1.keep hb2) (H1.out.2.trans (hb2.mono H1.out.2.size)))
    have c16 := H2.out.1.cloud HV.out
    clear hb2 H1 hvp
    have hdp := putDC c.l a cap w2 (HI.out.din.below H2.out.2) HLM.out
    by_cases hl : 4096 < c.l.length
    · rw [putD_long hl] at hdp
      have HP := Lib.hid (putC_long HCC.out hl)
      have HDP := Lib.hid hdp
      clear hl hdp
      go_wp2_with fail
      refine HDP.out.mono ?_
      rintro e w3 ⟨rfl, hb3⟩
      have HF := Lib.hid (H2.out.2.trans (hb3.mono H2.out.2.size))
      clear hb3 c16 HDP
      go_wp2_with fail
      go_ret2
      exact ⟨by rw [HP.out]; rfl, HF.out⟩
    · obtain ⟨hp1, hp2, hp3, hp4⟩ := putC_ok HCC.out hl
      rw [hp3] at hdp
      have htx := fun W => text_ok (encT c.l) hp4 W
      have huv : (Lib.uvarint (encT c.l).size).length ≤ 6 := uv_six _ (by omega)
      have HP := Lib.hid hp1
      have HDP := Lib.hid hdp
      have htl : (Lib.uvarint (encT c.l).size ++ (encT c.l).data.toList).length ≤ 65542 := by
        rw [List.length_append]
        have : (encT c.l).data.toList.length = (encT c.l).size := by simp
        omega
      obtain ⟨T, hT⟩ : ∃ T : ByteArray, ⟨(Lib.uvarint (encT c.l).size ++ (encT c.l).data.toList).toArray⟩ = T := ⟨_, rfl⟩
      obtain ⟨V, hV⟩ : ∃ V : ByteArray, ⟨(encN (natV c.v)).toArray⟩ = V := ⟨_, rfl⟩
      have hTs : T.size ≤ 65542 := by rw [← hT]; exact htl
      have hVs : V.size ≤ 96 := by rw [← hV]; exact hvs
      rw [hT] at htx
      rw [hT, hV] at HP
      rw [hV]
      have HTX := Lib.hid htx
      have hadd := fun W => run_string_add_sum (P := Try.prog) (w := W) V T (by omega)
      clear hl hdp hp1 hp2 hp3 hp4 htx huv htl hT hV hvs
      go_wp2_with fail
      refine HDP.out.mono ?_
      rintro e w3 ⟨rfl, hb3⟩
      have H3 := Lib.hid (H2.out.2.trans (hb3.mono H2.out.2.size))
      clear hb3 c16 HDP
      go_wp2_with fail
      refine (HTX.out w3).mono ?_
      rintro e w4 ⟨rfl, hb4⟩
      have HF := Lib.hid (H3.out.trans (hb4.mono H3.out.size))
      clear hb4 HTX
      go_wp2_with fail
      go_ret2
      exact ⟨by rw [HP.out]; rfl, HF.out⟩
  · have HP := Lib.hid (putC_bad hc)
    have hne : (chkC c != 0) = true := by simp [hc]
    clear hc
    generalize chkC c = n at *
    go_wp2_with fail
    go_ret2
    exact ⟨by rw [HP.out]; rfl, H1.out.2⟩

set_option maxHeartbeats 4000000 in
theorem putRC (c : Cx) (a : Option Addr) (cap : Nat) (w : World) (h : CIn w c a) :
    Calls Try.prog 26 #[.agg (ccs c.v (.slice a c.l.length cap))] w fun e w' => e = .returned (.tuple #[.string (putC c).1, .int .i64 (putC c).2]) ∧ Go.RowKit.Below w.heap.size w w' := by
  have HV := Lib.hid h.v16
  have hlen := h.len
  have hlm : c.l.length ≤ maxLen := by have := h.len; unfold maxLen; omega
  have HLM := Lib.hid hlm
  have HB0 := Lib.hid (boxC_below w c.v (.slice a c.l.length cap))
  have HR0 := Lib.hid (CRow.new w c.v (.slice a c.l.length cap))
  have HI := Lib.hid h
  unfold boxC at HB0
  clear h hlm
  go_enter Try.func26, Try.ntmps26
  go_upto_region 1 with fail
  generalize w.alloc (.cells (ccs c.v (.slice a c.l.length cap)) 26) = W at *
  go_wp2_with ((with_reducible refine cl_load ?_ (.tmp 1) ?_ w.heap.size c.v (.slice a c.l.length cap) ?_ ?_ ?_ ?_); rfl; rfl; rfl; exact HR0.out; exact HV.out)
  refine (chkRC c a cap W (HI.out.below HB0.out)).mono ?_
  rintro e w1 ⟨rfl, hb1⟩
  have H1 := Lib.hid (And.intro (HR0.out.keep hb1) (HB0.out.trans (hb1.mono HB0.out.size)))
  clear hb1 HB0 HR0
  have c16 := H1.out.1.cloud HV.out
  by_cases hc : chkC c = 0
  · have HCC := Lib.hid hc
    have hvs := vec_short hc
    rw [hc]
    clear hc
    by_cases hl : 4096 < c.l.length
    · have HP := Lib.hid (putC_long HCC.out hl)
      have hg : decide ((4096 : Int) < (c.l.length : Int)) = true := by simp; omega
      clear hl
      go_wp2_with fail
      go_ret2
      exact ⟨by rw [HP.out]; rfl, H1.out.2⟩
    · obtain ⟨hp1, hp2, hp3, hp4⟩ := putC_ok HCC.out hl
      have hg : decide ((4096 : Int) < (c.l.length : Int)) = false := by simp; omega
      have hvp := fun W => vputR c.v HV.out W
      rw [hp2] at hvp
      have hdp := fun W hin => putDR c.l a cap W hin HLM.out
      rw [hp3] at hdp
      have htx := fun W => reftext_ok (encT c.l) hp4 W
      have huv : (Lib.uvarint (encT c.l).size).length ≤ 6 := uv_six _ (by omega)
      have HP := Lib.hid hp1
      have HDP := Lib.hid hdp
      have htl : (Lib.uvarint (encT c.l).size ++ (encT c.l).data.toList).length ≤ 65542 := by
        rw [List.length_append]
        have : (encT c.l).data.toList.length = (encT c.l).size := by simp
        omega
      obtain ⟨T, hT⟩ : ∃ T : ByteArray, ⟨(Lib.uvarint (encT c.l).size ++ (encT c.l).data.toList).toArray⟩ = T := ⟨_, rfl⟩
      obtain ⟨V, hV⟩ : ∃ V : ByteArray, ⟨(encN (natV c.v)).toArray⟩ = V := ⟨_, rfl⟩
      have hTs : T.size ≤ 65542 := by rw [← hT]; exact htl
      have hVs : V.size ≤ 96 := by rw [← hV]; exact hvs
      rw [hT] at htx
      rw [hT, hV] at HP
      rw [hV] at hvp
      have HTX := Lib.hid htx
      have HVP := Lib.hid hvp
      have hadd := fun W => run_string_add_sum (P := Try.prog) (w := W) V T (by omega)
      clear hl hdp hp1 hp2 hp3 hp4 htx huv htl hT hV hvs hvp
      go_wp2_with ((with_reducible refine cl_loadV ?_ (.tmp 21) ?_ w.heap.size c.v (.slice a c.l.length cap) ?_ ?_ ?_ ?_); rfl; rfl; rfl; exact H1.out.1; exact HV.out)
      refine (HVP.out w1).mono ?_
      rintro e w2 ⟨rfl, hb2⟩
      have H2 := Lib.hid (And.intro (H1.out.1.keep hb2) (H1.out.2.trans (hb2.mono H1.out.2.size)))
      have c16' := H2.out.1.cloud HV.out
      clear hb2 HVP c16 H1
      go_wp2_with fail
      refine (HDP.out w2 (HI.out.din.below H2.out.2)).mono ?_
      rintro e w3 ⟨rfl, hb3⟩
      have H3 := Lib.hid (H2.out.2.trans (hb3.mono H2.out.2.size))
      clear hb3 c16' HDP
      go_wp2_with fail
      refine (HTX.out w3).mono ?_
      rintro e w4 ⟨rfl, hb4⟩
      have HF := Lib.hid (H3.out.trans (hb4.mono H3.out.size))
      clear hb4 HTX
      go_wp2_with fail
      go_ret2
      exact ⟨by rw [HP.out]; rfl, HF.out⟩
  · have HP := Lib.hid (putC_bad hc)
    have hne : (chkC c != 0) = true := by simp [hc]
    clear hc c16
    generalize chkC c = n at *
    go_wp2_with fail
    go_ret2
    exact ⟨by rw [HP.out]; rfl, H1.out.2⟩
end Go.Proofs.Ytcedliaeipabnaa
