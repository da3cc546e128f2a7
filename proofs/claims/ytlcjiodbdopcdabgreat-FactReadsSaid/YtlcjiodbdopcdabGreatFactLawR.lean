/-
  almonrylaw15: the walk of FactReads.
-/
import Derived.Test.YtlcjiodbdopcdabGreatFactLawS
import Derived.Test.YtlcjiodbdopcdabGreatGFactM
namespace Go.Proofs.YtlcjiodbdopcdabGreat
open Go.RowKit Go.Sort
set_option maxRecDepth 100000

theorem putF_size {l : List Ft} : (putF rdM l).1.size ≤ 100000000 := by
  unfold putF
  split
  · simp [ByteArray.size]
  · rename_i hl
    split
    · rename_i hc
      have h1 := encF_len l (chkFs_ok hc).1
      have h2 := Lib.uvarint_length64 (x := l.length) (by omega)
      simp only [ByteArray.size, List.size_toArray, encFs, List.length_append]
      omega
    · simp [ByteArray.size]
theorem rdF_of {s : ByteArray} {l : List Ft} (h : readF rdM s = (l, 0)) : (rdF s).1 = l := by
  unfold readF at h
  split at h
  · cases h
  · split at h
    · rename_i hd; exact absurd (Prod.ext_iff.1 h).2 hd
    · split at h
      · rename_i hc; exact absurd (Prod.ext_iff.1 h).2 hc
      · exact (Prod.ext_iff.1 h).1
theorem putF_bad {l : List Ft} (h : (putF rdM l).2 ≠ 0) : (putF rdM l).1 = ⟨#[]⟩ := by
  unfold putF at h ⊢
  split
  · rfl
  · split
    · rename_i h1 h2; rw [if_neg h1, if_pos h2] at h; exact absurd rfl h
    · rfl
theorem putF_back {l : List Ft} (h : ∀ f ∈ l, f.v.size ≤ 5000) : ∀ f ∈ (rdF (putF rdM l).1).1, f.v.size ≤ 5000 := by
  by_cases e : (putF rdM l).2 = 0
  · rw [rdF_of (readF_put (rd := rdM) (l := l) (by rw [← e]))]
    exact h
  · intro f hf
    have h1 := rdF_val _ f hf
    rw [putF_bad e] at h1
    exact Nat.le_trans h1 (by decide)
theorem readF_val {s : ByteArray} (hs : s.size ≤ 5000) : ∀ f ∈ (readF rdM s).1, f.v.size ≤ 5000 := by
  intro f hf
  unfold readF at hf
  split at hf
  · simp at hf
  · split at hf
    · simp at hf
    · split at hf
      · simp at hf
      · exact Nat.le_trans (rdF_val s f hf) hs

set_option maxHeartbeats 8000000 in
theorem fact_reads_row (s : ByteArray) (a : Option Addr) (len cap : Nat) (l : List Ft) (w : World) (hs : s.size ≤ maxLen) (h : FactArg w a len l) :
    Calls Tryz.prog 4 #[.string s, .slice a len cap] w fun e w' => e = .returned (.bool true) ∧ Go.RowKit.Below w.heap.size w w' := by
  obtain ⟨rfl, hl, hin, hsz⟩ := h
  have HFW := Lib.hid (fun W hh => fewC l a cap W hh hl hsz)
  unfold maxLen at hl hs
  have hs63 : s.size ≤ 9223372036854775807 := by omega
  have H := Lib.hid hin
  clear hin hsz
  by_cases hbig : 5000 < s.size
  · have hbi : decide ((5000 : Int) < (s.size : Int)) = true := by simp; omega
    go_enter Tryz.func4, Tryz.ntmps4
    go_wp2_with fail
    refine (factAwake w).mono ?_
    rintro e w1 ⟨rfl, hb⟩
    have HB := Lib.hid hb; clear hb
    go_wp2_with fail
    go_ret
    exact ⟨rfl, HB.out⟩
  have hbi : decide ((5000 : Int) < (s.size : Int)) = false := by simp; omega
  have hs5 : s.size ≤ 5000 := by omega
  clear hbig
  cases hfw : fewP l with
  | false =>
    rw [hfw] at HFW
    clear hfw
    go_enter Tryz.func4, Tryz.ntmps4
    go_wp2_with fail
    refine (HFW.out w H.out).mono ?_
    rintro e w1 ⟨rfl, rfl⟩
    go_wp2_with fail
    refine (factAwake w).mono ?_
    rintro e w1 ⟨rfl, hb⟩
    have HB := Lib.hid hb; clear hb
    go_wp2_with fail
    go_ret
    exact ⟨rfl, HB.out⟩
  | true =>
    rw [hfw] at HFW
    have hv := fewP_v hfw
    have hsm : l.length ≤ 30 := (fewP_ok hfw).1
    have hrc := fun W => readFC s hs63 (fun f hf => Nat.le_trans (rdF_val s f hf) hs5) W
    have hrr := fun W => readFR s hs5 W
    have hput : (readF rdM s).2 = 0 → putF rdM (readF rdM s).1 = (s, 0) := fun h => putF_read (by rw [← h])
    have hsc := fun W hh => sortFC l a cap W hh (by omega)
    have hsr := fun W hh => sortFR l a cap W hh (by omega)
    have hslen := sortF_len l
    have HVA := Lib.hid (show ∀ f ∈ (readF rdM s).1, f.v.size ≤ 5000 from readF_val hs5)
    have HVS := Lib.hid (show ∀ f ∈ sortF l, f.v.size ≤ 5000 from fun f hf => hv f (mem_sortF.1 hf))
    have HVC := Lib.hid (putF_back (show ∀ f ∈ sortF l, f.v.size ≤ 5000 from fun f hf => hv f (mem_sortF.1 hf)))
    have hback : (putF rdM (sortF l)).2 = 0 → readF rdM (putF rdM (sortF l)).1 = (sortF l, 0) := fun h => readF_put (by rw [← h])
    generalize readF rdM s = RS at hrc hrr hput HVA
    obtain ⟨A, E⟩ := RS
    simp only at hrc hrr hput HVA
    generalize sortF l = S at *
    have HRC := Lib.hid hrc
    have HRR := Lib.hid hrr
    have HPUT := Lib.hid hput
    have HSC := Lib.hid hsc
    have HSR := Lib.hid hsr
    have HBACK := Lib.hid hback
    clear hrc hrr hput hsc hsr hback hv hfw
    go_enter Tryz.func4, Tryz.ntmps4
    go_wp2_with fail
    refine (HFW.out w H.out).mono ?_
    rintro e w0 ⟨rfl, rfl⟩
    clear HFW
    go_wp2_with fail
    refine (HRC.out w).mono ?_
    rintro e w1 ⟨v1, rfl, hown1, hb1⟩
    obtain ⟨a1, c1, rfl, hdin1, hAl⟩ := hown1.fin
    have HD1 := Lib.hid hdin1
    have HB1 := Lib.hid hb1
    clear hown1 hdin1 hb1 HRC
    go_wp2_with fail
    refine (HRR.out w1).mono ?_
    rintro e w2 ⟨v2, rfl, hown2, hb2⟩
    obtain ⟨a2, c2, rfl, hdin2, -⟩ := hown2.fin
    have HD2 := Lib.hid (And.intro (HD1.out.below hb2) hdin2)
    have HB2 := Lib.hid (HB1.out.trans (hb2.mono HB1.out.size))
    clear hown2 hdin2 hb2 HRR HD1 HB1
    have hpa := putFC A a1 c1 w2 HD2.out.1 hAl HVA.out
    have hsam := fun W h1 h2 => same_anyF A A A.length A.length rfl rfl a1 a2 c1 c2 W h1 h2 hAl true (by simp)
    have HPA := Lib.hid hpa
    have HSAM := Lib.hid hsam
    have HAL := Lib.hid hAl
    clear hpa hsam hAl
    generalize hPA : putF rdM A = PA at *
    obtain ⟨t, g⟩ := PA
    simp only at HPA HPUT
    generalize A.length = nA at *
    go_wp2_with fail
    refine HPA.out.mono ?_
    rintro e w3 ⟨rfl, hb3⟩
    have HD3 := Lib.hid (And.intro (HD2.out.1.below hb3) (HD2.out.2.below hb3))
    have HB3 := Lib.hid (HB2.out.trans (hb3.mono HB2.out.size))
    clear hb3 HPA HD2 HB2
    go_wp2_with fail
    refine (HSC.out w3 (H.out.below HB3.out)).mono ?_
    rintro e w4 ⟨a4, c4, rfl, hdin4, hb4⟩
    have hSl : S.length ≤ maxLen := by unfold maxLen; omega
    have HD4 := Lib.hid (And.intro (HD3.out.1.below hb4) (HD3.out.2.below hb4))
    have HB4 := Lib.hid (HB3.out.trans (hb4.mono HB3.out.size))
    have hps := putFC S a4 c4 w4 hdin4 hSl HVS.out
    have hpsz := putF_size (l := S)
    generalize hPS : putF rdM S = PS at *
    obtain ⟨c, h⟩ := PS
    simp only at hps hpsz HBACK HVC
    have HPS := Lib.hid hps
    have HPE := Lib.hid hPS
    clear hdin4 hb4 HSC HD3 HB3 hps hPS
    go_wp2_with fail
    refine HPS.out.mono ?_
    rintro e w5 ⟨rfl, hb5⟩
    have HD5 := Lib.hid (And.intro (HD4.out.1.below hb5) (HD4.out.2.below hb5))
    have HB5 := Lib.hid (HB4.out.trans (hb5.mono HB4.out.size))
    have hrd := readFC c (by omega) HVC.out w5
    clear hb5 HD4 HB4 HPS
    generalize hRC : readF rdM c = RC at *
    obtain ⟨D, i⟩ := RC
    simp only at hrd
    have HRD := Lib.hid hrd
    clear hrd hRC
    go_wp2_with fail
    refine HRD.out.mono ?_
    rintro e w6 ⟨v6, rfl, hown6, hb6⟩
    obtain ⟨a6, c6, rfl, hdin6, hDl⟩ := hown6.fin
    have HD6 := Lib.hid (And.intro (HD5.out.1.below hb6) (HD5.out.2.below hb6))
    have HDD6 := Lib.hid hdin6
    have HB6 := Lib.hid (HB5.out.trans (hb6.mono HB5.out.size))
    have HDL := Lib.hid hDl
    obtain ⟨nD, hnD⟩ : ∃ n, D.length = n := ⟨_, rfl⟩
    rw [hnD]
    have HND := Lib.hid hnD
    clear hown6 hdin6 hb6 HD5 HB5 HRD hDl hnD
    go_wp2_with fail
    refine (HSAM.out w6 HD6.out.1 HD6.out.2).mono ?_
    rintro e w7 ⟨rfl, hb7⟩
    have HDD7 := Lib.hid (HDD6.out.below hb7)
    have HB7 := Lib.hid (HB6.out.trans (hb7.mono HB6.out.size))
    clear hb7 HD6 HDD6 HB6 HSAM
    have hEE : (E == E) = true := by simp
    have hways : ∃ q r : Bool, ((E != 0) = q) ∧ ((h != 0) = r) := ⟨_, _, rfl, rfl⟩
    obtain ⟨q, r, hq, hr⟩ := hways
    have hq0 : q = false → t = s ∧ g = 0 := fun hh => by
      have hE0 : E = 0 := by rw [hh] at hq; simpa using hq
      have := HPUT.out hE0
      exact ⟨(Prod.ext_iff.1 this).1, (Prod.ext_iff.1 this).2⟩
    have hr0 : r = false → D = S ∧ i = 0 := fun hh => by
      have hE0 : h = 0 := by rw [hh] at hr; simpa using hr
      have := HBACK.out hE0
      exact ⟨(Prod.ext_iff.1 this).1, (Prod.ext_iff.1 this).2⟩
    clear HPUT HBACK
    have hss := fself_str s
    have hts : q = false → (t.toList == s.toList) = true ∧ (g == 0) = true := fun hh => by
      obtain ⟨rfl, rfl⟩ := hq0 hh; exact ⟨hss, by simp⟩
    cases r with
    | true =>
      cases q with
      | true =>
        go_wp2_with fail
        refine (factAwake w7).mono ?_
        rintro e w8 ⟨rfl, hb8⟩
        have HB8 := Lib.hid (HB7.out.trans (hb8.mono HB7.out.size))
        clear hb8
        go_wp2_with fail
        go_ret
        exact ⟨rfl, HB8.out⟩
      | false =>
        obtain ⟨u1, u2⟩ := hts rfl
        clear hts hq0 hr0
        go_wp2_with fail
        refine (factAwake w7).mono ?_
        rintro e w8 ⟨rfl, hb8⟩
        have HB8 := Lib.hid (HB7.out.trans (hb8.mono HB7.out.size))
        clear hb8
        go_wp2_with fail
        go_ret
        exact ⟨rfl, HB8.out⟩
    | false =>
      obtain ⟨hDS, hi0⟩ := hr0 rfl
      subst hi0
      have HDS := Lib.hid hDS
      clear hDS
      cases q with
      | true =>
        clear hts hq0 hr0
        go_wp2_with fail
        refine (HSR.out w7 (H.out.below HB7.out)).mono ?_
        rintro e w8 ⟨v8, rfl, hown8, hb8⟩
        obtain ⟨a8, c8, rfl, hdin8, hSl8⟩ := hown8.fin
        have hsm8 := same_anyF D S nD S.length HND.out rfl a6 a8 c6 c8 w8 (HDD7.out.below hb8) hdin8 (by rw [← HND.out]; exact HDL.out) true (by rw [HDS.out]; simp)
        have HSM := Lib.hid hsm8
        have HB8 := Lib.hid (HB7.out.trans (hb8.mono HB7.out.size))
        clear hown8 hb8 hdin8 hsm8
        generalize S.length = nS at *
        go_wp2_with fail
        refine HSM.out.mono ?_
        rintro e w9 ⟨rfl, hb9⟩
        have HB9 := Lib.hid (HB8.out.trans (hb9.mono HB8.out.size))
        clear hb9 HSM
        go_wp2_with fail
        refine (factAwake w9).mono ?_
        rintro e w10 ⟨rfl, hb10⟩
        have HB10 := Lib.hid (HB9.out.trans (hb10.mono HB9.out.size))
        clear hb10
        go_wp2_with fail
        go_ret
        exact ⟨rfl, HB10.out⟩
      | false =>
        obtain ⟨u1, u2⟩ := hts rfl
        clear hts hq0 hr0
        go_wp2_with fail
        refine (HSR.out w7 (H.out.below HB7.out)).mono ?_
        rintro e w8 ⟨v8, rfl, hown8, hb8⟩
        obtain ⟨a8, c8, rfl, hdin8, hSl8⟩ := hown8.fin
        have hsm8 := same_anyF D S nD S.length HND.out rfl a6 a8 c6 c8 w8 (HDD7.out.below hb8) hdin8 (by rw [← HND.out]; exact HDL.out) true (by rw [HDS.out]; simp)
        have HSM := Lib.hid hsm8
        have HB8 := Lib.hid (HB7.out.trans (hb8.mono HB7.out.size))
        clear hown8 hb8 hdin8 hsm8
        generalize S.length = nS at *
        go_wp2_with fail
        refine HSM.out.mono ?_
        rintro e w9 ⟨rfl, hb9⟩
        have HB9 := Lib.hid (HB8.out.trans (hb9.mono HB8.out.size))
        clear hb9 HSM
        go_wp2_with fail
        refine (factAwake w9).mono ?_
        rintro e w10 ⟨rfl, hb10⟩
        have HB10 := Lib.hid (HB9.out.trans (hb10.mono HB9.out.size))
        clear hb10
        go_wp2_with fail
        go_ret
        exact ⟨rfl, HB10.out⟩
end Go.Proofs.YtlcjiodbdopcdabGreat
