/-
  almonrylaw11: awake.
  almonrylaw11: the walk of DotSorts.
  almonrylaw11: the walk of DotReads.
-/
import Derived.Test.YtlcjiodbdopcdaaGCauH
import Derived.Test.YtlcjiodbdopcdaaGCauO
import Derived.Test.YtlcjiodbdopcdaaGCauE
namespace Go.Proofs.Ytlcjiodbdopcdaa
open Go.RowKit Go.Sort

theorem din_cells (w : World) (l : List Dt) : DIn (w.alloc (.cells (rowD l).toArray 49)) (some ⟨w.heap.size, 0, none⟩) l := by
  refine .inr ⟨w.heap.size, 0, rfl, by simp, fun j d hj => ?_⟩
  obtain ⟨h1, h2⟩ := rowD_at l j d hj
  refine ⟨?_, ?_⟩
  · rw [Joins.cell_of_block (heap_alloc_new w _)]; simpa using h1
  · rw [Joins.cell_of_block (heap_alloc_new w _)]; simpa using h2

def aL0 : List Dt := [(1, 2), (0, 3), (1, 2)]
def aL1 : List Dt := [(0, 3), (1, 2)]
def aL2 : List Dt := [(1, 2), (0, 3)]
theorem aw_sort : sortD aL0 = aL1 := by decide +kernel
theorem aw_put : putD aL1 = (⟨#[2, 0, 3, 1, 2]⟩, 0) := by decide +kernel
theorem aw_read : readD ⟨#[2, 0, 3, 1, 2]⟩ = (aL1, 0) := read_put aw_put
theorem aw_flat : putD aL2 = (⟨#[]⟩, 5) := by decide +kernel
theorem aw_bad : readD ⟨#[1, 16, 1]⟩ = ([], 2) := by decide +kernel

/-- two rows of one's own, told apart, or the same -/
theorem same_any (x y : List Dt) (n m : Nat) (hn : x.length = n) (hm : y.length = m) (a b : Option Addr) (ca cb : Nat) (w : World) (hx : DIn w a x) (hy : DIn w b y) (hlx : n ≤ maxLen) (hly : m ≤ maxLen) (t : Bool) (ht : decide (x = y) = t) :
    Calls Try.prog 14 #[.slice a n ca, .slice b m cb] w fun e w' => e = .returned (.bool t) ∧ Below w.heap.size w w' := by
  subst hn hm ht
  exact (sameR x y a b ca cb w hx hy hlx hly).mono fun e w' ⟨h1, k, h2⟩ => ⟨h1, by rw [h2]; exact belowN (Below.refl _ _) k⟩

set_option maxHeartbeats 4000000 in
set_option maxRecDepth 100000 in
theorem dotAwake (w : World) : Calls Try.prog 9 #[] w fun e w' => e = .returned (.bool true) ∧ Below w.heap.size w w' := by
  go_enter Try.func9, Try.ntmps9
  go_wp2_with fail
  have hd0 := din_cells w aL0
  have hb0 : Below w.heap.size w (w.alloc (.cells (rowD aL0).toArray 49)) := (Below.refl _ _).alloc (Nat.le_refl _) _
  refine (sortC aL0 (some ⟨w.heap.size, 0, none⟩) 3 _ hd0 (by decide)).mono ?_
  rintro e w1 ⟨v1, rfl, hown1, hb1⟩
  rw [aw_sort] at hown1
  have HB1 := Lib.hid (hb0.trans (hb1.mono hb0.size))
  obtain ⟨a1, c1, rfl, hdin1, -⟩ := hown1.din
  have HD1 := Lib.hid hdin1
  have hl1 : aL1.length = 2 := rfl
  rw [hl1]
  clear hd0 hb0 hb1 hown1 hdin1
  go_wp2_with fail
  refine (putDC aL1 a1 c1 w1 HD1.out (by decide)).mono ?_
  rw [aw_put]
  rintro e w2 ⟨rfl, hb2⟩
  have HB2 := Lib.hid (HB1.out.trans (hb2.mono HB1.out.size))
  have HD2 := Lib.hid (HD1.out.below hb2)
  clear hb2 HD1 HB1
  go_wp2_with fail
  refine (readDC ⟨#[2, 0, 3, 1, 2]⟩ (by decide) w2).mono ?_
  rw [aw_read]
  rintro e w3 ⟨v3, rfl, hown3, hb3⟩
  obtain ⟨a3, c3, rfl, hdin3, -⟩ := hown3.din
  have HB3 := Lib.hid (HB2.out.trans (hb3.mono HB2.out.size))
  have HD3 := Lib.hid (And.intro (HD2.out.below hb3) hdin3)
  rw [hl1]
  clear hb3 hown3 hdin3 HD2 HB2
  go_wp2_with fail
  have hd4 := din_cells w3 aL2
  have hb4 : Below w3.heap.size w3 (w3.alloc (.cells (rowD aL2).toArray 49)) := (Below.refl _ _).alloc (Nat.le_refl _) _
  have hput4 := putDC aL2 (some ⟨w3.heap.size, 0, none⟩) 2 _ hd4 (by decide)
  rw [aw_flat] at hput4
  refine Calls.mono hput4 ?_
  rintro e w4 ⟨rfl, hb4'⟩
  have hb4t := hb4.trans (hb4'.mono hb4.size)
  have HB4 := Lib.hid (HB3.out.trans (hb4t.mono HB3.out.size))
  have HD4 := Lib.hid (And.intro (HD3.out.1.below hb4t) (HD3.out.2.below hb4t))
  clear hd4 hb4 hput4 hb4' hb4t HD3 HB3
  go_wp2_with fail
  refine (readDC ⟨#[1, 16, 1]⟩ (by decide) w4).mono ?_
  rw [aw_bad]
  rintro e w5 ⟨v5, rfl, hown5, hb5⟩
  have HB5 := Lib.hid (HB4.out.trans (hb5.mono HB4.out.size))
  have HD5 := Lib.hid (And.intro (HD4.out.1.below hb5) (HD4.out.2.below hb5))
  obtain ⟨a5, c5, rfl, -, -⟩ := hown5.din
  clear hb5 HD4 HB4 hown5
  go_wp2_with fail
  have hd6 := din_cells w5 aL1
  have hb6 : Below w5.heap.size w5 (w5.alloc (.cells (rowD aL1).toArray 49)) := (Below.refl _ _).alloc (Nat.le_refl _) _
  have hsame6 := same_any aL1 aL1 2 2 rfl rfl a1 (some ⟨w5.heap.size, 0, none⟩) c1 2 _ (HD5.out.1.below hb6) hd6 (by decide) (by decide) true (by simp)
  refine Calls.mono hsame6 ?_
  rintro e w6 ⟨rfl, hb6'⟩
  have hb6t := hb6.trans (hb6'.mono hb6.size)
  have HB6 := Lib.hid (HB5.out.trans (hb6t.mono HB5.out.size))
  have HD6 := Lib.hid (And.intro (HD5.out.1.below hb6t) (HD5.out.2.below hb6t))
  have hl0 : ([] : List Dt).length = 0 := rfl
  clear hd6 hb6 hsame6 hb6' hb6t HD5 HB5
  go_wp2_with fail
  refine (same_any aL1 aL1 2 2 rfl rfl a3 a1 c3 c1 w6 HD6.out.2 HD6.out.1 (by decide) (by decide) true (by simp)).mono ?_
  rintro e w7 ⟨rfl, hb7⟩
  have HB7 := Lib.hid (HB6.out.trans (hb7.mono HB6.out.size))
  clear hb7 HD6 HB6
  go_wp2_with fail
  refine (lessCb (0, 9) (1, 1) w7).mono ?_
  have hlt : ltD (0, 9) (1, 1) = true := by decide
  rw [hlt]
  rintro e w8 ⟨rfl, hb8⟩
  have HB8 := Lib.hid (HB7.out.trans (hb8.mono HB7.out.size))
  clear hb8 HB7 hlt
  go_wp2_with fail
  go_ret
  exact ⟨rfl, HB8.out⟩
end Go.Proofs.Ytlcjiodbdopcdaa

namespace Go.Proofs.Ytlcjiodbdopcdaa
open Go.RowKit Go.Sort

theorem self_str (s : ByteArray) : (s.toList == s.toList) = true := by simp

end Go.Proofs.Ytlcjiodbdopcdaa

namespace Go.Proofs.Ytlcjiodbdopcdaa
open Go.RowKit Go.Sort

theorem putD_size {l : List Dt} : (putD l).1.size ≤ 100000 := by
  unfold putD
  split
  · simp [ByteArray.size]
  · rename_i hl
    split
    · rename_i hc
      have h1 := encD_len l (chkL_ok hc).1
      have h2 := Lib.uvarint_length64 (x := l.length) (by omega)
      simp only [ByteArray.size, List.size_toArray, encDs, List.length_append]
      omega
    · simp [ByteArray.size]

set_option maxHeartbeats 4000000 in
set_option maxRecDepth 100000 in
theorem reads_row (s : ByteArray) (a : Option Addr) (len cap : Nat) (l : List Dt) (w : World) (hs : s.size ≤ maxLen) (h : DotArg w a len l) :
    Calls Try.prog 3 #[.string s, .slice a len cap] w fun e w' => e = .returned (.bool true) ∧ Go.RowKit.Below w.heap.size w w' := by
  obtain ⟨rfl, hl, hin⟩ := h
  unfold maxLen at hl hs
  have hs63 : s.size ≤ 9223372036854775807 := by omega
  have H := Lib.hid hin
  clear hin
  by_cases hbig : 2000 < s.size
  · have hbi : decide ((2000 : Int) < (s.size : Int)) = true := by simp; omega
    go_enter Try.func3, Try.ntmps3
    go_wp2_with fail
    refine (dotAwake w).mono ?_
    rintro e w1 ⟨rfl, hb⟩
    have HB := Lib.hid hb; clear hb
    go_wp2_with fail
    go_ret
    exact ⟨rfl, HB.out⟩
  · have hbi : decide ((2000 : Int) < (s.size : Int)) = false := by simp; omega
    clear hbig
    by_cases hbig : 100 < l.length
    · have hbj : decide ((100 : Int) < (l.length : Int)) = true := by simp; omega
      go_enter Try.func3, Try.ntmps3
      go_wp2_with fail
      refine (dotAwake w).mono ?_
      rintro e w1 ⟨rfl, hb⟩
      have HB := Lib.hid hb; clear hb
      go_wp2_with fail
      go_ret
      exact ⟨rfl, HB.out⟩
    · have hbj : decide ((100 : Int) < (l.length : Int)) = false := by simp; omega
      have hsm : l.length ≤ 100 := by omega
      have hrc := fun W => readDC s hs63 W
      have hrr := fun W => readDR s hs63 W
      have hput : (readD s).2 = 0 → putD (readD s).1 = (s, 0) := fun h => put_read (by rw [← h])
      have hsc := fun W hh => sortC l a cap W hh (by omega)
      have hsr := fun W hh => sortR l a cap W hh (by omega)
      have hslen := sortD_len l
      have hback : (putD (sortD l)).2 = 0 → readD (putD (sortD l)).1 = (sortD l, 0) := fun h => read_put (by rw [← h])
      generalize readD s = RS at hrc hrr hput
      obtain ⟨A, E⟩ := RS
      simp only at hrc hrr hput
      generalize sortD l = S at *
      have HRC := Lib.hid hrc
      have HRR := Lib.hid hrr
      have HPUT := Lib.hid hput
      have HSC := Lib.hid hsc
      have HSR := Lib.hid hsr
      have HBACK := Lib.hid hback
      clear hrc hrr hput hsc hsr hback hbig
      go_enter Try.func3, Try.ntmps3
      go_wp2_with fail
      refine (HRC.out w).mono ?_
      rintro e w1 ⟨v1, rfl, hown1, hb1⟩
      obtain ⟨a1, c1, rfl, hdin1, hAl⟩ := hown1.din
      have HD1 := Lib.hid hdin1
      have HB1 := Lib.hid hb1
      clear hown1 hdin1 hb1 HRC
      go_wp2_with fail
      refine (HRR.out w1).mono ?_
      rintro e w2 ⟨v2, rfl, hown2, hb2⟩
      obtain ⟨a2, c2, rfl, hdin2, -⟩ := hown2.din
      have HD2 := Lib.hid (And.intro (HD1.out.below hb2) hdin2)
      have HB2 := Lib.hid (HB1.out.trans (hb2.mono HB1.out.size))
      clear hown2 hdin2 hb2 HRR HD1 HB1
      have hpa := putDC A a1 c1 w2 HD2.out.1 hAl
      have hsam := fun W h1 h2 => same_any A A A.length A.length rfl rfl a1 a2 c1 c2 W h1 h2 hAl hAl true (by simp)
      have HPA := Lib.hid hpa
      have HSAM := Lib.hid hsam
      have HAL := Lib.hid hAl
      clear hpa hsam hAl
      generalize hPA : putD A = PA at *
      obtain ⟨t, g⟩ := PA
      simp only at HPA HPUT
      generalize A.length = nA at *
      go_wp2_with fail
      refine HPA.out.mono ?_
      rintro e w3 ⟨rfl, hb3⟩
      have HD3 := Lib.hid (And.intro (HD2.out.1.below hb3) (HD2.out.2.below hb3))
      have HB3 := Lib.hid (HB2.out.trans (hb3.mono HB2.out.size))
      clear hb3 HPA HD2 HB2
      go_wp2_with fail
      refine (HSC.out w3 (H.out.below HB3.out)).mono ?_
      rintro e w4 ⟨v4, rfl, hown4, hb4⟩
      obtain ⟨a4, c4, rfl, hdin4, hSl⟩ := hown4.din
      have HD4 := Lib.hid (And.intro (HD3.out.1.below hb4) (HD3.out.2.below hb4))
      have HB4 := Lib.hid (HB3.out.trans (hb4.mono HB3.out.size))
      have hps := putDC S a4 c4 w4 hdin4 hSl
      have hpsz := putD_size (l := S)
      generalize hPS : putD S = PS at *
      obtain ⟨c, h⟩ := PS
      simp only at hps hpsz HBACK
      have HPS := Lib.hid hps
      have HPE := Lib.hid hPS
      clear hown4 hdin4 hb4 HSC HD3 HB3 hps hPS
      go_wp2_with fail
      refine HPS.out.mono ?_
      rintro e w5 ⟨rfl, hb5⟩
      have HD5 := Lib.hid (And.intro (HD4.out.1.below hb5) (HD4.out.2.below hb5))
      have HB5 := Lib.hid (HB4.out.trans (hb5.mono HB4.out.size))
      have hrd := readDC c (by omega) w5
      clear hb5 HD4 HB4 HPS
      generalize hRC : readD c = RC at *
      obtain ⟨D, i⟩ := RC
      simp only at hrd
      have HRD := Lib.hid hrd
      clear hrd hRC
      go_wp2_with fail
      refine HRD.out.mono ?_
      rintro e w6 ⟨v6, rfl, hown6, hb6⟩
      obtain ⟨a6, c6, rfl, hdin6, hDl⟩ := hown6.din
      have HD6 := Lib.hid (And.intro (HD5.out.1.below hb6) (HD5.out.2.below hb6))
      have HDD6 := Lib.hid hdin6
      have HB6 := Lib.hid (HB5.out.trans (hb6.mono HB5.out.size))
      have HDL := Lib.hid hDl
      obtain ⟨nD, hnD⟩ : ∃ n, D.length = n := ⟨_, rfl⟩
      rw [hnD]
      have HND := Lib.hid hnD
      clear hown6 hdin6 hb6 HD5 HB5 HRD hDl hnD
      go_wp2_with fail
      refine (HSAM.out w6 HD6.out.1 HD6.out.2).mono ?_
      rintro e w7 ⟨rfl, hb7⟩
      have HDD7 := Lib.hid (HDD6.out.below hb7)
      have HB7 := Lib.hid (HB6.out.trans (hb7.mono HB6.out.size))
      clear hb7 HD6 HDD6 HB6 HSAM
      have hEE : (E == E) = true := by simp
      have hways : ∃ q r : Bool, ((E != 0) = q) ∧ ((h != 0) = r) := ⟨_, _, rfl, rfl⟩
      obtain ⟨q, r, hq, hr⟩ := hways
      have hq0 : q = false → t = s ∧ g = 0 := fun hh => by
        have hE0 : E = 0 := by rw [hh] at hq; simpa using hq
        have := HPUT.out hE0
        exact ⟨(Prod.ext_iff.1 this).1, (Prod.ext_iff.1 this).2⟩
      have hr0 : r = false → D = S ∧ i = 0 := fun hh => by
        have hE0 : h = 0 := by rw [hh] at hr; simpa using hr
        have := HBACK.out hE0
        exact ⟨(Prod.ext_iff.1 this).1, (Prod.ext_iff.1 this).2⟩
      clear HPUT HBACK
      have hss := self_str s
      have hts : q = false → (t.toList == s.toList) = true ∧ (g == 0) = true := fun hh => by
        obtain ⟨rfl, rfl⟩ := hq0 hh; exact ⟨hss, by simp⟩
      cases r with
      | true =>
        cases q with
        | true =>
          go_wp2_with fail
          refine (dotAwake w7).mono ?_
          rintro e w8 ⟨rfl, hb8⟩
          have HB8 := Lib.hid (HB7.out.trans (hb8.mono HB7.out.size))
          clear hb8
          go_wp2_with fail
          go_ret
          exact ⟨rfl, HB8.out⟩
        | false =>
          obtain ⟨u1, u2⟩ := hts rfl
          clear hts hq0 hr0
          go_wp2_with fail
          refine (dotAwake w7).mono ?_
          rintro e w8 ⟨rfl, hb8⟩
          have HB8 := Lib.hid (HB7.out.trans (hb8.mono HB7.out.size))
          clear hb8
          go_wp2_with fail
          go_ret
          exact ⟨rfl, HB8.out⟩
      | false =>
        obtain ⟨hDS, hi0⟩ := hr0 rfl
        subst hi0
        have HDS := Lib.hid hDS
        clear hDS
        cases q with
        | true =>
          clear hts hq0 hr0
          go_wp2_with fail
          refine (HSR.out w7 (H.out.below HB7.out)).mono ?_
          rintro e w8 ⟨v8, rfl, hown8, hb8⟩
          obtain ⟨a8, c8, rfl, hdin8, hSl8⟩ := hown8.din
          have hsm8 := same_any D S nD S.length HND.out rfl a6 a8 c6 c8 w8 (HDD7.out.below hb8) hdin8 (by rw [← HND.out]; exact HDL.out) hSl8 true (by rw [HDS.out]; simp)
          have HSM := Lib.hid hsm8
          have HB8 := Lib.hid (HB7.out.trans (hb8.mono HB7.out.size))
          clear hown8 hb8 hdin8 hsm8
          generalize S.length = nS at *
          go_wp2_with fail
          refine HSM.out.mono ?_
          rintro e w9 ⟨rfl, hb9⟩
          have HB9 := Lib.hid (HB8.out.trans (hb9.mono HB8.out.size))
          clear hb9 HSM
          go_wp2_with fail
          refine (dotAwake w9).mono ?_
          rintro e w10 ⟨rfl, hb10⟩
          have HB10 := Lib.hid (HB9.out.trans (hb10.mono HB9.out.size))
          clear hb10
          go_wp2_with fail
          go_ret
          exact ⟨rfl, HB10.out⟩
        | false =>
          obtain ⟨u1, u2⟩ := hts rfl
          clear hts hq0 hr0
          go_wp2_with fail
          refine (HSR.out w7 (H.out.below HB7.out)).mono ?_
          rintro e w8 ⟨v8, rfl, hown8, hb8⟩
          obtain ⟨a8, c8, rfl, hdin8, hSl8⟩ := hown8.din
          have hsm8 := same_any D S nD S.length HND.out rfl a6 a8 c6 c8 w8 (HDD7.out.below hb8) hdin8 (by rw [← HND.out]; exact HDL.out) hSl8 true (by rw [HDS.out]; simp)
          have HSM := Lib.hid hsm8
          have HB8 := Lib.hid (HB7.out.trans (hb8.mono HB7.out.size))
          clear hown8 hb8 hdin8 hsm8
          generalize S.length = nS at *
          go_wp2_with fail
          refine HSM.out.mono ?_
          rintro e w9 ⟨rfl, hb9⟩
          have HB9 := Lib.hid (HB8.out.trans (hb9.mono HB8.out.size))
          clear hb9 HSM
          go_wp2_with fail
          refine (dotAwake w9).mono ?_
          rintro e w10 ⟨rfl, hb10⟩
          have HB10 := Lib.hid (HB9.out.trans (hb10.mono HB9.out.size))
          clear hb10
          go_wp2_with fail
          go_ret
          exact ⟨rfl, HB10.out⟩
end Go.Proofs.Ytlcjiodbdopcdaa
