/-
  register: Last, All, Elements.
-/
import Derived.Test.YtpcelgmcbfjmbaaRegSort
import Derived.Test.YtpcelgmcbfjmbaaRegLay
namespace Go.Proofs.Ytpcelgmcbfjmbaa
set_option linter.unusedSimpArgs false
set_option linter.unusedVariables false
set_option maxRecDepth 100000
open Go.RowKit Go.Sort

/-- what Last answers -/
def LastAns (l : List Ft) (r : ByteArray × Bool) : Prop := (l = [] ∧ r = (⟨#[]⟩, false)) ∨ ∃ m, MaxR l l.length m ∧ r = (m.v, true)
theorem LastAns.order {l s : List Ft} {r : ByteArray × Bool} (h : LastAns l r) (ho : OrderR l s) : lastR s = r := by
  rcases h with ⟨rfl, rfl⟩ | ⟨m, hm, rfl⟩
  · have : s = [] := List.perm_nil.1 ho.perm
    subst this; rfl
  · exact hm.last ho
theorem LastAns.perm {l k : List Ft} {r q : ByteArray × Bool} (h : LastAns l r) (h2 : LastAns k q) (hp : l.Perm k) : r = q := by
  rcases h with ⟨rfl, rfl⟩ | ⟨m, hm, rfl⟩
  · rcases h2 with ⟨rfl, rfl⟩ | ⟨m, hm, rfl⟩
    · rfl
    · have := hm.mem
      rw [List.nil_perm.1 hp] at this; simp at this
  · rcases h2 with ⟨rfl, rfl⟩ | ⟨n, hn, rfl⟩
    · have := hm.mem
      rw [List.perm_nil.1 hp] at this; simp at this
    · have m1 := hm.mem
      have m2 := hn.mem
      have t1 := hm.top
      have t2 := hn.top
      rw [List.take_length] at m1 m2 t1 t2
      have h1 := t1 n (hp.mem_iff.2 m2)
      have h2 := t2 m (hp.mem_iff.1 m1)
      rcases ltR_tri m n with k | k | k
      · rw [h1] at k; cases k
      · have := congrArg (fun p => p.2.2) k
        simp only [keyR] at this
        simp [this]
      · rw [h2] at k; cases k

theorem fieldV (m : Ft) (W : World) : Sem.run Try.prog (Instr.field 39 (.agg (fcs m).toArray) 4) W = .ok (.string m.v) W := by
  first
    | rfl
    | kernel_rfl
set_option maxHeartbeats 2000000 in
theorem lastC (l : List Ft) (a : Option Addr) (cap : Nat) (w : World) (h : FIn w a l) (hl : l.length ≤ 65536) :
    Calls Try.prog 8 #[.slice a l.length cap] w fun e w' => ∃ r, e = .returned (.tuple #[.string r.1, .bool r.2]) ∧ LastAns l r ∧ Below w.heap.size w w' := by
  by_cases h0 : l.length = 0
  · have hl0 : l = [] := List.length_eq_zero_iff.1 h0
    subst hl0
    clear h h0
    go_enter Try.func8, Try.ntmps8
    go_wp2_with fail
    go_ret2
    exact ⟨(⟨#[]⟩, false), rfl, .inl ⟨rfl, rfl⟩, Below.refl _ _⟩
  · have HM := Lib.hid (maxC l a cap w h hl (by omega))
    have hi1 : ((l.length : Int) == 0) = false := by rw [beq_eq_false_iff_ne]; omega
    clear h h0
    go_enter Try.func8, Try.ntmps8
    go_wp2_with fail
    refine HM.out.mono ?_
    rintro e w1 ⟨m, rfl, hm, hb⟩
    have H := Lib.hid (And.intro hm hb)
    clear hm hb
    have hfd := fieldV m w1
    go_wp2_with fail
    go_ret2
    exact ⟨(m.v, true), rfl, .inr ⟨_, H.out.1, rfl⟩, H.out.2⟩

theorem FH.fin' {w : World} {g : Nat} {l : List Ft} (h : FH w g l) : FIn w (some ⟨g, 0, none⟩) l :=
  .inr ⟨g, 0, rfl, h.lt, fun j f hj => by rw [Nat.zero_add]; exact h.at' j f hj⟩
set_option maxHeartbeats 2000000 in
theorem allC (l : List Ft) (a : Option Addr) (cap : Nat) (w : World) (h : FIn w a l) (hl : l.length ≤ 65536) :
    Calls Try.prog 14 #[.slice a l.length cap] w fun e w' => ∃ (g : Nat) (s : List Ft), e = .returned (.slice (some ⟨g, 0, none⟩) l.length l.length) ∧ TBlk w' g (s.map (·.v)) ∧ OrderR l s ∧ Below w.heap.size w w' := by
  have HC := Lib.hid (cloneF l a cap w h hl)
  clear h
  go_enter Try.func14, Try.ntmps14
  go_wp2_with fail
  refine HC.out.mono ?_
  rintro e w1 ⟨v1, rfl, hown, hb1⟩
  have HS := Lib.hid (sortCallR l v1 w.heap.size w1 hl hown hb1.size)
  have HB1 := Lib.hid hb1
  clear hown hb1 HC
  go_wp2_with fail
  refine HS.out.mono ?_
  rintro e w2 ⟨rfl, ⟨rfl, rfl, rfl⟩ | ⟨s, g, c2, rfl, hc2, hBg, hlen, hp, hpw, hfh, hb2⟩⟩
  · have HV := Lib.hid (valuesC [] none 0 w2 (.inl rfl) (by simp))
    clear HS
    go_wp2_with fail
    refine HV.out.mono ?_
    rintro e w3 ⟨rfl, ht, hb3⟩
    have H3 := Lib.hid (And.intro ht (HB1.out.trans (hb3.mono HB1.out.size)))
    clear ht hb3 HV
    go_wp2_with fail
    go_ret
    exact ⟨w2.heap.size, [], rfl, H3.out.1, OrderR.nil, H3.out.2⟩
  · have hv := valuesC s (some ⟨g, 0, none⟩) c2 w2 hfh.fin' (by omega)
    have HV := Lib.hid hv
    have HO := Lib.hid (show OrderR l s from ⟨hp, hpw⟩)
    have HB2 := Lib.hid (HB1.out.trans hb2)
    rw [hlen] at *
    clear HS hp hpw hfh hb2 hv
    go_wp2_with fail
    refine HV.out.mono ?_
    rintro e w3 ⟨rfl, ht, hb3⟩
    have H3 := Lib.hid (And.intro ht (HB2.out.trans (hb3.mono HB2.out.size)))
    clear ht hb3 HV
    go_wp2_with fail
    go_ret
    exact ⟨w2.heap.size, s, rfl, H3.out.1, HO.out, H3.out.2⟩

set_option maxHeartbeats 2000000 in
theorem elemsC (l : List Ft) (a : Option Addr) (cap : Nat) (w : World) (h : FIn w a l) (hl : l.length ≤ 65536) :
    Calls Try.prog 16 #[.slice a l.length cap] w fun e w' => ∃ (g : Nat) (out : List ByteArray), e = .returned (.slice (some ⟨g, 0, none⟩) out.length l.length) ∧ StrRow w' (some ⟨g, 0, none⟩) out ∧ ElemsR l out ∧ out.length ≤ l.length ∧ Below w.heap.size w w' := by
  have HV := Lib.hid (valuesC l a cap w h hl)
  have hlm : (l.map (·.v)).length = l.length := by simp
  clear h
  go_enter Try.func16, Try.ntmps16
  go_wp2_with fail
  refine HV.out.mono ?_
  rintro e w1 ⟨rfl, ht, hb1⟩
  have hs := sortX (l.map (·.v)) w.heap.size w.heap.size w1 ht (by rw [hlm]; exact hl) (Nat.le_refl _)
  rw [hlm] at hs
  have HS := Lib.hid hs
  have HB1 := Lib.hid hb1
  have HLM := Lib.hid hlm
  clear hs ht hb1 HV hlm
  go_wp2_with fail
  refine HS.out.mono ?_
  rintro e w2 ⟨rfl, ts, hp, hpw, ht, hb2⟩
  have hlt : ts.length = l.length := by rw [hp.length_eq, HLM.out]
  have hc := compX ts w.heap.size w.heap.size w2 ht (by rw [hlt]; exact hl) (Nat.le_refl _) hpw
  rw [hlt] at hc
  have HC := Lib.hid hc
  have HP := Lib.hid hp
  have HB2 := Lib.hid (HB1.out.trans hb2)
  clear hc hp hpw ht hb2 hlt HS
  go_wp2_with fail
  refine HC.out.mono ?_
  rintro e w3 ⟨out, rfl, hr, hm, hol, hrow, hb3⟩
  have HE := Lib.hid (show ElemsR l out from ⟨hr, fun x => by rw [hm, HP.out.mem_iff, List.mem_map]⟩)
  have H3 := Lib.hid (And.intro hrow (And.intro hol (HB2.out.trans hb3)))
  clear hr hm hol hrow hb3 HC
  go_wp2_with fail
  go_ret
  exact ⟨w.heap.size, out, rfl, H3.out.1, HE.out, H3.out.2.1, H3.out.2.2⟩
end Go.Proofs.Ytpcelgmcbfjmbaa
