/-
  kernel.Check: whether two say the same, whether all dots are there; its error.
-/
import Derived.Test.YtcedliaeipabnaaGreatKernSide
import Derived.Test.YtcedliaeipabnaaGreatGKernU
import Derived.Laws.EntriesVeiled
namespace Go.Proofs.YtcedliaeipabnaaGreat
set_option linter.unusedSimpArgs false
set_option linter.unusedVariables false
set_option maxRecDepth 100000
open Go.RowKit Go.Sort

/-! saysTwice -/
theorem own_fh {B g n cap : Nat} {l : List Ft} {w : World} (h : OwnF B (.slice (some ⟨g, 0, none⟩) n cap) l w) : FH w g l := by
  have hf : FIn w (some ⟨g, 0, none⟩) l := by
    obtain ⟨a, c, he, hf, -⟩ := h.fin
    injection he with e1 e2 e3
    rw [e1]; exact hf
  rcases h.2 with ⟨e, _⟩ | ⟨g', cap', cur, e, hB, hg, hn, hm, hs, htk⟩
  · cases e
  · injection e with e1 e2 e3
    injection e1 with e1
    injection e1 with e1
    subst e1
    have hlt := lt_of_block hg
    have hlen := h.1
    rw [rowF_len] at hlen
    refine ⟨hlt, fun j f hj => ?_, fun j hj => ⟨?_, Joins.unfrozen_of_block hg _⟩⟩
    · rcases hf with rfl | ⟨b, off, e, hb, hc⟩
      · simp at hj
      · injection e with e
        injection e with e1 e2
        subst e1; subst e2
        have := hc j f hj
        rwa [Nat.zero_add] at this
    · rw [Nat.zero_add, Joins.cell_of_block hg]
      have h1 := congrArg List.length htk
      rw [List.length_take, rowF_len] at h1
      have : j < cur.size := by
        have h2 : cur.toList.length = cur.size := Array.length_toList
        omega
      show (cur[j]?).isSome = true
      rw [Array.getElem?_eq_getElem this]; rfl
abbrev zst : List Value := [.int .i64 0, .int .i64 0, .int .i64 0]
/-- a fact's stamp, written over -/
theorem FH.stamp {w : World} {g : Nat} {l : List Ft} (h : FH w g l) {k : Nat} {f : Ft} (hf : l[k]? = some f) : FH (w.setCells g (k * 8 + 2) zst) g (l.set k (bareF f)) := by
  obtain ⟨hk, hfe⟩ := List.getElem?_eq_some_iff.1 hf
  have hth : w.there g (k * 8 + 2) 3 := fun j hj => by
    have := h.free (k * 8 + 2 + j) (by omega)
    rwa [Nat.zero_add] at this
  refine ⟨by rw [size_setC]; exact h.lt, fun j x hj => ?_, by rw [List.length_set]; exact World.there_setCells h.free _ _ _⟩
  rw [List.getElem?_set] at hj
  split at hj
  · rename_i hjk
    subst hjk
    obtain rfl := Option.some.inj hj
    have h1 := h.at' k f hf
    have hs := World.rangeAt_setCells_same w g (k * 8 + 2) zst hth
    have ap : ∀ i u, (fcs f)[i]? = some u → (i < 2 ∨ 5 ≤ i) → (w.setCells g (k * 8 + 2) zst).cell? ⟨g, k * 8 + i, none⟩ = some u := fun i u hu hi => by
      have h2 : w.rangeAt g (k * 8 + i) [u] := fun j v hv => by
        match j, hv with
        | 0, hv => have e : u = v := by simpa using hv
                   rw [← e]; exact h1 i u hu
      have h3 := World.rangeAt_setCells_apart h2 g (k * 8 + 2) zst (by right; simp; omega)
      exact h3 0 u rfl
    intro i u hu
    match i, hu with
    | 0, hu => exact ap 0 u hu (by omega)
    | 1, hu => exact ap 1 u hu (by omega)
    | 2, hu => exact hs 0 u hu
    | 3, hu => exact hs 1 u hu
    | 4, hu => exact hs 2 u hu
    | 5, hu => exact ap 5 u hu (by omega)
    | 6, hu => exact ap 6 u hu (by omega)
    | 7, hu => exact ap 7 u hu (by omega)
  · rename_i hjk
    have h1 := h.at' j x hj
    exact World.rangeAt_setCells_apart h1 g (k * 8 + 2) zst (by right; rw [fcs_len]; show j * 8 + 8 ≤ _ ∨ _ + 3 ≤ _; omega)

/-- when k facts are bare -/
structure Bare (l : List Ft) (k : Nat) (a : Option Addr) (t : List Ft) (w : World) : Prop where
  len : t.length = l.length
  at' : ∀ j, t[j]? = if j < k then (l[j]?).map bareF else l[j]?
  mem : t = [] ∨ ∃ g, a = some ⟨g, 0, none⟩ ∧ FH w g t
theorem Bare.fin {l t : List Ft} {k : Nat} {a : Option Addr} {w : World} (h : Bare l k a t w) (hk : l.length ≤ k) : t = l.map bareF ∧ FIn w a (l.map bareF) := by
  have e : t = l.map bareF := List.ext_getElem? fun j => by
    rw [h.at', List.getElem?_map]
    split
    · rfl
    · rw [List.getElem?_eq_none (by omega)]; rfl
  refine ⟨e, ?_⟩
  rw [← e]
  rcases h.mem with h0 | ⟨g, rfl, hf⟩
  · exact .inl h0
  · have := hf.fin t.length
    rwa [List.take_length] at this

theorem stampSize : (Tryz.prog.info? 52).map (·.size) = some 3 := by kernel_rfl
theorem buildZS (W : World) : (Instr.build 52 #[]).run Tryz.prog W = .ok (.agg #[.int .i64 0, .int .i64 0, .int .i64 0]) W := run_build W 52 #[] _ (by kernel_rfl)
theorem st_store {ops : Array Oper} {rest : List Oper} {o : Oper} {a : Act} {w : World} {Q : Exit → Act → World → Prop} (hgd : o.guard = none) (x y : Operand) (ho : o.op = .store 52 x y) (g off : Nat)
    (hx : a.eval x = .pointer (some ⟨g, off, none⟩)) (hy : a.eval y = .agg #[.int .i64 0, .int .i64 0, .int .i64 0]) (ht : w.there g off 3)
    (h : wpList Tryz.prog ops Q rest (a.put o.dst undef) (w.setCells g off zst)) : wpList Tryz.prog ops Q (o :: rest) a w :=
  wpList_store_mid hgd 52 x y ho g off #[.int .i64 0, .int .i64 0, .int .i64 0] hx hy ht stampSize (by simp [Value.oneCell']) h

set_option maxHeartbeats 4000000 in
theorem saysC (l : List Ft) (a : Option Addr) (cap : Nat) (w : World) (h : FIn w a l) (hl : l.length ≤ 60000) :
    Calls Tryz.prog 37 #[.slice a l.length cap] w fun e w' => e = .returned (.bool (twiceK l)) ∧ Go.RowKit.Below w.heap.size w w' := by
  have H := Lib.hid h
  clear h
  go_enter Tryz.func37, Tryz.ntmps37
  go_wp2_with fail
  refine (cloneF l a cap w H.out (by omega)).mono ?_
  rintro e w1 ⟨v1, rfl, hown, hb1⟩
  obtain ⟨va, vc, rfl, hvf, hvm⟩ := hown.fin
  have hstart : Bare l 0 va l w1 := ⟨rfl, fun j => by rw [if_neg (by omega)], by
    rcases hown.2 with ⟨e, h0⟩ | ⟨g, cap', cur, e, _⟩
    · exact .inl (List.length_eq_zero_iff.1 h0)
    · have e2 := e
      injection e2 with e1 _ _
      rw [e1] at hown
      exact .inr ⟨g, e1, own_fh hown⟩⟩
  have hbge : ∀ g, va = some ⟨g, 0, none⟩ → l ≠ [] → w.heap.size ≤ g := fun g hg hne => by
    rcases hown.2 with ⟨e, h0⟩ | ⟨g', cap', cur, e, hB, _⟩
    · exact absurd (List.length_eq_zero_iff.1 h0) hne
    · injection e with e1 _ _
      rw [hg] at e1
      injection e1 with e1
      injection e1 with e1
      omega
  have HST := Lib.hid hstart
  have HGE := Lib.hid hbge
  have HB1 := Lib.hid hb1
  clear hown hvf hvm hstart hbge hb1
  go_wp2_with fail
  go_loopw [9] (fun i wr => ∃ (k : Nat) (t : List Ft), k ≤ l.length ∧ i = .int .i64 k ∧ Bare l k va t wr ∧ Go.RowKit.Below w.heap.size w wr) (fun i _ => l.length - (intOf i).toNat)
  case atStart => exact ⟨0, l, Nat.zero_le _, rfl, HST.out, HB1.out⟩
  case round =>
    obtain ⟨k, t, hk, rfl, hbare, hb⟩ := hrel
    have HR := Lib.hid hbare
    have HB := Lib.hid hb
    clear hbare hb
    by_cases hlt : k < l.length
    · obtain ⟨f, hf⟩ : ∃ f, l[k]? = some f := ⟨_, List.getElem?_eq_getElem hlt⟩
      have htk : t[k]? = some f := by rw [HR.out.at', if_neg (by omega)]; exact hf
      have htne : t ≠ [] := fun e => by rw [e] at htk; simp at htk
      have hlne : l ≠ [] := fun e => by rw [e] at hf; simp at hf
      obtain ⟨g, hge, hfh⟩ := HR.out.mem.resolve_left htne
      have hth : wr.there g (k * 8 + 2) 3 := fun j hj => by
        have := hfh.free (k * 8 + 2 + j) (by have := HR.out.len; omega)
        rwa [Nat.zero_add] at this
      have hgB := HGE.out g hge hlne
      have hnew : Bare l (k + 1) va (t.set k (bareF f)) (wr.setCells g (k * 8 + 2) zst) := ⟨by rw [List.length_set]; exact HR.out.len, fun j => by
        rw [List.getElem?_set]
        have htl := HR.out.len
        by_cases hjk : k = j
        · subst hjk
          rw [if_pos rfl, if_pos (by omega), if_pos (by omega), hf]; rfl
        · rw [if_neg hjk, HR.out.at']
          by_cases hj : j < k
          · rw [if_pos hj, if_pos (by omega)]
          · rw [if_neg hj, if_neg (by omega)], .inr ⟨g, hge, hfh.stamp htk⟩⟩
      have HN := Lib.hid (And.intro hnew (below_setCells zst (k * 8 + 2) HB.out hgB))
      have HT := Lib.hid hth
      have hi1 : (k : Int) < (l.length : Int) := by omega
      have hbz := fun W => buildZS W
      clear hf htk htne hlne hfh hth hgB hnew HR HST
      subst hge
      go_wp2_with ((with_reducible refine st_store ?_ (.tmp 16) (.tmp 14) ?_ g (k * 8 + 2) ?_ ?_ ?_ ?_); rfl; rfl; rfl; rfl; exact HT.out; simp only [Act.put, List.setIfInBounds_toArray, List.set_cons_zero, List.set_cons_succ])
      go_roundw
      case rel => exact ⟨k + 1, _, by omega, by go_num, HN.out.1, HN.out.2⟩
      case measure => simp [intOf]; omega
    · obtain rfl : k = l.length := by omega
      obtain ⟨rfl, hfin⟩ := HR.out.fin (Nat.le_refl _)
      have hml : (l.map bareF).length = l.length := List.length_map _
      have hsr := sortFC (l.map bareF) va vc wr hfin (by omega)
      rw [hml] at hsr
      have HSR := Lib.hid hsr
      have HTW := Lib.hid (show twiceK l = decide ((sortF (l.map bareF)).length < l.length) from rfl)
      clear hfin hml hsr HR HST
      have hi2 : ¬ (l.length : Int) < (l.length : Int) := by omega
      generalize sortF (l.map bareF) = s at *
      go_wp2_with fail
      refine HSR.out.mono ?_
      rintro e w3 ⟨a3, c3, rfl, -, hb3⟩
      have HB3 := Lib.hid (HB.out.trans (hb3.mono HB.out.size))
      clear hb3
      go_wp2_with fail
      go_ret
      exact ⟨by rw [HTW.out]; congr 2, HB3.out⟩

/-! knowsAll -/
structure SideAt (w : World) (b : Nat) (fv : Value) (o : Cx) (ba : Option Addr) (bc : Nat) : Prop where
  blk : Blk w b 64 (kcs fv o.v (.slice ba o.l.length bc))
  cin : CIn w o ba
theorem SideAt.below {w w' : World} {b : Nat} {fv : Value} {o : Cx} {ba : Option Addr} {bc : Nat} (h : SideAt w b fv o ba bc) (hb : Go.RowKit.Below w.heap.size w w') : SideAt w' b fv o ba bc := ⟨h.blk.keep hb, h.cin.below hb⟩
theorem ent_knows : ∀ args w, (callFunc 63 args).run Tryz.prog w = .ok (.enter 63 args) w := enters_of Tryz.func63 (by kernel_rfl) rfl

set_option maxHeartbeats 4000000 in
theorem knows1C {c o : Cx} (hcl : CleanOf c o) (b : Nat) (fv : Value) (ba : Option Addr) (bc : Nat) (f : Ft) (w : World) (h : SideAt w b fv o ba bc) :
    Calls Tryz.prog 63 #[.agg (fcs f).toArray, .pointer (some ⟨b, 0, none⟩)] w fun e w' => e = .returned (.bool (!hasC c f.d)) ∧ Go.RowKit.Below w.heap.size w w' := by
  have hbl := (boxF_gr w f).below
  have hfr := boxF_in w f
  have q0 := range_one hfr 0 (v := .int .i64 f.d.1) rfl
  have q1 := range_one hfr 1 (v := .int .i64 f.d.2) rfl
  rw [Nat.zero_add] at q0 q1
  have HS := Lib.hid (h.below hbl)
  have HB := Lib.hid hbl
  have HK := Lib.hid (fun W hh => knowsC hcl fv ba bc f.d W hh)
  have HV := Lib.hid h.cin.v16
  clear hbl hfr h hcl
  generalize f.d.1 = dr at *
  generalize f.d.2 = dq at *
  generalize hasC c f.d = u at *
  go_enter Tryz.func63, Tryz.ntmps63
  go_upto_region 1 with fail
  change Code.wp _ _ _ _ (boxF w f)
  generalize boxF w f = W at *
  go_wp2_with ((with_reducible refine bl_load ?_ 64 (.tmp 1) ?_ b 0 (kcs fv o.v (.slice ba o.l.length bc)) ?_ ?_ Tryz.underlying64 ?_ ?_ ?_); rfl; rfl; rfl; exact HS.out.blk.all; rfl; exact infoK _ _ HV.out; simp only [Act.put, List.setIfInBounds_toArray, List.set_cons_zero, List.set_cons_succ])
  refine (HK.out W HS.out.cin).mono ?_
  rintro e w1 ⟨rfl, hb1⟩
  have HB1 := Lib.hid (HB.out.trans (hb1.mono HB.out.size))
  clear hb1 q0 q1
  go_wp2_with fail
  go_ret
  exact ⟨rfl, HB1.out⟩

/-- the index of the first whose dot is not there, or none -/
def IdxOf (c : Cx) (l : List Ft) (z : Int) : Prop := (0 ≤ z ∧ ∃ f ∈ l, hasC c f.d = false) ∨ (z = -1 ∧ ∀ f ∈ l, hasC c f.d = true)
set_option maxHeartbeats 4000000 in
theorem indexC {c o : Cx} (hcl : CleanOf c o) (b : Nat) (fv : Value) (ba : Option Addr) (bc : Nat) (l : List Ft) (a : Option Addr) (cap : Nat) (w : World) (h : SideAt w b fv o ba bc) (hf : FIn w a l) (hl : l.length ≤ maxLen) :
    Calls Tryz.prog 89 #[.slice a l.length cap, .func (.func 63) #[] #[.pointer (some ⟨b, 0, none⟩)]] w fun e w' => (∃ z : Int, e = .returned (.int .i64 z) ∧ IdxOf c l z) ∧ Go.RowKit.Below w.heap.size w w' := by
  have hent := ent_knows
  have H := Lib.hid (And.intro h hf)
  have HK := Lib.hid (fun f W hh => knows1C hcl b fv ba bc f W hh)
  unfold maxLen at hl
  clear h hf hcl
  go_enter Tryz.func89, Tryz.ntmps89
  go_wp2_with fail
  go_loopw [8] (fun i wr => ∃ k : Nat, k ≤ l.length ∧ i = .int .i64 k ∧ Hid (∀ j x, j < k → l[j]? = some x → hasC c x.d = true) ∧ Go.RowKit.Below w.heap.size w wr) (fun i _ => l.length - (intOf i).toNat)
  case atStart => exact ⟨0, Nat.zero_le _, rfl, Lib.hid (fun j x hj => by omega), Below.refl _ _⟩
  case round =>
    obtain ⟨k, hk, rfl, HP, hb⟩ := hrel
    have HB := Lib.hid hb
    have hbs := hb.size
    clear hb
    by_cases hlt : k < l.length
    · obtain ⟨f, hf⟩ : ∃ f, l[k]? = some f := ⟨_, List.getElem?_eq_getElem hlt⟩
      obtain ⟨fb, off, rfl, hbl, c0⟩ := (H.out.2.below HB.out).at hf
      have C0 := Lib.hid c0
      have HX := Lib.hid hf
      have hi1 : (k : Int) < (l.length : Int) := by omega
      have hkn := HK.out f wr (H.out.1.below HB.out)
      have HN := Lib.hid (show hasC c f.d = true → ∀ j x, j < k + 1 → l[j]? = some x → hasC c x.d = true from fun he j x hj hx => by
        rcases Nat.lt_or_ge j k with h1 | h1
        · exact HP.out j x h1 hx
        · obtain rfl : j = k := by omega
          rw [HX.out] at hx
          rw [← Option.some.inj hx]; exact he)
      have HM := Lib.hid (show hasC c f.d = false → IdxOf c l (k : Int) from fun he => .inl ⟨by omega, f, List.mem_of_getElem? HX.out, he⟩)
      clear c0 hf
      generalize hasC c f.d = u at *
      have HKN := Lib.hid hkn
      clear hkn
      go_wp2_with ((with_reducible refine fl_load ?_ (.tmp 14) ?_ fb (off + k * 8) f ?_ ?_ ?_); rfl; rfl; rfl; exact C0.out; simp only [Act.put, List.setIfInBounds_toArray, List.set_cons_zero, List.set_cons_succ])
      refine HKN.out.mono ?_
      rintro e w1 ⟨rfl, hb1⟩
      have HB1 := Lib.hid (HB.out.trans (hb1.mono hbs))
      clear hb1
      cases u with
      | true =>
        have HN2 := Lib.hid (HN.out rfl)
        clear HN HM
        go_wp2_with fail
        go_roundw
        case rel => exact ⟨k + 1, by omega, by go_num, HN2, HB1.out⟩
        case measure => simp [intOf]; omega
      | false =>
        have HM2 := Lib.hid (HM.out rfl)
        clear HN HM
        go_wp2_with fail
        go_ret
        exact ⟨⟨_, rfl, HM2.out⟩, HB1.out⟩
    · obtain rfl : k = l.length := by omega
      have hi2 : ¬ (l.length : Int) < (l.length : Int) := by omega
      have HF := Lib.hid (show IdxOf c l (-1) from .inr ⟨rfl, fun f hf => by
        obtain ⟨j, hj, hje⟩ := List.mem_iff_getElem.1 hf
        exact HP.out j f hj (by rw [List.getElem?_eq_getElem hj, hje])⟩)
      clear HP
      go_wp2_with fail
      go_ret
      exact ⟨⟨_, rfl, HF.out⟩, HB.out⟩

set_option maxHeartbeats 4000000 in
theorem containsC {c o : Cx} (hcl : CleanOf c o) (b : Nat) (fv : Value) (ba : Option Addr) (bc : Nat) (l : List Ft) (a : Option Addr) (cap : Nat) (w : World) (h : SideAt w b fv o ba bc) (hf : FIn w a l) (hl : l.length ≤ maxLen) :
    Calls Tryz.prog 62 #[.slice a l.length cap, .func (.func 63) #[] #[.pointer (some ⟨b, 0, none⟩)]] w fun e w' => e = .returned (.bool (!allK c l)) ∧ Go.RowKit.Below w.heap.size w w' := by
  have HI := Lib.hid (indexC hcl b fv ba bc l a cap w h hf hl)
  clear h hf hcl
  go_enter Tryz.func62, Tryz.ntmps62
  go_wp2_with fail
  refine HI.out.mono ?_
  rintro e w1 ⟨⟨z, rfl, hz⟩, hb1⟩
  have HB1 := Lib.hid hb1
  have HZ := Lib.hid (show decide ((0 : Int) ≤ z) = !allK c l from by
    unfold allK
    rcases hz with ⟨h1, f, hf, hn⟩ | ⟨h1, hall⟩
    · rw [decide_eq_true h1, decide_eq_false (fun h => by rw [h f hf] at hn; cases hn)]; rfl
    · rw [decide_eq_true hall, decide_eq_false (by omega)]; rfl)
  clear hz hb1
  go_wp2_with fail
  go_ret
  exact ⟨by rw [← HZ.out]; rfl, HB1.out⟩

set_option maxHeartbeats 4000000 in
theorem knowsAllC (c : Cx) (pa : Option Addr) (ca : Nat) (l : List Ft) (a : Option Addr) (cap : Nat) (w : World) (h : CIn w c pa) (hf : FIn w a l) (hl : l.length ≤ maxLen) :
    Calls Tryz.prog 38 #[.agg (ccs c.v (.slice pa c.l.length ca)), .slice a l.length cap] w fun e w' => e = .returned (.bool (allK c l)) ∧ Go.RowKit.Below w.heap.size w w' := by
  have hmf : ∀ (fn : Fn) (first cap : Array Value) (w : World), (Instr.makeFunc fn first cap).run Tryz.prog w = .ok (.func fn first cap) w := fun _ _ _ _ => rfl
  have hbx := boxC_below w c.v (.slice pa c.l.length ca)
  have HR := Lib.hid (CRow.new w c.v (.slice pa c.l.length ca))
  have HV := Lib.hid h.v16
  have H0 := Lib.hid (And.intro (h.below hbx) (And.intro (hf.below hbx) hbx))
  clear h hf hbx
  unfold boxC at H0
  go_enter Tryz.func38, Tryz.ntmps38
  go_upto_region 1 with fail
  generalize w.alloc (.cells (ccs c.v (.slice pa c.l.length ca)) 27) = W at *
  go_wp2_with ((with_reducible refine cl_load ?_ (.tmp 2) ?_ w.heap.size c.v (.slice pa c.l.length ca) ?_ ?_ ?_ ?_); rfl; rfl; rfl; exact HR.out; exact HV.out)
  refine (sideOfC [] none 0 c pa ca W (.inl rfl) (by simp) H0.out.1).mono ?_
  rintro e w1 ⟨⟨o, fa, fc, ba, bc, rfl, hof, -, hmd⟩, hb1⟩
  have HVO := Lib.hid hmd.v16
  have hn := Blk.new w1 64 (kcs (.slice fa (sortF []).length fc) o.v (.slice ba o.l.length bc))
  have HS := Lib.hid (show SideAt (w1.alloc (.cells (kcs (.slice fa (sortF []).length fc) o.v (.slice ba o.l.length bc)) 64)) w1.heap.size (.slice fa (sortF []).length fc) o ba bc from ⟨hn, (hmd.cin).below (lowA w1 _)⟩)
  have HO := Lib.hid hof
  have H1 := Lib.hid (And.intro ((H0.out.2.1.below hb1).below (lowA w1 (.cells (kcs (.slice fa (sortF []).length fc) o.v (.slice ba o.l.length bc)) 64))) (H0.out.2.2.trans ((hb1.trans ((lowA w1 (.cells (kcs (.slice fa (sortF []).length fc) o.v (.slice ba o.l.length bc)) 64)).mono hb1.size)).mono H0.out.2.2.size)))
  clear hof hmd hb1 hn
  go_upto_region 2 with ((with_reducible refine bl_store ?_ 64 (.tmp 5) (.tmp 7) ?_ w1.heap.size (kcs (.slice fa (sortF []).length fc) o.v (.slice ba o.l.length bc)) ?_ ?_ ?_ ?_ ?_ ?_); rfl; rfl; rfl; rfl; exact ⟨_, heap_alloc_new w1 _, by rw [kcs_size, HVO.out]; rfl⟩; exact infoK _ _ HVO.out; exact kcs_one _ _ _ _ _ _ _; simp only [Act.put, List.setIfInBounds_toArray, List.set_cons_zero, List.set_cons_succ])
  change Code.wp _ _ _ _ ((w1.alloc (.cells (kcs nilS zV nilS) 64)).setRow w1.heap.size (kcs (.slice fa (sortF []).length fc) o.v (.slice ba o.l.length bc)))
  rw [World.setRow_alloc_new]
  generalize w1.alloc (.cells (kcs (.slice fa (sortF []).length fc) o.v (.slice ba o.l.length bc)) 64) = W2 at *
  generalize w1.heap.size = bs at *
  have HC := Lib.hid (containsC HO.out bs (.slice fa (sortF []).length fc) ba bc l a cap W2 HS.out H1.out.1 hl)
  go_wp2_with fail
  refine HC.out.mono ?_
  rintro e w3 ⟨rfl, hb3⟩
  have HB3 := Lib.hid (H1.out.2.trans (hb3.mono H1.out.2.size))
  clear hb3 HC
  go_wp2_with fail
  go_ret
  exact ⟨by simp, HB3.out⟩

set_option maxHeartbeats 4000000 in
theorem kchkC (l : List Ft) (a : Option Addr) (cap : Nat) (c : Cx) (pa : Option Addr) (ca : Nat) (w : World) (hf : FIn w a l) (hl : l.length ≤ 60000) (hv : ∀ f ∈ l, f.v.size ≤ 5000) (h : CIn w c pa) :
    Calls Tryz.prog 12 #[.slice a l.length cap, .agg (ccs c.v (.slice pa c.l.length ca))] w fun e w' => e = .returned (.int .i64 (chkK rdM l c)) ∧ Go.RowKit.Below w.heap.size w w' := by
  have hbx := boxC_below w c.v (.slice pa c.l.length ca)
  have HR := Lib.hid (CRow.new w c.v (.slice pa c.l.length ca))
  have HV := Lib.hid h.v16
  have H0 := Lib.hid (And.intro (h.below hbx) (And.intro (hf.below hbx) hbx))
  have hlm : l.length ≤ maxLen := by unfold maxLen; omega
  have HC1 := Lib.hid (fun W hh => chkCC c pa ca W hh)
  have HC2 := Lib.hid (fun W hh => chkFsC l a cap W hh hlm hv)
  have HC3 := Lib.hid (fun W hh => saysC l a cap W hh hl)
  have HC4 := Lib.hid (fun W h1 h2 => knowsAllC c pa ca l a cap W h1 h2 hlm)
  have HE := Lib.hid (show chkK rdM l c = if chkC c ≠ 0 then chkC c else if chkFs rdM l ≠ 0 then chkFs rdM l else if okK l c = true then 0 else 5 from rfl)
  rw [okK_two] at HE
  clear h hf hbx hv hlm
  unfold boxC at H0
  generalize chkC c = e1 at *
  generalize chkFs rdM l = e2 at *
  generalize twiceK l = t at *
  generalize allK c l = u at *
  go_enter Tryz.func12, Tryz.ntmps12
  go_upto_region 1 with fail
  generalize w.alloc (.cells (ccs c.v (.slice pa c.l.length ca)) 27) = W at *
  go_wp2_with ((with_reducible refine cl_load ?_ (.tmp 3) ?_ w.heap.size c.v (.slice pa c.l.length ca) ?_ ?_ ?_ ?_); rfl; rfl; rfl; exact HR.out; exact HV.out)
  refine (HC1.out W H0.out.1).mono ?_
  rintro e w1 ⟨rfl, hb1⟩
  have HB1 := Lib.hid (H0.out.2.2.trans (hb1.mono H0.out.2.2.size))
  have H1 := Lib.hid (And.intro (H0.out.1.below hb1) (And.intro (H0.out.2.1.below hb1) (HR.out.keep hb1)))
  clear hb1 H0 HC1 HR
  by_cases h1 : e1 = 0
  rotate_left
  · have hne : (e1 != 0) = true := by simp [h1]
    have hj := HE.out
    rw [if_pos h1] at hj
    have HJ := Lib.hid hj
    clear h1 hj
    go_wp2_with fail
    go_ret
    exact ⟨by rw [HJ.out]; rfl, HB1.out⟩
  subst h1
  have hj := HE.out
  rw [if_neg (by simp)] at hj
  have HJ := Lib.hid hj
  clear hj HE
  go_wp2_with fail
  refine (HC2.out w1 H1.out.2.1).mono ?_
  rintro e w2 ⟨rfl, hb2⟩
  have HB2 := Lib.hid (HB1.out.trans (hb2.mono HB1.out.size))
  have H2 := Lib.hid (And.intro (H1.out.1.below hb2) (And.intro (H1.out.2.1.below hb2) (H1.out.2.2.keep hb2)))
  clear hb2 H1 HC2 HB1
  by_cases h2 : e2 = 0
  rotate_left
  · have hne : (e2 != 0) = true := by simp [h2]
    have hj := HJ.out
    rw [if_pos h2] at hj
    have HJ := Lib.hid hj
    clear h2 hj
    go_wp2_with fail
    go_ret
    exact ⟨by rw [HJ.out]; rfl, HB2.out⟩
  subst h2
  have hj := HJ.out
  rw [if_neg (by simp)] at hj
  replace HJ := Lib.hid hj
  clear hj
  go_wp2_with fail
  refine (HC3.out w2 H2.out.2.1).mono ?_
  rintro e w3 ⟨rfl, hb3⟩
  have HB3 := Lib.hid (HB2.out.trans (hb3.mono HB2.out.size))
  have H3 := Lib.hid (And.intro (H2.out.1.below hb3) (And.intro (H2.out.2.1.below hb3) (H2.out.2.2.keep hb3)))
  clear hb3 H2 HC3 HB2
  cases t with
  | true =>
    have hj := HJ.out
    rw [if_neg (by simp)] at hj
    replace HJ := Lib.hid hj
    clear hj
    go_wp2_with fail
    go_ret
    exact ⟨by rw [HJ.out]; rfl, HB3.out⟩
  | false =>
    go_wp2_with ((with_reducible refine cl_load ?_ (.tmp 3) ?_ w.heap.size c.v (.slice pa c.l.length ca) ?_ ?_ ?_ ?_); rfl; rfl; rfl; exact H3.out.2.2; exact HV.out)
    refine (HC4.out w3 H3.out.1 H3.out.2.1).mono ?_
    rintro e w4 ⟨rfl, hb4⟩
    have HB4 := Lib.hid (HB3.out.trans (hb4.mono HB3.out.size))
    clear hb4
    have hj := HJ.out
    cases u with
    | true =>
      rw [if_pos (by simp)] at hj
      replace HJ := Lib.hid hj
      clear hj
      go_wp2_with fail
      go_ret
      exact ⟨by rw [HJ.out]; rfl, HB4.out⟩
    | false =>
      rw [if_neg (by simp)] at hj
      replace HJ := Lib.hid hj
      clear hj
      go_wp2_with fail
      go_ret
      exact ⟨by rw [HJ.out]; rfl, HB4.out⟩
end Go.Proofs.YtcedliaeipabnaaGreat
