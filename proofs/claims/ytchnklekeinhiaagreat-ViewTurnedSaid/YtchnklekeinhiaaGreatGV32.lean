/-
  view, the document's: All.
  view, the program's: All.
-/
import Derived.Test.YtchnklekeinhiaaGreatGV31
import Derived.Test.YtchnklekeinhiaaGreatGV27
import Derived.Test.YtchnklekeinhiaaGreatGV29
import Derived.Test.YtchnklekeinhiaaGreatGV21
namespace Go.Proofs.YtchnklekeinhiaaGreat
set_option linter.unusedSimpArgs false
set_option linter.unusedVariables false
set_option maxRecDepth 100000
open Go.RowKit Go.Sort

theorem wpList_build1E {ops : Array Oper} {rest : List Oper} {o : Oper} {a : Act} {w : World} {Q : Exit → Act → World → Prop} (hgd : o.guard = none) (x : Operand) (ho : o.op = .buildSlice 37 1 #[(0, x)]) (f : ER)
    (hx : a.eval x = .agg (ecs f).toArray)
    (hk : wpList Tryz.prog ops Q rest (a.put o.dst (.slice (some ⟨w.heap.size, 0, none⟩) 1 1)) (w.alloc (.cells (ecs f).toArray 31))) : wpList Tryz.prog ops Q (o :: rest) a w := by
  refine wpList_plain hgd fun K hK => ?_
  have e : (#[(0, x)] : Array (Nat × Operand)).map (fun (i, x) => (i, a.eval x)) = #[(0, .agg (ecs f).toArray)] := by simp [hx]
  have hb : (Instr.buildSlice 37 1 #[(0, .agg (ecs f).toArray)]).run Tryz.prog w = .ok (.slice (some ⟨w.heap.size, 0, none⟩) 1 1) (w.alloc (.cells (ecs f).toArray 31)) := by
    obtain ⟨i0, hi, hz0, hz1, hz2⟩ := infoG encE
    refine run_buildSlice w 37 31 1 _ (ecs f).toArray i0 zeroE Tryz.underlying37 hi hz0 (by rw [hz1]; decide) (by rw [hz1]; decide) ?_
    rw [hz1]
    kernel_rfl
  unfold Oper.wp execOp
  simp only [ho, Sem.run_bind]
  rw [e, hb]
  exact hK _ _ hk

/-- each backup -/
def AllR (l : List Ft) (es : List Ent) : Prop := ∃ names, SetX (namesS l) names ∧ es.length = names.length ∧ ∀ (j : Nat) (nm : ByteArray) (e : Ent), names[j]? = some nm → es[j]? = some e → EntA l nm e
theorem AllR.same {l k : List Ft} {a b : List Ent} (hp : l.Perm k) (h : AllR l a) (h2 : AllR k b) : a = b := by
  obtain ⟨x, hx, hxl, hxe⟩ := h
  obtain ⟨y, hy, hyl, hye⟩ := h2
  have hxy : x = y := SetX.same (namesS_perm hp) hx hy
  subst hxy
  refine List.ext_getElem (by omega) fun j h1 h2 => ?_
  have h3 : j < x.length := by omega
  exact EntA.same hp (hxe j x[j] a[j] (List.getElem?_eq_getElem h3) (List.getElem?_eq_getElem h1)) (hye j x[j] b[j] (List.getElem?_eq_getElem h3) (List.getElem?_eq_getElem h2))
theorem AllR.len {l : List Ft} {a : List Ent} (h : AllR l a) : a.length ≤ l.length := by
  obtain ⟨x, hx, hxl, -⟩ := h
  have h1 := hx.len
  have h2 := namesS_len l
  omega

set_option maxHeartbeats 16000000 in
theorem allEnR (l : List Ft) (a : Option Addr) (cap : Nat) (w : World) (hf : FIn w a l) (hl : l.length ≤ 40) (hv : ∀ f ∈ l, f.v.size ≤ 5000) :
    Calls Tryz.prog 10 #[.slice a l.length cap] w fun v w' => (∃ v' rs, v = .returned v' ∧ OwnEs w.heap.size v' rs w' ∧ AllR l (rs.map (·.e))) ∧ Go.RowKit.Below w.heap.size w w' := by
  have HE := Lib.hid (fun nm W (hb : Go.RowKit.Below w.heap.size w W) => entryR l a cap nm W (hf.below hb) hl hv)
  have HN := Lib.hid (namesR l a cap w hf hl)
  have HNL := Lib.hid (namesS_len l)
  clear hf hv
  go_enter Tryz.func10, Tryz.ntmps10
  go_wp2_with fail
  refine HN.out.mono ?_
  rintro v w1 ⟨⟨v1, nms, rfl, hown, hset⟩, hb1⟩
  obtain ⟨na, nc, rfl, hrow, -, -⟩ := hown.fin2
  have hnl : nms.length ≤ 40 := by have h1 := hset.len; have h2 := HNL.out; omega
  have HS := Lib.hid hset
  have HRW := Lib.hid hrow
  have HB1 := Lib.hid hb1
  clear hown hset hrow hb1 HN HNL
  go_wp2_with fail
  go_loopw [3, 5, 6, 7] (fun v i _ _ wr => ∃ (k : Nat) (rs : List ER), k ≤ nms.length ∧ i = .int .i64 k ∧ rs.length = k ∧ OwnEs w1.heap.size v rs wr ∧ Hid (∀ (j : Nat) (nm : ByteArray) (r : ER), nms[j]? = some nm → rs[j]? = some r → EntA l nm r.e) ∧ Hid (Go.RowKit.Below w1.heap.size w1 wr)) (fun _ i _ _ _ => nms.length - (intOf i).toNat)
  case atStart => exact ⟨0, [], Nat.zero_le _, rfl, rfl, ownEs_nil _ _, Lib.hid (fun j nm r _ h => by simp at h), Lib.hid (Below.refl _ _)⟩
  case round =>
    obtain ⟨k, rs, hk, rfl, hrl, hown, HA, HBr⟩ := hrel
    have HOW := Lib.hid hown
    obtain ⟨xa, xc, rfl, -, -, -⟩ := hown.esin
    have HRL := Lib.hid hrl
    have HBW := Lib.hid (HB1.out.trans (HBr.out.mono HB1.out.size))
    clear hown hrl
    by_cases hlt : k < nms.length
    · have hi1 : (k : Int) < (nms.length : Int) := by omega
      obtain ⟨tb, off, rfl, hbl, q0⟩ : ∃ b off, na = some ⟨b, off, none⟩ ∧ b < wr.heap.size ∧ wr.cell? ⟨b, off + k, none⟩ = some (.string (nms.getD k ByteArray.empty)) := by
        rcases HRW.out.below HBr.out with h | ⟨b, off, h1, h2, h3⟩
        · rw [h] at hlt; simp at hlt
        · exact ⟨b, off, h1, h2, h3 k hlt⟩
      have hgd : nms[k]? = some (nms.getD k ByteArray.empty) := by rw [List.getD_eq_getElem?_getD, List.getElem?_eq_getElem hlt]; rfl
      have HGD := Lib.hid hgd
      have HEN := Lib.hid (HE.out (nms.getD k ByteArray.empty) wr HBW.out)
      clear hgd
      generalize nms.getD k ByteArray.empty = y at *
      go_wp2_with fail
      refine HEN.out.mono ?_
      rintro v w3 ⟨⟨r, rfl, hmem, hent⟩, hb3⟩
      have hz := lowA w3 (.cells (ecs zER).toArray 31)
      have hz2 := belowRow' hz (Nat.le_refl _) (ecs r).toArray
      have HZ := Lib.hid (Blk.new w3 31 (ecs zER).toArray)
      have HR := Lib.hid (HZ.out.put (ecs r).toArray)
      have HB3 := Lib.hid (HBr.out.trans ((hb3.trans (hz2.mono hb3.size)).mono HBr.out.size))
      have HMEM := Lib.hid (hmem.below hz2)
      have HO3 := Lib.hid (HOW.out.below (hb3.trans (hz2.mono hb3.size)) (Nat.le_refl _))
      have HLO := Lib.hid (fun g (hg : (Value.slice xa rs.length xc).ownBlock = some g) => (HOW.out.own.lt g hg).2)
      have HEA := Lib.hid hent
      have HBB := Lib.hid HBr.out.size
      clear hmem hent hb3 hz hz2 HOW HEN
      go_upto_region 7 with ((with_reducible refine bl_store ?_ 31 (.tmp 6) (.tmp 23) ?_ w3.heap.size (ecs r).toArray ?_ ?_ ?_ ?_ ?_ ?_); rfl; rfl; rfl; rfl; exact ⟨_, HZ.out, rfl⟩; exact infoEn _; exact en_one _; simp only [Act.put, List.setIfInBounds_toArray, List.set_cons_zero, List.set_cons_succ])
      change Code.wp _ _ _ _ ((w3.alloc (.cells (ecs zER).toArray 31)).setRow w3.heap.size (ecs r).toArray)
      clear HZ
      generalize (w3.alloc (.cells (ecs zER).toArray 31)).setRow w3.heap.size (ecs r).toArray = W4 at *
      generalize w3.heap.size = eb at *
      have ha4 := lowA W4 (.cells (ecs r).toArray 31)
      obtain ⟨qa, qc, w5, hr5, ho5, hb5⟩ := OwnEs.push (c := 1) (HO3.out.below ha4 (Nat.le_refl _)) (HMEM.out.below ha4) HLO.out HBB.out (gin_new (E := encE) W4 r) (by have h2 := HB3.out.size; rw [World.size_alloc]; omega) (rs.length + 1) rfl (by have := HRL.out; omega)
      have hr5' : (Builtin.append_ #[37, 37] 37 #[.slice xa rs.length xc, .slice (some ⟨W4.heap.size, 0, none⟩) 1 1]).run Tryz.prog (W4.alloc (.cells (ecs r).toArray 31)) = .ok (.slice qa (rs.length + 1) qc) w5 := hr5
      have HN5 := Lib.hid ho5
      have HB5 := Lib.hid ((HB3.out.trans (ha4.mono HB3.out.size)).trans hb5)
      have HA5 := Lib.hid (show ∀ (j : Nat) (nm : ByteArray) (q : ER), nms[j]? = some nm → (rs ++ [r])[j]? = some q → EntA l nm q.e from fun j nm q hn hq => by
        by_cases hj : j < rs.length
        · rw [List.getElem?_append_left hj] at hq; exact HA.out j nm q hn hq
        · rw [List.getElem?_append_right (by omega)] at hq
          have hrl := HRL.out
          obtain ⟨h1, h2⟩ := List.getElem?_eq_some_iff.1 hq
          have hj2 : j - rs.length = 0 := by simp at h1; omega
          have hj3 : j = k := by have := HRL.out; omega
          subst hj3
          have hq2 : q = r := by
            rw [← h2]
            simp [hj2]
          subst hq2
          have := HGD.out
          rw [hn] at this
          rw [Option.some.inj this]
          exact HEA.out)
      clear hr5 ho5 hb5 ha4 HB3
      go_wp2_with (first
        | ((with_reducible refine bl_load ?_ 31 (.tmp 6) ?_ eb 0 (ecs r).toArray ?_ ?_ Tryz.underlying31 ?_ ?_ ?_); rfl; rfl; rfl; exact HR.out.all; rfl; exact infoEn _; simp only [Act.put, List.setIfInBounds_toArray, List.set_cons_zero, List.set_cons_succ])
        | ((with_reducible refine wpList_build1E ?_ (.tmp 26) ?_ r ?_ ?_); rfl; rfl; rfl; simp only [Act.put, List.setIfInBounds_toArray, List.set_cons_zero, List.set_cons_succ])
        | (at_builtin; refine wpList_append_run rfl _ _ 37 37 rfl (.slice xa rs.length xc) (.slice (some ⟨W4.heap.size, 0, none⟩) 1 1) _ w5 rfl rfl hr5' ?_))
      go_wp2_with fail
      go_roundw
      case rel => exact ⟨k + 1, rs ++ [r], by omega, by go_num, by simp [HRL.out], HN5.out, Lib.hid HA5.out, HB5⟩
      case measure => simp [intOf]; omega
    · have hkn : k = nms.length := by omega
      have hi1 : ¬ (k : Int) < (nms.length : Int) := by omega
      have HF := Lib.hid (show OwnEs w.heap.size (.slice xa rs.length xc) rs wr ∧ AllR l (rs.map (·.e)) from ⟨HOW.out.mono HB1.out.size, nms, HS.out, by rw [List.length_map]; have := HRL.out; omega, fun j nm e hn he => by
        rw [List.getElem?_map] at he
        cases hq : rs[j]? with
        | none => rw [hq] at he; simp at he
        | some q =>
          rw [hq] at he
          simp at he
          subst he
          exact HA.out j nm q hn hq⟩)
      clear HOW HA hlt hkn
      go_wp2_with fail
      go_ret
      first
        | exact ⟨⟨_, rs, rfl, HF.out.1, HF.out.2⟩, HBW.out⟩
        | exact ⟨⟨_, rfl, rs, HF.out.1, HF.out.2⟩, HBW.out⟩
end Go.Proofs.YtchnklekeinhiaaGreat

namespace Go.Proofs.YtchnklekeinhiaaGreat
set_option linter.unusedSimpArgs false
set_option linter.unusedVariables false
set_option maxRecDepth 100000
open Go.RowKit Go.Sort

set_option maxHeartbeats 1000000 in
/-- fact.Sort, with the room that its answer has -/
theorem sortFCm (l : List Ft) (a : Option Addr) (cap : Nat) (w : World) (h : FIn w a l) (hl : l.length ≤ 65536) :
    Calls Tryz.prog 35 #[.slice a l.length cap] w fun e w' => ∃ a' cap', e = .returned (.slice a' (sortF l).length cap') ∧ FIn w' a' (sortF l) ∧ (sortF l).length ≤ cap' ∧ cap' ≤ maxLen ∧ Below w.heap.size w w' := by
  have H := Lib.hid h
  clear h
  go_enter Tryz.func35, Tryz.ntmps35
  go_wp2_with fail
  refine (cloneF l a cap w H.out hl).mono ?_
  rintro e w1 ⟨v1, rfl, hown1, hb1⟩
  have hs1 := hb1.size
  have HCAP := Lib.hid (show ∀ p n c, v1 = .slice p n c → c ≤ maxLen from fun p n c e => by
    obtain ⟨a2, c2, e2, -, -, h3⟩ := hown1.fin2
    rw [e2] at e
    injection e with e3 e4 e5
    rw [← e5]; exact h3)
  have HO1 := Lib.hid hown1
  have HB1 := Lib.hid hb1
  clear hown1 hb1
  go_wp2_with fail
  refine (sortCallF l v1 w.heap.size w1 hl HO1.out hs1).mono ?_
  rintro e w2 ⟨rfl, h⟩
  rcases h with ⟨rfl, rfl, rfl⟩ | ⟨s, g, sc, rfl, hsc, hBg, hsl, hperm, hsort, hfh, hb2⟩
  · have hnil : Calls Tryz.prog 71 #[.slice none 0 0] w2 fun e w' => e = .returned (.slice none 0 0) ∧ w2 = w' := by
      clear HO1 HB1 H HCAP
      go_enter Tryz.func71, Tryz.ntmps71
      go_wp2_with fail
      go_ret
      exact ⟨rfl, rfl⟩
    clear HO1 H HCAP
    go_wp2_with fail
    refine hnil.mono ?_
    rintro e w3 ⟨rfl, rfl⟩
    go_wp2_with fail
    go_ret
    exact ⟨none, 0, rfl, .inl rfl, Nat.le_refl _, Nat.zero_le _, HB1.out⟩
  · have hc := compactFC s g sc w.heap.size w2 hfh (by omega) hsc hsort hBg
    have HP := Lib.hid hperm
    have HB2 := Lib.hid (HB1.out.trans hb2)
    have HC := Lib.hid hc
    have HSC := Lib.hid (And.intro hsc (HCAP.out _ _ _ rfl))
    clear hc hperm hfh hb2 HB1 HO1 H hsort hsl HCAP hsc
    go_wp2_with fail
    refine HC.out.mono ?_
    rintro e w3 ⟨out, rfl, hk, hin, hb3⟩
    have hol := hk.len
    obtain rfl : out = sortF l := hk.all (Nat.le_refl _) (fun z => HP.out.mem_iff)
    have HF := Lib.hid (And.intro hin (And.intro (Nat.le_trans hol HSC.out.1) (And.intro HSC.out.2 (HB2.out.trans hb3))))
    clear hk hin hb3 hol
    go_wp2_with fail
    go_ret
    exact ⟨_, sc, rfl, HF.out.1, HF.out.2.1, HF.out.2.2.1, HF.out.2.2.2⟩

theorem AllS.all {l : List Ft} {es : List Ent} {p : Nat} (h : AllS (sortF l) p es) (hp : (sortF l).length ≤ p) : AllR l es := by
  obtain ⟨-, names, hn, hl, he⟩ := h
  rw [List.take_of_length_le hp] at hn
  have hm : ∀ f, f ∈ sortF l ↔ f ∈ l := fun f => mem_sortF
  refine ⟨names, hn.of fun x => ?_, hl, fun j nm e h1 h2 => (he j nm e h1 h2).set (ofR_set hm nm)⟩
  rw [mem_namesS, mem_namesS]
  constructor
  · rintro ⟨f, h1, h2⟩; exact ⟨f, (hm f).1 h1, h2⟩
  · rintro ⟨f, h1, h2⟩; exact ⟨f, (hm f).2 h1, h2⟩
theorem group_of {s : List Ft} {p k : Nat} {f : Ft} (hf : s[p]? = some f) (hk : k ≤ (s.drop p).length) (h1 : ∀ x ∈ (s.drop p).take k, x.n = f.n) (h2 : ∀ y, (s.drop p)[k]? = some y → y.n ≠ f.n) : Group s p k f.n := by
  have hlt := (List.getElem?_eq_some_iff.1 hf).1
  rw [List.length_drop] at hk
  refine ⟨h1, ?_, by omega, fun y hy => h2 y (by rw [List.getElem?_drop]; exact hy)⟩
  rcases Nat.eq_zero_or_pos k with h0 | h0
  · subst h0
    exact absurd rfl (h2 f (by rw [List.getElem?_drop]; exact hf))
  · exact h0
/-- a slice's length -/
def lenV : Value → Nat
  | .slice _ n _ => n
  | _ => 0

set_option maxHeartbeats 16000000 in
theorem viewAllN (l : List Ft) (a : Option Addr) (cap : Nat) (w : World) (hf : FIn w a l) (hl : l.length ≤ 40) (hv : ∀ f ∈ l, f.v.size ≤ 5000) :
    Calls Tryz.prog 9 #[.slice a l.length cap] w fun v w' => (∃ v' rs, v = .returned v' ∧ OwnEs w.heap.size v' rs w' ∧ AllR l (rs.map (·.e))) ∧ Go.RowKit.Below w.heap.size w w' := by
  have HS := Lib.hid (sortFCm l a cap w hf (by omega))
  have hsl := sortF_len l
  have HRI := Lib.hid (riseF_sortF l)
  have HVV := Lib.hid (show ∀ f ∈ sortF l, f.v.size ≤ 5000 from fun f h => hv f (mem_sortF.1 h))
  have HAA := Lib.hid (fun es p (h : AllS (sortF l) p es) hp => AllS.all h hp)
  have hsl40 : (sortF l).length ≤ 40 := by omega
  clear hf hv
  generalize sortF l = s at *
  generalize l.length = lc at *
  go_enter Tryz.func9, Tryz.ntmps9
  go_wp2_with fail
  refine HS.out.mono ?_
  rintro e w1 ⟨sa, sc, rfl, hin, hsc, hsm, hb1⟩
  have HIN := Lib.hid hin
  have HB1 := Lib.hid hb1
  have HSM := Lib.hid hsm
  clear hin hb1 HS hsm
  go_wp2_with fail
  go_loopw [3, 4] (fun v t wr => ∃ (p n : Nat) (rs : List ER) (ra : Option Addr) (rc : Nat), t = .slice ra n rc ∧ p + n = s.length ∧ n ≤ rc ∧ rc ≤ maxLen ∧ rs.length ≤ p ∧ Hid (FIn w1 ra (s.drop p)) ∧ OwnEs w1.heap.size v rs wr ∧ Hid (AllS s p (rs.map (·.e))) ∧ Hid (Go.RowKit.Below w1.heap.size w1 wr)) (fun _ t _ => lenV t)
  case atStart => exact ⟨0, s.length, [], sa, sc, rfl, by simp, hsc, HSM.out, Nat.le_refl _, Lib.hid (by rw [List.drop_zero]; exact HIN.out), ownEs_nil _ _, Lib.hid (AllS.start s), Lib.hid (Below.refl _ _)⟩
  case round =>
    obtain ⟨p, n, rs, ra, rc, rfl, hpn, hnc, hrm, hrp, HR1, hown, HA, HBr⟩ := hrel
    have HR := Lib.hid (HR1.out.below HBr.out)
    have HOW := Lib.hid hown
    obtain ⟨xa, xc, rfl, -, -, -⟩ := hown.esin
    have HRM := Lib.hid hrm
    have HBW := Lib.hid (HB1.out.trans (HBr.out.mono HB1.out.size))
    clear hown hrm
    by_cases hlt : 0 < n
    · have hi1 : (0 : Int) < (n : Int) := by omega
      have hi2 : decide ((0 : Int) < (n : Int)) = true := by simp; omega
      obtain ⟨f, hfp⟩ : ∃ f, s[p]? = some f := ⟨_, List.getElem?_eq_getElem (by omega)⟩
      have hd0 : (s.drop p)[0]? = some f := by rw [List.getElem?_drop]; exact hfp
      obtain ⟨b, off, rfl, hbl, c0⟩ := HR.out.at hd0
      have c6 : wr.cell? ⟨b, off + 6, none⟩ = some (.string f.n) := by have := c0 6 _ rfl; rwa [show off + 0 * 8 + 6 = off + 6 by omega] at this
      have HDL := Lib.hid (show (s.drop p).length = n by rw [List.length_drop]; omega)
      have HGR := Lib.hid (fun k => group_of (k := k) hfp)
      have hon := ofNameC (s.drop p) (some ⟨b, off, none⟩) rc f.n wr HR.out (by rw [HDL.out]; omega)
      rw [HDL.out] at hon
      have HON := Lib.hid hon
      clear c0 hon hfp hd0
      generalize f.n = nm at *
      go_wp2_with fail
      refine HON.out.mono ?_
      rintro e w2 ⟨k, rfl, hk, ha, hn, hb2⟩
      have HG := Lib.hid (HGR.out k (by rw [HDL.out]; exact hk) ha hn)
      have hkp := HG.out.pos
      have HB2 := Lib.hid (HBr.out.trans (hb2.mono HBr.out.size))
      have HR2 := Lib.hid (HR.out.below hb2)
      have HO2 := Lib.hid (HOW.out.below hb2 (Nat.le_refl _))
      clear ha hn hb2 HON HGR HR HOW
      obtain ⟨pt, ht1, ht2⟩ := takeF (some ⟨b, off, none⟩) n rc k hk hnc HRM.out
      obtain ⟨pd, hd1, hd2⟩ := dropF (some ⟨b, off, none⟩) n rc k hk hnc HRM.out
      have HT2 := Lib.hid ht2
      have HD2 := Lib.hid hd2
      have HEN := Lib.hid (viewEntryN ((s.drop p).take k) k (by rw [List.length_take, HDL.out]; omega) pt rc nm w2 (ht2 w2 _ HDL.out HR2.out) (by omega) (fun f h => HVV.out f (List.mem_of_mem_drop (List.mem_of_mem_take h))))
      have HEE := Lib.hid (show ofR 1 nm ((s.drop p).take k) ≠ [] → entE ((s.drop p).take k) nm = 0 from fun h0 => if_neg h0)
      have HEZ := Lib.hid (show ofR 1 nm ((s.drop p).take k) = [] → entE ((s.drop p).take k) nm = 7 from fun h0 => if_pos h0)
      have HMO := Lib.hid (fun e h0 hE => HA.out.more (e := e) HG.out HRI.out h0 hE)
      have HSK := Lib.hid (fun h0 => HA.out.skip HG.out HRI.out h0)
      have HLO := Lib.hid (fun g (hg : (Value.slice xa rs.length xc).ownBlock = some g) => (HO2.out.own.lt g hg).2)
      clear ht2 hd2 HA HG
      generalize (s.drop p).take k = G at *
      generalize entE G nm = en at *
      go_wp2_with fail
      refine HEN.out.mono ?_
      rintro v w3 ⟨⟨r, rfl, hmem, hent⟩, hb3⟩
      have hz := lowA w3 (.cells (ecs zER).toArray 31)
      have hz2 := belowRow' hz (Nat.le_refl _) (ecs r).toArray
      have HZ := Lib.hid (Blk.new w3 31 (ecs zER).toArray)
      have HR := Lib.hid (HZ.out.put (ecs r).toArray)
      have HB3 := Lib.hid (HB2.out.trans ((hb3.trans (hz2.mono hb3.size)).mono HB2.out.size))
      have HMEM := Lib.hid (hmem.below hz2)
      have HO3 := Lib.hid (HO2.out.below (hb3.trans (hz2.mono hb3.size)) (Nat.le_refl _))
      have HEA := Lib.hid hent
      have HBB := Lib.hid HB2.out.size
      clear hmem hent hb3 hz hz2 HO2 HR2 HEN
      go_upto_region 7 with ((with_reducible refine bl_store ?_ 31 (.tmp 7) (.tmp 27) ?_ w3.heap.size (ecs r).toArray ?_ ?_ ?_ ?_ ?_ ?_); rfl; rfl; rfl; rfl; exact ⟨_, HZ.out, rfl⟩; exact infoEn _; exact en_one _; simp only [Act.put, List.setIfInBounds_toArray, List.set_cons_zero, List.set_cons_succ])
      change Code.wp _ _ _ _ ((w3.alloc (.cells (ecs zER).toArray 31)).setRow w3.heap.size (ecs r).toArray)
      clear HZ
      generalize (w3.alloc (.cells (ecs zER).toArray 31)).setRow w3.heap.size (ecs r).toArray = W4 at *
      generalize w3.heap.size = eb at *
      by_cases h0 : ofR 1 nm G = []
      · have he7 := HEZ.out h0
        subst he7
        have HS5 := Lib.hid (HSK.out h0)
        have HF5 := Lib.hid (show FIn w1 pd (s.drop (p + k)) by rw [← List.drop_drop]; exact HD2.out w1 _ HDL.out HR1.out)
        clear HSK HMO HEE HEZ h0
        go_wp2_with fail
        go_roundw
        case rel => exact ⟨p + k, n - k, rs, pd, rc - k, rfl, by omega, by omega, by have := HRM.out; omega, by omega, HF5, HO3.out, HS5, HB3⟩
        case measure => simp only [lenV]; omega
      · have he0 := HEE.out h0
        subst he0
        have ha4 := lowA W4 (.cells (ecs r).toArray 31)
        obtain ⟨qa, qc, w5, hr5, ho5, hb5⟩ := OwnEs.push (c := 1) (HO3.out.below ha4 (Nat.le_refl _)) (HMEM.out.below ha4) HLO.out HBB.out (gin_new (E := encE) W4 r) (by have h2 := HB3.out.size; rw [World.size_alloc]; omega) (rs.length + 1) rfl (by omega)
        have hr5' : (Builtin.append_ #[37, 37] 37 #[.slice xa rs.length xc, .slice (some ⟨W4.heap.size, 0, none⟩) 1 1]).run Tryz.prog (W4.alloc (.cells (ecs r).toArray 31)) = .ok (.slice qa (rs.length + 1) qc) w5 := hr5
        have HN5 := Lib.hid ho5
        have HB5 := Lib.hid ((HB3.out.trans (ha4.mono HB3.out.size)).trans hb5)
        have HS5 := Lib.hid (show AllS s (p + k) ((rs ++ [r]).map (·.e)) by rw [List.map_append]; exact HMO.out r.e h0 HEA.out)
        have HF5 := Lib.hid (show FIn w1 pd (s.drop (p + k)) by rw [← List.drop_drop]; exact HD2.out w1 _ HDL.out HR1.out)
        clear hr5 ho5 hb5 ha4 HB3 HSK HMO HEE HEZ h0
        go_wp2_with (first
          | ((with_reducible refine bl_load ?_ 31 (.tmp 7) ?_ eb 0 (ecs r).toArray ?_ ?_ Tryz.underlying31 ?_ ?_ ?_); rfl; rfl; rfl; exact HR.out.all; rfl; exact infoEn _; simp only [Act.put, List.setIfInBounds_toArray, List.set_cons_zero, List.set_cons_succ])
          | ((with_reducible refine wpList_build1E ?_ (.tmp 32) ?_ r ?_ ?_); rfl; rfl; rfl; simp only [Act.put, List.setIfInBounds_toArray, List.set_cons_zero, List.set_cons_succ])
          | (at_builtin; refine wpList_append_run rfl _ _ 37 37 rfl (.slice xa rs.length xc) (.slice (some ⟨W4.heap.size, 0, none⟩) 1 1) _ w5 rfl rfl hr5' ?_))
        go_wp2_with fail
        go_roundw
        case rel => exact ⟨p + k, n - k, rs ++ [r], pd, rc - k, rfl, by omega, by omega, by have := HRM.out; omega, by simp; omega, HF5, HN5.out, HS5, HB5⟩
        case measure => simp only [lenV]; omega
    · have hi1 : ¬ (0 : Int) < (n : Int) := by omega
      have hi2 : decide ((0 : Int) < (n : Int)) = false := by simp; omega
      have HF := Lib.hid (And.intro (HOW.out.mono HB1.out.size) (HAA.out _ p HA.out (by omega)))
      clear HOW HA
      go_wp2_with fail
      go_ret
      first
        | exact ⟨⟨_, rs, rfl, HF.out.1, HF.out.2⟩, HBW.out⟩
        | exact ⟨⟨_, rfl, rs, HF.out.1, HF.out.2⟩, HBW.out⟩
theorem viewAllC (l : List Ft) (a : Option Addr) (cap : Nat) (w : World) (hf : FIn w a l) (hl : l.length ≤ 40) (hv : ∀ f ∈ l, f.v.size ≤ 5000) :
    Calls Tryz.prog 9 #[.slice a l.length cap] w fun v w' => (∃ b c rs, v = .returned (.slice b (List.length rs) c) ∧ EsIn w' b rs ∧ AllR l (rs.map (fun r : ER => r.e))) ∧ Go.RowKit.Below w.heap.size w w' := by
  refine (viewAllN l a cap w hf hl hv).mono ?_
  rintro v w' ⟨⟨v', rs, rfl, hown, ha⟩, hb⟩
  obtain ⟨b, c, rfl, hin, -, -⟩ := hown.esin
  exact ⟨⟨b, c, rs, rfl, hin, ha⟩, hb⟩
theorem viewEntryC (l : List Ft) (a : Option Addr) (cap : Nat) (n : ByteArray) (w : World) (hf : FIn w a l) (hl : l.length ≤ 40) (hv : ∀ f ∈ l, f.v.size ≤ 5000) :
    Calls Tryz.prog 7 #[.slice a l.length cap, .string n] w fun v w' => (∃ r, v = .returned (.tuple #[.agg (ecs r).toArray, .int .i64 (entE l n)]) ∧ EnMem w' 0 r ∧ EntA l n r.e) ∧ Go.RowKit.Below w.heap.size w w' :=
  (viewEntryN l l.length rfl a cap n w hf hl hv).mono fun _ _ ⟨⟨r, h1, h2, h3⟩, hb⟩ => ⟨⟨r, h1, h2.mono (Nat.zero_le _), h3⟩, hb⟩
end Go.Proofs.YtchnklekeinhiaaGreat
