/-
  float.Read and the document's Read: what each call answers.
  float.Sort: what the call answers.
  view, the program's: keeps.
-/
import Derived.Test.YtchnklekeinhiaaGreatGV17
import Derived.Test.YtchnklekeinhiaaGreatGV13
import Derived.Test.YtchnklekeinhiaaGreatGV14
import Derived.Test.YtchnklekeinhiaaGreatGV22
import Derived.Test.YtchnklekeinhiaaGreatGV23
namespace Go.Proofs.YtchnklekeinhiaaGreat
set_option maxRecDepth 100000
open Go.RowKit

attribute [local go_sem] fbits ffrom ffromN fneq feql

theorem index_str (s : ByteArray) (j : Nat) (h : j < s.size) (W : World) : (Instr.index 9 (.string s) (.int .i64 (j : Int))).run Tryz.prog W = .ok (.int .u8 (s[j].toNat : Nat)) W := by
  have h1 := run_index_string (P := Tryz.prog) (w := W) 9 s .i64 (j : Int) Tryz.underlying9
  rw [dif_pos ⟨by omega, by omega⟩] at h1
  exact h1
theorem nr_take (s : ByteArray) (k : Nat) (h : k < s.size) : nrL (s.data.toList.take (k + 1)) = nrL (s.data.toList.take k) * 256 + s[k].toNat := by
  rw [List.take_succ_eq_append_getElem (by simpa using h), nrL_snoc]; rfl
theorem nr_low (s : ByteArray) (k : Nat) (h : k < 8) (h2 : s.size = 8) : nrL (s.data.toList.take k) < 72057594037927936 := by
  have h1 := nrL_lt k (s.data.toList.take k) (by rw [List.length_take]; simp; omega)
  have h3 : 256 ^ k ≤ 256 ^ 7 := Nat.pow_le_pow_right (by omega) (by omega)
  have h4 : 256 ^ 7 = 72057594037927936 := by decide
  omega
theorem or_byte (n c : Nat) (h : n < 72057594037927936) (hc : c < 256) : bits .or .u64 ((n : Int) * 256) (c : Int) = ((n * 256 + c : Nat) : Int) := by
  have h1 := u64_or_nat (n * 256) c (by omega) (by omega)
  have h2 : n * 256 ||| c = n * 256 + c := by
    have e := Nat.two_pow_add_eq_or_of_lt (i := 8) (b := c) (by omega) n
    rw [show 2 ^ 8 * n = n * 256 by rw [Nat.mul_comm]] at e
    omega
  rw [h2] at h1
  have e : ((n * 256 : Nat) : Int) = (n : Int) * 256 := by omega
  rwa [e] at h1

set_option maxHeartbeats 1000000 in
set_option maxRecDepth 100000 in
theorem flReadC (s : ByteArray) (w : World) (hs : s.size ≤ maxLen) :
    Calls Tryz.prog 55 #[.string s] w fun e w' => e = .returned (.tuple #[.float .f64 (rdB s.data.toList), .int .i64 (rdN s.data.toList)]) ∧ w = w' := by
  unfold maxLen at hs
  have hsl : s.data.toList.length = s.size := by simp
  by_cases h1 : s.size < 8
  · obtain ⟨e1, e2⟩ := rd_short (l := s.data.toList) (by omega)
    rw [e1, e2]
    clear e1 e2 hsl
    go_enter Tryz.func55, Tryz.ntmps55
    go_wp2
    go_ret2
    exact ⟨rfl, rfl⟩
  · by_cases h2 : 8 < s.size
    · obtain ⟨e1, e2⟩ := rd_long (l := s.data.toList) (by omega)
      rw [e1, e2]
      clear e1 e2 hsl
      go_enter Tryz.func55, Tryz.ntmps55
      go_wp2
      go_ret2
      exact ⟨rfl, rfl⟩
    · have h8 : s.size = 8 := by omega
      have hl8 : s.data.toList.length = 8 := by omega
      clear h1 h2 hs hsl
      go_enter Tryz.func55, Tryz.ntmps55
      go_wp2
      go_loop [4, 13] (fun r i => ∃ k : Nat, k ≤ 8 ∧ i = .int .i64 k ∧ r = .int .u64 (nrL (s.data.toList.take k) : Nat)) (fun _ i => 8 - (intOf i).toNat)
      case atStart => exact ⟨0, by omega, rfl, by rw [List.take_zero, nrL_nil]; rfl⟩
      case round =>
        obtain ⟨k, hk, rfl, rfl⟩ := hrel
        by_cases hlt : k < 8
        · have hst := nr_take s k (by omega)
          have hix := fun W => index_str s k (by omega) W
          have hlow := nr_low s k hlt h8
          generalize nrL (s.data.toList.take k) = r at hst hlow ⊢
          have hc := s[k].toNat_lt
          generalize s[k].toNat = c at hst hix hc
          have HS := Lib.hid hst
          have hor := or_byte r c hlow hc
          have hwr : IntKind.u64.wrap ((r : Int) * 256) = (r : Int) * 256 := by simp [IntKind.wrap, IntKind.bits, IntKind.signed]; omega
          have hmd : ((r : Int) * 256) % 18446744073709551616 = (r : Int) * 256 := by omega
          have HL := Lib.hid hlow
          clear hst hlow
          generalize r * 256 + c = r' at hor HS
          go_wp2
          exact ⟨⟨k + 1, by omega, by go_num, by rw [HS.out]⟩, by simp [intOf]; omega⟩
        · obtain rfl : k = 8 := by omega
          rw [List.take_of_length_le (by omega)]
          have hlt := nrL8_lt hl8
          by_cases hn : isNb (nrL s.data.toList) = true
          · by_cases hm : nrL s.data.toList = 9221120237041090561
            · obtain ⟨e1, e2⟩ := rd_good hl8 (by rw [hm]; exact cln_of isNb_nan)
              rw [hm] at hn e1 ⊢
              have E1 := Lib.hid e1
              have E2 := Lib.hid e2
              clear e1 e2 hm hlt
              go_wp2
              go_ret2
              exact ⟨by rw [E1.out, E2.out]; rfl, rfl⟩
            · obtain ⟨e1, e2⟩ := rd_bad hl8 (by rw [cln_of hn]; omega)
              have E1 := Lib.hid e1
              have E2 := Lib.hid e2
              have hne : ((nrL s.data.toList : Int) != 9221120237041090561) = true := by simp; omega
              clear e1 e2 hlt hm
              generalize nrL s.data.toList = z at hne hn ⊢
              go_wp2
              go_ret2
              exact ⟨by rw [E1.out, E2.out]; rfl, rfl⟩
          · have hn' : isNb (nrL s.data.toList) = false := by simpa using hn
            obtain ⟨e1, e2⟩ := rd_good hl8 (cln_no hn')
            generalize nrL s.data.toList = z at hn' e1 ⊢
            have E1 := Lib.hid e1
            have E2 := Lib.hid e2
            clear e1 e2 hlt hn
            go_wp2
            go_ret2
            exact ⟨by rw [E1.out, E2.out]; rfl, rfl⟩
end Go.Proofs.YtchnklekeinhiaaGreat

namespace Go.Proofs.YtchnklekeinhiaaGreat
set_option maxRecDepth 100000
open Go.RowKit

attribute [local go_sem] run_store_flt

set_option maxHeartbeats 1000000 in
set_option maxRecDepth 100000 in
theorem flSortCN (l : List Nat) (v : Value) (w : World) (hin : FlIn w v l) (hl : ∀ x ∈ l, x < 18446744073709551616) (hlen : l.length ≤ 1000) :
    Calls Tryz.prog 56 #[v] w fun e w' => ∃ v' r, e = .returned v' ∧ IsSort l r ∧ FlFrom w' w.heap.size v' r ∧ Below w.heap.size w w' := by
  obtain ⟨p, cap, hv, hcell⟩ : ∃ p cap, v = .slice p l.length cap ∧ ∀ j (h : j < l.length), ∃ g, p = some ⟨g, 0, none⟩ ∧ g < w.heap.size ∧ w.cell? ⟨g, j, none⟩ = some (.float .f64 l[j]) := by
    rcases hin with ⟨rfl, rfl⟩ | ⟨g, cap, rfl, hg, hc⟩
    · exact ⟨none, 0, rfl, fun j hj => by simp at hj⟩
    · exact ⟨_, cap, rfl, fun j hj => ⟨g, rfl, hg, hc j hj⟩⟩
  subst hv
  clear hin
  have hmk := make_floats l.length (by omega) w
  have hown0 := ownFl_made w l.length (by omega)
  rw [← cRow_zero] at hown0
  have HO := Lib.hid hown0
  clear hown0
  have HC := Lib.hid hcell
  have HL := Lib.hid hl
  clear hcell hl
  obtain ⟨n, hn⟩ : ∃ n, n = l.length := ⟨_, rfl⟩
  rw [← hn] at hmk HO hlen ⊢
  have HN := Lib.hid hn
  clear hn
  go_enter Tryz.func56, Tryz.ntmps56
  go_wp2
  go_loopw [4, 5, 11] (fun _ _ i wr => ∃ k : Nat, k ≤ n ∧ i = .int .i64 (k : Int) ∧ OwnFl w.heap.size (.slice (some ⟨w.heap.size, 0, none⟩) n n) (cRow l k) wr ∧ Below w.heap.size w wr) (fun _ _ i _ => n - (intOf i).toNat)
  case atStart => exact ⟨0, by omega, rfl, HO.out, (Below.refl _ _).alloc (Nat.le_refl _) _⟩
  case round =>
    clear HO hmk
    obtain ⟨k, hk, rfl, hown, hb⟩ := hrel
    by_cases hlt : k < n
    · have hkl : k < l.length := by rw [← HN.out]; exact hlt
      obtain ⟨g, hp, hg, hc⟩ := HC.out k hkl
      subst hp
      rw [← hb.cell (p := ⟨g, k, none⟩) hg] at hc
      have hset := cRow_set l k hkl
      have hrow : wr.ownsRow w.heap.size 55 1 (.slice (some ⟨w.heap.size, 0, none⟩) n n) n (flcs (cRow l k)) := by
        have h := hown; unfold OwnFl at h; rw [cRow_len, ← HN.out] at h; exact h
      have hfz : wr.frozen? ⟨w.heap.size, k, none⟩ = false := World.ownsRow.frozenAt hrow k
      have hcell := World.ownsRow.cellAt hrow k (by omega)
      have hst := (World.ownsRow.stored hrow k (.float .f64 (cln l[k]))).1
      rw [flcs_set, hset] at hst
      have hcl : ∃ u : Nat, (flcs (cRow l k))[k]? = some (.float .f64 u) := by
        have hll : k < (flcs (cRow l k)).length := by rw [flcs_len, cRow_len]; exact hkl
        exact ⟨_, by rw [List.getElem?_eq_getElem hll]; simp [flcs]; rfl⟩
      obtain ⟨u, hu⟩ := hcl
      rw [hu] at hcell
      have hcc := fun W => flCleanC l[k] W
      generalize cln l[k] = z at hst hcc
      generalize l[k] = y at hc hcc
      have hbs := hb.size
      have HST := Lib.hid hst
      have HB := Lib.hid hb
      have HCC := Lib.hid hcc
      clear hst hb hu hrow hset hown hcc
      go_wp2_with fail
      refine (HCC.out _).mono ?_
      rintro e w1 ⟨rfl, rfl⟩
      go_wp2
      exact ⟨⟨k + 1, by omega, by go_num, by unfold OwnFl; rw [cRow_len, ← HN.out]; exact HST.out, HB.out.setCell (Nat.le_refl _) _⟩, by simp [intOf]; omega⟩
    · obtain rfl : k = n := by omega
      have hcon := flSortCall l HL.out w.heap.size k w.heap.size (Nat.le_refl _) wr (by rw [← HN.out]; omega) (by have h := hown; rw [HN.out, cRow_all] at h; rw [HN.out]; exact h)
      rw [← HN.out] at hcon
      have HCON := Lib.hid hcon
      have HB := Lib.hid hb
      clear hcon hb hown
      go_wp2_with fail
      refine (HCON.out).mono ?_
      rintro e w1 ⟨rfl, r, h1, h2, h3⟩
      have H1 := Lib.hid h1
      have H2 := Lib.hid h2
      have H3 := Lib.hid (HB.out.trans h3)
      clear h1 h2 h3
      go_wp2
      go_ret
      exact ⟨_, r, rfl, H1.out, H2.out.from (Nat.le_refl _), H3.out⟩
end Go.Proofs.YtchnklekeinhiaaGreat

namespace Go.Proofs.YtchnklekeinhiaaGreat
set_option linter.unusedSimpArgs false
set_option linter.unusedVariables false
set_option maxRecDepth 100000
open Go.RowKit Go.Sort

theorem elems_few {l : List Ft} {el : List ByteArray} (h : ElemsR l el) : ∀ {n : Nat}, (∀ f ∈ l, f.v.size ≤ n) → ∀ s ∈ el, s.size ≤ n := fun hv s hs => by
  obtain ⟨f, hf, rfl⟩ := (h.mem s).1 hs
  exact hv f hf
set_option maxHeartbeats 4000000 in
theorem keepsC (l : List Ft) (n : Nat) (hn : l.length = n) (a : Option Addr) (cap : Nat) (w : World) (hf : FIn w a l) (hl : n ≤ 40) (hv : ∀ f ∈ l, f.v.size ≤ 5000) :
    Calls Tryz.prog 26 #[.slice a n cap] w fun e w' => ∃ ka kc kp, e = .returned (.slice ka (List.length kp) kc) ∧ (∃ el, ElemsR l el ∧ IsSort (numsV el) kp) ∧ FlFrom w' w.heap.size (.slice ka kp.length kc) kp ∧ Go.RowKit.Below w.heap.size w w' := by
  subst hn
  have HEL := Lib.hid (elemsC l a cap w hf (by omega))
  have HVV := Lib.hid hv
  clear hf hv
  go_enter Tryz.func26, Tryz.ntmps26
  go_wp2_with fail
  refine HEL.out.mono ?_
  rintro e w2 ⟨g, el, rfl, hrow, hel, hll, hb2⟩
  have hell : el.length ≤ 40 := by omega
  have HEV := Lib.hid (elems_few hel HVV.out)
  have HKE := Lib.hid hel
  have HRW := Lib.hid hrow
  have HB2 := Lib.hid hb2
  clear hrow hel hll hb2 HEL HVV
  generalize l.length = mc at *
  go_wp2_with fail
  go_loopw [3, 11] (fun v i wr => ∃ k : Nat, k ≤ el.length ∧ i = .int .i64 k ∧ OwnG encFl w2.heap.size v (numsV (el.take k)) wr ∧ Hid (Go.RowKit.Below w2.heap.size w2 wr)) (fun _ i _ => el.length - (intOf i).toNat)
  case atStart => exact ⟨0, Nat.zero_le _, rfl, by rw [List.take_zero]; exact ownG_nil _ _, Lib.hid (Below.refl _ _)⟩
  case round =>
    obtain ⟨k, hk, rfl, hown, HBr⟩ := hrel
    have HOW := Lib.hid hown
    obtain ⟨xa, xc, rfl, -, -, -⟩ := hown.gin
    have hnl : (numsV (el.take k)).length ≤ 40 := by have h1 := numsV_len (el.take k); rw [List.length_take] at h1; omega
    clear hown
    by_cases hlt : k < el.length
    · have hi1 : (k : Int) < (el.length : Int) := by omega
      obtain ⟨tb, off, he, hbl, q0⟩ : ∃ b off, some (⟨g, 0, none⟩ : Addr) = some ⟨b, off, none⟩ ∧ b < wr.heap.size ∧ wr.cell? ⟨b, off + k, none⟩ = some (.string (el.getD k ByteArray.empty)) := by
        rcases HRW.out.below HBr.out with h | ⟨b, off, h1, h2, h3⟩
        · rw [h] at hlt; simp at hlt
        · exact ⟨b, off, h1, h2, h3 k hlt⟩
      injection he with he
      injection he with he1 he2
      subst he1 he2
      rw [Nat.zero_add] at q0
      have hgd : el.getD k ByteArray.empty = el[k] := by rw [List.getD_eq_getElem?_getD, List.getElem?_eq_getElem hlt]; rfl
      have hys : (el.getD k ByteArray.empty).size ≤ 5000 := by rw [hgd]; exact HEV.out _ (List.getElem_mem hlt)
      have HNX := Lib.hid (show numsV (el.take (k + 1)) = numsV (el.take k) ++ if rdN (el.getD k ByteArray.empty).data.toList = 0 then [rdB (el.getD k ByteArray.empty).data.toList] else [] by rw [List.take_succ_eq_append_getElem hlt, hgd, numsV_snoc])
      have HRD := Lib.hid (flReadC (el.getD k ByteArray.empty) wr (by unfold maxLen; omega))
      generalize el.getD k ByteArray.empty = y at *
      clear hgd hys
      generalize rdN y.data.toList = en at *
      generalize rdB y.data.toList = xb at *
      generalize numsV (el.take k) = xs at *
      go_wp2_with fail
      refine HRD.out.mono ?_
      rintro e w3 ⟨rfl, rfl⟩
      by_cases he : en = 0
      · have g1 : (en == 0) = true := by simp [he]
        rw [if_pos he] at HNX
        have hsl := fun X => build1Fl xb X
        obtain ⟨qa, qc, w3, hr3, ho3, hb3, -, -⟩ := appG (E := encFl) (c := 1) (HOW.out.alloc (.cells #[.float .f64 xb] 55)) (gin_new wr xb) (by have := HBr.out.size; simp; omega) (xs.length + 1) (by simp) (by omega)
        have hr3' : (Builtin.append_ #[28, 28] 28 #[.slice xa xs.length xc, .slice (some ⟨wr.heap.size, 0, none⟩) 1 1]).run Tryz.prog (wr.alloc (.cells #[.float .f64 xb] 55)) = .ok (.slice qa (xs.length + 1) qc) w3 := hr3
        have HN := Lib.hid (show OwnG encFl w2.heap.size (.slice qa (xs.length + 1) qc) (numsV (el.take (k + 1))) w3 by rw [HNX.out]; exact ho3)
        have HB3 := Lib.hid ((HBr.out.alloc HBr.out.size _).trans hb3)
        clear hr3 ho3 hb3 he
        go_wp2_with (at_builtin; refine wpList_append_run rfl _ _ 28 28 rfl (.slice xa xs.length xc) (.slice (some ⟨wr.heap.size, 0, none⟩) 1 1) _ w3 rfl rfl hr3' ?_)
        go_wp2_with fail
        go_roundw
        case rel => exact ⟨k + 1, by omega, by go_num, HN.out, HB3⟩
        case measure => simp [intOf]; omega
      · have g1 : (en == 0) = false := by simp [he]
        rw [if_neg he, List.append_nil] at HNX
        have HN := Lib.hid (show OwnG encFl w2.heap.size (.slice xa xs.length xc) (numsV (el.take (k + 1))) wr by rw [HNX.out]; exact HOW.out)
        clear he
        go_wp2_with fail
        go_roundw
        case rel => exact ⟨k + 1, by omega, by go_num, HN.out, HBr⟩
        case measure => simp [intOf]; omega
    · obtain rfl : k = el.length := by omega
      have hi1 : ¬ (el.length : Int) < (el.length : Int) := by omega
      rw [List.take_length] at HOW hnl
      have HSR := Lib.hid (flSortCN (numsV el) (.slice xa (numsV el).length xc) wr HOW.out.fl.fin numsV_lt (by omega))
      have HBz := Lib.hid (HB2.out.trans (HBr.out.mono HB2.out.size))
      clear HOW HRW hlt hk HBr HEV
      rw [List.take_length]
      go_wp2_with fail
      refine HSR.out.mono ?_
      rintro v w20 ⟨v20, kp, rfl, his, hff, hb20⟩
      obtain ⟨ka, kc, rfl⟩ : ∃ ka kc, v20 = .slice ka kp.length kc := by
        rcases hff with ⟨h1, h2⟩ | ⟨g', c', h1, -⟩
        · exact ⟨none, 0, by rw [h1, h2]; rfl⟩
        · exact ⟨_, c', h1⟩
      have HF := Lib.hid (And.intro (show ∃ el, ElemsR l el ∧ IsSort (numsV el) kp from ⟨el, HKE.out, his⟩) (And.intro (hff.mono HBz.out.size) (HBz.out.trans (hb20.mono HBz.out.size))))
      clear his hff hb20 HSR HBz
      go_wp2_with fail
      go_ret
      exact ⟨ka, kc, kp, rfl, HF.out.1, HF.out.2.1, HF.out.2.2⟩
end Go.Proofs.YtchnklekeinhiaaGreat
