/-
  view, the document's: Names, More, IDs.
  view, the program's: Names, IDs.
  view, the program's: IDs.
-/
import Derived.Test.YtchnklekeinhiaaGreatGV25
import Derived.Test.YtchnklekeinhiaaGreatGV26
import Derived.Test.YtchnklekeinhiaaGreatGV16
import Derived.Test.YtchnklekeinhiaaGreatViewKind
import Derived.Test.YtchnklekeinhiaaGreatGV24
namespace Go.Proofs.YtchnklekeinhiaaGreat
set_option linter.unusedSimpArgs false
set_option linter.unusedVariables false
set_option maxRecDepth 100000
open Go.RowKit Go.Sort

theorem ids_len (s : ByteArray) : (readM s).1.ids.length ≤ 4096 := by
  unfold readM
  split
  · simp
  · split
    · simp
    · rename_i h1 h2
      have h3 : manE (rMan s) = 0 := Classical.byContradiction h2
      unfold manE at h3
      repeat' split at h3
      all_goals first
        | (exfalso; simp at h3; done)
        | (simp only; omega)
theorem take_next {l : List Ft} {k : Nat} {f : Ft} (h : l[k]? = some f) : l.take (k + 1) = l.take k ++ [f] := by
  obtain ⟨h1, h2⟩ := List.getElem?_eq_some_iff.1 h
  rw [List.take_succ_eq_append_getElem h1, h2]
/-- one more, among what is asked for -/
theorem SetX.next {t m out : List ByteArray} {s : ByteArray} (h : SetX (m ++ [s]) out) (hm : SetX t m) : SetX (t ++ [s]) out :=
  h.of fun x => by rw [List.mem_append, List.mem_append, hm.mem]
theorem idsS_len (l : List Ft) : (idsS l).length ≤ l.length * 4096 := by
  induction l with
  | nil => simp [idsS]
  | cons f r ih =>
    have h1 := ids_len f.v
    have e : idsS (f :: r) = (if f.k = 1 then (readM f.v).1.ids else []) ++ idsS r := by
      unfold idsS
      by_cases h : f.k = 1 <;> simp [h]
    rw [e, List.length_append, List.length_cons, Nat.add_mul]
    split
    · omega
    · simp; omega

set_option maxHeartbeats 8000000 in
theorem moreXR (m : List ByteArray) (s : ByteArray) (t : List ByteArray) (B : Nat) (v : Value) (w : World) (hown : OwnS B v m w) (hB : B ≤ w.heap.size) (ht : SetX t m) (hl : t.length ≤ 170000) (hs : s.size ≤ 5000) :
    Calls Tryz.prog 42 #[v, .string s] w fun e w' => (∃ v' out, e = .returned v' ∧ OwnS B v' out w' ∧ SetX (t ++ (readM s).1.ids) out) ∧ Go.RowKit.Below w.heap.size w w' := by
  have HR := Lib.hid (fun W => readMR s (by omega) (rMan_short hs) W)
  have HOWN := Lib.hid hown
  have HSX := Lib.hid ht
  have HBB := Lib.hid hB
  have HIL := Lib.hid (ids_len s)
  obtain ⟨oa0, oc0, rfl, -, -, -⟩ := hown.fin2
  clear hown ht hB hs
  have HEZ := Lib.hid (show (readM s).2 ≠ 0 → (readM s).1.ids = [] from by
    unfold readM
    intro h
    split at h
    · rename_i h1; rw [if_pos h1]
    · rename_i h1
      rw [if_neg h1]
      split at h
      · rename_i h2; rw [if_pos h2]
      · exact absurd rfl h)
  generalize readM s = M at *
  obtain ⟨⟨z, c, ids⟩, x⟩ := M
  unfold mv at HR
  simp only at HR HEZ HIL
  simp only
  go_enter Tryz.func42, Tryz.ntmps42
  go_wp2_with fail
  refine (HR.out w).mono ?_
  rintro e w1 ⟨v1, rfl, hown, hb⟩
  obtain ⟨la, lc, rfl, hrow, hlc, hlm⟩ := hown.fin2
  have HB1 := Lib.hid (hb.trans (lowA w1 (.cells #[.int .i64 z, .int .i64 c, .slice la ids.length lc] 27) |>.mono hb.size))
  have HBX := Lib.hid (Blk.new w1 27 #[.int .i64 z, .int .i64 c, .slice la ids.length lc])
  have HRW := Lib.hid (hrow.below (lowA w1 (.cells #[.int .i64 z, .int .i64 c, .slice la ids.length lc] 27)))
  have HO1 := Lib.hid (OwnS.below HOWN.out HB1.out (Nat.le_refl _))
  clear hown hrow hb hlc hlm HR HOWN
  go_upto_region 2 with fail
  change Code.wp _ _ _ _ (w1.alloc (.cells #[.int .i64 z, .int .i64 c, .slice la ids.length lc] 27))
  generalize w1.alloc (.cells #[.int .i64 z, .int .i64 c, .slice la ids.length lc] 27) = W at *
  generalize w1.heap.size = g at *
  go_wp2_with fail
  go_loopw [0, 7] (fun v i wr => ∃ (k : Nat) (q : List ByteArray), k ≤ ids.length ∧ i = .int .i64 k ∧ OwnS B v q wr ∧ Hid (SetX (t ++ ids.take k) q) ∧ Hid (Go.RowKit.Below W.heap.size W wr)) (fun _ i _ => ids.length - (intOf i).toNat)
  case atStart => exact ⟨0, m, Nat.zero_le _, rfl, HO1.out, Lib.hid (by simpa using HSX.out), Lib.hid (Below.refl _ _)⟩
  case round =>
    obtain ⟨k, q, hk, rfl, hown, HS, HBr⟩ := hrel
    have HOW := Lib.hid hown
    obtain ⟨oa, oc, rfl, -, -, -⟩ := hown.fin2
    have HXr := Lib.hid (HBX.out.keep HBr.out)
    have hil : ids.length ≤ 4096 := HIL.out
    have c2 : wr.cell? ⟨g, 2, none⟩ = some (.slice la ids.length lc) := HXr.out.cell rfl
    clear hown
    by_cases hlt : k < ids.length
    · have hi1 : (k : Int) < (ids.length : Int) := by omega
      have hx0 : x = 0 := Classical.byContradiction fun hx => by
        have := HEZ.out hx
        rw [this] at hlt; simp at hlt
      have hx1 : (x == 0) = true := by simp [hx0]
      obtain ⟨tb, off, rfl, hbl, q0⟩ : ∃ b off, la = some ⟨b, off, none⟩ ∧ b < wr.heap.size ∧ wr.cell? ⟨b, off + k, none⟩ = some (.string (ids.getD k ByteArray.empty)) := by
        rcases HRW.out.below HBr.out with h | ⟨b, off, h1, h2, h3⟩
        · rw [h] at hlt; simp at hlt
        · exact ⟨b, off, h1, h2, h3 k hlt⟩
      have HNX := Lib.hid (show ids.take (k + 1) = ids.take k ++ [ids.getD k ByteArray.empty] by rw [List.take_succ_eq_append_getElem hlt, List.getD_eq_getElem?_getD, List.getElem?_eq_getElem hlt]; rfl)
      generalize ids.getD k ByteArray.empty = y at *
      have hql : q.length ≤ 190000 := by
        have h1 := HS.out.len
        rw [List.length_append, List.length_take] at h1
        have h2 := HIL.out
        omega
      have HP := Lib.hid (putXR q y B (.slice oa q.length oc) wr HOW.out (Nat.le_trans HBB.out (by have h1 := HB1.out.size; have h2 := HBr.out.size; omega)) HS.out.rise hql)
      clear hx0
      go_wp2_with fail
      refine HP.out.mono ?_
      rintro e w2 ⟨⟨v2, out, rfl, ho2, hs2⟩, hb2⟩
      have HN := Lib.hid (And.intro ho2 (show SetX (t ++ ids.take (k + 1)) out by rw [HNX.out, ← List.append_assoc]; exact hs2.next HS.out))
      have HB2 := Lib.hid (HBr.out.trans (hb2.mono HBr.out.size))
      clear ho2 hs2 hb2 HP
      go_wp2_with fail
      go_roundw
      case rel => exact ⟨k + 1, out, by omega, by go_num, HN.out.1, Lib.hid HN.out.2, HB2⟩
      case measure => simp [intOf]; omega
    · obtain rfl : k = ids.length := by omega
      have hi1 : ¬ (ids.length : Int) < (ids.length : Int) := by omega
      have HF := Lib.hid (And.intro HOW.out (show SetX (t ++ ids) q by have h := HS.out; rwa [List.take_length] at h))
      have HBF := Lib.hid (HB1.out.trans (HBr.out.mono HB1.out.size))
      clear HS hlt hk
      go_wp2_with fail
      go_ret
      first
        | exact ⟨⟨_, q, rfl, HF.out.1, HF.out.2⟩, HBF.out⟩
        | exact ⟨⟨_, rfl, q, HF.out.1, HF.out.2⟩, HBF.out⟩


set_option maxHeartbeats 8000000 in
theorem namesR (l : List Ft) (a : Option Addr) (cap : Nat) (w : World) (hf : FIn w a l) (hl : l.length ≤ 40) :
    Calls Tryz.prog 14 #[.slice a l.length cap] w fun e w' => (∃ v' out, e = .returned v' ∧ OwnS w.heap.size v' out w' ∧ SetX (namesS l) out) ∧ Go.RowKit.Below w.heap.size w w' := by
  have H := Lib.hid hf
  clear hf
  go_enter Tryz.func14, Tryz.ntmps14
  go_wp2_with fail
  go_loopw [3, 4] (fun v i wr => ∃ (k : Nat) (m : List ByteArray), k ≤ l.length ∧ i = .int .i64 k ∧ OwnS w.heap.size v m wr ∧ Hid (SetX (namesS (l.take k)) m) ∧ Hid (Go.RowKit.Below w.heap.size w wr)) (fun _ i _ => l.length - (intOf i).toNat)
  case atStart => exact ⟨0, [], Nat.zero_le _, rfl, ownS_nil _ _, Lib.hid (by rw [List.take_zero]; exact SetX.nil), Lib.hid (Below.refl _ _)⟩
  case round =>
    obtain ⟨k, m, hk, rfl, hown, HS, HB⟩ := hrel
    have HOW := Lib.hid hown
    obtain ⟨oa, oc, rfl, -, -, -⟩ := hown.fin2
    clear hown
    by_cases hlt : k < l.length
    · obtain ⟨f, hfk⟩ : ∃ f, l[k]? = some f := ⟨_, List.getElem?_eq_getElem hlt⟩
      obtain ⟨fb, off, rfl, hbl, r0⟩ := (H.out.below HB.out).at hfk
      have hi1 : (k : Int) < (l.length : Int) := by omega
      have HNX := Lib.hid (take_next hfk)
      have q5 : wr.cell? ⟨fb, off + k * 8 + 5, none⟩ = some (.int .i64 f.k) := r0 5 _ rfl
      have qs : wr.cell? ⟨fb, off + k * 8 + 6, none⟩ = some (.string f.n) := r0 6 _ rfl
      have hml : (namesS (l.take k)).length ≤ 40 := by
        have h1 := namesS_len (l.take k)
        rw [List.length_take] at h1
        omega
      have HML := Lib.hid hml

      clear r0 hfk hml
      by_cases h1 : f.k = 1
      · have g1 : (f.k == 1) = true := by simp [h1]
        have HP := Lib.hid (putXR m f.n w.heap.size (.slice oa m.length oc) wr HOW.out HB.out.size HS.out.rise (by have h1 := HS.out.len; have h2 := HML.out; omega))
        have HSN := Lib.hid (namesS_snoc (l.take k) f)
        rw [if_pos h1, ← HNX.out] at HSN
        clear h1
        go_wp2_with fail
        refine HP.out.mono ?_
        rintro e w2 ⟨⟨v2, out, rfl, ho2, hs2⟩, hb2⟩
        have HN := Lib.hid (And.intro ho2 (show SetX (namesS (l.take (k + 1))) out by rw [HSN.out]; exact hs2.next HS.out))
        have HB2 := Lib.hid (HB.out.trans (hb2.mono HB.out.size))
        clear ho2 hs2 hb2 HP
        go_wp2_with fail
        go_roundw
        case rel => exact ⟨k + 1, out, by omega, by go_num, HN.out.1, Lib.hid HN.out.2, HB2⟩
        case measure => simp [intOf]; omega
      · have g1 : (f.k == 1) = false := by simp [h1]
        have HSN := Lib.hid (namesS_snoc (l.take k) f)
        rw [if_neg h1, ← HNX.out, List.append_nil] at HSN
        have HN := Lib.hid (show SetX (namesS (l.take (k + 1))) m by rw [HSN.out]; exact HS.out)
        clear h1
        go_wp2_with fail
        go_roundw
        case rel => exact ⟨k + 1, m, by omega, by go_num, HOW.out, Lib.hid HN.out, HB⟩
        case measure => simp [intOf]; omega
    · obtain rfl : k = l.length := by omega
      have hi1 : ¬ (l.length : Int) < (l.length : Int) := by omega
      have HF := Lib.hid (And.intro HOW.out (show SetX (namesS l) m by have h := HS.out; rwa [List.take_length] at h))
      clear HS hlt hk
      go_wp2_with fail
      go_ret
      first
        | exact ⟨⟨_, m, rfl, HF.out.1, HF.out.2⟩, HB.out⟩
        | exact ⟨⟨_, rfl, m, HF.out.1, HF.out.2⟩, HB.out⟩


set_option maxHeartbeats 8000000 in
theorem idsR (l : List Ft) (a : Option Addr) (cap : Nat) (w : World) (hf : FIn w a l) (hl : l.length ≤ 40) (hv : ∀ f ∈ l, f.v.size ≤ 5000) :
    Calls Tryz.prog 16 #[.slice a l.length cap] w fun e w' => (∃ v' out, e = .returned v' ∧ OwnS w.heap.size v' out w' ∧ SetX (idsS l) out) ∧ Go.RowKit.Below w.heap.size w w' := by
  have H := Lib.hid hf
  clear hf
  go_enter Tryz.func16, Tryz.ntmps16
  go_wp2_with fail
  go_loopw [3, 4] (fun v i wr => ∃ (k : Nat) (m : List ByteArray), k ≤ l.length ∧ i = .int .i64 k ∧ OwnS w.heap.size v m wr ∧ Hid (SetX (idsS (l.take k)) m) ∧ Hid (Go.RowKit.Below w.heap.size w wr)) (fun _ i _ => l.length - (intOf i).toNat)
  case atStart => exact ⟨0, [], Nat.zero_le _, rfl, ownS_nil _ _, Lib.hid (by rw [List.take_zero]; exact SetX.nil), Lib.hid (Below.refl _ _)⟩
  case round =>
    obtain ⟨k, m, hk, rfl, hown, HS, HB⟩ := hrel
    have HOW := Lib.hid hown
    obtain ⟨oa, oc, rfl, -, -, -⟩ := hown.fin2
    clear hown
    by_cases hlt : k < l.length
    · obtain ⟨f, hfk⟩ : ∃ f, l[k]? = some f := ⟨_, List.getElem?_eq_getElem hlt⟩
      obtain ⟨fb, off, rfl, hbl, r0⟩ := (H.out.below HB.out).at hfk
      have hi1 : (k : Int) < (l.length : Int) := by omega
      have HNX := Lib.hid (take_next hfk)
      have q5 : wr.cell? ⟨fb, off + k * 8 + 5, none⟩ = some (.int .i64 f.k) := r0 5 _ rfl
      have qs : wr.cell? ⟨fb, off + k * 8 + 7, none⟩ = some (.string f.v) := r0 7 _ rfl
      have hml : (idsS (l.take k)).length ≤ 40 * 4096 := by
        have h1 := idsS_len (l.take k)
        rw [List.length_take] at h1
        omega
      have HML := Lib.hid hml
      have HV := Lib.hid (hv f (List.mem_of_getElem? hfk))
      clear r0 hfk hml
      by_cases h1 : f.k = 1
      · have g1 : (f.k == 1) = true := by simp [h1]
        have HP := Lib.hid (moreXR m f.v (idsS (l.take k)) w.heap.size (.slice oa m.length oc) wr HOW.out HB.out.size HS.out (by have h2 := HML.out; omega) HV.out)
        have HSN := Lib.hid (idsS_snoc (l.take k) f)
        rw [if_pos h1, ← HNX.out] at HSN
        clear h1
        go_wp2_with fail
        refine HP.out.mono ?_
        rintro e w2 ⟨⟨v2, out, rfl, ho2, hs2⟩, hb2⟩
        have HN := Lib.hid (And.intro ho2 (show SetX (idsS (l.take (k + 1))) out by rw [HSN.out]; exact hs2))
        have HB2 := Lib.hid (HB.out.trans (hb2.mono HB.out.size))
        clear ho2 hs2 hb2 HP
        go_wp2_with fail
        go_roundw
        case rel => exact ⟨k + 1, out, by omega, by go_num, HN.out.1, Lib.hid HN.out.2, HB2⟩
        case measure => simp [intOf]; omega
      · have g1 : (f.k == 1) = false := by simp [h1]
        have HSN := Lib.hid (idsS_snoc (l.take k) f)
        rw [if_neg h1, ← HNX.out, List.append_nil] at HSN
        have HN := Lib.hid (show SetX (idsS (l.take (k + 1))) m by rw [HSN.out]; exact HS.out)
        clear h1
        go_wp2_with fail
        go_roundw
        case rel => exact ⟨k + 1, m, by omega, by go_num, HOW.out, Lib.hid HN.out, HB⟩
        case measure => simp [intOf]; omega
    · obtain rfl : k = l.length := by omega
      have hi1 : ¬ (l.length : Int) < (l.length : Int) := by omega
      have HF := Lib.hid (And.intro HOW.out (show SetX (idsS l) m by have h := HS.out; rwa [List.take_length] at h))
      clear HS hlt hk
      go_wp2_with fail
      go_ret
      first
        | exact ⟨⟨_, m, rfl, HF.out.1, HF.out.2⟩, HB.out⟩
        | exact ⟨⟨_, rfl, m, HF.out.1, HF.out.2⟩, HB.out⟩

end Go.Proofs.YtchnklekeinhiaaGreat

namespace Go.Proofs.YtchnklekeinhiaaGreat
set_option linter.unusedSimpArgs false
set_option linter.unusedVariables false
set_option maxRecDepth 100000
open Go.RowKit Go.Sort

theorem index_k5 (W : World) (vs : Nat → Value) : Sem.run Tryz.prog (Instr.index 57 (.agg (k5 vs)) (.int .i64 1)) W = .ok (vs 1) W := by
  first
    | rfl
    | kernel_rfl

set_option maxHeartbeats 4000000 in
theorem viewNamesC (l : List Ft) (a : Option Addr) (cap : Nat) (w : World) (hf : FIn w a l) (hl : l.length ≤ 40) :
    Calls Tryz.prog 13 #[.slice a l.length cap] w fun e w' => (∃ b c out, e = .returned (.slice b (List.length out) c) ∧ StrRow w' b out ∧ SetX (namesS l) out) ∧ Go.RowKit.Below w.heap.size w w' := by
  have HK := Lib.hid (byKindC l a cap w hf (by omega))
  clear hf
  go_enter Tryz.func13, Tryz.ntmps13
  go_wp2_with fail
  refine HK.out.mono ?_
  rintro e w1 ⟨vs, rfl, hrows, hb1⟩
  obtain ⟨ka, kc, hv1, hkf⟩ := hrows.at 1 (by decide) (by decide)
  have hix := fun W => index_k5 W vs
  simp only [hv1] at hix
  have hkl : (kindR 1 l).length ≤ 40 := Nat.le_trans (kindR_len 1 l) hl
  have HNK := Lib.hid (namesS_kind l)
  have HIN := Lib.hid hkf.fin
  have HB1 := Lib.hid hb1
  clear hrows hv1 hkf hb1 HK
  simp only [Int.cast_ofNat_Int] at *
  generalize kindR 1 l = m at *
  go_wp2_with fail
  go_loopw [3, 10] (fun v i wr => ∃ (j : Nat) (xs : List ByteArray), i = .int .i64 (j : Int) ∧ j ≤ m.length ∧ OwnS w1.heap.size v xs wr ∧ Hid (xs = (m.take j).map (·.n)) ∧ Hid (Go.RowKit.Below w1.heap.size w1 wr)) (fun _ i _ => m.length - (intOf i).toNat)
  case atStart => exact ⟨0, [], rfl, Nat.zero_le _, ownS_nil _ _, Lib.hid (by rw [List.take_zero]; rfl), Lib.hid (Below.refl _ _)⟩
  case round =>
    obtain ⟨j, xs, rfl, hj, hown, HX, HB⟩ := hrel
    have HOWN := Lib.hid hown
    obtain ⟨va, vc, rfl, -, hoc, hocm⟩ := hown.fin2
    have hxl : xs.length ≤ m.length := by rw [HX.out, List.length_map, List.length_take]; omega
    clear hown
    by_cases hlt : j < m.length
    · obtain ⟨f, hf⟩ : ∃ d, m[j]? = some d := ⟨_, List.getElem?_eq_getElem hlt⟩
      obtain ⟨b, off, rfl, hbl, c0⟩ := (HIN.out.below HB.out).at hf
      have hi1 : (j : Int) < (m.length : Int) := by omega
      have HNX := Lib.hid (show xs ++ [f.n] = (m.take (j + 1)).map (·.n) from by
        obtain ⟨e1, e2⟩ := List.getElem?_eq_some_iff.1 hf
        rw [HX.out, List.take_succ_eq_append_getElem hlt, e2, List.map_append]; rfl)
      have CL := Lib.hid c0
      have CL1 := Lib.hid (range_below c0 ((Below.refl _ wr).alloc (Nat.le_refl _) (.cells zcs 48)) hbl)
      have HB1r := Lib.hid (HB.out.trans ((boxZ_below wr f).mono HB.out.size))
      have HR1 := Lib.hid (boxZ_row wr f)
      have HO1 := Lib.hid (OwnS.below HOWN.out (boxZ_below wr f) (Nat.le_refl _))
      clear hf c0 hbl HOWN
      go_upto_region 5 with (first
        | ((with_reducible refine fl_load ?_ (.tmp 12) ?_ b (off + j * 8) f ?_ ?_ ?_); rfl; rfl; rfl; (first | exact CL.out | exact CL1.out); simp only [Act.put, List.setIfInBounds_toArray, List.set_cons_zero, List.set_cons_succ])
        | ((with_reducible refine fl_store ?_ (.tmp 5) (.tmp 13) ?_ wr.heap.size f ?_ ?_ ?_ ?_); rfl; rfl; rfl; rfl; exact boxZ_old wr))
      change Code.wp _ _ _ _ (boxZ wr f)
      generalize boxZ wr f = W at *
      have c6 := HR1.out.range 6 (.string f.n) rfl
      rw [Nat.zero_add] at c6
      obtain ⟨q2, d2, w3, hr2, ho2, hb3⟩ := appX (c := 1) (OwnS.below HO1.out ((Below.refl _ W).alloc (Nat.le_refl _) (.cells #[.string f.n] 9)) (Nat.le_refl _)) (strRow_one W f.n) (by simp; have := HB1r.out.size; omega) (xs.length + 1) (by simp) (by omega)
      have hr2' : (Builtin.append_ #[25, 25] 25 #[.slice va xs.length vc, .slice (some ⟨W.heap.size, 0, none⟩) 1 1]).run Tryz.prog (W.alloc (.cells #[.string f.n] 9)) = .ok (.slice q2 (xs.length + 1) d2) w3 := hr2
      have HO3 := Lib.hid ho2
      have HB3 := Lib.hid ((HB1r.out.alloc HB1r.out.size _).trans hb3)
      clear ho2 hb3 hr2
      go_wp2_with (at_builtin; refine wpList_append_run rfl _ _ 25 25 rfl (.slice va xs.length vc) (.slice (some ⟨W.heap.size, 0, none⟩) 1 1) _ w3 rfl rfl hr2' ?_)
      go_wp2_with fail
      go_roundw
      case rel => exact ⟨j + 1, xs ++ [f.n], by go_num, by omega, HO3.out, HNX, HB3⟩
      case measure => simp [intOf]; omega
    · obtain rfl : j = m.length := by omega
      have HOE := Lib.hid (show xs = namesS l from by have := HX.out; rw [List.take_length] at this; rw [this, HNK.out])
      have HE := Lib.hid (eachOnceC xs (.slice va xs.length vc) w1.heap.size wr HOWN.out (by omega))
      have hi1 : ¬ (m.length : Int) < (m.length : Int) := by omega
      clear HOWN HX
      go_wp2_with fail
      refine HE.out.mono ?_
      rintro e w4 ⟨b, c, out, rfl, hrow, hset, hb4⟩
      have HF := Lib.hid (And.intro hrow (And.intro (show SetX (namesS l) out by rw [← HOE.out]; exact hset) ((HB1.out.trans (HB.out.mono HB1.out.size)).trans (hb4.mono HB1.out.size))))
      clear hrow hset hb4 HE HOE
      go_wp2_with fail
      go_ret
      exact ⟨⟨b, c, out, rfl, HF.out.1, HF.out.2.1⟩, HF.out.2.2⟩
end Go.Proofs.YtchnklekeinhiaaGreat

namespace Go.Proofs.YtchnklekeinhiaaGreat
set_option linter.unusedSimpArgs false
set_option linter.unusedVariables false
set_option maxRecDepth 100000
open Go.RowKit Go.Sort

def idsOf (el : List ByteArray) : List ByteArray := el.flatMap (fun s => (readM s).1.ids)
theorem idsOf_snoc (el : List ByteArray) (s : ByteArray) : idsOf (el ++ [s]) = idsOf el ++ (readM s).1.ids := by simp [idsOf]
theorem idsOf_len (el : List ByteArray) : (idsOf el).length ≤ el.length * 4096 := by
  induction el with
  | nil => simp [idsOf]
  | cons s r ih =>
    have e : idsOf (s :: r) = (readM s).1.ids ++ idsOf r := rfl
    have := ids_len s
    rw [e, List.length_append, List.length_cons, Nat.add_mul]
    omega
theorem SetX.idsOf {l : List Ft} {el out : List ByteArray} (he : ElemsR (kindR 1 l) el) (h : SetX (idsOf el) out) : SetX (idsS l) out :=
  h.of fun x => by
    rw [mem_idsS]
    unfold Go.Proofs.YtchnklekeinhiaaGreat.idsOf
    rw [List.mem_flatMap]
    constructor
    · rintro ⟨s, hs, hx⟩
      obtain ⟨f, hf, rfl⟩ := (he.mem s).1 hs
      obtain ⟨h1, h2⟩ := mem_kindR.1 hf
      exact ⟨f, h1, h2, hx⟩
    · rintro ⟨f, h1, h2, hx⟩
      exact ⟨f.v, (he.mem _).2 ⟨f, mem_kindR.2 ⟨h1, h2⟩, rfl⟩, hx⟩

theorem field_ids (z c : Int) (v : Value) (W : World) : Sem.run Tryz.prog (Instr.field 27 (.agg #[.int .i64 z, .int .i64 c, v]) 2) W = .ok v W := by
  first
    | rfl
    | kernel_rfl
set_option maxHeartbeats 4000000 in
theorem viewIDsC (l : List Ft) (a : Option Addr) (cap : Nat) (w : World) (hf : FIn w a l) (hl : l.length ≤ 40) (hv : ∀ f ∈ l, f.v.size ≤ 5000) :
    Calls Tryz.prog 15 #[.slice a l.length cap] w fun e w' => (∃ b c out, e = .returned (.slice b (List.length out) c) ∧ StrRow w' b out ∧ SetX (idsS l) out) ∧ Go.RowKit.Below w.heap.size w w' := by
  have HK := Lib.hid (byKindC l a cap w hf (by omega))
  clear hf
  go_enter Tryz.func15, Tryz.ntmps15
  go_wp2_with fail
  refine HK.out.mono ?_
  rintro e w1 ⟨vs, rfl, hrows, hb1⟩
  obtain ⟨ka, kc, hv1, hkf⟩ := hrows.at 1 (by decide) (by decide)
  have hix := fun W => index_k5 W vs
  simp only [hv1] at hix
  have HEL := Lib.hid (elemsC (kindR 1 l) ka kc w1 hkf.fin (by have := kindR_len 1 l; omega))
  have HB1 := Lib.hid hb1
  have HVV := Lib.hid (show ∀ f ∈ kindR 1 l, f.v.size ≤ 5000 from fun f hf => hv f (mem_kindR.1 hf).1)
  have HSET := Lib.hid (fun (el out : List ByteArray) (he : ElemsR (kindR 1 l) el) (h : SetX (idsOf el) out) => SetX.idsOf he h)
  have hkl : (kindR 1 l).length ≤ 40 := Nat.le_trans (kindR_len 1 l) hl
  clear hrows hv1 hkf hb1 HK hv
  simp only [Int.cast_ofNat_Int] at *
  generalize kindR 1 l = m at *
  go_wp2_with fail
  refine HEL.out.mono ?_
  rintro e w2 ⟨g, el, rfl, hrow, hel, hll, hb2⟩
  have hell : el.length ≤ 40 := by omega
  have HEV := Lib.hid (show ∀ s ∈ el, s.size ≤ 5000 from fun s hs => by
    obtain ⟨f, hf, rfl⟩ := (hel.mem s).1 hs
    exact HVV.out f hf)
  have HKE := Lib.hid hel
  have HRW := Lib.hid hrow
  have HB2 := Lib.hid (HB1.out.trans (hb2.mono HB1.out.size))
  clear hrow hel hll hb2 HEL HVV HB1
  generalize m.length = mc at *
  go_wp2_with fail
  go_loopw [3, 11] (fun v i wr => ∃ (j : Nat) (xs : List ByteArray), i = .int .i64 (j : Int) ∧ j ≤ el.length ∧ OwnS w2.heap.size v xs wr ∧ Hid (xs = idsOf (el.take j)) ∧ Hid (Go.RowKit.Below w2.heap.size w2 wr)) (fun _ i _ => el.length - (intOf i).toNat)
  case atStart => exact ⟨0, [], rfl, Nat.zero_le _, ownS_nil _ _, Lib.hid (by rw [List.take_zero]; rfl), Lib.hid (Below.refl _ _)⟩
  case round =>
    obtain ⟨j, xs, rfl, hj, hown, HX, HB⟩ := hrel
    have HOWN := Lib.hid hown
    obtain ⟨va, vc, rfl, -, hoc, hocm⟩ := hown.fin2
    have hxl : xs.length ≤ j * 4096 := by
      have := idsOf_len (el.take j)
      rw [HX.out]
      rwa [List.length_take, Nat.min_eq_left hj] at this
    clear hown
    by_cases hlt : j < el.length
    · have hi1 : (j : Int) < (el.length : Int) := by omega
      obtain ⟨tb, off, he, hbl, q0⟩ : ∃ b off, some (⟨g, 0, none⟩ : Addr) = some ⟨b, off, none⟩ ∧ b < wr.heap.size ∧ wr.cell? ⟨b, off + j, none⟩ = some (.string (el.getD j ByteArray.empty)) := by
        rcases HRW.out.below HB.out with h | ⟨b, off, h1, h2, h3⟩
        · rw [h] at hlt; simp at hlt
        · exact ⟨b, off, h1, h2, h3 j hlt⟩
      injection he with he
      injection he with he1 he2
      subst he1 he2
      rw [Nat.zero_add] at q0
      have hgd : el.getD j ByteArray.empty = el[j] := by rw [List.getD_eq_getElem?_getD, List.getElem?_eq_getElem hlt]; rfl
      have hys : (el.getD j ByteArray.empty).size ≤ 5000 := by rw [hgd]; exact HEV.out _ (List.getElem_mem hlt)
      have HNX := Lib.hid (show xs ++ (readM (el.getD j ByteArray.empty)).1.ids = idsOf (el.take (j + 1)) by rw [HX.out, List.take_succ_eq_append_getElem hlt, hgd, idsOf_snoc])
      generalize el.getD j ByteArray.empty = y at *
      have HM := Lib.hid (manifestC y hys wr)
      have hyl := ids_len y
      clear hgd hys
      generalize readM y = M at *
      obtain ⟨⟨z, c, ids⟩, x⟩ := M
      unfold mv at HM
      simp only at HM HNX hyl
      go_wp2_with fail
      refine HM.out.mono ?_
      rintro e w3 ⟨ia, ic, rfl, hrw, -, -, hb3⟩
      obtain ⟨q2, d2, w4, hr2, ho2, hb4⟩ := appX (c := ic) (OwnS.below HOWN.out hb3 (Nat.le_refl _)) hrw.row (by have h1 := HB.out.size; have h2 := hb3.size; omega) (xs.length + ids.length) rfl (by omega)
      have HO3 := Lib.hid ho2
      have HB3 := Lib.hid ((HB.out.trans (hb3.mono HB.out.size)).trans hb4)
      clear ho2 hb3 hb4 hrw HM
      have hfd := field_ids z c (.slice ia ids.length ic) w3
      go_wp2_with (at_builtin; refine wpList_append_run rfl _ _ 25 25 rfl (.slice va xs.length vc) (.slice ia ids.length ic) _ w4 rfl rfl hr2 ?_)
      go_wp2_with fail
      go_roundw
      case rel => exact ⟨j + 1, xs ++ ids, by go_num, by omega, HO3.out, HNX, HB3⟩
      case measure => simp [intOf]; omega
    · obtain rfl : j = el.length := by omega
      have HE := Lib.hid (eachOnceC xs (.slice va xs.length vc) w2.heap.size wr HOWN.out (by omega))
      have HXE := Lib.hid (show xs = idsOf el by have := HX.out; rwa [List.take_length] at this)
      have hi1 : ¬ (el.length : Int) < (el.length : Int) := by omega
      clear HOWN HX
      go_wp2_with fail
      refine HE.out.mono ?_
      rintro e w4 ⟨b, c, out, rfl, hrow, hset, hb4⟩
      have HF := Lib.hid (And.intro hrow (And.intro (show SetX (idsS l) out from HSET.out el out HKE.out (by rw [← HXE.out]; exact hset)) ((HB2.out.trans (HB.out.mono HB2.out.size)).trans (hb4.mono HB2.out.size))))
      clear hrow hset hb4 HE HXE
      go_wp2_with fail
      go_ret
      exact ⟨⟨b, c, out, rfl, HF.out.1, HF.out.2.1⟩, HF.out.2.2⟩
end Go.Proofs.YtchnklekeinhiaaGreat
