/-
  Same, In, Sort, of the document.
  slices.Clone of names.
  Sort, the document's.
-/
import Derived.Test.YtchnklekeinhiaaGreatGV12
import Derived.Lib.QuietBelow
import Derived.BigQuiet
namespace Go.Proofs.YtchnklekeinhiaaGreat
set_option maxRecDepth 100000
open Go.RowKit Go.Sort

theorem DIn.drewN {w : World} {a : Option Addr} {l : List Dt} (h : DIn w a l) (n : Nat) : DIn (w.drewN n) a l := h

set_option maxHeartbeats 4000000 in
set_option maxRecDepth 100000 in
theorem sameR (x y : List Dt) (a b : Option Addr) (ca cb : Nat) (w : World) (hx : DIn w a x) (hy : DIn w b y) (hlx : x.length ≤ maxLen) (_hly : y.length ≤ maxLen) :
    Calls Tryz.prog 39 #[.slice a x.length ca, .slice b y.length cb] w fun e w' => e = .returned (.bool (decide (x = y))) ∧ ∃ n, w' = w.drewN n := by
  unfold maxLen at hlx
  by_cases hl : x.length = y.length
  · have hn : ((x.length : Int) != (y.length : Int)) = false := by simp [hl]
    have HX := Lib.hid hx
    have HY := Lib.hid hy
    have HL := Lib.hid hl
    clear hx hy hl
    go_enter Tryz.func39, Tryz.ntmps39
    go_wp2_with fail
    go_loopw [5] (fun i wr => ∃ k n : Nat, k ≤ x.length ∧ i = .int .i64 k ∧ Hid (∀ j, j < k → x[j]? = y[j]?) ∧ wr = w.drewN n) (fun i _ => x.length - (intOf i).toNat)
    case atStart => exact ⟨0, 0, Nat.zero_le _, rfl, Lib.hid (fun j hj => by omega), rfl⟩
    case round =>
      obtain ⟨k, n, hk, rfl, HK, rfl⟩ := hrel
      by_cases hlt : k < x.length
      · obtain ⟨d, hd⟩ : ∃ d, x[k]? = some d := ⟨_, List.getElem?_eq_getElem hlt⟩
        obtain ⟨f, hf⟩ : ∃ d, y[k]? = some d := ⟨_, List.getElem?_eq_getElem (by have := HL.out; omega)⟩
        obtain ⟨b1, o1, rfl, hb1, c0, c1⟩ := HX.out.at hd
        obtain ⟨b2, o2, rfl, hb2, p0, p1⟩ := HY.out.at hf
        have hi1 : (k : Int) < (x.length : Int) := by omega
        have hi2 : (k : Int) < (y.length : Int) := by have := HL.out; omega
        have HD := Lib.hid (And.intro hd hf)
        obtain ⟨r, q⟩ := d
        obtain ⟨r', q'⟩ := f
        simp only at c0 c1 p0 p1
        clear hd hf
        by_cases he : (r, q) = (r', q')
        · have hnq := fun W => neqD (r, q) (r', q') W
          rw [decide_eq_true he] at hnq
          have HK2 := Lib.hid (show ∀ j, j < k + 1 → x[j]? = y[j]? from fun j hj => by
            rcases Nat.lt_or_ge j k with h1 | h1
            · exact HK.out j h1
            · obtain rfl : j = k := by omega
              rw [HD.out.1, HD.out.2, he])
          clear he
          go_upto_region 6 with fail
          go_quiet (fail)
          go_wp2_with fail
          go_roundw
          case rel => exact ⟨k + 1, _, by omega, by go_num, HK2, rfl⟩
          case measure => simp [intOf]; omega
        · have hnq := fun W => neqD (r, q) (r', q') W
          rw [decide_eq_false he] at hnq
          have hfin : decide (x = y) = false := by
            refine decide_eq_false fun hxy => he ?_
            have h := HD.out.1
            rw [hxy, HD.out.2] at h
            exact (Option.some.inj h).symm
          have HF := Lib.hid hfin
          clear he hfin
          go_upto_region 6 with fail
          go_quiet (fail)
          go_wp2_with fail
          go_ret
          exact ⟨by rw [HF.out]; rfl, _, rfl⟩
      · have hfin : decide (x = y) = true := by
          refine decide_eq_true (List.ext_getElem? fun j => ?_)
          rcases Nat.lt_or_ge j k with h1 | h1
          · exact HK.out j h1
          · rw [List.getElem?_eq_none (by omega), List.getElem?_eq_none (by have := HL.out; omega)]
        have HF := Lib.hid hfin
        have hi1 : ¬ (k : Int) < (x.length : Int) := by omega
        clear hfin
        go_wp2_with fail
        go_ret
        exact ⟨by rw [HF.out]; rfl, _, rfl⟩
  · have hn : ((x.length : Int) != (y.length : Int)) = true := by simp; omega
    have hfin : decide (x = y) = false := decide_eq_false fun h => hl (by rw [h])
    rw [hfin]
    clear hfin hl
    go_enter Tryz.func39, Tryz.ntmps39
    go_wp2_with fail
    go_ret
    exact ⟨rfl, 0, rfl⟩

set_option maxHeartbeats 4000000 in
set_option maxRecDepth 100000 in
theorem inR (l : List Dt) (d : Dt) (a : Option Addr) (cap : Nat) (w : World) (h : DIn w a l) (hl : l.length ≤ maxLen) :
    Calls Tryz.prog 66 #[.slice a l.length cap, .agg #[.int .i64 d.1, .int .i64 d.2]] w fun e w' => e = .returned (.bool (decide (d ∈ l))) ∧ Go.RowKit.Below w.heap.size w w' := by
  unfold maxLen at hl
  have H := Lib.hid h
  have HB0 := Lib.hid (boxD_below w d)
  unfold boxD at HB0
  clear h
  obtain ⟨dr, dq⟩ := d
  simp only at HB0 ⊢
  go_enter Tryz.func66, Tryz.ntmps66
  go_wp2_with fail
  go_loopw [5] (fun i wr => ∃ k n : Nat, k ≤ l.length ∧ i = .int .i64 k ∧ Hid (∀ j, j < k → l[j]? ≠ some (dr, dq)) ∧ wr = (w.alloc (.cells #[.int .i64 dr, .int .i64 dq] 44)).drewN n) (fun i _ => l.length - (intOf i).toNat)
  case atStart => exact ⟨0, 0, Nat.zero_le _, rfl, Lib.hid (fun j hj => by omega), rfl⟩
  case round =>
    obtain ⟨k, n, hk, rfl, HK, rfl⟩ := hrel
    have HB := Lib.hid (belowN HB0.out n)
    by_cases hlt : k < l.length
    · obtain ⟨f, hf⟩ : ∃ d, l[k]? = some d := ⟨_, List.getElem?_eq_getElem hlt⟩
      obtain ⟨b, off, rfl, hbl, c0, c1⟩ := H.out.at hf
      have hi1 : (k : Int) < (l.length : Int) := by omega
      have HF := Lib.hid hf
      have hm : f ∈ l := List.mem_of_getElem? hf
      obtain ⟨r, q⟩ := f
      simp only at c0 c1
      clear hf
      by_cases he : (r, q) = (dr, dq)
      · have hnq := fun W => eqlD (r, q) (dr, dq) W
        rw [decide_eq_true he] at hnq
        have hfin : decide ((dr, dq) ∈ l) = true := decide_eq_true (he ▸ hm)
        have HFN := Lib.hid hfin
        clear he hfin hm
        go_upto_region 4 with fail
        go_quiet (fail)
        go_wp2_with fail
        go_ret
        exact ⟨by rw [HFN.out]; rfl, by first | exact belowN HB.out _ | exact belowN HB0.out _ | exact belowN (belowN HB0.out _) _⟩
      · have hnq := fun W => eqlD (r, q) (dr, dq) W
        rw [decide_eq_false he] at hnq
        have HK2 := Lib.hid (show ∀ j, j < k + 1 → l[j]? ≠ some (dr, dq) from fun j hj hj2 => by
          rcases Nat.lt_or_ge j k with h1 | h1
          · exact HK.out j h1 hj2
          · obtain rfl : j = k := by omega
            rw [HF.out] at hj2
            exact he (Option.some.inj hj2))
        clear he hm
        go_upto_region 4 with fail
        go_quiet (fail)
        go_wp2_with fail
        go_roundw
        case rel => exact ⟨k + 1, _, by omega, by go_num, HK2, by first | rfl | exact World.drewN_drewN _ _ _⟩
        case measure => simp [intOf]; omega
    · have hfin : decide ((dr, dq) ∈ l) = false := by
        refine decide_eq_false fun hm => ?_
        obtain ⟨j, hj, hjd⟩ := List.mem_iff_getElem.1 hm
        exact HK.out j (by omega) (by rw [List.getElem?_eq_getElem hj, hjd])
      have HFN := Lib.hid hfin
      have hi1 : ¬ (k : Int) < (l.length : Int) := by omega
      clear hfin
      go_wp2_with fail
      go_ret
      exact ⟨by rw [HFN.out]; rfl, HB.out⟩
end Go.Proofs.YtchnklekeinhiaaGreat

namespace Go.Proofs.YtchnklekeinhiaaGreat
set_option maxRecDepth 100000
open Go.RowKit Go.Shelf Go.Lib Go.Sort

theorem rowD_get : ∀ (l : List Dt) (j : Nat) (u : Value), (rowD l)[j]? = some u → ∃ i d, l[i]? = some d ∧ ((j = i * 2 ∧ u = .int .i64 d.1) ∨ (j = i * 2 + 1 ∧ u = .int .i64 d.2)) := by
  intro l j u h
  have hl : j < l.length * 2 := by rw [← rowD_len]; exact (List.getElem?_eq_some_iff.1 h).1
  obtain ⟨i, hi⟩ : ∃ i, j = i * 2 ∨ j = i * 2 + 1 := ⟨j / 2, by omega⟩
  have hil : i < l.length := by omega
  obtain ⟨h1, h2⟩ := rowD_at l i l[i] (List.getElem?_eq_getElem hil)
  refine ⟨i, l[i], List.getElem?_eq_getElem hil, ?_⟩
  rcases hi with rfl | rfl
  · rw [h1] at h; exact .inl ⟨rfl, (Option.some.inj h).symm⟩
  · rw [h2] at h; exact .inr ⟨rfl, (Option.some.inj h).symm⟩

theorem DIn.cells {w : World} {a : Option Addr} {l : List Dt} (h : DIn w a l) {x : Addr} (hx : a = some x) : ∀ j u, (rowD l)[j]? = some u → w.cell? (x.add j) = some u := by
  intro j u hj
  rcases h with rfl | ⟨b, off, ha, hlt, hc⟩
  · simp [rowD] at hj
  · obtain rfl := Option.some.inj (hx.symm.trans ha)
    have e1 : ∀ k, (⟨b, off, none⟩ : Addr).add k = ⟨b, off + k, none⟩ := fun k => by cases k <;> simp [Addr.add]
    rw [e1]
    obtain ⟨i, d, hi, h⟩ := rowD_get l j u hj
    obtain ⟨h1, h2⟩ := hc i d hi
    rcases h with ⟨rfl, rfl⟩ | ⟨rfl, rfl⟩
    · exact h1
    · rw [← Nat.add_assoc]; exact h2

end Go.Proofs.YtchnklekeinhiaaGreat

namespace Go.Proofs.YtchnklekeinhiaaGreat
set_option maxRecDepth 100000
open Go.RowKit Go.Sort

theorem OwnD.din2 {B : Nat} {v : Value} {l : List Dt} {w : World} (h : OwnD B v l w) : ∃ a cap, v = .slice a l.length cap ∧ DIn w a l ∧ l.length ≤ cap ∧ cap ≤ maxLen := by
  obtain ⟨a, cap, hv, hd, -⟩ := h.din
  refine ⟨a, cap, hv, hd, ?_⟩
  rcases h.2 with ⟨rfl, h0⟩ | ⟨g, cap', cur, rfl, hB, hg, hn, hm, hs, htk⟩
  · injection hv with h1 h2 h3; subst h3; exact ⟨by omega, by simp [maxLen]⟩
  · injection hv with h1 h2 h3; subst h3; exact ⟨hn, hm⟩
theorem DIn.take {w : World} {a : Option Addr} {l : List Dt} (h : DIn w a l) (k : Nat) : DIn w a (l.take k) := by
  rcases h with rfl | ⟨b, off, rfl, hlt, hc⟩
  · exact .inl (by simp)
  · refine .inr ⟨b, off, rfl, hlt, fun j d hj => hc j d ?_⟩
    by_cases hjk : j < k
    · rwa [List.getElem?_take_of_lt hjk] at hj
    · rw [List.getElem?_take_eq_none (by omega)] at hj; cases hj
theorem DIn.drop {w : World} {b off : Nat} {l : List Dt} (h : DIn w (some ⟨b, off, none⟩) l) (k : Nat) : DIn w (some ⟨b, off + k * 2, none⟩) (l.drop k) := by
  rcases h with rfl | ⟨b', off', he, hlt, hc⟩
  · exact .inl (by simp)
  · injection he with he; injection he with h1 h2; subst h1 h2
    refine .inr ⟨b, off + k * 2, rfl, hlt, fun j d hj => ?_⟩
    rw [List.getElem?_drop] at hj
    have := hc (k + j) d hj
    have e : off + (k + j) * 2 = off + k * 2 + j * 2 := by omega
    rwa [e] at this
theorem din_new (w : World) (d : Dt) : DIn (w.alloc (.cells #[.int .i64 d.1, .int .i64 d.2] 44)) (some ⟨w.heap.size, 0, none⟩) [d] := by
  refine .inr ⟨w.heap.size, 0, rfl, by simp, fun j x hj => ?_⟩
  match j, hj with
  | 0, hj =>
    simp at hj; subst hj
    exact ⟨by rw [Joins.cell_of_block (heap_alloc_new w _)]; rfl, by rw [Joins.cell_of_block (heap_alloc_new w _)]; rfl⟩

theorem appD {w : World} {B c : Nat} {v : Value} {xs ys : List Dt} {p : Option Addr} (h : OwnD B v xs w) (hp : DIn w p ys) (hb : B ≤ w.heap.size) (n : Nat) (hn : xs.length + ys.length = n) (hl : n ≤ 200000) :
    ∃ p' c' w', (Builtin.append_ #[29, 29] 29 #[v, .slice p ys.length c]).run Tryz.prog w = .ok (.slice p' n c') w' ∧ OwnD B (.slice p' n c') (xs ++ ys) w' ∧ Go.RowKit.Below B w w' := by
  obtain ⟨i0, hi, hz0, hz1, hz2⟩ := info_parts dotInfo
  have hsrc : Src Tryz.prog 2 29 (.slice p ys.length c) ys.length (rowD ys) w := by
    cases p with
    | none =>
      have : ys = [] := by
        rcases hp with h | ⟨_, _, h, _⟩
        · exact h
        · cases h
      subst this
      exact Src.ofNil _ Tryz.underlying29 c
    | some x => exact Src.ofSlice _ Tryz.underlying29 x ys.length c _ (rowD_len ys) (hp.cells rfl) (rowD_cell ys)
  obtain ⟨v', w', hr, ho, hg, -, -⟩ := run_append_sf (P := Tryz.prog) w B 29 29 29 44 i0 _ 2 16 Tryz.underlying29 hi hz0 hz1 hz2 rfl v xs.length (rowD xs) h _ ys.length (rowD ys) hsrc (by unfold maxLen; omega) (by omega) hb
  have ho' : OwnD B v' (xs ++ ys) w' := by
    unfold OwnD
    rw [List.length_append, rowD_append]
    exact ho
  obtain ⟨p', c', rfl, -, -⟩ := ho'.din
  rw [List.length_append, hn] at ho' hr
  exact ⟨p', c', w', hr, ho', (Below.refl _ _).grown hg hb (fun j hj => (World.ownsRow.lt h j hj).1)⟩

/-- a part of a row, from its beginning -/
theorem takeS (a : Option Addr) (n cap k : Nat) (hk : k ≤ n) (hn : n ≤ cap) (_hc : cap ≤ maxLen) :
    ∃ p : Option Addr, (∀ W, (Instr.slice 29 (.slice a n cap) none (some (.int .i64 (k : Int))) none).run Tryz.prog W = .ok (.slice p k cap) W) ∧ ∀ W (l : List Dt), l.length = n → DIn W a l → DIn W p (l.take k) := by
  have ht := Tryz.underlying29
  have ht' : Tryz.prog.underlying 29 = some (.slice (Tryz.prog.elem 29)) := by simp [Program.elem, ht]
  have he : Tryz.prog.elem 29 = 44 := by simp [Program.elem, ht]
  refine ⟨a, fun W => ?_, fun W l hl h => h.take k⟩
  rw [run_slice_h W _ _ _ _ ht' .i64 _ (by omega) (by omega), he, Tryz.sizeOf44]
  by_cases h0 : cap = 0
  · simp [Result.andThen, sliced, h0]
  · cases a <;> simp [Result.andThen, sliced, h0, Addr.add]
/-- a part of a row, to its end -/
theorem dropS (a : Option Addr) (n cap k : Nat) (hk : k ≤ n) (hn : n ≤ cap) (_hc : cap ≤ maxLen) :
    ∃ p : Option Addr, (∀ W, (Instr.slice 29 (.slice a n cap) (some (.int .i64 (k : Int))) none none).run Tryz.prog W = .ok (.slice p (n - k) (cap - k)) W) ∧ ∀ W (l : List Dt), l.length = n → DIn W a l → DIn W p (l.drop k) := by
  have ht := Tryz.underlying29
  have ht' : Tryz.prog.underlying 29 = some (.slice (Tryz.prog.elem 29)) := by simp [Program.elem, ht]
  have he : Tryz.prog.elem 29 = 44 := by simp [Program.elem, ht]
  refine ⟨if cap = k then a else a.map (·.add (k * 2)), fun W => ?_, fun W l hl h => ?_⟩
  · rw [run_slice_l W _ _ _ _ ht' .i64 _ (by omega) (by omega), he, Tryz.sizeOf44]
    simp [Result.andThen, sliced]
  · by_cases h0 : cap = k
    · exact .inl (List.drop_of_length_le (by omega))
    · rw [if_neg h0]
      rcases id h with rfl | ⟨b, off, rfl, hlt, hc⟩
      · exact .inl (by simp)
      · have h2 := h.drop k
        have e1 : (⟨b, off, none⟩ : Addr).add (k * 2) = ⟨b, off + k * 2, none⟩ := by simp only [Addr.add]; split <;> simp_all
        rw [Option.map_some, e1]
        exact h2

set_option maxHeartbeats 4000000 in
set_option maxRecDepth 100000 in
theorem dsortR (l : List Dt) (a : Option Addr) (cap : Nat) (w : World) (h : DIn w a l) (hl : l.length ≤ 65536) :
    Calls Tryz.prog 34 #[.slice a l.length cap] w fun e w' => ∃ v', e = .returned v' ∧ OwnD w.heap.size v' (sortD l) w' ∧ Go.RowKit.Below w.heap.size w w' := by
  have H := Lib.hid h
  clear h
  go_enter Tryz.func34, Tryz.ntmps34
  go_wp2_with fail
  go_loopw [3, 4] (fun v i wr => ∃ k : Nat, k ≤ l.length ∧ i = .int .i64 k ∧ OwnD w.heap.size v (sortD (l.take k)) wr ∧ Go.RowKit.Below w.heap.size w wr) (fun _ i _ => l.length - (intOf i).toNat)
  case atStart => exact ⟨0, Nat.zero_le _, rfl, by rw [List.take_zero]; exact ownD_nil _ _, Below.refl _ _⟩
  case round =>
    obtain ⟨i, hi, rfl, hown, hb⟩ := hrel
    have HOWN := Lib.hid hown
    have HB0 := Lib.hid hb
    obtain ⟨oa, oc, rfl, hdin, hoc, hocm⟩ := hown.din2
    have hout : (sortD (l.take i)).length ≤ i := by have := sortD_len (l.take i); rw [List.length_take] at this; omega
    have hrise := rise_sortD (l.take i)
    clear hown hb
    by_cases hlt : i < l.length
    · obtain ⟨d, hd⟩ : ∃ d, l[i]? = some d := ⟨_, List.getElem?_eq_getElem hlt⟩
      obtain ⟨lb, lo, rfl, hlb, cl0, cl1⟩ := (H.out.below HB0.out).at hd
      have hnx : sortD (l.take (i + 1)) = insD d (sortD (l.take i)) := by
        have e := List.getElem?_eq_some_iff.1 hd
        obtain ⟨e1, e2⟩ := e
        rw [List.take_succ_eq_append_getElem hlt, sortD_snoc, e2]
      have HNX := Lib.hid hnx
      have HRI := Lib.hid hrise
      clear hnx hrise
      generalize sortD (l.take i) = out at *
      have hi1 : (i : Int) < (l.length : Int) := by omega
      obtain ⟨r, q⟩ := d
      simp only at cl0 cl1
      have CL := Lib.hid (And.intro cl0 cl1)
      have HDI := Lib.hid hdin
      have hin := inR out (r, q) oa oc wr hdin (by unfold maxLen; omega)
      clear hd hdin
      by_cases hm : (r, q) ∈ out
      · rw [decide_eq_true hm] at hin
        have hsame : insD (r, q) out = out := insD_in HRI.out hm
        have HS := Lib.hid hsame
        have HIN := Lib.hid hin
        clear hm hsame hin
        go_wp2_with fail
        refine HIN.out.mono ?_
        rintro e w1 ⟨rfl, hb1⟩
        have HFIN := Lib.hid (show OwnD w.heap.size (.slice oa out.length oc) (sortD (l.take (i + 1))) w1 ∧ Go.RowKit.Below w.heap.size w w1 from ⟨by rw [HNX.out, HS.out]; exact HOWN.out.below hb1 (Nat.le_refl _), HB0.out.trans (hb1.mono HB0.out.size)⟩)
        clear hb1 HIN
        go_wp2_with fail
        go_roundw
        case rel => exact ⟨i + 1, by omega, by go_num, HFIN.out.1, HFIN.out.2⟩
        case measure => simp [intOf]; omega
      · rw [decide_eq_false hm] at hin
        have HM := Lib.hid hm
        have HIN := Lib.hid hin
        clear hm hin
        go_wp2_with fail
        refine HIN.out.mono ?_
        rintro e w0 ⟨rfl, hb1⟩
        have HW0 := Lib.hid hb1
        clear hb1 HIN
        go_wp2_with fail
        go_loopw [5] (fun j wk => ∃ k : Nat, k ≤ out.length ∧ j = .int .i64 k ∧ Hid (∀ j (hj : j < out.length), j < k → ltD out[j] (r, q) = true) ∧ Go.RowKit.Below wr.heap.size wr wk) (fun j _ => out.length - (intOf j).toNat)
        case atStart => exact ⟨0, Nat.zero_le _, rfl, Lib.hid (fun j _ hj => by omega), HW0.out⟩
        case round =>
          rename World => wk
          obtain ⟨k, hk, rfl, HK, hbk⟩ := hrel
          have HW := Lib.hid (And.intro hbk True.intro)
          have hks := hbk.size
          clear hbk
          by_cases hlt2 : k < out.length
          · obtain ⟨f, hf⟩ : ∃ d, out[k]? = some d := ⟨_, List.getElem?_eq_getElem hlt2⟩
            obtain ⟨b2, o2, rfl, hlb2, p0, p1⟩ := (HDI.out.below HW.out.1).at hf
            have k0 : wk.cell? ⟨lb, lo + i * 2, none⟩ = some (.int .i64 r) := by rw [HW.out.1.cell (p := ⟨lb, lo + i * 2, none⟩) hlb]; exact CL.out.1
            have k1 : wk.cell? ⟨lb, lo + i * 2 + 1, none⟩ = some (.int .i64 q) := by rw [HW.out.1.cell (p := ⟨lb, lo + i * 2 + 1, none⟩) hlb]; exact CL.out.2
            have hki : decide ((k : Int) < (out.length : Int)) = true := by simp; omega
            have hki2 : (k : Int) < (out.length : Int) := by omega
            have hfe : out[k] = f := by rw [List.getElem?_eq_getElem hlt2] at hf; exact Option.some.inj hf
            have HFE := Lib.hid hfe
            have r0 := fun d os => cell_regrown p0 d os
            have r1 := fun d os => cell_regrown p1 d os
            have r2 := fun d os => cell_regrown k0 d os
            have r3 := fun d os => cell_regrown k1 d os
            have cX := fun d os => Calls.regrown_of (lessRb f (r, q) (grow (redrawn wk d) os))
            have HCX := Lib.hid cX
            have hno : ltD f (r, q) = true ∨ ltD f (r, q) = false := by cases ltD f (r, q) <;> simp
            have HNO := Lib.hid (show ltD f (r, q) = true → ∀ j (hj : j < out.length), j < k + 1 → ltD out[j] (r, q) = true from fun hh j hj hjm => by
              rcases Nat.lt_or_ge j k with h1 | h1
              · exact HK.out j hj h1
              · obtain rfl : j = k := by omega
                rw [HFE.out]; exact hh)
            have HNF := Lib.hid (show ltD f (r, q) = false → out.take k ++ [(r, q)] ++ out.drop k = insD (r, q) out from fun hh => insD_at HRI.out HM.out k hk HK.out (fun _ => by rw [HFE.out]; exact hh))
            generalize ltD f (r, q) = t at HNO HNF HCX hno
            obtain ⟨fr, fq⟩ := f
            clear hf hfe cX
            simp only at p0 p1 r0 r1 HCX
            rcases hno with rfl | rfl
            · have HN := Lib.hid (HNO.out rfl)
              clear HNO HNF
              go_upto_region 7 with fail
              clear p0 p1 k0 k1 cl0 cl1
              refine wp_region_quiet_below (by kernel_rfl) (by kernel_rfl) ?_
              repeat (first | go_big_quiet_step ((go_at_call 67; with_reducible exact HCX.out _ _)) | quiet_step ((go_at_call 67; with_reducible exact HCX.out _ _)))
              refine wpQuiet_nil ?_
              intro _ hw'
              obtain ⟨⟨dq, osq⟩, hw''⟩ := hw'
              subst hw''
              have HW9 := Lib.hid (HW.out.1.trans ((below_regrown wk dq osq).mono hks))
              clear HCX r0 r1 r2 r3
              generalize grow (redrawn wk dq) osq = W at *
              go_wp2_with fail
              go_roundw
              case rel => exact ⟨k + 1, by omega, by go_num, HN, HW9.out⟩
              case measure => simp [intOf]; omega
            · have HINS := Lib.hid (HNF.out rfl)
              clear HNO HNF
              go_upto_region 7 with fail
              clear p0 p1 k0 k1 cl0 cl1
              refine wp_region_quiet_below (by kernel_rfl) (by kernel_rfl) ?_
              repeat (first | go_big_quiet_step ((go_at_call 67; with_reducible exact HCX.out _ _)) | quiet_step ((go_at_call 67; with_reducible exact HCX.out _ _)))
              refine wpQuiet_nil ?_
              intro _ hw'
              obtain ⟨⟨dq, osq⟩, hw''⟩ := hw'
              subst hw''
              have HW9 := Lib.hid (And.intro (HW.out.1.trans ((below_regrown wk dq osq).mono hks)) True.intro)
              clear HCX r0 r1 r2 r3 HW hks
              generalize grow (redrawn wk dq) osq = W at *
              have HW := HW9
              clear HW9
              obtain ⟨p1, hs1, hd1⟩ := takeS (some ⟨b2, o2, none⟩) out.length oc k hk hoc hocm
              obtain ⟨p2, hs2, hd2⟩ := dropS (some ⟨b2, o2, none⟩) out.length oc k hk hoc hocm
              have hl1 : (out.take k).length = k := by rw [List.length_take]; omega
              have hl2 : (out.drop k).length = out.length - k := List.length_drop
              have hdn := HDI.out.below (HW.out.1)
              have hWs := HW.out.1.size
              obtain ⟨q1, d1, w1, hr1, ho1, hb1⟩ := appD (c := oc) (ownD_nil W.heap.size W) (hd1 W out rfl hdn) (Nat.le_refl _) k (by rw [hl1]; simp) (by omega)
              rw [hl1] at hr1
              have HO1 := Lib.hid ho1
              have HB1 := Lib.hid hb1
              have HD2 := Lib.hid (hd2 W out rfl hdn)
              have cl0 : w1.cell? ⟨lb, lo + i * 2, none⟩ = some (.int .i64 r) := by rw [hb1.cell (p := ⟨lb, lo + i * 2, none⟩) (Nat.lt_of_lt_of_le hlb hWs)]; rw [HW.out.1.cell (p := ⟨lb, lo + i * 2, none⟩) hlb]; exact CL.out.1
              have cl1 : w1.cell? ⟨lb, lo + i * 2 + 1, none⟩ = some (.int .i64 q) := by rw [hb1.cell (p := ⟨lb, lo + i * 2 + 1, none⟩) (Nat.lt_of_lt_of_le hlb hWs)]; rw [HW.out.1.cell (p := ⟨lb, lo + i * 2 + 1, none⟩) hlb]; exact CL.out.2
              have hs1' := hb1.size
              have hlb1 : lb < w1.heap.size := by omega
              clear ho1 hb1 hd1 hd2 hdn
              go_upto_region 11 with (at_builtin; refine wpList_append_run rfl _ _ 29 29 rfl (.slice none 0 0) (.slice p1 k oc) _ w1 rfl rfl hr1 ?_)
              have hone := din_new w1 (r, q)
              obtain ⟨q2, d2, w2, hr2, ho2, hb2⟩ := appD (c := 1) (HO1.out.alloc (.cells #[.int .i64 r, .int .i64 q] 44)) hone (by simp; omega) (k + 1) (by simp; omega) (by omega)
              have hr2' : (Builtin.append_ #[29, 29] 29 #[.slice q1 k d1, .slice (some ⟨w1.heap.size, 0, none⟩) 1 1]).run Tryz.prog (w1.alloc (.cells #[.int .i64 r, .int .i64 q] 44)) = .ok (.slice q2 (k + 1) d2) w2 := hr2
              have HO2 := Lib.hid ho2
              have hb2' : Go.RowKit.Below W.heap.size W w2 := (HB1.out.alloc hs1' _).trans hb2
              have HB2 := Lib.hid hb2'
              have hs2' := hb2'.size
              have HD3 := Lib.hid (HD2.out.below hb2')
              clear ho2 hb2 hb2' hone hr2
              go_upto_region 12 with (at_builtin; refine wpList_append_run rfl _ _ 29 29 rfl (.slice q1 k d1) (.slice (some ⟨w1.heap.size, 0, none⟩) 1 1) _ w2 rfl rfl hr2' ?_)
              obtain ⟨q3, d3, w3, hr3, ho3, hb3⟩ := appD (c := oc - k) HO2.out HD3.out hs2' (out.length + 1) (by simp; omega) (by omega)
              rw [hl2] at hr3
              have HFIN := Lib.hid (show OwnD w.heap.size (.slice q3 (out.length + 1) d3) (sortD (l.take (i + 1))) w3 ∧ Go.RowKit.Below w.heap.size w w3 from by
                refine ⟨?_, HB0.out.trans ((HW.out.1.trans ((HB2.out.trans hb3).mono hWs)).mono HB0.out.size)⟩
                rw [HNX.out, ← HINS.out]
                exact ho3.mono (by have := HB0.out.size; omega))
              clear ho3 hb3 hr1 hr2'
              go_wp2_with (at_builtin; refine wpList_append_run rfl _ _ 29 29 rfl (.slice q2 (k + 1) d2) (.slice p2 (out.length - k) (oc - k)) _ w3 rfl rfl hr3 ?_)
              go_wp2_with fail
              go_roundw
              case rel => exact ⟨i + 1, by omega, by go_num, HFIN.out.1, HFIN.out.2⟩
              case measure => simp [intOf]; omega
          · have HKE := Lib.hid (show k = out.length by omega)
            have HINS := Lib.hid (insD_at HRI.out HM.out k hk HK.out (fun hx => absurd hx hlt2))
            have hki : decide ((k : Int) < (out.length : Int)) = false := by simp; omega
            clear cl0 cl1
            go_upto_region 7 with fail
            refine wp_region_quiet_below (by kernel_rfl) (by kernel_rfl) ?_
            repeat (first | go_big_quiet_step (fail) | quiet_step (fail))
            refine wpQuiet_nil ?_
            intro _ hw'
            obtain ⟨⟨dq, osq⟩, hw''⟩ := hw'
            subst hw''
            have HW9 := Lib.hid (And.intro (HW.out.1.trans ((below_regrown wk dq osq).mono hks)) True.intro)
            clear HW hks
            generalize grow (redrawn wk dq) osq = W at *
            have HW := HW9
            clear HW9
            obtain ⟨p1, hs1, hd1⟩ := takeS oa out.length oc k hk hoc hocm
            obtain ⟨p2, hs2, hd2⟩ := dropS oa out.length oc k hk hoc hocm
            have hl1 : (out.take k).length = k := by rw [List.length_take]; omega
            have hl2 : (out.drop k).length = out.length - k := List.length_drop
            have hdn := HDI.out.below (HW.out.1)
            have hWs := HW.out.1.size
            obtain ⟨q1, d1, w1, hr1, ho1, hb1⟩ := appD (c := oc) (ownD_nil W.heap.size W) (hd1 W out rfl hdn) (Nat.le_refl _) k (by rw [hl1]; simp) (by omega)
            rw [hl1] at hr1
            have HO1 := Lib.hid ho1
            have HB1 := Lib.hid hb1
            have HD2 := Lib.hid (hd2 W out rfl hdn)
            have cl0 : w1.cell? ⟨lb, lo + i * 2, none⟩ = some (.int .i64 r) := by rw [hb1.cell (p := ⟨lb, lo + i * 2, none⟩) (Nat.lt_of_lt_of_le hlb hWs)]; rw [HW.out.1.cell (p := ⟨lb, lo + i * 2, none⟩) hlb]; exact CL.out.1
            have cl1 : w1.cell? ⟨lb, lo + i * 2 + 1, none⟩ = some (.int .i64 q) := by rw [hb1.cell (p := ⟨lb, lo + i * 2 + 1, none⟩) (Nat.lt_of_lt_of_le hlb hWs)]; rw [HW.out.1.cell (p := ⟨lb, lo + i * 2 + 1, none⟩) hlb]; exact CL.out.2
            have hs1' := hb1.size
            have hlb1 : lb < w1.heap.size := by omega
            clear ho1 hb1 hd1 hd2 hdn
            go_upto_region 11 with (at_builtin; refine wpList_append_run rfl _ _ 29 29 rfl (.slice none 0 0) (.slice p1 k oc) _ w1 rfl rfl hr1 ?_)
            have hone := din_new w1 (r, q)
            obtain ⟨q2, d2, w2, hr2, ho2, hb2⟩ := appD (c := 1) (HO1.out.alloc (.cells #[.int .i64 r, .int .i64 q] 44)) hone (by simp; omega) (k + 1) (by simp; omega) (by omega)
            have hr2' : (Builtin.append_ #[29, 29] 29 #[.slice q1 k d1, .slice (some ⟨w1.heap.size, 0, none⟩) 1 1]).run Tryz.prog (w1.alloc (.cells #[.int .i64 r, .int .i64 q] 44)) = .ok (.slice q2 (k + 1) d2) w2 := hr2
            have HO2 := Lib.hid ho2
            have hb2' : Go.RowKit.Below W.heap.size W w2 := (HB1.out.alloc hs1' _).trans hb2
            have HB2 := Lib.hid hb2'
            have hs2' := hb2'.size
            have HD3 := Lib.hid (HD2.out.below hb2')
            clear ho2 hb2 hb2' hone hr2
            go_upto_region 12 with (at_builtin; refine wpList_append_run rfl _ _ 29 29 rfl (.slice q1 k d1) (.slice (some ⟨w1.heap.size, 0, none⟩) 1 1) _ w2 rfl rfl hr2' ?_)
            obtain ⟨q3, d3, w3, hr3, ho3, hb3⟩ := appD (c := oc - k) HO2.out HD3.out hs2' (out.length + 1) (by simp; omega) (by omega)
            rw [hl2] at hr3
            have HFIN := Lib.hid (show OwnD w.heap.size (.slice q3 (out.length + 1) d3) (sortD (l.take (i + 1))) w3 ∧ Go.RowKit.Below w.heap.size w w3 from by
              refine ⟨?_, HB0.out.trans ((HW.out.1.trans ((HB2.out.trans hb3).mono hWs)).mono HB0.out.size)⟩
              rw [HNX.out, ← HINS.out]
              exact ho3.mono (by have := HB0.out.size; omega))
            clear ho3 hb3 hr1 hr2'
            go_wp2_with (at_builtin; refine wpList_append_run rfl _ _ 29 29 rfl (.slice q2 (k + 1) d2) (.slice p2 (out.length - k) (oc - k)) _ w3 rfl rfl hr3 ?_)
            go_wp2_with fail
            go_roundw
            case rel => exact ⟨i + 1, by omega, by go_num, HFIN.out.1, HFIN.out.2⟩
            case measure => simp [intOf]; omega
    · obtain rfl : i = l.length := by omega
      rw [List.take_length] at *
      have hi1 : ¬ (l.length : Int) < (l.length : Int) := by omega
      go_wp2_with fail
      go_ret
      exact ⟨_, rfl, HOWN.out, HB0.out⟩

end Go.Proofs.YtchnklekeinhiaaGreat
