/-
  Rows of texts that a call owns: kept by what lies below, and by a lower base. (As in RefRead3, for seats that lack the document's List.)
  Rows of texts: appended to, and parts of them.
  register, the document's: Elements.
  register, the document's: later.
-/
import Derived.Test.YtmnblpjdiplioaaGreatGOp07
import Derived.Test.YtmnblpjdiplioaaGreatGOp02
import Derived.Test.YtmnblpjdiplioaaGreatGOp14
import Derived.Test.YtmnblpjdiplioaaGreatGOp12
import Derived.Deep.QuietTactic
import Derived.Test.YtmnblpjdiplioaaGreatFactOrd
import Derived.Deep.RegionHeld3
namespace Go.Proofs.YtmnblpjdiplioaaGreat
open Go.RowKit

theorem OwnS.below {B C : Nat} {v : Value} {ss : List ByteArray} {w w' : World} (h : OwnS B v ss w) (hb : Below C w w') (hC : w.heap.size ≤ C) : OwnS B v ss w' := by
  obtain ⟨h1, h2⟩ := h
  refine ⟨h1, ?_⟩
  rcases h2 with h2 | ⟨g, cap, cur, hv, hg, hh, r⟩
  · exact .inl h2
  · exact .inr ⟨g, cap, cur, hv, hg, by rw [hb.block g (by have := lt_of_block hh; omega)]; exact hh, r⟩

theorem OwnS.mono {B C : Nat} {v : Value} {ss : List ByteArray} {w : World} (h : OwnS B v ss w) (hC : C ≤ B) : OwnS C v ss w := by
  obtain ⟨h1, h2⟩ := h
  refine ⟨h1, ?_⟩
  rcases h2 with h2 | ⟨g, cap, cur, hv, hg, hh, r⟩
  · exact .inl h2
  · exact .inr ⟨g, cap, cur, hv, Nat.le_trans hC hg, hh, r⟩
end Go.Proofs.YtmnblpjdiplioaaGreat

namespace Go.Proofs.YtmnblpjdiplioaaGreat
set_option linter.unusedSimpArgs false
set_option linter.unusedVariables false
set_option maxRecDepth 100000
open Go.RowKit Go.Sort

theorem str_eq (x y : ByteArray) : (x.toList == y.toList) = decide (x = y) := by
  by_cases h : x = y
  · simp [h]
  · have : x.toList ≠ y.toList := fun e => h (bytes_inj e)
    simp [h, this]
theorem OwnS.fin2 {B : Nat} {v : Value} {l : List ByteArray} {w : World} (h : OwnS B v l w) : ∃ a cap, v = .slice a l.length cap ∧ StrRow w a l ∧ l.length ≤ cap ∧ cap ≤ maxLen := by
  obtain ⟨a, cap, hv, hd, -⟩ := ownS_row h
  refine ⟨a, cap, hv, hd, ?_⟩
  rcases h.2 with ⟨rfl, h0⟩ | ⟨g, cap', cur, rfl, hB, hg, hn, hm, hs, htk⟩
  · injection hv with h1 h2 h3; subst h3; exact ⟨by omega, by simp [maxLen]⟩
  · injection hv with h1 h2 h3; subst h3; exact ⟨hn, hm⟩
theorem getD_at {l : List ByteArray} {j : Nat} (h : j < l.length) (d : ByteArray) : l.getD j d = l[j] := by simp [List.getD_eq_getElem?_getD, h]
theorem StrRow.take {w : World} {a : Option Addr} {l : List ByteArray} (h : StrRow w a l) (k : Nat) : StrRow w a (l.take k) := by
  rcases h with rfl | ⟨b, off, rfl, hlt, hc⟩
  · exact .inl (by simp)
  · refine .inr ⟨b, off, rfl, hlt, fun j hj => ?_⟩
    rw [List.length_take] at hj
    rw [hc j (by omega), getD_at (by omega), getD_at (by rw [List.length_take]; omega), List.getElem_take]
theorem StrRow.drop {w : World} {b off : Nat} {l : List ByteArray} (h : StrRow w (some ⟨b, off, none⟩) l) (k : Nat) : StrRow w (some ⟨b, off + k, none⟩) (l.drop k) := by
  rcases h with rfl | ⟨b', off', he, hlt, hc⟩
  · exact .inl (by simp)
  · injection he with he; injection he with h1 h2; subst h1 h2
    refine .inr ⟨b, off + k, rfl, hlt, fun j hj => ?_⟩
    rw [List.length_drop] at hj
    have := hc (k + j) (by omega)
    rw [show off + k + j = off + (k + j) by omega, this, getD_at (by omega), getD_at (by rw [List.length_drop]; omega), List.getElem_drop]
theorem StrRow.at {w : World} {a : Option Addr} {l : List ByteArray} (h : StrRow w a l) {j : Nat} {x : ByteArray} (hj : l[j]? = some x) : ∃ b off, a = some ⟨b, off, none⟩ ∧ b < w.heap.size ∧ w.cell? ⟨b, off + j, none⟩ = some (.string x) := by
  obtain ⟨hl, rfl⟩ := List.getElem?_eq_some_iff.1 hj
  rcases h with rfl | ⟨b, off, rfl, hlt, hc⟩
  · simp at hl
  · exact ⟨b, off, rfl, hlt, by rw [hc j hl, getD_at hl]⟩

theorem appX {w : World} {B c : Nat} {v : Value} {xs ys : List ByteArray} {p : Option Addr} (h : OwnS B v xs w) (hp : StrRow w p ys) (hb : B ≤ w.heap.size) (n : Nat) (hn : xs.length + ys.length = n) (hl : n ≤ 200000) :
    ∃ p' c' w', (Builtin.append_ #[60, 60] 60 #[v, .slice p ys.length c]).run Tryz.prog w = .ok (.slice p' n c') w' ∧ OwnS B (.slice p' n c') (xs ++ ys) w' ∧ Go.RowKit.Below B w w' := by
  obtain ⟨i0, hi, hz0, hz1, hz2⟩ := info_parts strInfo
  have hsrc : Src Tryz.prog 1 60 (.slice p ys.length c) ys.length (ys.map Value.string) w := by
    cases p with
    | none =>
      have : ys = [] := by
        rcases hp with h | ⟨_, _, h, _⟩
        · exact h
        · cases h
      subst this
      exact Src.ofNil _ Tryz.underlying60 c
    | some x =>
      refine Src.ofSlice _ Tryz.underlying60 x ys.length c _ (by simp) (fun j u hj => ?_) (fun u hu => by obtain ⟨s, _, rfl⟩ := List.mem_map.1 hu; rfl)
      rw [List.getElem?_map] at hj
      obtain ⟨s, hs, rfl⟩ := Option.map_eq_some_iff.1 hj
      obtain ⟨b, off, hbe, hlt, hc⟩ := hp.at hs
      obtain rfl := Option.some.inj hbe
      have e1 : (⟨b, off, none⟩ : Addr).add j = ⟨b, off + j, none⟩ := by cases j <;> simp [Addr.add]
      rw [e1]; exact hc
  obtain ⟨v', w', hr, ho, hg, -, -⟩ := run_append_sf (P := Tryz.prog) w B 60 60 60 9 i0 _ 1 16 Tryz.underlying60 hi hz0 hz1 hz2 rfl v xs.length (xs.map Value.string) h _ ys.length (ys.map Value.string) hsrc (by unfold maxLen; omega) (by omega) hb
  have ho' : OwnS B v' (xs ++ ys) w' := by
    unfold OwnS
    rw [List.length_append, List.map_append]
    exact ho
  obtain ⟨p', c', rfl, -, -⟩ := ho'.fin2
  rw [List.length_append, hn] at ho' hr
  exact ⟨p', c', w', hr, ho', (Below.refl _ _).grown hg hb (fun j hj => (World.ownsRow.lt h j hj).1)⟩

/-- a part of a row of texts, from its beginning -/
theorem takeX (a : Option Addr) (n cap k : Nat) (hk : k ≤ n) (hn : n ≤ cap) (_hc : cap ≤ maxLen) :
    ∃ p : Option Addr, (∀ W, (Instr.slice 60 (.slice a n cap) none (some (.int .i64 (k : Int))) none).run Tryz.prog W = .ok (.slice p k cap) W) ∧ ∀ W (l : List ByteArray), l.length = n → StrRow W a l → StrRow W p (l.take k) := by
  have ht := Tryz.underlying60
  have ht' : Tryz.prog.underlying 60 = some (.slice (Tryz.prog.elem 60)) := by simp [Program.elem, ht]
  have he : Tryz.prog.elem 60 = 9 := by simp [Program.elem, ht]
  refine ⟨a, fun W => ?_, fun W l hl h => h.take k⟩
  rw [run_slice_h W _ _ _ _ ht' .i64 _ (by omega) (by omega), he, Tryz.sizeOf9]
  by_cases h0 : cap = 0
  · simp [Result.andThen, sliced, h0]
  · cases a <;> simp [Result.andThen, sliced, h0, Addr.add]
/-- .. to its end -/
theorem dropX (a : Option Addr) (n cap k : Nat) (hk : k ≤ n) (hn : n ≤ cap) (_hc : cap ≤ maxLen) :
    ∃ p : Option Addr, (∀ W, (Instr.slice 60 (.slice a n cap) (some (.int .i64 (k : Int))) none none).run Tryz.prog W = .ok (.slice p (n - k) (cap - k)) W) ∧ ∀ W (l : List ByteArray), l.length = n → StrRow W a l → StrRow W p (l.drop k) := by
  have ht := Tryz.underlying60
  have ht' : Tryz.prog.underlying 60 = some (.slice (Tryz.prog.elem 60)) := by simp [Program.elem, ht]
  have he : Tryz.prog.elem 60 = 9 := by simp [Program.elem, ht]
  refine ⟨if cap = k then a else a.map (·.add (k * 1)), fun W => ?_, fun W l hl h => ?_⟩
  · rw [run_slice_l W _ _ _ _ ht' .i64 _ (by omega) (by omega), he, Tryz.sizeOf9]
    simp [Result.andThen, sliced]
  · by_cases h0 : cap = k
    · exact .inl (List.drop_of_length_le (by omega))
    · rw [if_neg h0]
      rcases id h with rfl | ⟨b, off, rfl, hlt, hc⟩
      · exact .inl (by simp)
      · have h2 := h.drop k
        have e1 : (⟨b, off, none⟩ : Addr).add (k * 1) = ⟨b, off + k, none⟩ := by simp only [Addr.add, Nat.mul_one]; split <;> simp_all
        rw [Option.map_some, e1]
        exact h2
end Go.Proofs.YtmnblpjdiplioaaGreat

namespace Go.Proofs.YtmnblpjdiplioaaGreat
set_option linter.unusedSimpArgs false
set_option linter.unusedVariables false
set_option maxRecDepth 100000
open Go.RowKit Go.Sort

theorem drop_up {xs : List ByteArray} {k : Nat} {y v : ByteArray} (hr : RiseX xs) (hy : xs[k]? = some y) (h : ltX v y = true) : ∀ x ∈ xs.drop k, ltX v x = true := by
  intro x hx
  obtain ⟨hk, rfl⟩ := List.getElem?_eq_some_iff.1 hy
  obtain ⟨j, hj, rfl⟩ := List.mem_iff_getElem.1 hx
  rw [List.length_drop] at hj
  rw [List.getElem_drop]
  by_cases h0 : j = 0
  · subst h0; exact h
  · exact totX.trans h (List.pairwise_iff_getElem.1 hr k (k + j) hk (by omega) (by omega))
set_option maxHeartbeats 8000000 in
theorem relemC (l : List Ft) (a : Option Addr) (cap : Nat) (w : World) (h : FIn w a l) (hl : l.length ≤ 65536) :
    Calls Tryz.prog 22 #[.slice a l.length cap] w fun e w' => ∃ v' out, e = .returned v' ∧ OwnS w.heap.size v' out w' ∧ ElemsR l out ∧ Go.RowKit.Below w.heap.size w w' := by
  have H := Lib.hid h
  clear h
  go_enter Tryz.func22, Tryz.ntmps22
  go_wp2_with fail
  go_loopw [3, 4] (fun v i wr => ∃ (k : Nat) (m : List ByteArray), k ≤ l.length ∧ i = .int .i64 k ∧ m.length ≤ k ∧ OwnS w.heap.size v m wr ∧ Hid (ElemsR (l.take k) m) ∧ Hid (Go.RowKit.Below w.heap.size w wr)) (fun _ i _ => l.length - (intOf i).toNat)
  case atStart => exact ⟨0, [], Nat.zero_le _, rfl, Nat.le_refl _, ownS_nil _ _, Lib.hid (by rw [List.take_zero]; exact ElemsR.nil), Lib.hid (Below.refl _ _)⟩
  case round =>
    obtain ⟨i, out, hi, rfl, hout, hown, HE, HB0⟩ := hrel
    have HOWN := Lib.hid hown
    obtain ⟨oa, oc, rfl, hdin, hoc, hocm⟩ := hown.fin2
    clear hown
    by_cases hlt : i < l.length
    · obtain ⟨d, hd⟩ : ∃ d, l[i]? = some d := ⟨_, List.getElem?_eq_getElem hlt⟩
      obtain ⟨lb, lo, rfl, hlb, cl0⟩ := (H.out.below HB0.out).at hd
      have HNX := Lib.hid (show l.take (i + 1) = l.take i ++ [d] from by
        obtain ⟨e1, e2⟩ := List.getElem?_eq_some_iff.1 hd
        rw [List.take_succ_eq_append_getElem hlt, e2])
      have hi1 : (i : Int) < (l.length : Int) := by omega
      have CL := Lib.hid (cl0 7 _ rfl)
      have HDI := Lib.hid hdin
      clear hd hdin cl0
      obtain ⟨v, hv⟩ : ∃ v, d.v = v := ⟨_, rfl⟩
      rw [hv] at CL
      have HV := Lib.hid hv
      clear hv
      go_wp2_with fail
      go_loopw [5] (fun j wk => ∃ k : Nat, k ≤ out.length ∧ j = .int .i64 (k : Int) ∧ Hid (∀ x ∈ out.take k, ltX x v = true) ∧ Hid (Go.RowKit.Below wr.heap.size wr wk)) (fun j _ => out.length - (intOf j).toNat)
      case atStart => exact ⟨0, Nat.zero_le _, rfl, Lib.hid (by simp), Lib.hid (Below.refl _ _)⟩
      case round =>
        rename World => wk
        obtain ⟨k, hk, rfl, HK, HW⟩ := hrel
        have hks := HW.out.size
        by_cases hk0 : k < out.length
        · obtain ⟨y, hy⟩ : ∃ d, out[k]? = some d := ⟨_, List.getElem?_eq_getElem hk0⟩
          obtain ⟨b2, o2, rfl, hlb2, cy⟩ := (HDI.out.below HW.out).at hy
          have cv : wk.cell? ⟨lb, lo + i * 8 + 7, none⟩ = some (.string v) := by rw [HW.out.cell (p := ⟨lb, lo + i * 8 + 7, none⟩) hlb]; exact CL.out
          have hki2 : (k : Int) < (out.length : Int) := by omega
          have hye : out[k] = y := by rw [List.getElem?_eq_getElem hk0] at hy; exact Option.some.inj hy
          have HYE := Lib.hid hye
          have HY := Lib.hid hy
          clear hy hye
          cases ht : Op.bytesLess y.toList v.toList with
          | true =>
            have HN := Lib.hid (show ∀ x ∈ out.take (k + 1), ltX x v = true from fun x hx => by
              rw [List.take_succ_eq_append_getElem hk0] at hx
              rcases List.mem_append.1 hx with hx | hx
              · exact HK.out x hx
              · obtain rfl := List.mem_singleton.1 hx
                rw [HYE.out]; exact ht)
            go_wp2
            go_quiet (fail)
            go_wp2
            go_roundw
            case rel => exact ⟨k + 1, by omega, by go_num, HN, Lib.hid (belowN HW.out _)⟩
            case measure => simp [intOf]; omega
          | false =>
            go_wp2
            go_quiet (fail)
            generalize hW6 : wk.drewN _ = W6
            have cy6 : W6.cell? ⟨b2, o2 + k, none⟩ = some (.string y) := by rw [← hW6]; exact cy
            have cv6 : W6.cell? ⟨lb, lo + i * 8 + 7, none⟩ = some (.string v) := by rw [← hW6]; exact cv
            have HW6 := Lib.hid (show Below wr.heap.size wr W6 from by rw [← hW6]; exact belowN HW.out _)
            clear hW6 cy cv HW
            cases hq : (y.toList == v.toList) with
            | true =>
              have HP := Lib.hid (show ElemsR (l.take (i + 1)) out from by
                rw [HNX.out]
                refine HE.out.skip ?_
                have e : y = v := bytes_inj (eq_of_beq hq)
                rw [HV.out, ← e]
                exact List.mem_of_getElem? HY.out)
              go_wp2
              go_quiet (fail)
              generalize hW9 : W6.drewN _ = W
              have HW9 := Lib.hid (show Below wr.heap.size wr W from by rw [← hW9]; exact belowN HW6.out _)
              clear hW9 cy6 cv6 HW6
              go_wp2
              go_roundw
              case rel => exact ⟨i + 1, out, by omega, by go_num, by omega, OwnS.below HOWN.out HW9.out (Nat.le_refl _), HP, Lib.hid (HB0.out.trans (HW9.out.mono HB0.out.size))⟩
              case measure => simp [intOf]; omega
            | false =>
              have HP := Lib.hid (show ElemsR (l.take (i + 1)) (out.take k ++ v :: out.drop k) from by
                rw [HNX.out, ← HV.out]
                refine HE.out.put d k (by rw [HV.out]; exact HK.out) (drop_up HE.out.rise HY.out ?_)
                rw [HV.out]
                rcases totX.tri v y with e | e | e
                · exact e
                · subst e; simp at hq
                · have e2 : Op.bytesLess y.toList v.toList = true := e
                  rw [ht] at e2; cases e2)
              go_wp2
              go_quiet (fail)
              generalize hW9 : W6.drewN _ = W
              have HW9 := Lib.hid (show Below wr.heap.size wr W from by rw [← hW9]; exact belowN HW6.out _)
              clear hW9 cy6 cv6 HW6 ht hq
              obtain ⟨p1, hs1, hd1⟩ := takeX (some ⟨b2, o2, none⟩) out.length oc k hk hoc hocm
              obtain ⟨p2, hs2, hd2⟩ := dropX (some ⟨b2, o2, none⟩) out.length oc k hk hoc hocm
              have hl1 : (out.take k).length = k := by rw [List.length_take]; omega
              have hl2 : (out.drop k).length = out.length - k := List.length_drop
              have hdn := HDI.out.below HW9.out
              have hWs := HW9.out.size
              obtain ⟨q1, d1, w1, hr1, ho1, hb1⟩ := appX (c := oc) (ownS_nil W.heap.size W) (hd1 W out rfl hdn) (Nat.le_refl _) k (by rw [hl1]; simp) (by omega)
              rw [hl1] at hr1
              have HO1 := Lib.hid ho1
              have HB1 := Lib.hid hb1
              have HD2 := Lib.hid (hd2 W out rfl hdn)
              have hs1' := hb1.size
              have cv1 : w1.cell? ⟨lb, lo + i * 8 + 7, none⟩ = some (.string v) := by
                rw [hb1.cell (p := ⟨lb, lo + i * 8 + 7, none⟩) (Nat.lt_of_lt_of_le hlb hWs), HW9.out.cell (p := ⟨lb, lo + i * 8 + 7, none⟩) hlb]; exact CL.out
              clear ho1 hb1 hd1 hd2 hdn
              go_upto_region 11 with (at_builtin; refine wpList_append_run rfl _ _ 60 60 rfl (.slice none 0 0) (.slice p1 k oc) _ w1 rfl rfl hr1 ?_)
              obtain ⟨q2, d2, w2, hr2, ho2, hb2⟩ := appX (c := 1) (OwnS.below HO1.out ((Below.refl _ w1).alloc (Nat.le_refl _) (.cells #[.string v] 9)) (Nat.le_refl _)) (strRow_one w1 v) (by simp; omega) (k + 1) (by simp; omega) (by omega)
              have hr2' : (Builtin.append_ #[60, 60] 60 #[.slice q1 k d1, .slice (some ⟨w1.heap.size, 0, none⟩) 1 1]).run Tryz.prog (w1.alloc (.cells #[.string v] 9)) = .ok (.slice q2 (k + 1) d2) w2 := hr2
              have HO2 := Lib.hid ho2
              have hb2' : Go.RowKit.Below W.heap.size W w2 := (HB1.out.alloc hs1' _).trans hb2
              have HB2 := Lib.hid hb2'
              have hs2' := hb2'.size
              have HD3 := Lib.hid (HD2.out.below hb2')
              clear ho2 hb2 hb2' hr2
              go_upto_region 12 with (at_builtin; refine wpList_append_run rfl _ _ 60 60 rfl (.slice q1 k d1) (.slice (some ⟨w1.heap.size, 0, none⟩) 1 1) _ w2 rfl rfl hr2' ?_)
              obtain ⟨q3, d3, w3, hr3, ho3, hb3⟩ := appX (c := oc - k) HO2.out HD3.out hs2' (out.length + 1) (by simp; omega) (by omega)
              rw [hl2] at hr3
              have HFIN := Lib.hid (show OwnS w.heap.size (.slice q3 (out.length + 1) d3) (out.take k ++ v :: out.drop k) w3 ∧ Go.RowKit.Below w.heap.size w w3 from by
                refine ⟨?_, HB0.out.trans ((HW9.out.trans ((HB2.out.trans hb3).mono hWs)).mono HB0.out.size)⟩
                have e : out.take k ++ v :: out.drop k = out.take k ++ [v] ++ out.drop k := by simp
                rw [e]
                exact ho3.mono (by have := HB0.out.size; omega))
              have hle : (out.take k ++ v :: out.drop k).length ≤ i + 1 := by simp; omega
              clear ho3 hb3 hr1 hr2' cv1
              go_wp2_with (at_builtin; refine wpList_append_run rfl _ _ 60 60 rfl (.slice q2 (k + 1) d2) (.slice p2 (out.length - k) (oc - k)) _ w3 rfl rfl hr3 ?_)
              go_wp2_with fail
              go_roundw
              case rel => exact ⟨i + 1, _, by omega, by go_num, hle, HFIN.out.1, HP, Lib.hid HFIN.out.2⟩
              case measure => simp [intOf]; omega
        · have hki2 : ¬ (k : Int) < (out.length : Int) := by omega
          have HP := Lib.hid (show ElemsR (l.take (i + 1)) (out.take k ++ v :: out.drop k) from by
            rw [HNX.out, ← HV.out]
            refine HE.out.put d k (by rw [HV.out]; exact HK.out) ?_
            rw [List.drop_eq_nil_of_le (by omega)]
            simp)
          go_wp2
          go_quiet (fail)
          generalize hW6 : wk.drewN _ = W6
          have HW6 := Lib.hid (show Below wr.heap.size wr W6 from by rw [← hW6]; exact belowN HW.out _)
          clear hW6 HW
          go_wp2
          go_quiet (fail)
          generalize hW9 : W6.drewN _ = W
          have HW9 := Lib.hid (show Below wr.heap.size wr W from by rw [← hW9]; exact belowN HW6.out _)
          clear hW9 HW6
          obtain ⟨p1, hs1, hd1⟩ := takeX oa out.length oc k hk hoc hocm
          obtain ⟨p2, hs2, hd2⟩ := dropX oa out.length oc k hk hoc hocm
          have hl1 : (out.take k).length = k := by rw [List.length_take]; omega
          have hl2 : (out.drop k).length = out.length - k := List.length_drop
          have hdn := HDI.out.below HW9.out
          have hWs := HW9.out.size
          obtain ⟨q1, d1, w1, hr1, ho1, hb1⟩ := appX (c := oc) (ownS_nil W.heap.size W) (hd1 W out rfl hdn) (Nat.le_refl _) k (by rw [hl1]; simp) (by omega)
          rw [hl1] at hr1
          have HO1 := Lib.hid ho1
          have HB1 := Lib.hid hb1
          have HD2 := Lib.hid (hd2 W out rfl hdn)
          have hs1' := hb1.size
          have cv1 : w1.cell? ⟨lb, lo + i * 8 + 7, none⟩ = some (.string v) := by
            rw [hb1.cell (p := ⟨lb, lo + i * 8 + 7, none⟩) (Nat.lt_of_lt_of_le hlb hWs), HW9.out.cell (p := ⟨lb, lo + i * 8 + 7, none⟩) hlb]; exact CL.out
          clear ho1 hb1 hd1 hd2 hdn
          go_upto_region 11 with (at_builtin; refine wpList_append_run rfl _ _ 60 60 rfl (.slice none 0 0) (.slice p1 k oc) _ w1 rfl rfl hr1 ?_)
          obtain ⟨q2, d2, w2, hr2, ho2, hb2⟩ := appX (c := 1) (OwnS.below HO1.out ((Below.refl _ w1).alloc (Nat.le_refl _) (.cells #[.string v] 9)) (Nat.le_refl _)) (strRow_one w1 v) (by simp; omega) (k + 1) (by simp; omega) (by omega)
          have hr2' : (Builtin.append_ #[60, 60] 60 #[.slice q1 k d1, .slice (some ⟨w1.heap.size, 0, none⟩) 1 1]).run Tryz.prog (w1.alloc (.cells #[.string v] 9)) = .ok (.slice q2 (k + 1) d2) w2 := hr2
          have HO2 := Lib.hid ho2
          have hb2' : Go.RowKit.Below W.heap.size W w2 := (HB1.out.alloc hs1' _).trans hb2
          have HB2 := Lib.hid hb2'
          have hs2' := hb2'.size
          have HD3 := Lib.hid (HD2.out.below hb2')
          clear ho2 hb2 hb2' hr2
          go_upto_region 12 with (at_builtin; refine wpList_append_run rfl _ _ 60 60 rfl (.slice q1 k d1) (.slice (some ⟨w1.heap.size, 0, none⟩) 1 1) _ w2 rfl rfl hr2' ?_)
          obtain ⟨q3, d3, w3, hr3, ho3, hb3⟩ := appX (c := oc - k) HO2.out HD3.out hs2' (out.length + 1) (by simp; omega) (by omega)
          rw [hl2] at hr3
          have HFIN := Lib.hid (show OwnS w.heap.size (.slice q3 (out.length + 1) d3) (out.take k ++ v :: out.drop k) w3 ∧ Go.RowKit.Below w.heap.size w w3 from by
            refine ⟨?_, HB0.out.trans ((HW9.out.trans ((HB2.out.trans hb3).mono hWs)).mono HB0.out.size)⟩
            have e : out.take k ++ v :: out.drop k = out.take k ++ [v] ++ out.drop k := by simp
            rw [e]
            exact ho3.mono (by have := HB0.out.size; omega))
          have hle : (out.take k ++ v :: out.drop k).length ≤ i + 1 := by simp; omega
          clear ho3 hb3 hr1 hr2' cv1
          go_wp2_with (at_builtin; refine wpList_append_run rfl _ _ 60 60 rfl (.slice q2 (k + 1) d2) (.slice p2 (out.length - k) (oc - k)) _ w3 rfl rfl hr3 ?_)
          go_wp2_with fail
          go_roundw
          case rel => exact ⟨i + 1, _, by omega, by go_num, hle, HFIN.out.1, HP, Lib.hid HFIN.out.2⟩
          case measure => simp [intOf]; omega
    · obtain rfl : i = l.length := by omega
      have HOE := Lib.hid (show ElemsR l out from by have := HE.out; rwa [List.take_length] at this)
      have hi1 : ¬ (l.length : Int) < (l.length : Int) := by omega
      go_wp2
      go_ret
      exact ⟨_, rfl, out, HOWN.out, HOE.out, HB0.out⟩
end Go.Proofs.YtmnblpjdiplioaaGreat

namespace Go.Proofs.YtmnblpjdiplioaaGreat
set_option linter.unusedSimpArgs false
set_option linter.unusedVariables false
set_option maxRecDepth 100000
open Go.RowKit Go.Sort

theorem gt_str (x y : ByteArray) : ltX x y = (!Op.bytesLess y.toList x.toList && !y.toList == x.toList) := by
  have e : ∀ p q : ByteArray, ltX p q = Op.bytesLess p.toList q.toList := fun _ _ => rfl
  rw [← e]
  rcases totX.tri x y with h | h | h
  · have h2 : ltX y x = false := by
      cases k : ltX y x with
      | false => rfl
      | true => have := totX.trans h k; rw [totX.irr] at this; cases this
    have h3 : (y.toList == x.toList) = false := by
      simp only [beq_eq_false_iff_ne, ne_eq]
      intro k
      rw [e, k, less_irr] at h; cases h
    rw [h, h2, h3]; rfl
  · subst h; rw [totX.irr]; simp
  · have h2 : ltX x y = false := by
      cases k : ltX x y with
      | false => rfl
      | true => have := totX.trans h k; rw [totX.irr] at this; cases this
    rw [h, h2]; rfl
set_option maxHeartbeats 4000000 in
theorem laterR (a b : Ft) (w : World) : Calls Tryz.prog 71 #[.agg (fcs a).toArray, .agg (fcs b).toArray] w fun e w' => e = .returned (.bool (ltR b a)) ∧ Below w.heap.size w w' := by
  have hin := boxF2_in w a b
  have HGR := Lib.hid (show Below w.heap.size w (boxF (boxF w a) b) from ((boxF_gr w a).trans (boxF_gr _ b)).below)
  have ca : ∀ j v, (fcs a)[j]? = some v → (boxF (boxF w a) b).cell? ⟨w.heap.size, j, none⟩ = some v := fun j v hv => by have h := hin.1 j v hv; rwa [Nat.zero_add] at h
  have cb : ∀ j v, (fcs b)[j]? = some v → (boxF (boxF w a) b).cell? ⟨w.heap.size + 1, j, none⟩ = some v := fun j v hv => by have h := hin.2 j v hv; rwa [Nat.zero_add] at h
  have a0 := ca 0 _ rfl
  have a1 := ca 1 _ rfl
  have a2 := ca 2 _ rfl
  have a3 := ca 3 _ rfl
  have a4 := ca 4 _ rfl
  have a7 := ca 7 _ rfl
  have b0 := cb 0 _ rfl
  have b1 := cb 1 _ rfl
  have b2 := cb 2 _ rfl
  have b3 := cb 3 _ rfl
  have b4 := cb 4 _ rfl
  have b7 := cb 7 _ rfl
  have HLD := Lib.hid (fun W => lessRb b.d a.d W)
  have HLS := Lib.hid (fun W => tlessR b.s a.s W)
  have hqd := fun W => neqD a.d b.d W
  have hqs := fun W => neqS a.s b.s W
  have hl := ltR_if b a
  generalize ltR b a = R at *
  have HL := Lib.hid hl
  clear hin ca cb hl
  unfold boxF at a0 a1 a2 a3 a4 a7 b0 b1 b2 b3 b4 b7 HGR
  by_cases hs : a.s = b.s
  case neg =>
    have HJ := Lib.hid (HL.out.trans (if_pos (fun k => hs k.symm)))
    rw [decide_eq_false hs] at hqs
    clear hs hqd
    go_enter Tryz.func71, Tryz.ntmps71
    go_wp2_with fail
    refine (HLS.out _).mono ?_
    rintro e w1 ⟨rfl, hb⟩
    have HB := Lib.hid (HGR.out.trans ((show Below _ _ w1 from hb ▸ boxS2_below _ b.s a.s).mono HGR.out.size))
    clear hb
    go_wp2_with fail
    go_ret
    exact ⟨by rw [HJ.out]; rfl, HB.out⟩
  have HJ1 := Lib.hid (HL.out.trans (if_neg (fun k => k hs.symm)))
  rw [decide_eq_true hs] at hqs
  by_cases hd : a.d = b.d
  case neg =>
    have HJ := Lib.hid (HJ1.out.trans (if_pos (fun k => hd k.symm)))
    rw [decide_eq_false hd] at hqd
    clear hs hd
    go_enter Tryz.func71, Tryz.ntmps71
    go_wp2_with fail
    refine (HLD.out _).mono ?_
    rintro e w1 ⟨rfl, hb⟩
    have HB := Lib.hid (HGR.out.trans (hb.mono HGR.out.size))
    clear hb
    go_wp2_with fail
    go_ret
    exact ⟨by rw [HJ.out]; rfl, HB.out⟩
  have HJ := Lib.hid (HJ1.out.trans (if_neg (fun k => k hd.symm)))
  rw [decide_eq_true hd] at hqd
  rw [gt_str b.v a.v] at HJ
  clear hs hd
  go_enter Tryz.func71, Tryz.ntmps71
  go_wp2_with fail
  go_ret
  exact ⟨by rw [HJ.out]; rfl, HGR.out⟩
end Go.Proofs.YtmnblpjdiplioaaGreat
