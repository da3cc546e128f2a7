/-
  view, the program's: eachOnce; slices.Sort and slices.Compact of texts in a block that may have room.
  view, the program's: manifest; ofName.
-/
import Derived.Test.YtchnklekeinhiaaGreatGV22
import Derived.Test.YtchnklekeinhiaaGreatGV13
import Derived.Test.YtchnklekeinhiaaGreatGV17
import Derived.Test.YtchnklekeinhiaaGreatGV10
import Derived.Test.YtchnklekeinhiaaGreatGV18
namespace Go.Proofs.YtchnklekeinhiaaGreat
set_option linter.unusedSimpArgs false
set_option linter.unusedVariables false
set_option maxRecDepth 100000
open Go.Shelf Go.RowKit Go.Sort

/-- texts in a block, at its beginning -/
structure THold (w : World) (g : Nat) (ss : List ByteArray) : Prop where
  lt : g < w.heap.size
  at' : Holds encStr w g 0 (ss.map lB).toArray
theorem THold.row {w : World} {g : Nat} {ss : List ByteArray} (h : THold w g ss) (k : Nat) : StrRow w (some ⟨g, 0, none⟩) (ss.take k) :=
  .inr ⟨g, 0, rfl, h.lt, fun j hj => by
    rw [List.length_take] at hj
    have := (h.at' j (by simp; omega)).1
    rw [getElem!_pos _ j (by simp; omega)] at this
    rw [this, getD_at (by rw [List.length_take]; omega), List.getElem_take]
    simp only [List.getElem_toArray, List.getElem_map]
    show some (Value.string (bL (lB _))) = _
    rw [bL_lB]⟩
theorem OwnS.thold {w : World} {B g cap : Nat} {ss : List ByteArray} (h : OwnS B (.slice (some ⟨g, 0, none⟩) ss.length cap) ss w) (h0 : ss ≠ []) : THold w g ss ∧ B ≤ g := by
  have hlt := World.ownsRow.lt h g rfl
  refine ⟨⟨hlt.2, fun j hj => ?_⟩, hlt.1⟩
  have hl : j < ss.length := by simpa using hj
  refine ⟨?_, World.ownsRow.frozenAt h _⟩
  rw [Nat.zero_add, World.ownsRow.cellAt h j (by simpa using hl), getElem!_pos _ j hj]
  simp only [List.getElem_toArray, List.getElem_map]
  rw [List.getElem?_map, List.getElem?_eq_getElem hl]
  show some (Value.string ss[j]) = some (Value.string (bL (lB ss[j])))
  rw [bL_lB]
theorem THold.put {w : World} {g : Nat} {ss : List ByteArray} (h : THold w g ss) (d : List (List UInt8)) (hd : d.length = ss.length) : THold (putRow encStr w g 0 d.toArray) g (d.map bL) := by
  refine ⟨by rw [size_putRow]; exact h.lt, ?_⟩
  have e : (d.map bL).map lB = d := by
    rw [List.map_map]
    conv => rhs; rw [← List.map_id d]
    exact List.map_congr_left fun x _ => lB_bL x
  rw [e]
  exact holds_putRow encStr w g 0 (ss.map lB).toArray d.toArray h.at' (by simp [hd])
theorem sortT (ss : List ByteArray) (g cap B : Nat) (w : World) (h : THold w g ss) (hl : ss.length ≤ 200000) (hB : B ≤ g) :
    Calls Tryz.prog 53 #[.slice (some ⟨g, 0, none⟩) ss.length cap] w fun e w' => e = .returned (.tuple #[]) ∧ ∃ ts : List ByteArray, ts.Perm ss ∧ ts.Pairwise (fun a b => ltX b a = false) ∧ THold w' g ts ∧ Go.RowKit.Below B w w' := by
  have hc := AnyM.slices_Sort_string (P := Tryz.prog) sortL g 0 cap (ss.map lB) w h.at' h.lt (by simp; omega)
  rw [List.length_map] at hc
  refine Calls.mono (f := 53) hc ?_
  rintro e w' ⟨rfl, n, os, rfl⟩
  have hp : ((ss.map lB).mergeSort (fun x y => decide (x ≤ y))).Perm (ss.map lB) := List.mergeSort_perm _ _
  have hlen : ((ss.map lB).mergeSort (fun x y => decide (x ≤ y))).length = ss.length := by rw [hp.length_eq, List.length_map]
  have hw : ((ss.map lB).mergeSort (fun x y => decide (x ≤ y))).Pairwise (fun a b => decide (a ≤ b) = true) :=
    List.pairwise_mergeSort (fun a b c h1 h2 => by simp only [decide_eq_true_eq] at *; exact List.le_trans h1 h2) (fun a b => by simp only [Bool.or_eq_true, decide_eq_true_eq]; exact List.le_total a b) _
  generalize (ss.map lB).mergeSort (fun x y => decide (x ≤ y)) = zs at *
  have hb1 := putRow_below (B := B) w n zs.toArray hB
  have hb2 := (show THold (Go.Sort.ahead w n) g ss from ⟨h.lt, h.at'⟩)
  have hb3 := hb2.put zs hlen
  refine ⟨rfl, zs.map bL, ?_, ?_, ?_, ?_⟩
  · have := hp.map bL
    rwa [map_bL] at this
  · rw [List.pairwise_map]
    refine hw.imp fun {a b} hab => ?_
    rw [ltX_bL, bytesLess_eq]
    simp only [decide_eq_true_eq, decide_eq_false_iff_not] at *
    exact List.not_lt.2 hab
  · refine ⟨by rw [size_grow]; exact Nat.lt_of_lt_of_le hb3.lt (Nat.le_add_right _ _), fun j hj => ?_⟩
    have hh := hb3.at' j hj
    have hbk := heap_grow_old (putRow encStr (Go.Sort.ahead w n) g 0 zs.toArray) os hb3.lt
    rw [World.cell?_of_block (a := ⟨g, 0 + j, none⟩) hbk, World.frozen?_of_block (a := ⟨g, 0 + j, none⟩) hbk]
    exact hh
  · exact hb1.trans ⟨rfl, rfl, rfl, by rw [size_grow]; exact Nat.le_add_right _ _, fun k hk => heap_grow_old _ _ (by rw [size_putRow]; show k < w.heap.size; have := h.lt; omega)⟩
theorem compT (ts : List ByteArray) (g cap B : Nat) (w : World) (h : THold w g ts) (hl : ts.length ≤ 200000) (hcap : ts.length ≤ cap) (hB : B ≤ g) (hw : ts.Pairwise (fun a b => ltX b a = false)) :
    Calls Tryz.prog 54 #[.slice (some ⟨g, 0, none⟩) ts.length cap] w fun e w' => ∃ out : List ByteArray, e = .returned (.slice (some ⟨g, 0, none⟩) out.length cap) ∧ SetX ts out ∧ StrRow w' (some ⟨g, 0, none⟩) out ∧ Go.RowKit.Below B w w' := by
  have hc := AnyG.slices_Compact_string (P := Tryz.prog) compL g 0 cap (ts.map lB) w h.at' (by simp; omega) (by simpa using hcap)
  rw [List.length_map] at hc
  refine Calls.mono (f := 54) hc ?_
  rintro e w' ⟨rfl, q, rfl⟩
  have hk := kept_up (ts.map lB).toArray (fun i j hij hj => by
    have hj2 : j < ts.length := by simpa using hj
    have := List.pairwise_iff_getElem.1 hw i j (by omega) hj2 hij
    rw [getElem!_pos _ j hj, getElem!_pos _ i (by simp; omega)]
    simp only [List.getElem_toArray, List.getElem_map]
    rw [← ltX_bL, bL_lB, bL_lB]
    exact this) ts.length (by simp)
  have hcl : (Go.Lib.compact (ts.map lB)).length ≤ ts.length := by
    unfold Go.Lib.compact Go.Lib.compactUpTo
    rw [List.length_map]
    exact Nat.le_trans (List.length_filter_le _ _) (by simp)
  have e : Go.Lib.compact (ts.map lB) = Go.Lib.compactUpTo (ts.map lB).toArray ts.length := by unfold Go.Lib.compact; rw [List.length_map]
  rw [← e] at hk
  generalize Go.Lib.compact (ts.map lB) = out at *
  have hb2 := (show THold (Go.Sort.ahead w q) g ts from ⟨h.lt, h.at'⟩)
  have hb3 := hb2.put (out ++ List.replicate (ts.length - out.length) []) (by simp; omega)
  refine ⟨out.map bL, by rw [List.length_map], ⟨?_, ?_⟩, ?_, putRow_below w q _ hB⟩
  · unfold RiseX
    rw [List.pairwise_map]
    exact hk.rise.imp fun {a b} hab => by rw [ltX_bL]; exact hab
  · intro x
    rw [List.mem_map]
    constructor
    · rintro ⟨l, hl2, rfl⟩
      obtain ⟨j, hj, rfl⟩ := (hk.mem l).1 hl2
      rw [getElem!_pos _ j (by simp; omega)]
      simp only [List.getElem_toArray, List.getElem_map, bL_lB]
      exact List.getElem_mem _
    · intro hx
      obtain ⟨j, hj, rfl⟩ := List.mem_iff_getElem.1 hx
      refine ⟨lB ts[j], (hk.mem _).2 ⟨j, hj, ?_⟩, bL_lB _⟩
      rw [getElem!_pos _ j (by simp; omega)]
      simp
  · have := hb3.row out.length
    rw [List.map_append, List.take_append_of_le_length (by simp), List.take_of_length_le (by simp)] at this
    exact this

set_option maxHeartbeats 2000000 in
theorem eachOnceC (ss : List ByteArray) (v : Value) (B : Nat) (w : World) (h : OwnS B v ss w) (hl : ss.length ≤ 200000) :
    Calls Tryz.prog 40 #[v] w fun e w' => ∃ b c out, e = .returned (.slice b (List.length out) c) ∧ StrRow w' b out ∧ SetX ss out ∧ Go.RowKit.Below B w w' := by
  obtain ⟨a, cap, rfl, hrow, hcap, hmax⟩ := h.fin2
  by_cases h0 : ss = []
  · subst h0
    have HS := Lib.hid (AnyM.slices_Sort_string_none (P := Tryz.prog) sortL a cap w)
    have HC := Lib.hid (AnyG.slices_Compact_string_empty (P := Tryz.prog) compL a cap w)
    clear h hrow
    go_enter Tryz.func40, Tryz.ntmps40
    go_wp2_with fail
    refine HS.out.mono ?_
    rintro e w1 ⟨rfl, rfl⟩
    go_wp2_with fail
    refine HC.out.mono ?_
    rintro e w1 ⟨rfl, rfl⟩
    go_wp2_with fail
    go_ret
    exact ⟨a, cap, [], rfl, .inl rfl, SetX.nil, Below.refl _ _⟩
  · obtain ⟨g, rfl⟩ : ∃ g, a = some ⟨g, 0, none⟩ := by
      rcases h.2 with ⟨e, h1⟩ | ⟨g, c2, cur, e, -⟩
      · exact absurd (List.length_eq_zero_iff.1 h1) h0
      · injection e with e1 e2 e3; exact ⟨g, e1⟩
    obtain ⟨hh, hBg⟩ := h.thold h0
    have HS := Lib.hid (sortT ss g cap B w hh hl hBg)
    have HBG := Lib.hid hBg
    clear h hrow hh h0 hBg
    go_enter Tryz.func40, Tryz.ntmps40
    go_wp2_with fail
    refine HS.out.mono ?_
    rintro e w1 ⟨rfl, ts, hp, hpw, ht, hb1⟩
    have hlt : ss.length = ts.length := hp.length_eq.symm
    have hc := compT ts g cap B w1 ht (by omega) (by omega) HBG.out hpw
    rw [← hlt] at hc
    have HC := Lib.hid hc
    have HP := Lib.hid hp
    have HB1 := Lib.hid hb1
    clear hc hp hpw ht hb1 hlt HS
    go_wp2_with fail
    refine HC.out.mono ?_
    rintro e w2 ⟨out, rfl, hs, hr, hb2⟩
    have HE := Lib.hid (And.intro hr (And.intro (hs.of fun x => HP.out.mem_iff) (HB1.out.trans hb2)))
    clear hs hr hb2 HC
    go_wp2_with fail
    go_ret
    exact ⟨_, cap, out, rfl, HE.out.1, HE.out.2.1, HE.out.2.2⟩
end Go.Proofs.YtchnklekeinhiaaGreat

namespace Go.Proofs.YtchnklekeinhiaaGreat
set_option linter.unusedSimpArgs false
set_option linter.unusedVariables false
set_option maxRecDepth 100000
open Go.RowKit Go.Sort

theorem manSize2 (z c : Int) (v : Value) : (Tryz.prog.info? 27).map (·.size) = some (#[.int .i64 z, .int .i64 c, v] : Array Value).size := by
  have h : (Tryz.prog.info? 27).map (·.size) = some 3 := by kernel_rfl
  exact h
set_option maxHeartbeats 2000000 in
theorem manifestC (s : ByteArray) (hs : s.size ≤ 5000) (w : World) :
    Calls Tryz.prog 24 #[.string s] w fun e w' => ∃ a c, e = .returned (mv (readM s).1 (.slice a (readM s).1.ids.length c)) ∧ XFrom w' w.heap.size a (readM s).1.ids ∧ (readM s).1.ids.length ≤ c ∧ c ≤ maxLen ∧ Below w.heap.size w w' := by
  have HR := Lib.hid (fun W => readMC s (by omega) (rMan_short hs) W)
  clear hs
  generalize readM s = M at *
  obtain ⟨⟨z, c, ids⟩, x⟩ := M
  unfold mv at *
  simp only at *
  have HB0 := Lib.hid (lowA w (.cells #[.int .i64 0, .int .i64 0, .slice none 0 0] 27))
  have HZ0 := Lib.hid (Blk.new w 27 #[.int .i64 0, .int .i64 0, .slice none 0 0])
  go_enter Tryz.func24, Tryz.ntmps24
  go_upto_region 1 with fail
  change Code.wp _ _ _ _ (w.alloc (.cells #[.int .i64 0, .int .i64 0, .slice none 0 0] 27))
  have HS0 := Lib.hid (show w.heap.size + 1 ≤ (w.alloc (.cells #[.int .i64 0, .int .i64 0, .slice none 0 0] 27)).heap.size by simp)
  generalize w.alloc (.cells #[.int .i64 0, .int .i64 0, .slice none 0 0] 27) = W0 at *
  go_wp2_with fail
  refine (HR.out W0).mono ?_
  rintro e w1 ⟨v1, rfl, hown, hb⟩
  obtain ⟨la, lc, rfl, hrow, hlc, hlm⟩ := hown.from
  have HX := Lib.hid ((hrow.mono HS0.out).below (lowA w1 (.cells #[.int .i64 z, .int .i64 c, .slice la ids.length lc] 27)))
  have HB1 := Lib.hid ((HB0.out.trans (hb.mono (Nat.le_of_succ_le HS0.out))).trans ((lowA w1 (.cells #[.int .i64 z, .int .i64 c, .slice la ids.length lc] 27)).mono (by have h1 := hb.size; have h2 := HS0.out; omega)))
  have HZ1 := Lib.hid ((HZ0.out.keep hb).alloc (.cells #[.int .i64 z, .int .i64 c, .slice la ids.length lc] 27))
  have HC := Lib.hid (And.intro hlc hlm)
  clear hown hrow hb hlc hlm HR HB0 HZ0
  go_upto_region 2 with fail
  have HN1 := Lib.hid (Blk.new w1 27 #[.int .i64 z, .int .i64 c, .slice la ids.length lc])
  change Code.wp _ _ _ _ (w1.alloc (.cells #[.int .i64 z, .int .i64 c, .slice la ids.length lc] 27))
  generalize w1.alloc (.cells #[.int .i64 z, .int .i64 c, .slice la ids.length lc] 27) = W1 at *
  generalize w1.heap.size = g at *
  have HXE := Lib.hid ((HX.out.setRow (Nat.lt_succ_self w.heap.size) #[.int .i64 z, .int .i64 c, .slice la ids.length lc]).mono (Nat.le_succ _))
  have HBE := Lib.hid (belowRow' HB1.out (Nat.le_refl _) #[.int .i64 z, .int .i64 c, .slice la ids.length lc])
  have HZE := Lib.hid (Blk.put HZ1.out #[.int .i64 z, .int .i64 c, .slice la ids.length lc])
  go_wp2_with (first
    | ((with_reducible refine bl_load ?_ 27 (.tmp 3) ?_ g 0 #[.int .i64 z, .int .i64 c, .slice la ids.length lc] ?_ ?_ Tryz.underlying27 ?_ ?_ ?_); rfl; rfl; rfl; exact HN1.out.all; rfl; exact manSize2 _ _ _; simp only [Act.put, List.setIfInBounds_toArray, List.set_cons_zero, List.set_cons_succ])
    | ((with_reducible refine bl_store ?_ 27 (.tmp 2) (.tmp 10) ?_ w.heap.size #[.int .i64 z, .int .i64 c, .slice la ids.length lc] ?_ ?_ ?_ ?_ ?_ ?_); rfl; rfl; rfl; rfl; exact ⟨_, HZ1.out, rfl⟩; exact manSize2 _ _ _; simp [Value.oneCell']))
  generalize W1.setRow w.heap.size #[.int .i64 z, .int .i64 c, .slice la ids.length lc] = W2 at *
  refine bodyPost_ret (v := .agg #[.int .i64 z, .int .i64 c, .slice la ids.length lc]) (results_cell_row (by rfl) _ _ w.heap.size 27 #[.int .i64 z, .int .i64 c, .slice la ids.length lc] (0, 0) _ rfl HZE.out Tryz.underlying27 rfl (manSize2 _ _ _)) rfl ?_
  exact ⟨la, lc, rfl, HXE.out, HC.out.1, HC.out.2, HBE.out⟩

set_option maxHeartbeats 2000000 in
theorem ofNameC (l : List Ft) (a : Option Addr) (cap : Nat) (nm : ByteArray) (w : World) (h : FIn w a l) (hl : l.length ≤ 65536) :
    Calls Tryz.prog 36 #[.slice a l.length cap, .string nm] w fun e w' => ∃ k : Nat, e = .returned (.int .i64 (k : Int)) ∧ k ≤ l.length ∧ (∀ x ∈ l.take k, x.n = nm) ∧ (∀ y, l[k]? = some y → y.n ≠ nm) ∧ Below w.heap.size w w' := by
  have H := Lib.hid h
  clear h
  go_enter Tryz.func36, Tryz.ntmps36
  go_wp2_with fail
  go_loopw [9] (fun i wr => ∃ j : Nat, i = .int .i64 (j : Int) ∧ j ≤ l.length ∧ Hid (∀ x ∈ l.take j, x.n = nm) ∧ Hid (Below w.heap.size w wr)) (fun i _ => l.length - (intOf i).toNat)
  case atStart => exact ⟨0, rfl, Nat.zero_le _, Lib.hid (fun x hx => by simp at hx), Lib.hid (Below.refl _ _)⟩
  case round =>
    obtain ⟨j, rfl, hj, HA, HB⟩ := hrel
    by_cases hlt : j < l.length
    · obtain ⟨f, hf⟩ : ∃ d, l[j]? = some d := ⟨_, List.getElem?_eq_getElem hlt⟩
      obtain ⟨b, off, rfl, hbl, c0⟩ := (H.out.below HB.out).at hf
      have hi1 : (j : Int) < (l.length : Int) := by omega
      have HF := Lib.hid hf
      have CL := Lib.hid c0
      have CL1 := Lib.hid (range_below c0 ((Below.refl _ wr).alloc (Nat.le_refl _) (.cells zcs 48)) hbl)
      have HB1 := Lib.hid (HB.out.trans ((boxZ_below wr f).mono HB.out.size))
      have HR1 := Lib.hid (boxZ_row wr f)
      have hx := str_eq f.n nm
      clear hf c0 hbl
      go_upto_region 4 with (first
        | ((with_reducible refine fl_load ?_ (.tmp 12) ?_ b (off + j * 8) f ?_ ?_ ?_); rfl; rfl; rfl; (first | exact CL.out | exact CL1.out); simp only [Act.put, List.setIfInBounds_toArray, List.set_cons_zero, List.set_cons_succ])
        | ((with_reducible refine fl_store ?_ (.tmp 6) (.tmp 13) ?_ wr.heap.size f ?_ ?_ ?_ ?_); rfl; rfl; rfl; rfl; exact boxZ_old wr))
      change Code.wp _ _ _ _ (boxZ wr f)
      generalize boxZ wr f = W at *
      have c6 := HR1.out.range 6 (.string f.n) rfl
      rw [Nat.zero_add] at c6
      by_cases he : f.n = nm
      · have hq : (f.n.toList == nm.toList) = true := by rw [hx, decide_eq_true he]
        have HA1 := Lib.hid (show ∀ x ∈ l.take (j + 1), x.n = nm from fun x hxm => by
          obtain ⟨e1, e2⟩ := List.getElem?_eq_some_iff.1 HF.out
          rw [List.take_succ_eq_append_getElem hlt, e2] at hxm
          rcases List.mem_append.1 hxm with h1 | h1
          · exact HA.out x h1
          · rw [List.mem_singleton.1 h1]; exact he)
        clear hx he
        go_wp2_with fail
        go_roundw
        case rel => exact ⟨j + 1, by go_num, by omega, HA1, HB1⟩
        case measure => simp [intOf]; omega
      · have hq : (f.n.toList == nm.toList) = false := by rw [hx, decide_eq_false he]
        have HN := Lib.hid (show ∀ y, l[j]? = some y → y.n ≠ nm from fun y hy => by rw [HF.out] at hy; obtain rfl := Option.some.inj hy; exact he)
        clear hx he
        go_wp2_with fail
        go_ret
        exact ⟨j, rfl, by omega, HA.out, HN.out, HB1.out⟩
    · obtain rfl : j = l.length := by omega
      have hi1 : ¬ (l.length : Int) < (l.length : Int) := by omega
      go_wp2_with fail
      go_ret
      exact ⟨l.length, rfl, Nat.le_refl _, HA.out, fun y hy => by simp at hy, HB.out⟩
end Go.Proofs.YtchnklekeinhiaaGreat
