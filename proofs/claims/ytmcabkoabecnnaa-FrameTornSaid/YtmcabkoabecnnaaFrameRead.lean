/-
  frame.Read and the document's: what each call answers.
-/
import Derived.Test.YtmcabkoabecnnaaFramePut
import Derived.Test.YtmcabkoabecnnaaStrHas
import Derived.Test.YtmcabkoabecnnaaWireReader
import Derived.Test.YtmcabkoabecnnaaRefRead2
import Derived.Lib.QuietBelow
import Derived.BigQuiet
namespace Go.Proofs.Ytmcabkoabecnnaa
open Go.RowKit Go.Sort

theorem frd_sText {s t r : ByteArray} (h : sText (s, 0) = (t, (r, 0))) : t.size ≤ 65536 ∧ s.size = (encT t).length + r.size ∧
    frd s = if r.size < 4 then (ByteArray.empty, 0, 4) else if hasP (recB t) s = true then (t, (recB t).size, 0) else (ByteArray.empty, 0, 6) := by
  have hf := sText_form (s := s) (by rw [h])
  rw [h] at hf
  obtain ⟨hf, ht⟩ := hf
  simp only at hf ht
  have hl := congrArg List.length hf
  rw [List.length_append, ba_len, ba_len] at hl
  refine ⟨ht, hl, ?_⟩
  unfold frd
  rw [h]
  simp only
  rw [if_neg (by simp)]
  by_cases h4 : r.size < 4
  · rw [if_pos h4, if_pos h4]
  · rw [if_neg h4, if_neg h4]
    have e1 : s.size - r.size = (encT t).length := by omega
    have e2 : s.data.toList.take (encT t).length = encT t := by rw [hf]; exact List.take_left
    rw [e1, e2]
    have hr4 : sumF (encT t) = r.data.toList.take 4 ↔ hasP (recB t) s = true := by
      unfold hasP Lib.hasPrefix
      rw [List.isPrefixOf_iff_prefix, List.prefix_iff_eq_take]
      show _ ↔ recF t = List.take (recF t).length s.data.toList
      have e3 : (recF t).length = (encT t).length + 4 := by unfold recF; rw [List.length_append, sumF_len]
      rw [e3, hf, List.take_append, List.take_of_length_le (l := encT t) (by omega)]
      have e4 : (encT t).length + 4 - (encT t).length = 4 := by omega
      rw [e4]
      unfold recF
      constructor
      · intro h; rw [h]
      · intro h; exact List.append_cancel_left h
    have e5 : (recB t).size = (encT t).length + 4 := by show (recF t).length = _; unfold recF; rw [List.length_append, sumF_len]
    by_cases hp : hasP (recB t) s = true
    · rw [if_neg (by simpa using hr4.2 hp), if_pos hp, e5]
    · rw [if_pos (fun e => hp (hr4.1 e)), if_neg hp]

set_option maxHeartbeats 1000000 in
set_option maxRecDepth 100000 in
theorem freadC (s : ByteArray) (w : World) (hs : s.size ≤ 1000000) :
    Calls Try.prog 8 #[.string s] w fun e w' => e = .returned (.tuple #[.string (frd s).1, .int .i64 (frd s).2.1, .int .i64 (frd s).2.2]) ∧ Below w.heap.size w w' := by
  obtain ⟨t, r, er, hT⟩ : ∃ t, ∃ r : ByteArray, ∃ er : Int, sText (s, 0) = (t, (r, er)) := ⟨_, _, _, rfl⟩
  have ht := fun W h => rtext_any w.heap.size (s, 0) W h (by simp only; omega)
  rw [hT] at ht
  simp only at ht
  go_enter Try.func8, Try.ntmps8
  go_wp2_with fail
  refine (new_any s w).mono ?_
  rintro e w1 ⟨rfl, hw1⟩
  have hrd := Rd.made s w
  have hb1 : Below w.heap.size w w1 := by rw [← hw1]; exact (Below.refl _ _).alloc (Nat.le_refl _) _
  rw [hw1] at hrd
  have HB1 := Lib.hid hb1
  have HT := Lib.hid hT
  clear hw1 hb1 hT
  go_wp2_with fail
  refine (ht w1 hrd).mono ?_
  rintro e w2 ⟨rfl, hrd2, hg⟩
  have hb2 : Below w.heap.size w w2 := HB1.out.grown hg HB1.out.size (fun i hi => by cases hi; exact Nat.le_refl _)
  have HB2 := Lib.hid hb2
  clear hrd ht hb2 hg
  go_wp2_with fail
  refine (err_any w.heap.size (r, er) w2 hrd2).mono ?_
  rintro e w3 ⟨rfl, rfl⟩
  clear hrd2
  simp only
  by_cases he : er = 0
  · subst he
    obtain ⟨hts, hsz, hfr⟩ := frd_sText HT.out
    have hes := encT_len t hts
    have hrz : (recB t).size = (encT t).length + 4 := by show (recF t).length = _; unfold recF; rw [List.length_append, sumF_len]
    have hpf := fun W => prefix_any s (recB t) W
    have HP := Lib.hid hpf
    have HFR := Lib.hid hfr
    clear hpf hfr
    go_wp2_with fail
    refine (fputC t hts _).mono ?_
    rintro e w4 ⟨rfl, hb4⟩
    have HB4 := Lib.hid (HB2.out.trans (hb4.mono HB2.out.size))
    clear hb4
    by_cases h4 : r.size < 4
    · have hlt : decide ((s.size : Int) < ((recB t).size : Int)) = true := by simp; omega
      go_wp2_with fail
      go_ret3
      refine ⟨?_, HB4.out⟩
      rw [HFR.out, if_pos h4]; rfl
    · have hlt : decide ((s.size : Int) < ((recB t).size : Int)) = false := by simp; omega
      go_wp2_with fail
      refine (HP.out _).mono ?_
      rintro e w5 ⟨rfl, rfl⟩
      by_cases hp : hasP (recB t) s = true
      · rw [hp]
        go_wp2_with fail
        go_ret3
        refine ⟨?_, HB4.out⟩
        rw [HFR.out, if_neg h4, if_pos hp, hrz]; rfl
      · have hpf : hasP (recB t) s = false := by simpa using hp
        rw [hpf]
        go_wp2_with fail
        go_ret3
        refine ⟨?_, HB4.out⟩
        rw [HFR.out, if_neg h4, if_neg hp]; rfl
  · have hb : (er != 0) = true := by simp [he]
    have hfr : frd s = (ByteArray.empty, 0, er) := by unfold frd; rw [HT.out]; simp [he]
    have HFR := Lib.hid hfr
    clear hfr
    go_wp2_with fail
    go_ret3
    refine ⟨?_, HB2.out⟩
    rw [HFR.out]; rfl

theorem frd_ref {s t r : ByteArray} (h : sText (s, 0) = (t, (r, 0))) : r.size ≤ s.size ∧
    frd s = if r.size < 4 then (ByteArray.empty, 0, 4) else if (!sumF (s.extract 0 (s.size - r.size)).data.toList == (r.extract 0 4).toList) = false then (t, s.size - r.size + 4, 0) else (ByteArray.empty, 0, 6) := by
  have hz := sText_size (s, 0)
  rw [h] at hz
  refine ⟨hz, ?_⟩
  unfold frd
  rw [h]
  simp only
  rw [if_neg (by simp)]
  by_cases h4 : r.size < 4
  · rw [if_pos h4, if_pos h4]
  · rw [if_neg h4, if_neg h4]
    have e1 : (s.extract 0 (s.size - r.size)).data.toList = s.data.toList.take (s.size - r.size) := by rw [Lib.extract_data]; simp
    have e2 : (r.extract 0 4).toList = r.data.toList.take 4 := by rw [ByteArray.toList_eq, Lib.extract_data]; simp
    rw [e1, e2]
    by_cases hp : sumF (s.data.toList.take (s.size - r.size)) = r.data.toList.take 4
    · rw [if_neg (by simp [hp]), if_pos (by simp [hp])]
    · rw [if_pos hp, if_neg (by simp [hp])]

set_option maxHeartbeats 1000000 in
set_option maxRecDepth 100000 in
theorem freadR (s : ByteArray) (w : World) (hs : s.size ≤ 1000000) :
    Calls Try.prog 9 #[.string s] w fun e w' => e = .returned (.tuple #[.string (frd s).1, .int .i64 (frd s).2.1, .int .i64 (frd s).2.2]) ∧ Below w.heap.size w w' := by
  obtain ⟨t, r, er, hT⟩ : ∃ t, ∃ r : ByteArray, ∃ er : Int, sText (s, 0) = (t, (r, er)) := ⟨_, _, _, rfl⟩
  have ht := fun W => refR_text s 0 (by omega) W
  rw [hT] at ht
  simp only [qSt] at ht
  have HT := Lib.hid hT
  clear hT
  by_cases he : er = 0
  · subst he
    rw [if_pos rfl] at ht
    obtain ⟨hrs, hfr⟩ := frd_ref HT.out
    have hsz : (s.extract 0 (s.size - r.size)).size ≤ 1000000 := by rw [ByteArray.size_extract]; omega
    have hsm := fun W => sumOfR (s.extract 0 (s.size - r.size)) W (by unfold maxLen; omega)
    generalize sumF (s.extract 0 (s.size - r.size)).data.toList = q at hsm hfr
    have HFR := Lib.hid hfr
    clear hfr
    go_enter Try.func9, Try.ntmps9
    go_wp2_with fail
    refine (ht _).mono ?_
    rintro e w1 ⟨rfl, hb1⟩
    clear ht
    by_cases h4 : r.size < 4
    · go_wp2_with fail
      go_ret3
      refine ⟨?_, hb1.alloc hb1.size _⟩
      rw [HFR.out, if_pos h4]; rfl
    · have hwr : IntKind.i64.wrap ((s.size : Int) - (r.size : Int)) = ((s.size - r.size : Nat) : Int) := by rw [IntKind.wrap_i64]; omega
      go_wp2_with fail
      obtain ⟨W, hW⟩ : ∃ W, w1.alloc (Obj.cells #[Value.string r, Value.int IntKind.i64 0] 46) = W := ⟨_, rfl⟩
      have kS : W.cell? ⟨w1.heap.size, 0, none⟩ = some (.string r) := by rw [← hW, Joins.cell_of_block (heap_alloc_new w1 _)]; rfl
      have hBW : Below w.heap.size w W := by rw [← hW]; exact hb1.alloc hb1.size _
      rw [hW]
      have cU := fun d os => Calls.regrown_of (hsm (grow (redrawn W d) os))
      have rS := fun d os => cell_regrown kS d os
      have HCU := Lib.hid cU
      have HBW := Lib.hid hBW
      have hrs' : ((s.size - r.size : Nat) : Int) ≤ (s.size : Int) := by omega
      have hr4 : (4 : Int) ≤ (r.size : Int) := by omega
      have hr0 : (0 : Int) ≤ ((s.size - r.size : Nat) : Int) := by omega
      have htn : (((s.size - r.size : Nat) : Int)).toNat = s.size - r.size := by omega
      clear cU hW kS hBW hb1 hsm
      refine wp_region_quiet_below (by kernel_rfl) (by kernel_rfl) ?_
      repeat (first | go_big_quiet_step ((go_at_call 16; with_reducible exact HCU.out _ _)) | quiet_step ((go_at_call 16; with_reducible exact HCU.out _ _)))
      refine wpQuiet_nil ?_
      intro _ hw'
      obtain ⟨⟨dq, osq⟩, hw''⟩ := hw'
      subst hw''
      have HB9 := Lib.hid (HBW.out.trans ((below_regrown W dq osq).mono HBW.out.size))
      clear HCU rS
      go_wp2_with fail
      · rename_i hx
        have hq : ¬ q = (r.extract 0 4).toList := by simpa using hx
        have hp : (!q == (r.extract 0 4).toList) = true := by simp [hq]
        have HR := Lib.hid (by rw [HFR.out, if_neg h4, if_neg (by rw [hp]; decide)] : frd s = (ByteArray.empty, 0, 6))
        go_ret3
        refine ⟨?_, HB9.out⟩
        rw [HR.out]; rfl
      · rename_i hx
        have hq : q = (r.extract 0 4).toList := by simpa using hx
        have hp : (!q == (r.extract 0 4).toList) = false := by simp [hq]
        have HR := Lib.hid (by rw [HFR.out, if_neg h4, if_pos hp] : frd s = (t, s.size - r.size + 4, 0))
        go_ret3
        refine ⟨?_, HB9.out⟩
        rw [HR.out]; rfl
  · rw [if_neg he] at ht
    have hb : (er != 0) = true := by simp [he]
    have hfr : frd s = (ByteArray.empty, 0, er) := by unfold frd; rw [HT.out]; simp [he]
    have HFR := Lib.hid hfr
    clear hfr
    go_enter Try.func9, Try.ntmps9
    go_wp2_with fail
    refine (ht _).mono ?_
    rintro e w1 ⟨rfl, hb1⟩
    go_wp2_with fail
    go_quiet (fail)
    go_wp2_with fail
    go_ret3
    refine ⟨?_, belowN (hb1.alloc hb1.size _) _⟩
    rw [HFR.out]; rfl
end Go.Proofs.Ytmcabkoabecnnaa
