/-
  disk: the function of Append: its errors.
-/
import Derived.Test.YtopigchjdegpeaaDoorDiskSync
import Derived.Deep.RegionWith
import Derived.Deep.DeepCutAuto
import Derived.Lib.QuietBelow
namespace Go.Proofs.YtopigchjdegpeaaDoor
open Go.RowKit Go.Sort

/-- is there no room for so many bytes more, or no room for a file more? -/
def fullB (m : MS) (n : ByteArray) (k : Nat) : Bool := decide ((m.room : Int) - (total m.l : Int) < (k : Int)) || (!fthere m.l n && (m.l.length == 1024))

set_option maxHeartbeats 2000000 in
set_option maxRecDepth 100000 in
theorem appendC_name (m : MS) (n s : ByteArray) (b0 b1 b2 : Nat) (w : World) (h0 : Box m b0 (.string n) w) (hn : isNm n = false) (hb : ∀ w, Calls Tryd.prog 33 #[.string n] w fun e w' => e = .returned (.bool (isNm n)) ∧ w = w') :
    Calls Tryd.prog 32 #[.pointer (some ⟨b0, 0, none⟩), .pointer (some ⟨b1, 0, none⟩), .pointer (some ⟨b2, 0, none⟩)] w fun e w' => e = .returned (.int .i64 14) ∧ w = w' := by
  rw [hn] at hb
  have c0 := h0.1
  clear h0 hn
  go_enter Tryd.func32, Tryd.ntmps32
  go_wp2_with fail
  refine (hb _).mono ?_
  rintro e w1 ⟨rfl, rfl⟩
  go_wp2_with fail
  go_ret
  exact ⟨rfl, rfl⟩

set_option maxHeartbeats 4000000 in
set_option maxRecDepth 100000 in
theorem appendC_full {B : Nat} (m : MS) (n s : ByteArray) (b0 b1 b2 : Nat) (w : World) (h : Lies B m w) (hlen : m.l.length ≤ 1024) (hr : Rises m.l n) (ht : total m.l ≤ m.room) (hroom : m.room ≤ 4194304) (hss : s.size ≤ 9223372036854775807)
    (h0 : Box m b0 (.string n) w) (h1 : Box m b1 (.pointer (some ⟨m.D, 0, none⟩)) w) (h2 : Box m b2 (.string s) w) (hn : isNm n = true) (hfull : fullB m n s.size = true) :
    Calls Tryd.prog 32 #[.pointer (some ⟨b0, 0, none⟩), .pointer (some ⟨b1, 0, none⟩), .pointer (some ⟨b2, 0, none⟩)] w fun e w' => e = .returned (.int .i64 9) ∧ Below w.heap.size w w' := by
  have hisn := fun w => isName_yes n w hn
  have hfd := find_any m n w h hlen hr
  have c0 := h0.1
  have c1 := h1.1
  have HH := Lib.hid (And.intro h (And.intro h0 (And.intro h1 (And.intro h2 hfull))))
  clear h hr h0 h1 h2 hfull hn
  obtain ⟨there, hth⟩ : ∃ t, fthere m.l n = t := ⟨_, rfl⟩
  rw [hth] at hfd
  have HTH := Lib.hid hth; clear hth
  obtain ⟨i, hi⟩ : ∃ i, fpos m.l n = i := ⟨_, rfl⟩
  rw [hi] at hfd
  clear hi
  go_enter Tryd.func32, Tryd.ntmps32
  go_wp2_with fail
  refine (hisn _).mono ?_
  rintro e w1 ⟨rfl, rfl⟩
  clear hisn
  go_wp2_with fail
  refine hfd.mono ?_
  rintro e w1 ⟨rfl, hb⟩
  obtain ⟨h, h0, h1, h2, hfull⟩ := HH.out
  have k1 := (h1.below hb).1
  have k2 := (h2.below hb).1
  have kR := (h.below hb).cell 0
  have kF := (h.below hb).cell 1
  simp only [MS.head, List.getElem?_toArray, List.getElem?_cons_succ, List.getElem?_cons_zero] at kR kF
  have hu := used_any m w1.drew (h.below hb).drew hlen (by omega)
  have HB := Lib.hid hb
  clear hfd c0 c1 h h0 h1 h2 hfull hb
  go_wp2_with fail
  have hw1 : IntKind.i64.wrap ((m.room : Int) - (total m.l : Int)) = (m.room : Int) - (total m.l : Int) := by rw [IntKind.wrap_i64]; omega
  obtain ⟨p, c, hfv⟩ : ∃ p c, m.fv = .slice p m.l.length c := by
    rcases Joins.ownsRow_forms HH.out.1.row with ⟨hv, h0⟩ | ⟨F, cap, hv⟩
    · exact ⟨none, 0, by rw [h0]; exact hv⟩
    · exact ⟨_, _, hv⟩
  rw [hfv] at kF
  clear hfv hu
  have cU := fun d os => Calls.regrown_of (used_any m (grow (redrawn w1 d) os) ((HH.out.1.below HB.out).below (below_regrown w1 d os)) hlen (by omega))
  have HCU := Lib.hid cU; clear cU
  have r1 := fun d os => cell_regrown k1 d os
  have r2 := fun d os => cell_regrown k2 d os
  have rR := fun d os => cell_regrown kR d os
  have rF := fun d os => cell_regrown kF d os
  have hfull := HH.out.2.2.2.2
  rw [fullB, HTH.out] at hfull
  generalize total m.l = T at *
  generalize hn : m.l.length = N at *
  clear hn
  go_cut [36] (fun v wc => v = .bool true ∧ Below w1.heap.size w1 wc)
  case first =>
    clear hlen hroom k1 k2 kR kF
    by_cases hA : (m.room : Int) - (T : Int) < (s.size : Int)
    · have hd : decide ((m.room : Int) - (T : Int) < (s.size : Int)) = true := by simpa using hA
      clear hfull hA
      refine wp_region_quiet_below (by kernel_rfl) (by kernel_rfl) ?_
      repeat (first | go_big_quiet_step ((go_at_call 22; with_reducible exact HCU.out _ _)) | quiet_step ((go_at_call 22; with_reducible exact HCU.out _ _)))
      refine wpQuiet_nil ?_
      intro _ hw'
      obtain ⟨⟨dq, osq⟩, hw''⟩ := hw'
      subst hw''
      clear HCU r1 r2 rR rF
      go_wp2_with fail
      go_meet
      exact ⟨rfl, below_regrown w1 dq osq⟩
    · have hd : decide ((m.room : Int) - (T : Int) < (s.size : Int)) = false := by simpa using hA
      rw [hd] at hfull
      simp at hfull
      obtain ⟨rfl, hl⟩ := hfull
      clear hA
      have hl2 : ((N : Int) == 1024) = true := by simp; omega
      clear hl
      refine wp_region_quiet_below (by kernel_rfl) (by kernel_rfl) ?_
      repeat (first | go_big_quiet_step ((go_at_call 22; with_reducible exact HCU.out _ _)) | quiet_step ((go_at_call 22; with_reducible exact HCU.out _ _)))
      refine wpQuiet_nil ?_
      intro _ hw'
      obtain ⟨⟨dq, osq⟩, hw''⟩ := hw'
      subst hw''
      clear HCU r1 r2 rR rF
      go_wp2_with fail
      go_meet
      exact ⟨rfl, below_regrown w1 dq osq⟩
  case rest =>
    obtain ⟨rfl, hb⟩ := hcut
    have HB2 := Lib.hid (HB.out.trans (hb.mono HB.out.size)); clear hb
    go_wp2_with fail
    go_ret
    exact ⟨rfl, HB2.out⟩
end Go.Proofs.YtopigchjdegpeaaDoor
