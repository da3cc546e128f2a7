/-
  seglog: isFile, isWhole, isOther.
-/
import Derived.Test.YtjimgncefeldbaaGreatDoorSegLog
import Derived.StillTailTactics
import Derived.Lib.QuietBelow
namespace Go.Proofs.YtjimgncefeldbaaGreatDoor
open Go.RowKit Go.Sort

theorem ne_ba (x y : ByteArray) : (!(x.toList == y.toList)) = decide (x ≠ y) := by
  rw [ByteArray.toList_eq, ByteArray.toList_eq]
  by_cases h : x = y
  · subst h; simp
  · have h3 : x.data ≠ y.data := fun e => h (ByteArray.ext e)
    simp [h, h3]

theorem read_size (s : DS) (n : ByteArray) : (readD s n).1.size ≤ stotal s.l := by
  unfold readD
  split
  · exact Nat.zero_le _
  · cases hf : s.l[spos s.l n]? with
    | none => exact Nat.zero_le _
    | some f =>
      simp only
      split
      · have h1 := stotal_split hf
        have h2 : (⟨f.body.toArray⟩ : ByteArray).size = f.body.length := rfl
        simp only
        omega
      · exact Nat.zero_le _

set_option maxHeartbeats 1000000 in
set_option maxRecDepth 100000 in
theorem isWhole_any {a : Addr} {B D L g : Nat} {s : DS} {bl : List Nat} {base : ByteArray} {rv : Value} {en : Bool} (w : World) (h : LW a B D s bl L g base rv en w) (n : ByteArray) (hroom : s.room ≤ 65536) :
    Calls Tryz.prog 80 #[.pointer (some ⟨L, 0, none⟩), .string n] w fun e w' => e = .returned (.bool (wholeS s n)) ∧ Below w.heap.size w w' := by
  have hc := h.log.c0
  have hrd := dRead h.sw.disk n
  have hsz := read_size s n
  have htot := h.sw.disk.fit.total
  have hlt := h.log.lt
  have hfr := fun W => freadC (readD s n).1 W (by omega)
  clear h
  have hwd : wholeS s n = ((frd (readD s n).1).2.2 == 0) := rfl
  rw [hwd]
  clear hwd hsz htot
  obtain ⟨body, er0, hrdv⟩ : ∃ body er0, readD s n = (body, er0) := ⟨_, _, rfl⟩
  rw [hrdv] at hrd hfr ⊢
  simp only at hrd hfr ⊢
  obtain ⟨t, k, er, hf⟩ : ∃ t, ∃ k : Nat, ∃ er : Int, frd body = (t, k, er) := ⟨_, _, _, rfl⟩
  rw [hf] at hfr ⊢
  simp only at hfr ⊢
  have HFR := Lib.hid hfr
  clear hf hrdv hfr
  go_enter Tryz.func80, Tryz.ntmps80
  go_wp2_with fail
  refine hrd.mono ?_
  rintro e w1 ⟨rfl, hb1⟩
  have HB1 := Lib.hid hb1
  clear hb1 hrd
  go_wp2_with fail
  refine (HFR.out _).mono ?_
  rintro e w2 ⟨rfl, hb2⟩
  have HB2 := Lib.hid (HB1.out.trans (hb2.mono HB1.out.size))
  clear hb2
  go_wp2_with fail
  go_ret
  exact ⟨rfl, HB2.out⟩

set_option maxHeartbeats 1000000 in
set_option maxRecDepth 100000 in
theorem isOther_any {L D G : Nat} {base : ByteArray} {rv : Value} {en : Bool} (w : World) (h : LogC L D G base rv en w) (ht : Pows w) (gp : 5 < w.heap.size) (n : ByteArray) (hG : G < 12) :
    Calls Tryz.prog 83 #[.pointer (some ⟨L, 0, none⟩), .string n] w fun e w' => e = .returned (.bool (decide (n ≠ genB G))) ∧ Below w.heap.size w w' := by
  have hc1 := h.c1
  have hc2 := h.c2
  have hc3 := h.c3
  have r1 := fun d os => cell_regrown hc1 d os
  have r2 := fun d os => cell_regrown hc2 d os
  have r3 := fun d os => cell_regrown hc3 d os
  have cF := fun d os => Calls.regrown_of (segFile D G hG (grow (redrawn w d) os) (ht.kept (below_regrown w d os) gp) (Nat.lt_of_lt_of_le gp (below_regrown w d os).size))
  have HCF := Lib.hid cF
  have HNE := Lib.hid (ne_ba n (genB G))
  have hlt := h.lt
  clear h cF ht gp
  generalize genB G = gb at *
  go_enter Tryz.func83, Tryz.ntmps83
  go_upto_region 1 with fail
  clear hc1 hc2 hc3
  refine wp_region_quiet_below (by kernel_rfl) (by kernel_rfl) ?_
  repeat (first | go_big_quiet_step ((go_at_call 67; with_reducible exact HCF.out _ _)) | quiet_step ((go_at_call 67; with_reducible exact HCF.out _ _)))
  refine wpQuiet_nil ?_
  intro _ hw'
  obtain ⟨⟨dq, osq⟩, hw''⟩ := hw'
  subst hw''
  have hb9 := below_regrown w dq osq
  generalize grow (redrawn w dq) osq = W at *
  have HB9 := Lib.hid hb9
  clear HCF r1 r2 r3 hb9
  go_wp2_with fail
  go_ret
  exact ⟨ret_b HNE.out, HB9.out⟩
end Go.Proofs.YtjimgncefeldbaaGreatDoor
