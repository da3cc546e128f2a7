/-
  seglog: Open.
-/
import Derived.Test.YtjimgncefeldbaaGreatDoorSegLoad
namespace Go.Proofs.YtjimgncefeldbaaGreatDoor
open Go.RowKit Go.Sort

/-- what Open makes of a disk: generation G, base t0, records r, the disk s5 -/
def OpenS (s : DS) (G : Nat) (t0 : ByteArray) (r : List ByteArray) (s5 : DS) : Prop :=
  ∃ (names : List ByteArray) (s1 : DS) (G0 : Nat), listD s dashB = names ∧ names.length ≤ 2000 ∧ (∀ n ∈ names, ∃ g, 1 ≤ g ∧ g < 12 ∧ n = genB g) ∧ G0 + 1 < 12 ∧
    ((names.filter (wholeS s) = [] ∧ G0 = 0) ∨ ((names.filter (wholeS s)).getLast? = some (genB G0) ∧ 1 ≤ G0)) ∧ eachS s ((names.filter fun n => decide (n ≠ genB G0)) ++ [newB]) = (0, s1) ∧
    ((G0 = 0 ∧ G = 1 ∧ t0 = ⟨#[]⟩ ∧ r = [] ∧ LayS s1 (recB ⟨#[]⟩) (genB 1) s5) ∨
     (1 ≤ G0 ∧ ∃ body n, readD s1 (genB G0) = (body, 0) ∧ body.size ≤ 65536 ∧ fallS body = (t0 :: r, n) ∧
       ((n = body.size ∧ G = G0 ∧ s5 = s1) ∨ (n < body.size ∧ G = G0 + 1 ∧ ∃ s4, LayS s1 (body.extract 0 n) (genB (G0 + 1)) s4 ∧ AheadS G0 s4 s5))))

/-- a log that Open has made -/
def Opened (nw : Prop) (a : Addr) (B D G : Nat) (t0 : ByteArray) (r : List ByteArray) (s' : DS) (bl : List Nat) (w : World) (e : Ending) (w' : World) : Prop :=
  ∃ L bl' ra cap, e = .returned (.tuple #[.pointer (some ⟨L, 0, none⟩), .int .i64 0]) ∧ w.heap.size ≤ L ∧ LW a B D s' bl' L G t0 (.slice ra r.length cap) false w' ∧ Fr bl bl' w w' ∧ StrRow w' ra r ∧
    (∀ b off, ra = some ⟨b, off, none⟩ → w.heap.size ≤ b ∧ b ∉ bl') ∧ r.length ≤ cap ∧ cap ≤ maxLen ∧ (nw → ra = none ∧ cap = 0)

theorem fr_made {bl bl' : List Nat} {w w' : World} {o : Obj} (h : Fr (w.heap.size :: bl) (w.heap.size :: bl') (w.alloc o) w') : Fr bl bl' w w' :=
  ⟨h.os, h.tape, h.output, by have := h.size; simp at this; omega, fun k hk hn => by
    rw [h.block k (by simp; omega) (by simp only [List.mem_cons, not_or]; exact ⟨by omega, hn⟩)]
    exact Below.heap_alloc w _ k hk, fun k hk => by
    rcases h.fresh k (List.mem_cons_of_mem _ hk) with h1 | h1
    · rcases List.mem_cons.1 h1 with rfl | h2
      · exact .inr (Nat.le_refl _)
      · exact .inl h2
    · simp at h1; right; omega⟩

set_option maxHeartbeats 2000000 in
set_option maxRecDepth 100000 in
theorem open_any {a : Addr} {B D : Nat} {s : DS} {bl : List Nat} (w : World) (h : SW a B D s bl w) (hoff : s.off = false) (hroom : s.room ≤ 65536) (G : Nat) (t0 : ByteArray) (r : List ByteArray) (s5 : DS) (ho : OpenS s G t0 r s5) :
    Calls Tryz.prog 10 #[.pointer (some ⟨D, 0, none⟩), .string logB] w (Opened (s.l = []) a B D G t0 r s5 bl w) := by
  obtain ⟨names, s1, G0, h1, h2, h3, h4, h5, h6, h7⟩ := ho
  have hof := dOff h.disk
  rw [hoff] at hof
  have hin := isName_ok logB log_ok w
  have HOF := Lib.hid (of_any D logB w)
  have hnw : 1 ≤ G0 → s.l = [] → False := fun hg he => by
    have hz : names = [] := by rw [← h1]; unfold listD; rw [hoff, he]; rfl
    rcases h5 with ⟨_, h5⟩ | ⟨h5, _⟩
    · omega
    · rw [hz] at h5; cases h5
  have HNW := Lib.hid hnw
  have H7 := Lib.hid h7
  have HCM := Lib.hid (fun W L (hl : LW a B D s bl L 0 ⟨#[]⟩ (.slice none 0 0) false W) => choose_any W hl hroom names h1 h2 h3 G0 (by omega) h5 s1 h6)
  have H := Lib.hid h
  clear hnw h h7 h5 h6 h1 h2 h3
  obtain ⟨lb, hlb⟩ : ∃ x, logB = x := ⟨_, rfl⟩
  have HLB := Lib.hid hlb
  rw [hlb] at hin HOF
  rw [hlb]
  clear hlb
  go_enter Tryz.func10, Tryz.ntmps10
  go_wp2_with fail
  refine hof.mono ?_
  rintro e w1 ⟨rfl, rfl⟩
  clear hof
  go_wp2_with fail
  refine hin.mono ?_
  rintro e w1 ⟨rfl, rfl⟩
  clear hin
  go_wp2_with fail
  refine HOF.out.mono ?_
  rintro e w0 ⟨rfl, hb0⟩
  have HB0 := Lib.hid hb0
  clear hb0 HOF
  go_wp2_with fail
  obtain ⟨W, hW⟩ : ∃ W, w0.alloc (.cells #[.pointer (some ⟨D, 0, none⟩), .pointer (some ⟨D, 0, none⟩), .string lb, .int .i64 0, .string ⟨#[]⟩, .slice none 0 0, .bool false] 75) = W := ⟨_, rfl⟩
  have hk0 := H.out.keep HB0.out
  have hWb : Below w0.heap.size w0 W := by rw [← hW]; exact (Below.refl _ _).alloc (Nat.le_refl _) _
  have hl : LW a B D s bl w0.heap.size 0 ⟨#[]⟩ (.slice none 0 0) false W := ⟨hk0.keep hWb, by rw [← hW, ← HLB.out]; exact heap_alloc_new w0 _, fun hk => by have := (hk0.disk.lt _ hk).2; omega, hk0.size⟩
  have HCH := Lib.hid (HCM.out W _ hl)
  have HW := Lib.hid hW
  clear hk0 hWb hl HCM hW
  rw [HW.out]
  refine HCH.out.mono ?_
  rintro e w1 ⟨bl1, rfl, hl1, hf1⟩
  have hload : Calls Tryz.prog 43 #[.pointer (some ⟨w0.heap.size, 0, none⟩)] w1 (Loaded (s.l = []) a B D w0.heap.size G t0 r false s5 bl1 w1) := by
    rcases H7.out with ⟨rfl, rfl, rfl, rfl, hly⟩ | ⟨hg1, body, n, hr, hsz, hfl, hcase⟩
    · refine (load_new w1 hl1 s5 hly).mono ?_
      rintro e w2 ⟨bl2, ra, cap, h1, h2, h3, h4, h5, h6, h7, h8⟩
      exact ⟨bl2, ra, cap, h1, h2, h3, h4, h5, h6, h7, fun _ => h8 trivial⟩
    · refine (load_any w1 hl1 hg1 h4 body hr hsz t0 r n hfl G s5 hcase).mono ?_
      rintro e w2 ⟨bl2, ra, cap, h1, h2, h3, h4, h5, h6, h7, h8⟩
      exact ⟨bl2, ra, cap, h1, h2, h3, h4, h5, h6, h7, fun he => (HNW.out hg1 he).elim⟩
  have HLOAD := Lib.hid hload
  have hls : w0.heap.size < w1.heap.size := hl1.log.lt
  have hl0 := HB0.out.size
  have H1 := Lib.hid hf1
  clear hl1 hf1 hload HCH H7
  go_wp2_with fail
  refine HLOAD.out.mono ?_
  rintro e w2 ⟨bl2, ra, cap, rfl, hl2, hf2, hrow, hra, hc1, hc2, hc3⟩
  have hfin : Fr bl bl2 w w2 := (Fr.of_below HB0.out).tr (fr_made (by rw [HW.out]; exact H1.out.tr hf2))
  have HFIN := Lib.hid (show Opened (s.l = []) a B D G t0 r s5 bl w (.returned (.tuple #[.pointer (some ⟨w0.heap.size, 0, none⟩), .int .i64 0])) w2 from
    ⟨w0.heap.size, bl2, ra, cap, rfl, hl0, hl2, hfin, hrow, fun b off e => ⟨by have := (hra b off e).1; omega, (hra b off e).2⟩, hc1, hc2, hc3⟩)
  clear hl2 hf2 hrow hra hc1 hc2 hc3 hfin HLOAD
  go_wp2_with fail
  go_ret2
  exact HFIN.out

set_option maxHeartbeats 1000000 in
set_option maxRecDepth 100000 in
theorem isName_Log (w : World) : Calls Tryz.prog 40 #[.string ⟨#[76, 111, 103]⟩] w fun e w' => e = .returned (.bool false) ∧ w = w' := by
  go_enter Tryz.func40, Tryz.ntmps40
  go_wp2_with fail
  go_loop [13] (fun i => i = .int .i64 0) (fun i => 0)
  case atStart => exact rfl
  case round =>
    obtain rfl := hrel
    go_wp2_with fail
    go_ret
    exact ⟨rfl, rfl⟩

set_option maxHeartbeats 2000000 in
set_option maxRecDepth 100000 in
theorem open_Log {a : Addr} {B D : Nat} {s : DS} {bl : List Nat} (w : World) (h : SW a B D s bl w) (hoff : s.off = false) :
    Calls Tryz.prog 10 #[.pointer (some ⟨D, 0, none⟩), .string ⟨#[76, 111, 103]⟩] w fun e w' => e = .returned (.tuple #[.pointer none, .int .i64 14]) ∧ w = w' := by
  have hof := dOff h.disk
  rw [hoff] at hof
  have hin := isName_Log w
  clear h
  go_enter Tryz.func10, Tryz.ntmps10
  go_wp2_with fail
  refine hof.mono ?_
  rintro e w1 ⟨rfl, rfl⟩
  clear hof
  go_wp2_with fail
  refine hin.mono ?_
  rintro e w1 ⟨rfl, rfl⟩
  clear hin
  go_wp2_with fail
  go_ret2
  exact ⟨rfl, rfl⟩
end Go.Proofs.YtjimgncefeldbaaGreatDoor
