/-
  almonrylaw06: files, Do, of any deed.
-/
import Derived.Test.YtopigchjdegpeaaDoorDiskFilA
import Derived.Test.YtopigchjdegpeaaDoorDiskFilS
import Derived.Test.YtopigchjdegpeaaDoorDiskFilM
import Derived.Test.YtopigchjdegpeaaDoorDiskFilD
namespace Go.Proofs.YtopigchjdegpeaaDoor
open Go.RowKit

theorem files_any {a : Addr} {w0 : World} {D : Nat} {s : DS} {bl : List Nat} {w : World} (h : AW a w0 D s bl w) (p : Option Addr) (c : Nat) (hrow : RowF w p s.l bl) (d : Dd) (hnm : d.name.size ≤ 9223372036854775807) (hbd : d.body.size ≤ 9223372036854775807) (hds : d.dest.size ≤ 9223372036854775807) :
    Calls Tryd.prog 28 #[.pointer (some ⟨D, 0, none⟩), rv s p c, .agg #[.int .i64 d.kind, .string d.name, .string d.body, .string d.dest, .int .i64 d.n]] w (DoPost a w0 D bl p (filesS s d).2 w) := by
  unfold filesS
  by_cases h0 : d.kind = 0
  · rw [if_pos h0]; exact files_append h p c hrow _ _ _ _ _ h0 hnm hbd hds
  · rw [if_neg h0]
    by_cases h1 : d.kind = 1
    · rw [if_pos h1]; exact files_sync h p c hrow _ _ _ _ _ h1 hnm hbd hds
    · rw [if_neg h1]
      by_cases h2 : d.kind = 2
      · rw [if_pos h2]; exact files_rename h p c hrow _ _ _ _ _ h2 hnm hbd hds
      · rw [if_neg h2]; exact files_remove h p c hrow _ _ _ _ _ (by simpa using h0) (by simpa using h1) (by simpa using h2) hnm hbd hds

theorem fz_fuse (s : DS) (n : Int) : fz (fuseS s n) = max n (-1) := by
  unfold fz fuseS
  by_cases h : 0 ≤ n
  · simp [h]; omega
  · simp [h]; omega

/-- the frame's beginning is the same for all deeds -/
theorem fr_one (w : World) (b i : Nat) (v : Value) : Fr [b] [b] w (w.setCell ⟨b, i, none⟩ v) := by
  refine ⟨rfl, rfl, rfl, by simp, fun k _ hk => ?_, fun k hk => .inl hk⟩
  have hne : k ≠ b := by simpa using hk
  rw [Below.heap_setCell _ _ _ _ hne]

set_option maxHeartbeats 4000000 in
set_option maxRecDepth 100000 in
theorem do_read {a : Addr} {w0 : World} {D : Nat} {s : DS} {bl : List Nat} {w : World} (h : AW a w0 D s bl w) (p : Option Addr) (c : Nat) (hrow : RowF w p s.l bl) (nm bd ds : ByteArray) (n : Int) :
    Calls Tryd.prog 10 #[.pointer (some ⟨D, 0, none⟩), rv s p c, .agg #[.int .i64 4, .string nm, .string bd, .string ds, .int .i64 n]] w (DoPost a w0 D bl p s w) := by
  have hfit := h.disk.fit
  have hlt := h.disk.lt
  have hrv : rv s p c = .agg #[.int .i64 (s.room : Int), .slice p s.l.length c, .bool s.off, .int .i64 (fz s)] := rfl
  rw [hrv]
  have HRV := Lib.hid hrv
  have HA := Lib.hid h
  have HROW := Lib.hid hrow
  have H3 := Lib.hid (three_made w (.int .i64 (s.room : Int)) (.slice p s.l.length c) (.bool s.off) (.int .i64 (fz s)) (.int .i64 4) (.string nm) (.string bd) (.string ds) (.int .i64 n))
  have hb0 : Below w.heap.size w (((w.alloc (.cells #[.int .i64 (s.room : Int), .slice p s.l.length c, .bool s.off, .int .i64 (fz s)] 30)).alloc (.cells #[.int .i64 4, .string nm, .string bd, .string ds, .int .i64 n] 34)).alloc (.cells #[.int .i64 0, .slice none 0 0, .bool false, .int .i64 0] 30)) := (below2 w _ _).alloc (below2 w _ _).size _
  have HB0 := Lib.hid hb0
  have href := refRead_any s hfit nm p c _ (hrow.1.below hb0)
  rw [hrv] at href
  have HREF := Lib.hid href
  have HLT := Lib.hid hlt
  obtain ⟨r, hr⟩ : ∃ r, readD s nm = r := ⟨_, rfl⟩
  obtain ⟨t, r1⟩ := r
  rw [hr] at HREF
  have HR := Lib.hid hr
  clear h hrow hb0 href hlt hrv hr
  go_enter Tryd.func10, Tryd.ntmps10
  go_wp2_with fail
  refine HREF.out.mono ?_
  rintro e w1 ⟨rfl, hb1⟩
  have H31 := Lib.hid (H3.out.below hb1)
  have HB1 := Lib.hid (HB0.out.trans (hb1.mono HB0.out.size))
  have h31 := H31.out
  have hlt1 := h31.lt
  obtain ⟨x0, x1, x2, x3, k0, k1, k2, k3, k4, z0, z1, z2, z3, gx, gz⟩ := h31.cells
  clear h31 hb1 gx gz
  have HAR := Lib.hid (aRead (HA.out.keep HB1.out) nm (t, r1) HR.out)
  clear x0 x1 x2 x3 z0 z1 z2 z3
  go_wp2_with fail
  refine HAR.out.mono ?_
  rintro e w2 ⟨rfl, hb2⟩
  have H32 := Lib.hid (H31.out.below hb2)
  have HB2 := Lib.hid (HB1.out.trans (hb2.mono HB1.out.size))
  have h32 := H32.out
  have hlt2 := h32.lt
  obtain ⟨x0, x1, x2, x3, k0, k1, k2, k3, k4, z0, z1, z2, z3, _, gz⟩ := h32.cells
  have gz0 := gz 0
  have gz1 := gz 1
  have gz2 := gz 2
  have gz3 := gz 3
  clear h32 hb2 gz HAR HREF
  have e1 : (t.toList == t.toList) = true := by simp
  have e2 : (r1 == r1) = true := by simp
  go_wp2_with fail
  (try simp only [Exit.inBlock, Exit.then])
  refine bodyPost_ret (results_D rfl _ _ (w.heap.size + 2) _ _ _ _ _ (0, 0) _ rfl (four_set H32.out.2.2 _ _ _ _) rfl rfl refDInfo) rfl ?_
  have hA2 := HA.out.keep HB2.out
  have hni : w.heap.size + 2 ∉ bl := fun hin => by have := (HLT.out _ hin).2; omega
  refine ⟨bl, p, c, rfl, hA2.turn (fr_four _ _ _ _ _ _) hni (by have := HA.out.below.size; omega), (HROW.out.below HB2.out).four (fun g off he => by have := (HROW.out.2 g off he).2; omega) _ _ _ _, (Fr.of_below HB2.out).more (fr_four _ _ _ _ _ _) (by omega), fun _ _ _ => .inl rfl⟩
set_option maxHeartbeats 4000000 in
set_option maxRecDepth 100000 in
theorem do_fuse {a : Addr} {w0 : World} {D : Nat} {s : DS} {bl : List Nat} {w : World} (h : AW a w0 D s bl w) (p : Option Addr) (c : Nat) (hrow : RowF w p s.l bl) (nm bd ds : ByteArray) (n : Int) (hn : n ≤ 9223372036854775807) :
    Calls Tryd.prog 10 #[.pointer (some ⟨D, 0, none⟩), rv s p c, .agg #[.int .i64 5, .string nm, .string bd, .string ds, .int .i64 n]] w (DoPost a w0 D bl p (fuseS s n) w) := by
  have hlt := h.disk.lt
  unfold rv
  have HA := Lib.hid h
  have HROW := Lib.hid hrow
  have H3 := Lib.hid (three_made w (.int .i64 (s.room : Int)) (.slice p s.l.length c) (.bool s.off) (.int .i64 (max n (-1))) (.int .i64 5) (.string nm) (.string bd) (.string ds) (.int .i64 n))
  have hb0 : Below w.heap.size w (((w.alloc (.cells #[.int .i64 (s.room : Int), .slice p s.l.length c, .bool s.off, .int .i64 (max n (-1))] 30)).alloc (.cells #[.int .i64 5, .string nm, .string bd, .string ds, .int .i64 n] 34)).alloc (.cells #[.int .i64 0, .slice none 0 0, .bool false, .int .i64 0] 30)) := (below2 w _ _).alloc (below2 w _ _).size _
  have HB0 := Lib.hid hb0
  have HLT := Lib.hid hlt
  have HAF := Lib.hid (aFuse (h.keep hb0) n (fuseS s n) rfl hn)
  clear h hrow hb0 hlt
  go_enter Tryd.func10, Tryd.ntmps10
  go_wp2_with fail
  refine HAF.out.mono ?_
  rintro e w1 ⟨bl1, rfl, h1, f1⟩
  have hkeep : ∀ k, k = w.heap.size ∨ k = w.heap.size + 1 ∨ k = w.heap.size + 2 → w1.heap[k]? = (((w.alloc (.cells #[.int .i64 (s.room : Int), .slice p s.l.length c, .bool s.off, .int .i64 (max n (-1))] 30)).alloc (.cells #[.int .i64 5, .string nm, .string bd, .string ds, .int .i64 n] 34)).alloc (.cells #[.int .i64 0, .slice none 0 0, .bool false, .int .i64 0] 30)).heap[k]? := fun k hk => f1.block k (by simp; omega) (fun hin => by have := (HLT.out k hin).2; omega)
  have H31 := Lib.hid (H3.out.keep hkeep)
  have HF1 := Lib.hid ((Fr.of_below HB0.out).trans f1)
  have HA1 := Lib.hid h1
  have hni : w.heap.size + 2 ∉ bl1 := fun hin => by
    rcases f1.fresh _ hin with h | h
    · have := (HLT.out _ h).2; omega
    · simp at h; omega
  have HNI := Lib.hid hni
  have h31 := H31.out
  have hlt1 := h31.lt
  obtain ⟨x0, x1, x2, x3, k0, k1, k2, k3, k4, z0, z1, z2, z3, _, gz⟩ := h31.cells
  have gz0 := gz 0
  have gz1 := gz 1
  have gz2 := gz 2
  have gz3 := gz 3
  clear h31 gz f1 h1 hkeep HAF hni
  go_wp2_with fail
  (try simp only [Exit.inBlock, Exit.then])
  refine bodyPost_ret (results_D rfl _ _ (w.heap.size + 2) _ _ _ _ _ (0, 0) _ rfl (four_set H31.out.2.2 _ _ _ _) rfl rfl refDInfo) rfl ?_
  have hz := fz_fuse s n
  refine ⟨bl1, p, c, ?_, HA1.out.turn (fr_four _ _ _ _ _ _) HNI.out (by have := HA.out.below.size; omega), (HROW.out.fr HF1.out).four (fun g off he => by have := (HROW.out.2 g off he).2; omega) _ _ _ _, HF1.out.more (fr_four _ _ _ _ _ _) (by omega), fun _ _ _ => .inl rfl⟩
  unfold rv
  rw [hz]
  rfl

set_option maxHeartbeats 4000000 in
set_option maxRecDepth 100000 in
theorem do_crash {a : Addr} {w0 : World} {D : Nat} {s : DS} {bl : List Nat} {w : World} (h : AW a w0 D s bl w) (p : Option Addr) (c : Nat) (hrow : RowF w p s.l bl) (nm bd ds : ByteArray) (n : Int) (hn0 : -9223372036854775808 ≤ n) (hn : n ≤ 9223372036854775807) :
    Calls Tryd.prog 10 #[.pointer (some ⟨D, 0, none⟩), rv s p c, .agg #[.int .i64 6, .string nm, .string bd, .string ds, .int .i64 n]] w (DoPost a w0 D bl p (crashS s n) w) := by
  have hlt := h.disk.lt
  have HFIT := Lib.hid h.disk.fit
  have hrv : rv s p c = .agg #[.int .i64 (s.room : Int), .slice p s.l.length c, .bool s.off, .int .i64 (fz s)] := rfl
  rw [hrv]
  have HRV := Lib.hid hrv
  clear hrv
  have HA := Lib.hid h
  have HROW := Lib.hid hrow
  have H3 := Lib.hid (three_made w (.int .i64 (s.room : Int)) (.slice p s.l.length c) (.bool s.off) (.int .i64 (fz s)) (.int .i64 6) (.string nm) (.string bd) (.string ds) (.int .i64 n))
  have hb0 : Below w.heap.size w (((w.alloc (.cells #[.int .i64 (s.room : Int), .slice p s.l.length c, .bool s.off, .int .i64 (fz s)] 30)).alloc (.cells #[.int .i64 6, .string nm, .string bd, .string ds, .int .i64 n] 34)).alloc (.cells #[.int .i64 0, .slice none 0 0, .bool false, .int .i64 0] 30)) := (below2 w _ _).alloc (below2 w _ _).size _
  have HB0 := Lib.hid hb0
  have HLT := Lib.hid hlt
  have HAF := Lib.hid (aCrash (h.keep hb0) n (crashS s n) rfl)
  clear h hrow hb0 hlt
  go_enter Tryd.func10, Tryd.ntmps10
  go_wp2_with fail
  refine HAF.out.mono ?_
  rintro e w1 ⟨bl1, rfl, h1, f1⟩
  have hkeep : ∀ k, k = w.heap.size ∨ k = w.heap.size + 1 ∨ k = w.heap.size + 2 → w1.heap[k]? = (((w.alloc (.cells #[.int .i64 (s.room : Int), .slice p s.l.length c, .bool s.off, .int .i64 (fz s)] 30)).alloc (.cells #[.int .i64 6, .string nm, .string bd, .string ds, .int .i64 n] 34)).alloc (.cells #[.int .i64 0, .slice none 0 0, .bool false, .int .i64 0] 30)).heap[k]? := fun k hk => f1.block k (by simp; omega) (fun hin => by have := (HLT.out k hin).2; omega)
  have H31 := Lib.hid (H3.out.keep hkeep)
  have HF1 := Lib.hid ((Fr.of_below HB0.out).trans f1)
  have HA1 := Lib.hid h1
  have hni : w.heap.size + 2 ∉ bl1 := fun hin => by
    rcases f1.fresh _ hin with h | h
    · have := (HLT.out _ h).2; omega
    · simp at h; omega
  have HNI := Lib.hid hni
  have h31 := H31.out
  have hlt1 := h31.lt
  obtain ⟨x0, x1, x2, x3, k0, k1, k2, k3, k4, z0, z1, z2, z3, _, gz⟩ := h31.cells
  have href := refCrash_any s HFIT.out n hn0 hn p c w1 ((HROW.out.fr HF1.out).1)
  rw [HRV.out] at href
  unfold RTurn rv at href
  have HREF := Lib.hid href
  clear h31 gz f1 h1 hkeep HAF hni href
  go_wp2_with fail
  refine HREF.out.mono ?_
  rintro e w2 ⟨q, cq, rfl, hrow2, hb2, hfar⟩
  have H32 := Lib.hid (H31.out.below hb2)
  have HA2 := Lib.hid (HA1.out.keep hb2)
  have HF2 := Lib.hid (HF1.out.trans (Fr.of_below hb2))
  have HR2 := Lib.hid (show RowF w2 q (crashS s n).l bl1 from ⟨hrow2, fun g off he => ⟨fun hin => by have h1 := (HA1.out.disk.lt g hin).2; have h2 := hfar g off he; omega, (hfar g off he).2⟩⟩)
  have HFAR := Lib.hid hfar
  generalize crashS s n = s2 at *
  clear x0 x1 x2 x3 k0 k1 k2 k3 k4 z0 z1 z2 z3 hrow2 hfar HREF
  have h32 := H32.out
  have hlt2 := h32.lt
  obtain ⟨x0, x1, x2, x3, k0, k1, k2, k3, k4, z0, z1, z2, z3, _, gz⟩ := h32.cells
  have gz0 := gz 0
  have gz1 := gz 1
  have gz2 := gz 2
  have gz3 := gz 3
  clear h32 gz hb2
  go_wp2_with fail
  (try simp only [Exit.inBlock, Exit.then])
  refine bodyPost_ret (results_D rfl _ _ (w.heap.size + 2) _ _ _ _ _ (0, 0) _ rfl (four_set H32.out.2.2 _ _ _ _) rfl rfl refDInfo) rfl ?_
  exact ⟨bl1, q, cq, rfl, HA2.out.turn (fr_four _ _ _ _ _ _) HNI.out (by have := HA.out.below.size; omega), HR2.out.four (fun g off he => by have := (HFAR.out g off he).1; omega) _ _ _ _, HF2.out.more (fr_four _ _ _ _ _ _) (by omega), fun g off he => .inr (by have := (HFAR.out g off he).1; omega)⟩

set_option maxHeartbeats 4000000 in
set_option maxRecDepth 100000 in
theorem do_files {a : Addr} {w0 : World} {D : Nat} {s : DS} {bl : List Nat} {w : World} (h : AW a w0 D s bl w) (p : Option Addr) (c : Nat) (hrow : RowF w p s.l bl) (kd : Int) (nm bd ds : ByteArray) (n : Int) (h4 : (kd == 4) = false) (h5 : (kd == 5) = false) (h6 : (kd == 6) = false) (hnm : nm.size ≤ 9223372036854775807) (hbd : bd.size ≤ 9223372036854775807) (hds : ds.size ≤ 9223372036854775807) :
    Calls Tryd.prog 10 #[.pointer (some ⟨D, 0, none⟩), rv s p c, .agg #[.int .i64 kd, .string nm, .string bd, .string ds, .int .i64 n]] w (DoPost a w0 D bl p (filesS s ⟨kd, nm, bd, ds, n⟩).2 w) := by
  have hlt := h.disk.lt
  unfold rv
  have HA := Lib.hid h
  have HROW := Lib.hid hrow
  have H3 := Lib.hid (three_made w (.int .i64 (s.room : Int)) (.slice p s.l.length c) (.bool s.off) (.int .i64 (fz s)) (.int .i64 kd) (.string nm) (.string bd) (.string ds) (.int .i64 n))
  have hb0 : Below w.heap.size w (((w.alloc (.cells #[.int .i64 (s.room : Int), .slice p s.l.length c, .bool s.off, .int .i64 (fz s)] 30)).alloc (.cells #[.int .i64 kd, .string nm, .string bd, .string ds, .int .i64 n] 34)).alloc (.cells #[.int .i64 0, .slice none 0 0, .bool false, .int .i64 0] 30)) := (below2 w _ _).alloc (below2 w _ _).size _
  have HB0 := Lib.hid hb0
  have HLT := Lib.hid hlt
  have hfl := files_any (h.keep hb0) p c (hrow.below hb0) ⟨kd, nm, bd, ds, n⟩ hnm hbd hds
  obtain ⟨s2, hs2⟩ : ∃ s2, (filesS s ⟨kd, nm, bd, ds, n⟩).2 = s2 := ⟨_, rfl⟩
  rw [hs2] at hfl ⊢
  unfold DoPost rv at hfl
  have HAF := Lib.hid hfl
  clear hfl hs2
  clear h hrow hb0 hlt
  go_enter Tryd.func10, Tryd.ntmps10
  go_wp2_with fail
  refine HAF.out.mono ?_
  rintro e w1 ⟨bl1, q, cq, rfl, h1, hrow1, f1, hfar⟩
  have HFAR := Lib.hid (fun g off (he : q = some ⟨g, off, none⟩) => (by
    rcases hfar g off he with h | h
    · have he' := he
      rw [h] at he'; have := (HROW.out.2 g off he').2; exact ⟨by omega, .inl h⟩
    · simp at h; exact ⟨by omega, .inr (by omega)⟩ : g ≠ w.heap.size + 2 ∧ (q = p ∨ w.heap.size ≤ g)))
  have HR1 := Lib.hid hrow1
  have hkeep : ∀ k, k = w.heap.size ∨ k = w.heap.size + 1 ∨ k = w.heap.size + 2 → w1.heap[k]? = (((w.alloc (.cells #[.int .i64 (s.room : Int), .slice p s.l.length c, .bool s.off, .int .i64 (fz s)] 30)).alloc (.cells #[.int .i64 kd, .string nm, .string bd, .string ds, .int .i64 n] 34)).alloc (.cells #[.int .i64 0, .slice none 0 0, .bool false, .int .i64 0] 30)).heap[k]? := fun k hk => f1.block k (by simp; omega) (fun hin => by have := (HLT.out k hin).2; omega)
  have H31 := Lib.hid (H3.out.keep hkeep)
  have HF1 := Lib.hid ((Fr.of_below HB0.out).trans f1)
  have HA1 := Lib.hid h1
  have hni : w.heap.size + 2 ∉ bl1 := fun hin => by
    rcases f1.fresh _ hin with h | h
    · have := (HLT.out _ h).2; omega
    · simp at h; omega
  have HNI := Lib.hid hni
  have h31 := H31.out
  have hlt1 := h31.lt
  obtain ⟨x0, x1, x2, x3, k0, k1, k2, k3, k4, z0, z1, z2, z3, _, gz⟩ := h31.cells
  have gz0 := gz 0
  have gz1 := gz 1
  have gz2 := gz 2
  have gz3 := gz 3
  clear h31 gz f1 h1 hkeep HAF hni hfar hrow1
  go_wp2_with fail
  (try simp only [Exit.inBlock, Exit.then])
  refine bodyPost_ret (results_D rfl _ _ (w.heap.size + 2) _ _ _ _ _ (0, 0) _ rfl (four_set H31.out.2.2 _ _ _ _) rfl rfl refDInfo) rfl ?_
  exact ⟨bl1, q, cq, rfl, HA1.out.turn (fr_four _ _ _ _ _ _) HNI.out (by have := HA.out.below.size; omega), HR1.out.four (fun g off he => (HFAR.out g off he).1) _ _ _ _, HF1.out.more (fr_four _ _ _ _ _ _) (by omega), fun g off he => (HFAR.out g off he).2⟩

theorem do_any {a : Addr} {w0 : World} {D : Nat} {s : DS} {bl : List Nat} {w : World} (h : AW a w0 D s bl w) (p : Option Addr) (c : Nat) (hrow : RowF w p s.l bl) (d : Dd) (hnm : d.name.size ≤ 9223372036854775807) (hbd : d.body.size ≤ 9223372036854775807) (hds : d.dest.size ≤ 9223372036854775807) (hn0 : -9223372036854775808 ≤ d.n) (hn : d.n ≤ 9223372036854775807) :
    Calls Tryd.prog 10 #[.pointer (some ⟨D, 0, none⟩), rv s p c, .agg #[.int .i64 d.kind, .string d.name, .string d.body, .string d.dest, .int .i64 d.n]] w (DoPost a w0 D bl p (doS s d) w) := by
  obtain ⟨kd, nm, bd, ds, n⟩ := d
  unfold doS
  simp only at *
  by_cases h4 : kd = 4
  · subst h4; rw [if_pos rfl]; exact do_read h p c hrow nm bd ds n
  · rw [if_neg h4]
    by_cases h5 : kd = 5
    · subst h5; rw [if_pos rfl]; exact do_fuse h p c hrow nm bd ds n hn
    · rw [if_neg h5]
      by_cases h6 : kd = 6
      · subst h6; rw [if_pos rfl]; exact do_crash h p c hrow nm bd ds n hn0 hn
      · rw [if_neg h6]; exact do_files h p c hrow kd nm bd ds n (by simpa using h4) (by simpa using h5) (by simpa using h6) hnm hbd hds
end Go.Proofs.YtopigchjdegpeaaDoor
