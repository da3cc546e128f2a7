/-
  seglog: lay, replace, begin.
  seglog: replace, begin.
  seglog: load.
  seglog: Open.
-/
import Derived.Test.YtbhcmmglmkgjnaaGreatDoorGSegC
import Derived.StillTailTactics
import Derived.Lib.QuietBelow
namespace Go.Proofs.YtbhcmmglmkgjnaaGreatDoor
open Go.RowKit Go.Sort

/-- a file is made, and has its name -/
def LayS (s : DS) (body file : ByteArray) (s4 : DS) : Prop := ∃ s1 s2 s3, dropS s newB = (0, s1) ∧ appendS s1 newB body = (0, s2) ∧ syncS s2 newB = (0, s3) ∧ renameS s3 newB file = (0, s4)

set_option maxHeartbeats 2000000 in
set_option maxRecDepth 100000 in
theorem lay_any {a : Addr} {B D L g : Nat} {s : DS} {bl : List Nat} {base : ByteArray} {rv : Value} {en : Bool} (w : World) (h : LW a B D s bl L g base rv en w) (body file : ByteArray) (s4 : DS) (hs : LayS s body file s4)
    (hb1 : body.size ≤ 1000000) (hb2 : file.size ≤ 1000) :
    Calls Tryz.prog 59 #[.pointer (some ⟨L, 0, none⟩), .string body, .string file] w (Stays a B D L g base rv en 0 s4 bl w) := by
  obtain ⟨s1, s2, s3, h1, h2, h3, h4⟩ := hs
  have hfr := fresh_any w h.log
  have hd := drop_any w h newB s1 h1
  have HL := Lib.hid h
  have hns : newB.size ≤ 9223372036854775807 := by decide
  have E2 := Lib.hid h2
  have E3 := Lib.hid h3
  have E4 := Lib.hid h4
  clear h h1 h2 h3 h4
  go_enter Tryz.func59, Tryz.ntmps59
  go_wp2_with fail
  refine hfr.mono ?_
  rintro e w1 ⟨rfl, rfl⟩
  go_wp2_with fail
  refine hd.mono ?_
  rintro e w1 ⟨bl1, rfl, hl1, hf1⟩
  have c0 := hl1.log.c0
  have hap := dAppend hl1.sw.disk newB body a hl1.sw.pow hl1.sw.g1 hns (by omega)
  rw [E2.out] at hap
  have H1 := Lib.hid (And.intro hl1 hf1)
  clear hl1 hf1 hd hfr
  go_wp2_with fail
  refine hap.mono ?_
  rintro e w2 ⟨bl2, rfl, hd2, hf2⟩
  have hl2 := H1.out.1.step hd2 hf2
  have H2 := Lib.hid (And.intro hl2 (H1.out.2.tr hf2))
  clear hd2 hf2 hap c0 hl2
  have c0 := H2.out.1.log.c0
  have hsy := dSync H2.out.1.sw.disk newB a H2.out.1.sw.pow H2.out.1.sw.g1
  rw [E3.out] at hsy
  go_wp2_with fail
  refine hsy.mono ?_
  rintro e w3 ⟨bl3, rfl, hd3, hf3⟩
  have hl3 := H2.out.1.step hd3 hf3
  have H3 := Lib.hid (And.intro hl3 (H2.out.2.tr hf3))
  clear hd3 hf3 hsy c0 hl3
  have c0 := H3.out.1.log.c0
  have hrn := dRename H3.out.1.sw.disk newB file a H3.out.1.sw.pow H3.out.1.sw.g1 (by omega)
  rw [E4.out] at hrn
  go_wp2_with fail
  refine hrn.mono ?_
  rintro e w4 ⟨bl4, rfl, hd4, hf4⟩
  have hl4 := H3.out.1.step hd4 hf4
  have H4 := Lib.hid (And.intro hl4 (H3.out.2.tr hf4))
  clear hd4 hf4 hrn c0 hl4
  go_wp2_with fail
  go_ret
  exact ⟨bl4, rfl, H4.out⟩
end Go.Proofs.YtbhcmmglmkgjnaaGreatDoor

namespace Go.Proofs.YtbhcmmglmkgjnaaGreatDoor
open Go.RowKit Go.Sort

/-- the file of the generation ahead goes, if there is one -/
def AheadS (g : Nat) (s4 s5 : DS) : Prop := (g = 0 ∧ s5 = s4) ∨ (1 ≤ g ∧ dropS s4 (genB g) = (0, s5))

theorem genB_size {g : Nat} (hg : g < 12) : (genB g).size ≤ 1000 := by have := gen_size ⟨g, hg⟩; simp only at this; omega

set_option maxHeartbeats 2000000 in
set_option maxRecDepth 100000 in
theorem replace_any {a : Addr} {B D L g : Nat} {s : DS} {bl : List Nat} {base : ByteArray} {rv : Value} {en : Bool} (w : World) (h : LW a B D s bl L g base rv en w) (body base2 : ByteArray) (ra : Option Addr) (rn rc : Nat) (s4 s5 : DS) (hg : g + 1 < 12)
    (hs : LayS s body (genB (g + 1)) s4) (h5 : AheadS g s4 s5) (hb1 : body.size ≤ 1000000) :
    Calls Tryz.prog 33 #[.pointer (some ⟨L, 0, none⟩), .string body, .string base2, (.slice ra rn rc)] w (Turned a B D L (g + 1) base2 (.slice ra rn rc) en 0 s5 bl w) := by
  have c2 := h.log.c2
  have hfl := file_any w h.log h.sw.tab (g + 1) hg
  have e1 : ((g + 1 : Nat) : Int) = (g : Int) + 1 := rfl
  rw [e1] at hfl
  have HL := Lib.hid h
  have HS := Lib.hid hs
  have H5 := Lib.hid h5
  clear h hs h5
  go_enter Tryz.func33, Tryz.ntmps33
  go_wp2_with fail
  refine hfl.mono ?_
  rintro e w1 ⟨rfl, hb⟩
  have hly := lay_any w1 (HL.out.keep hb) body (genB (g + 1)) s4 HS.out hb1 (genB_size hg)
  have HB := Lib.hid hb
  clear hb hfl c2
  go_wp2_with fail
  refine hly.mono ?_
  rintro e w2 ⟨bl2, rfl, hl2, hf2⟩
  have c2 := hl2.log.c2
  have f2 := hl2.log.free 2
  have f3 : (w2.setCell ⟨L, 2, none⟩ (.int .i64 ((g : Int) + 1))).frozen? ⟨L, 3, none⟩ = false := (hl2.log.setGen (g + 1)).free 3
  have k3 := (hl2.log.setGen (g + 1)).c3
  have f4 : ((w2.setCell ⟨L, 2, none⟩ (.int .i64 ((g : Int) + 1))).setCell ⟨L, 3, none⟩ (.string base2)).frozen? ⟨L, 4, none⟩ = false := ((hl2.log.setGen (g + 1)).setBase base2).free 4
  have k4 := ((hl2.log.setGen (g + 1)).setBase base2).c4
  rw [e1] at k3 k4
  have hlF := ((hl2.set 2 (.int .i64 ((g : Int) + 1)) (hl2.log.setGen (g + 1))).set 3 (.string base2) ((hl2.log.setGen (g + 1)).setBase base2)).set 4 (.slice ra rn rc) (((hl2.log.setGen (g + 1)).setBase base2).setRecs (.slice ra rn rc))
  have hfF := (((Fr.of_below (bl := bl) HB.out).tr hf2).cons L).tr (((Fr.sets L bl2 2 (.int .i64 ((g : Int) + 1)) w2).tr (Fr.sets L bl2 3 (.string base2) _)).tr (Fr.sets L bl2 4 (.slice ra rn rc) _))
  have HF := Lib.hid (And.intro hlF hfF)
  clear hl2 hf2 hlF hfF hly
  rcases H5.out with ⟨h0, rfl⟩ | ⟨hg1, hdr⟩
  · have hne : ((g : Int) == 0) = true := by simp; omega
    clear h0
    go_wp2_with fail
    go_ret
    exact ⟨bl2, rfl, HF.out⟩
  · have hne : ((g : Int) == 0) = false := by simp; omega
    obtain ⟨w3, hw3⟩ : ∃ w3, ((w2.setCell ⟨L, 2, none⟩ (.int .i64 ((g : Int) + 1))).setCell ⟨L, 3, none⟩ (.string base2)).setCell ⟨L, 4, none⟩ (.slice ra rn rc) = w3 := ⟨_, rfl⟩
    rw [hw3] at HF
    have hfl2 := file_any w3 HF.out.1.log HF.out.1.sw.tab g (by omega)
    have HDR := Lib.hid hdr
    clear hdr
    go_wp2_with fail
    refine hfl2.mono ?_
    rintro e w4 ⟨rfl, hb4⟩
    have hdp := drop_any w4 (HF.out.1.keep hb4) (genB g) s5 HDR.out
    have HF4 := Lib.hid (HF.out.2.tr (Fr.of_below hb4))
    clear hb4 hfl2
    go_wp2_with fail
    refine hdp.mono ?_
    rintro e w5 ⟨bl5, rfl, hl5, hf5⟩
    have H5 := Lib.hid (And.intro hl5 (HF4.out.tr (hf5.cons L)))
    clear hl5 hf5 hdp
    go_wp2_with fail
    go_ret
    exact ⟨bl5, rfl, H5.out⟩

set_option maxHeartbeats 2000000 in
set_option maxRecDepth 100000 in
theorem begin_any {a : Addr} {B D L : Nat} {s : DS} {bl : List Nat} {base : ByteArray} {rv : Value} {en : Bool} (w : World) (h : LW a B D s bl L 0 base rv en w) (s4 : DS)
    (hs : LayS s (recB ⟨#[]⟩) (genB 1) s4) :
    Calls Tryz.prog 53 #[.pointer (some ⟨L, 0, none⟩)] w (Turned a B D L 1 ⟨#[]⟩ (.slice none 0 0) en 0 s4 bl w) := by
  have hp := fputC ⟨#[]⟩ (by decide) w
  have hsz : (recB ⟨#[]⟩).size ≤ 1000000 := by
    have h1 : (encT ⟨#[]⟩).length ≤ 65546 := encT_len ⟨#[]⟩ (by decide)
    show (recF ⟨#[]⟩).length ≤ _
    unfold recF
    rw [List.length_append, sumF_len]
    have : (ByteArray.mk #[]).size = 0 := rfl
    omega
  have HL := Lib.hid h
  have hlt := h.log.lt
  clear h
  go_enter Tryz.func53, Tryz.ntmps53
  go_wp2_with fail
  refine hp.mono ?_
  rintro e w1 ⟨rfl, hb⟩
  have hr := replace_any w1 (HL.out.keep hb) (recB ⟨#[]⟩) ⟨#[]⟩ none 0 0 s4 s4 (by decide) hs (.inl ⟨rfl, rfl⟩) hsz
  have HB := Lib.hid hb
  clear hp hb
  generalize recB ⟨#[]⟩ = R at *
  go_wp2_with fail
  refine hr.mono ?_
  rintro e w2 ⟨bl2, rfl, hl2, hf2⟩
  have H2 := Lib.hid (And.intro hl2 ((Fr.of_below HB.out).tr hf2))
  clear hl2 hf2 hr
  go_wp2_with fail
  go_ret
  exact ⟨bl2, rfl, H2.out⟩
end Go.Proofs.YtbhcmmglmkgjnaaGreatDoor

namespace Go.Proofs.YtbhcmmglmkgjnaaGreatDoor
open Go.RowKit Go.Sort

/-- what load leaves: the log has base t0 and records r -/
def Loaded (nw : Prop) (a : Addr) (B D L g : Nat) (t0 : ByteArray) (r : List ByteArray) (en : Bool) (s' : DS) (bl : List Nat) (w : World) (e : Ending) (w' : World) : Prop :=
  ∃ bl' ra cap, e = .returned (.int .i64 0) ∧ LW a B D s' bl' L g t0 (.slice ra r.length cap) en w' ∧ Fr (L :: bl) (L :: bl') w w' ∧ StrRow w' ra r ∧ (∀ b off, ra = some ⟨b, off, none⟩ → w.heap.size ≤ b ∧ b ∉ bl') ∧ r.length ≤ cap ∧ cap ≤ maxLen ∧ (nw → ra = none ∧ cap = 0)

set_option maxHeartbeats 2000000 in
set_option maxRecDepth 100000 in
theorem load_new {a : Addr} {B D L : Nat} {s : DS} {bl : List Nat} {base : ByteArray} {rv : Value} {en : Bool} (w : World) (h : LW a B D s bl L 0 base rv en w) (s4 : DS)
    (hs : LayS s (recB ⟨#[]⟩) (genB 1) s4) :
    Calls Tryz.prog 28 #[.pointer (some ⟨L, 0, none⟩)] w (Loaded True a B D L 1 ⟨#[]⟩ [] en s4 bl w) := by
  have c2 := h.log.c2
  have hb := begin_any w h s4 hs
  clear hs h
  go_enter Tryz.func28, Tryz.ntmps28
  go_wp2_with fail
  refine hb.mono ?_
  rintro e w2 ⟨bl2, rfl, hl2, hf2⟩
  have H2 := Lib.hid (And.intro hl2 hf2)
  clear hl2 hf2 hb c2
  go_wp2_with fail
  go_ret
  exact ⟨bl2, none, 0, rfl, H2.out.1, H2.out.2, .inl rfl, (fun b off e => by cases e), Nat.le_refl _, by unfold maxLen; omega, fun _ => ⟨rfl, rfl⟩⟩

theorem strRow_cons {w : World} {b off : Nat} {t : ByteArray} {r : List ByteArray} (h : StrRow w (some ⟨b, off, none⟩) (t :: r)) : b < w.heap.size ∧ w.cell? ⟨b, off, none⟩ = some (.string t) ∧ StrRow w (some ⟨b, off + 1, none⟩) r := by
  rcases h with h | ⟨b', off', he, hlt, hc⟩
  · cases h
  · cases he
    refine ⟨hlt, by simpa using hc 0 (by simp), .inr ⟨b, off + 1, rfl, hlt, fun j hj => ?_⟩⟩
    have := hc (j + 1) (by simp; omega)
    rw [show off + (j + 1) = off + 1 + j by omega] at this
    rw [this]; simp
theorem ownS_cons {B : Nat} {v : Value} {t : ByteArray} {r : List ByteArray} {w : World} (h : OwnS B v (t :: r) w) : ∃ b cap, v = .slice (some ⟨b, 0, none⟩) (r.length + 1) cap ∧ B ≤ b ∧ b < w.heap.size ∧ w.cell? ⟨b, 0, none⟩ = some (.string t) ∧ StrRow w (some ⟨b, 1, none⟩) r ∧ r.length + 1 ≤ cap ∧ cap ≤ maxLen := by
  have h' := h
  rcases h.2 with ⟨_, h0⟩ | ⟨b, cap, cur, rfl, hB, hh, hn, hm, _⟩
  · simp at h0
  · obtain ⟨ra, cap', e, hrow, hmx⟩ := ownS_row h'
    cases e
    obtain ⟨h1, h2, h3⟩ := strRow_cons hrow
    exact ⟨b, cap, rfl, hB, h1, h2, h3, hn, hm⟩

theorem tail_slice (W : World) (b n cap : Nat) :
    (Instr.slice 40 (.slice (some ⟨b, 0, none⟩) (n + 1) cap) (some (.int .i64 1)) none none).run Tryz.prog W = .ok (.slice (some (if cap = 1 then ⟨b, 0, none⟩ else ⟨b, 1, none⟩)) n (cap - 1)) W := by
  have ht := Tryz.underlying40
  have ht' : Tryz.prog.underlying 40 = some (.slice (Tryz.prog.elem 40)) := by simp [Program.elem, ht]
  have he : Tryz.prog.elem 40 = 9 := by simp [Program.elem, ht]
  rw [run_slice_l W _ _ _ _ ht' .i64 _ (by omega) (by omega), he, Tryz.sizeOf9]
  by_cases h0 : cap = 1
  · simp [Result.andThen, sliced, h0]
  · simp [Result.andThen, sliced, Addr.add, h0]

set_option maxHeartbeats 4000000 in
set_option maxRecDepth 100000 in
theorem load_any {a : Addr} {B D L g : Nat} {s : DS} {bl : List Nat} {base : ByteArray} {rv : Value} {en : Bool} (w : World) (h : LW a B D s bl L g base rv en w) (hg1 : 1 ≤ g) (hg : g + 1 < 12) (body : ByteArray) (hrd : readD s (genB g) = (body, 0)) (hsz : body.size ≤ 65536)
    (t0 : ByteArray) (r : List ByteArray) (n : Nat) (hf : fallS body = (t0 :: r, n)) (G' : Nat) (s5 : DS)
    (hcase : (n = body.size ∧ G' = g ∧ s5 = s) ∨ (n < body.size ∧ G' = g + 1 ∧ ∃ s4, LayS s (body.extract 0 n) (genB (g + 1)) s4 ∧ AheadS g s4 s5)) :
    Calls Tryz.prog 28 #[.pointer (some ⟨L, 0, none⟩)] w (Loaded False a B D L G' t0 r en s5 bl w) := by
  have c2 := h.log.c2
  have c0 := h.log.c0
  have HL := Lib.hid h
  have hne : ((g : Int) == 0) = false := by simp; omega
  have r2 := fun d os => cell_regrown c2 d os
  have r0 := fun d os => cell_regrown c0 d os
  have hk := fun d os => h.keep (below_regrown w d os)
  have cF := fun d os => Calls.regrown_of (file_any (grow (redrawn w d) os) (hk d os).log (hk d os).sw.tab g (by omega))
  have hr := fun d os => dRead (hk d os).sw.disk (genB g)
  rw [hrd] at hr
  have cR := fun d os => Calls.regrown_of (hr d os)
  have hall := fun W => fallC body W (by omega)
  rw [hf] at hall
  have HALL := Lib.hid hall
  have HCF := Lib.hid cF
  have HCR := Lib.hid cR
  have HCASE := Lib.hid hcase
  have hlt := h.log.lt
  clear h hrd hf cF cR hr hall hk hcase
  generalize hgb : genB g = gb at HCF HCR
  clear hgb
  go_enter Tryz.func28, Tryz.ntmps28
  go_upto_region 3 with fail
  clear c0 c2
  refine wp_region_quiet_below (by kernel_rfl) (by kernel_rfl) ?_
  repeat (first | go_big_quiet_step (first | (go_at_call 31; with_reducible exact HCF.out _ _) | (go_at_call 54; with_reducible exact HCR.out _ _)) | quiet_step (first | (go_at_call 31; with_reducible exact HCF.out _ _) | (go_at_call 54; with_reducible exact HCR.out _ _)))
  refine wpQuiet_nil ?_
  intro _ hw'
  obtain ⟨⟨dq, osq⟩, hw''⟩ := hw'
  subst hw''
  have hb9 := below_regrown w dq osq
  generalize grow (redrawn w dq) osq = W at *
  have HB9 := Lib.hid hb9
  have H9 := Lib.hid (HL.out.keep hb9)
  clear HCF HCR r2 r0 hb9
  go_wp2_with fail
  refine (HALL.out _).mono ?_
  rintro e w2 ⟨v, rfl, hown, hb2⟩
  simp only at hown ⊢
  obtain ⟨b, cap, rfl, hB, hbl, hc0, hrow, hcap, hmax⟩ := ownS_cons hown
  have H2 := Lib.hid (H9.out.keep hb2)
  have HB2 := Lib.hid (HB9.out.trans (hb2.mono HB9.out.size))
  have HROW := Lib.hid hrow
  have hWs := HB9.out.size
  have hbL : b ≠ L := by omega
  have hbo : b ∉ bl := fun hin => by have := (HL.out.sw.disk.lt b hin).2; omega
  clear hown hb2 hrow HALL
  have hsl := fun W => tail_slice W b r.length cap
  have hra : StrRow w2 (some (if cap = 1 then ⟨b, 0, none⟩ else ⟨b, 1, none⟩)) r ∧ ∀ c o, some (if cap = 1 then (⟨b, 0, none⟩ : Addr) else ⟨b, 1, none⟩) = some ⟨c, o, none⟩ → c = b := by
    by_cases h1 : cap = 1
    · refine ⟨.inl (List.length_eq_zero_iff.1 (by omega)), ?_⟩
      rw [if_pos h1]; intro c o e; cases e; rfl
    · rw [if_neg h1]
      refine ⟨HROW.out, ?_⟩
      intro c o e; cases e; rfl
  have HRA := Lib.hid hra
  obtain ⟨r2, hr2⟩ : ∃ r2 : Addr, (if cap = 1 then (⟨b, 0, none⟩ : Addr) else ⟨b, 1, none⟩) = r2 := ⟨_, rfl⟩
  rw [hr2] at hsl HRA
  clear hr2 hra HROW
  rcases HCASE.out with ⟨rfl, rfl, rfl⟩ | ⟨hnl, rfl, s4, hlay, hah⟩
  · clear HCASE
    have f3 := H2.out.log.free 3
    have k3 := H2.out.log.c3
    have f4 := H2.out.log.free 4
    have k4 := H2.out.log.c4
    have hlF := (H2.out.set 3 (.string t0) (H2.out.log.setBase t0)).set 4 (.slice (some r2) r.length (cap - 1)) ((H2.out.log.setBase t0).setRecs (.slice (some r2) r.length (cap - 1)))
    have hfF := ((Fr.of_below (bl := L :: bl) HB2.out).tr (Fr.sets L bl 3 (.string t0) _)).tr (Fr.sets L bl 4 (.slice (some r2) r.length (cap - 1)) _)
    have hrF := strRow_fr (strRow_fr HRA.out.1 (Fr.set L 3 (.string t0) w2) (fun c o e => by have := HRA.out.2 c o e; subst this; simpa using hbL)) (Fr.set L 4 (.slice (some r2) r.length (cap - 1)) _) (fun c o e => by have := HRA.out.2 c o e; subst this; simpa using hbL)
    have HF := Lib.hid (And.intro (hlF.keep (Below.refl _ _).drew) (And.intro (hfF.tr (Fr.of_below (Below.refl _ _).drew)) (hrF.below (Below.refl _ _).drew)))
    clear hlF hfF hrF
    go_wp2_with fail
    go_region
    go_wp2_with fail
    go_ret
    exact ⟨bl, some r2, cap - 1, rfl, HF.out.1, HF.out.2.1, HF.out.2.2, fun c o e => by have := HRA.out.2 c o e; subst this; exact ⟨by omega, hbo⟩, by omega, by omega, False.elim⟩
  · have hd : decide ((n : Int) < (body.size : Int)) = true := by simp; omega
    have hnI : (n : Int) ≤ (body.size : Int) := by omega
    clear HCASE
    go_wp2_with fail
    have hcd : w2.drew.cell? ⟨b, 0, none⟩ = some (.string t0) := hc0
    refine wp_region_still_tail 9 (by kernel_rfl) (by kernel_rfl) ?_
    simp only [List.take_succ_cons, List.take_zero, List.drop_succ_cons, List.drop_zero]
    change wpStill _ _ w2.drew _ _ _
    repeat still_step
    refine wpStill_nil ?_
    change wpList _ _ _ _ _ w2.drew
    have hl2 := H2.out.keep (Below.refl _ w2).drew
    have hrp := replace_any w2.drew hl2 (body.extract 0 n) t0 (some r2) r.length (cap - 1) s4 s5 hg hlay hah (by rw [ByteArray.size_extract]; omega)
    have HRP := Lib.hid hrp
    clear hl2 hrp hlay hah
    go_wp2_with fail
    refine HRP.out.mono ?_
    rintro e w3 ⟨bl3, rfl, hl3, hf3⟩
    have H3 := Lib.hid (And.intro hl3 ((Fr.of_below (bl := L :: bl) (HB2.out.trans ((Below.refl _ w2).drew.mono HB2.out.size))).tr hf3))
    have HR3 := Lib.hid (And.intro (strRow_fr (HRA.out.1.below (Below.refl _ w2).drew) hf3 (fun c o e => by
      have := HRA.out.2 c o e
      subst this
      simp only [List.mem_cons, not_or]
      exact ⟨hbL, hbo⟩)) (fun c o (e : some r2 = some ⟨c, o, none⟩) => (by
      have := HRA.out.2 c o e
      subst this
      refine ⟨by omega, fun hin => ?_⟩
      exact hf3.out hbl (by simp only [List.mem_cons, not_or]; exact ⟨hbL, hbo⟩) (List.mem_cons_of_mem _ hin) : w.heap.size ≤ c ∧ c ∉ bl3)))
    clear hl3 hf3
    go_wp2_with fail
    go_ret
    exact ⟨bl3, some r2, cap - 1, rfl, H3.out.1, H3.out.2, HR3.out.1, HR3.out.2, by omega, by omega, False.elim⟩
end Go.Proofs.YtbhcmmglmkgjnaaGreatDoor

namespace Go.Proofs.YtbhcmmglmkgjnaaGreatDoor
open Go.RowKit Go.Sort

/-- what Open makes of a disk: generation G, base t0, records r, the disk s5 -/
def OpenS (s : DS) (G : Nat) (t0 : ByteArray) (r : List ByteArray) (s5 : DS) : Prop :=
  ∃ (names : List ByteArray) (s1 : DS) (G0 : Nat), listD s dashB = names ∧ names.length ≤ 2000 ∧ (∀ n ∈ names, ∃ g, 1 ≤ g ∧ g < 12 ∧ n = genB g) ∧ G0 + 1 < 12 ∧
    ((names.filter (wholeS s) = [] ∧ G0 = 0) ∨ ((names.filter (wholeS s)).getLast? = some (genB G0) ∧ 1 ≤ G0)) ∧ eachS s ((names.filter fun n => decide (n ≠ genB G0)) ++ [newB]) = (0, s1) ∧
    ((G0 = 0 ∧ G = 1 ∧ t0 = ⟨#[]⟩ ∧ r = [] ∧ LayS s1 (recB ⟨#[]⟩) (genB 1) s5) ∨
     (1 ≤ G0 ∧ ∃ body n, readD s1 (genB G0) = (body, 0) ∧ body.size ≤ 65536 ∧ fallS body = (t0 :: r, n) ∧
       ((n = body.size ∧ G = G0 ∧ s5 = s1) ∨ (n < body.size ∧ G = G0 + 1 ∧ ∃ s4, LayS s1 (body.extract 0 n) (genB (G0 + 1)) s4 ∧ AheadS G0 s4 s5))))

/-- a log that Open has made -/
def Opened (nw : Prop) (a : Addr) (B D G : Nat) (t0 : ByteArray) (r : List ByteArray) (s' : DS) (bl : List Nat) (w : World) (e : Ending) (w' : World) : Prop :=
  ∃ L bl' ra cap, e = .returned (.tuple #[.pointer (some ⟨L, 0, none⟩), .int .i64 0]) ∧ w.heap.size ≤ L ∧ LW a B D s' bl' L G t0 (.slice ra r.length cap) false w' ∧ Fr bl bl' w w' ∧ StrRow w' ra r ∧
    (∀ b off, ra = some ⟨b, off, none⟩ → w.heap.size ≤ b ∧ b ∉ bl') ∧ r.length ≤ cap ∧ cap ≤ maxLen ∧ (nw → ra = none ∧ cap = 0)

theorem fr_made {bl bl' : List Nat} {w w' : World} {o : Obj} (h : Fr (w.heap.size :: bl) (w.heap.size :: bl') (w.alloc o) w') : Fr bl bl' w w' :=
  ⟨h.os, h.tape, h.output, by have := h.size; simp at this; omega, fun k hk hn => by
    rw [h.block k (by simp; omega) (by simp only [List.mem_cons, not_or]; exact ⟨by omega, hn⟩)]
    exact Below.heap_alloc w _ k hk, fun k hk => by
    rcases h.fresh k (List.mem_cons_of_mem _ hk) with h1 | h1
    · rcases List.mem_cons.1 h1 with rfl | h2
      · exact .inr (Nat.le_refl _)
      · exact .inl h2
    · simp at h1; right; omega⟩

set_option maxHeartbeats 2000000 in
set_option maxRecDepth 100000 in
theorem open_any {a : Addr} {B D : Nat} {s : DS} {bl : List Nat} (w : World) (h : SW a B D s bl w) (hoff : s.off = false) (hroom : s.room ≤ 65536) (G : Nat) (t0 : ByteArray) (r : List ByteArray) (s5 : DS) (ho : OpenS s G t0 r s5) :
    Calls Tryz.prog 9 #[.pointer (some ⟨D, 0, none⟩), .string logB] w (Opened (s.l = []) a B D G t0 r s5 bl w) := by
  obtain ⟨names, s1, G0, h1, h2, h3, h4, h5, h6, h7⟩ := ho
  have hof := dOff h.disk
  rw [hoff] at hof
  have hin := isName_log w
  obtain ⟨W, hW⟩ : ∃ W, w.alloc (.cells #[.pointer (some ⟨D, 0, none⟩), .string logB, .int .i64 0, .string ⟨#[]⟩, .slice none 0 0, .bool false] 58) = W := ⟨_, rfl⟩
  have hWb : Below w.heap.size w W := by rw [← hW]; exact (Below.refl _ _).alloc (Nat.le_refl _) _
  have hl : LW a B D s bl w.heap.size 0 ⟨#[]⟩ (.slice none 0 0) false W := ⟨h.keep hWb, by rw [← hW]; exact heap_alloc_new w _, fun hk => by have := (h.disk.lt _ hk).2; omega, h.size⟩
  have hch := choose_any W hl hroom names h1 h2 h3 G0 (by omega) h5 s1 h6
  have hnw : 1 ≤ G0 → s.l = [] → False := fun hg he => by
    have hz : names = [] := by rw [← h1]; unfold listD; rw [hoff, he]; rfl
    rcases h5 with ⟨_, h5⟩ | ⟨h5, _⟩
    · omega
    · rw [hz] at h5; cases h5
  have HNW := Lib.hid hnw
  have HCH := Lib.hid hch
  have H7 := Lib.hid h7
  have HW := Lib.hid hW
  clear hnw h hl hch h7 h5 h6 h1 h2 h3 hW
  go_enter Tryz.func9, Tryz.ntmps9
  go_wp2_with fail
  refine hof.mono ?_
  rintro e w1 ⟨rfl, rfl⟩
  clear hof
  go_wp2_with fail
  refine hin.mono ?_
  rintro e w1 ⟨rfl, rfl⟩
  clear hin
  go_wp2_with fail
  rw [HW.out]
  refine HCH.out.mono ?_
  rintro e w1 ⟨bl1, rfl, hl1, hf1⟩
  have hload : Calls Tryz.prog 28 #[.pointer (some ⟨w.heap.size, 0, none⟩)] w1 (Loaded (s.l = []) a B D w.heap.size G t0 r false s5 bl1 w1) := by
    rcases H7.out with ⟨rfl, rfl, rfl, rfl, hly⟩ | ⟨hg1, body, n, hr, hsz, hfl, hcase⟩
    · refine (load_new w1 hl1 s5 hly).mono ?_
      rintro e w2 ⟨bl2, ra, cap, h1, h2, h3, h4, h5, h6, h7, h8⟩
      exact ⟨bl2, ra, cap, h1, h2, h3, h4, h5, h6, h7, fun _ => h8 trivial⟩
    · refine (load_any w1 hl1 hg1 h4 body hr hsz t0 r n hfl G s5 hcase).mono ?_
      rintro e w2 ⟨bl2, ra, cap, h1, h2, h3, h4, h5, h6, h7, h8⟩
      exact ⟨bl2, ra, cap, h1, h2, h3, h4, h5, h6, h7, fun he => (HNW.out hg1 he).elim⟩
  have HLOAD := Lib.hid hload
  have hls : w.heap.size < w1.heap.size := hl1.log.lt
  have H1 := Lib.hid hf1
  clear hl1 hf1 hload HCH H7
  go_wp2_with fail
  refine HLOAD.out.mono ?_
  rintro e w2 ⟨bl2, ra, cap, rfl, hl2, hf2, hrow, hra, hc1, hc2, hc3⟩
  have hfin : Fr bl bl2 w w2 := fr_made (by rw [HW.out]; exact H1.out.tr hf2)
  have HFIN := Lib.hid (show Opened (s.l = []) a B D G t0 r s5 bl w (.returned (.tuple #[.pointer (some ⟨w.heap.size, 0, none⟩), .int .i64 0])) w2 from
    ⟨w.heap.size, bl2, ra, cap, rfl, Nat.le_refl _, hl2, hfin, hrow, fun b off e => ⟨by have := (hra b off e).1; omega, (hra b off e).2⟩, hc1, hc2, hc3⟩)
  clear hl2 hf2 hrow hra hc1 hc2 hc3 hfin HLOAD
  go_wp2_with fail
  go_ret2
  exact HFIN.out

set_option maxHeartbeats 2000000 in
set_option maxRecDepth 100000 in
theorem open_Log {a : Addr} {B D : Nat} {s : DS} {bl : List Nat} (w : World) (h : SW a B D s bl w) (hoff : s.off = false) :
    Calls Tryz.prog 9 #[.pointer (some ⟨D, 0, none⟩), .string ⟨#[76, 111, 103]⟩] w fun e w' => e = .returned (.tuple #[.pointer none, .int .i64 14]) ∧ w = w' := by
  have hof := dOff h.disk
  rw [hoff] at hof
  have hin := isName_Log w
  clear h
  go_enter Tryz.func9, Tryz.ntmps9
  go_wp2_with fail
  refine hof.mono ?_
  rintro e w1 ⟨rfl, rfl⟩
  clear hof
  go_wp2_with fail
  refine hin.mono ?_
  rintro e w1 ⟨rfl, rfl⟩
  clear hin
  go_wp2_with fail
  go_ret2
  exact ⟨rfl, rfl⟩
end Go.Proofs.YtbhcmmglmkgjnaaGreatDoor
