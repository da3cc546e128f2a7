/-
  seglog: load.
-/
import Derived.Test.YtjimgncefeldbaaGreatDoorSegRepl
import Derived.StillTailTactics
import Derived.Lib.QuietBelow
namespace Go.Proofs.YtjimgncefeldbaaGreatDoor
open Go.RowKit Go.Sort

/-- what load leaves: the log has base t0 and records r -/
def Loaded (nw : Prop) (a : Addr) (B D L g : Nat) (t0 : ByteArray) (r : List ByteArray) (en : Bool) (s' : DS) (bl : List Nat) (w : World) (e : Ending) (w' : World) : Prop :=
  ∃ bl' ra cap, e = .returned (.int .i64 0) ∧ LW a B D s' bl' L g t0 (.slice ra r.length cap) en w' ∧ Fr (L :: bl) (L :: bl') w w' ∧ StrRow w' ra r ∧ (∀ b off, ra = some ⟨b, off, none⟩ → w.heap.size ≤ b ∧ b ∉ bl') ∧ r.length ≤ cap ∧ cap ≤ maxLen ∧ (nw → ra = none ∧ cap = 0)

set_option maxHeartbeats 2000000 in
set_option maxRecDepth 100000 in
theorem load_new {a : Addr} {B D L : Nat} {s : DS} {bl : List Nat} {base : ByteArray} {rv : Value} {en : Bool} (w : World) (h : LW a B D s bl L 0 base rv en w) (s4 : DS)
    (hs : LayS s (recB ⟨#[]⟩) (genB 1) s4) :
    Calls Tryz.prog 43 #[.pointer (some ⟨L, 0, none⟩)] w (Loaded True a B D L 1 ⟨#[]⟩ [] en s4 bl w) := by
  have c3 := h.log.c3
  have hb := begin_any w h s4 hs
  clear hs h
  go_enter Tryz.func43, Tryz.ntmps43
  go_wp2_with fail
  refine hb.mono ?_
  rintro e w2 ⟨bl2, rfl, hl2, hf2⟩
  have H2 := Lib.hid (And.intro hl2 hf2)
  clear hl2 hf2 hb c3
  go_wp2_with fail
  go_ret
  exact ⟨bl2, none, 0, rfl, H2.out.1, H2.out.2, .inl rfl, (fun b off e => by cases e), Nat.le_refl _, by unfold maxLen; omega, fun _ => ⟨rfl, rfl⟩⟩

theorem strRow_cons {w : World} {b off : Nat} {t : ByteArray} {r : List ByteArray} (h : StrRow w (some ⟨b, off, none⟩) (t :: r)) : b < w.heap.size ∧ w.cell? ⟨b, off, none⟩ = some (.string t) ∧ StrRow w (some ⟨b, off + 1, none⟩) r := by
  rcases h with h | ⟨b', off', he, hlt, hc⟩
  · cases h
  · cases he
    refine ⟨hlt, by simpa using hc 0 (by simp), .inr ⟨b, off + 1, rfl, hlt, fun j hj => ?_⟩⟩
    have := hc (j + 1) (by simp; omega)
    rw [show off + (j + 1) = off + 1 + j by omega] at this
    rw [this]; simp
theorem ownS_cons {B : Nat} {v : Value} {t : ByteArray} {r : List ByteArray} {w : World} (h : OwnS B v (t :: r) w) : ∃ b cap, v = .slice (some ⟨b, 0, none⟩) (r.length + 1) cap ∧ B ≤ b ∧ b < w.heap.size ∧ w.cell? ⟨b, 0, none⟩ = some (.string t) ∧ StrRow w (some ⟨b, 1, none⟩) r ∧ r.length + 1 ≤ cap ∧ cap ≤ maxLen := by
  have h' := h
  rcases h.2 with ⟨_, h0⟩ | ⟨b, cap, cur, rfl, hB, hh, hn, hm, _⟩
  · simp at h0
  · obtain ⟨ra, cap', e, hrow, hmx⟩ := ownS_row h'
    cases e
    obtain ⟨h1, h2, h3⟩ := strRow_cons hrow
    exact ⟨b, cap, rfl, hB, h1, h2, h3, hn, hm⟩

theorem tail_slice (W : World) (b n cap : Nat) :
    (Instr.slice 40 (.slice (some ⟨b, 0, none⟩) (n + 1) cap) (some (.int .i64 1)) none none).run Tryz.prog W = .ok (.slice (some (if cap = 1 then ⟨b, 0, none⟩ else ⟨b, 1, none⟩)) n (cap - 1)) W := by
  have ht := Tryz.underlying40
  have ht' : Tryz.prog.underlying 40 = some (.slice (Tryz.prog.elem 40)) := by simp [Program.elem, ht]
  have he : Tryz.prog.elem 40 = 9 := by simp [Program.elem, ht]
  rw [run_slice_l W _ _ _ _ ht' .i64 _ (by omega) (by omega), he, Tryz.sizeOf9]
  by_cases h0 : cap = 1
  · simp [Result.andThen, sliced, h0]
  · simp [Result.andThen, sliced, Addr.add, h0]

set_option maxHeartbeats 4000000 in
set_option maxRecDepth 100000 in
theorem load_any {a : Addr} {B D L g : Nat} {s : DS} {bl : List Nat} {base : ByteArray} {rv : Value} {en : Bool} (w : World) (h : LW a B D s bl L g base rv en w) (hg1 : 1 ≤ g) (hg : g + 1 < 12) (body : ByteArray) (hrd : readD s (genB g) = (body, 0)) (hsz : body.size ≤ 65536)
    (t0 : ByteArray) (r : List ByteArray) (n : Nat) (hf : fallS body = (t0 :: r, n)) (G' : Nat) (s5 : DS)
    (hcase : (n = body.size ∧ G' = g ∧ s5 = s) ∨ (n < body.size ∧ G' = g + 1 ∧ ∃ s4, LayS s (body.extract 0 n) (genB (g + 1)) s4 ∧ AheadS g s4 s5)) :
    Calls Tryz.prog 43 #[.pointer (some ⟨L, 0, none⟩)] w (Loaded False a B D L G' t0 r en s5 bl w) := by
  have c3 := h.log.c3
  have c1 := h.log.c1
  have c2 := h.log.c2
  have c0 := h.log.c0
  have HL := Lib.hid h
  have hne : ((g : Int) == 0) = false := by simp; omega
  have r1 := fun d os => cell_regrown c1 d os
  have r2 := fun d os => cell_regrown c2 d os
  have r3 := fun d os => cell_regrown c3 d os
  have r0 := fun d os => cell_regrown c0 d os
  have hk := fun d os => h.keep (below_regrown w d os)
  have cF := fun d os => Calls.regrown_of (segFile D g (by omega) (grow (redrawn w d) os) (hk d os).sw.tab (by have := (hk d os).sw.size; have := (hk d os).sw.g2; omega))
  have hr := fun d os => dRead (hk d os).sw.disk (genB g)
  rw [hrd] at hr
  have cR := fun d os => Calls.regrown_of (hr d os)
  have hall := fun W => fallC body W (by omega)
  rw [hf] at hall
  have HALL := Lib.hid hall
  have HCF := Lib.hid cF
  have HCR := Lib.hid cR
  have HCASE := Lib.hid hcase
  have hlt := h.log.lt
  clear h hrd hf cF cR hr hall hk hcase
  generalize hgb : genB g = gb at HCF HCR
  clear hgb
  go_enter Tryz.func43, Tryz.ntmps43
  go_upto_region 3 with fail
  clear c0 c1 c2 c3
  refine wp_region_quiet_below (by kernel_rfl) (by kernel_rfl) ?_
  repeat (first | go_big_quiet_step (first | (go_at_call 67; with_reducible exact HCF.out _ _) | (go_at_call 85; with_reducible exact HCR.out _ _)) | quiet_step (first | (go_at_call 67; with_reducible exact HCF.out _ _) | (go_at_call 85; with_reducible exact HCR.out _ _)))
  refine wpQuiet_nil ?_
  intro _ hw'
  obtain ⟨⟨dq, osq⟩, hw''⟩ := hw'
  subst hw''
  have hb9 := below_regrown w dq osq
  generalize grow (redrawn w dq) osq = W at *
  have HB9 := Lib.hid hb9
  have H9 := Lib.hid (HL.out.keep hb9)
  clear HCF HCR r1 r2 r3 r0 hb9
  go_wp2_with fail
  refine (HALL.out _).mono ?_
  rintro e w2 ⟨v, rfl, hown, hb2⟩
  simp only at hown ⊢
  obtain ⟨b, cap, rfl, hB, hbl, hc0, hrow, hcap, hmax⟩ := ownS_cons hown
  have H2 := Lib.hid (H9.out.keep hb2)
  have HB2 := Lib.hid (HB9.out.trans (hb2.mono HB9.out.size))
  have HROW := Lib.hid hrow
  have hWs := HB9.out.size
  have hbL : b ≠ L := by omega
  have hbo : b ∉ bl := fun hin => by have := (HL.out.sw.disk.lt b hin).2; omega
  clear hown hb2 hrow HALL
  have hsl := fun W => tail_slice W b r.length cap
  have hra : StrRow w2 (some (if cap = 1 then ⟨b, 0, none⟩ else ⟨b, 1, none⟩)) r ∧ ∀ c o, some (if cap = 1 then (⟨b, 0, none⟩ : Addr) else ⟨b, 1, none⟩) = some ⟨c, o, none⟩ → c = b := by
    by_cases h1 : cap = 1
    · refine ⟨.inl (List.length_eq_zero_iff.1 (by omega)), ?_⟩
      rw [if_pos h1]; intro c o e; cases e; rfl
    · rw [if_neg h1]
      refine ⟨HROW.out, ?_⟩
      intro c o e; cases e; rfl
  have HRA := Lib.hid hra
  obtain ⟨r2, hr2⟩ : ∃ r2 : Addr, (if cap = 1 then (⟨b, 0, none⟩ : Addr) else ⟨b, 1, none⟩) = r2 := ⟨_, rfl⟩
  rw [hr2] at hsl HRA
  clear hr2 hra HROW
  rcases HCASE.out with ⟨rfl, rfl, rfl⟩ | ⟨hnl, rfl, s4, hlay, hah⟩
  · clear HCASE
    have f3 := H2.out.log.free 4
    have k3 := H2.out.log.c4
    have f4 := H2.out.log.free 5
    have k4 := H2.out.log.c5
    have hlF := (H2.out.set 4 (.string t0) (H2.out.log.setBase t0)).set 5 (.slice (some r2) r.length (cap - 1)) ((H2.out.log.setBase t0).setRecs (.slice (some r2) r.length (cap - 1)))
    have hfF := ((Fr.of_below (bl := L :: bl) HB2.out).tr (Fr.sets L bl 4 (.string t0) _)).tr (Fr.sets L bl 5 (.slice (some r2) r.length (cap - 1)) _)
    have hrF := strRow_fr (strRow_fr HRA.out.1 (Fr.set L 4 (.string t0) w2) (fun c o e => by have := HRA.out.2 c o e; subst this; simpa using hbL)) (Fr.set L 5 (.slice (some r2) r.length (cap - 1)) _) (fun c o e => by have := HRA.out.2 c o e; subst this; simpa using hbL)
    have HF := Lib.hid (And.intro (hlF.keep (Below.refl _ _).drew) (And.intro (hfF.tr (Fr.of_below (Below.refl _ _).drew)) (hrF.below (Below.refl _ _).drew)))
    clear hlF hfF hrF
    go_wp2_with fail
    go_region
    go_wp2_with fail
    go_ret
    exact ⟨bl, some r2, cap - 1, rfl, HF.out.1, HF.out.2.1, HF.out.2.2, fun c o e => by have := HRA.out.2 c o e; subst this; exact ⟨by omega, hbo⟩, by omega, by omega, False.elim⟩
  · have hd : decide ((n : Int) < (body.size : Int)) = true := by simp; omega
    have hnI : (n : Int) ≤ (body.size : Int) := by omega
    clear HCASE
    go_wp2_with fail
    have hcd : w2.drew.cell? ⟨b, 0, none⟩ = some (.string t0) := hc0
    refine wp_region_still_tail 9 (by kernel_rfl) (by kernel_rfl) ?_
    simp only [List.take_succ_cons, List.take_zero, List.drop_succ_cons, List.drop_zero]
    change wpStill _ _ w2.drew _ _ _
    repeat still_step
    refine wpStill_nil ?_
    change wpList _ _ _ _ _ w2.drew
    have hl2 := H2.out.keep (Below.refl _ w2).drew
    have hrp := replace_any w2.drew hl2 (body.extract 0 n) t0 (some r2) r.length (cap - 1) s4 s5 hg hlay hah (by rw [ByteArray.size_extract]; omega)
    have HRP := Lib.hid hrp
    clear hl2 hrp hlay hah
    go_wp2_with fail
    refine HRP.out.mono ?_
    rintro e w3 ⟨bl3, rfl, hl3, hf3⟩
    have H3 := Lib.hid (And.intro hl3 ((Fr.of_below (bl := L :: bl) (HB2.out.trans ((Below.refl _ w2).drew.mono HB2.out.size))).tr hf3))
    have HR3 := Lib.hid (And.intro (strRow_fr (HRA.out.1.below (Below.refl _ w2).drew) hf3 (fun c o e => by
      have := HRA.out.2 c o e
      subst this
      simp only [List.mem_cons, not_or]
      exact ⟨hbL, hbo⟩)) (fun c o (e : some r2 = some ⟨c, o, none⟩) => (by
      have := HRA.out.2 c o e
      subst this
      refine ⟨by omega, fun hin => ?_⟩
      exact hf3.out hbl (by simp only [List.mem_cons, not_or]; exact ⟨hbL, hbo⟩) (List.mem_cons_of_mem _ hin) : w.heap.size ≤ c ∧ c ∉ bl3)))
    clear hl3 hf3
    go_wp2_with fail
    go_ret
    exact ⟨bl3, some r2, cap - 1, rfl, H3.out.1, H3.out.2, HR3.out.1, HR3.out.2, by omega, by omega, False.elim⟩
end Go.Proofs.YtjimgncefeldbaaGreatDoor
