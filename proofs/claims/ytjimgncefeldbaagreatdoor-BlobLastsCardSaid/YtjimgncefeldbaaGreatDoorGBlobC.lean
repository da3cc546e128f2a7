/-
  blob: records, writable, write.
  blob: writable, write.
  blob: write.
-/
import Derived.Test.YtjimgncefeldbaaGreatDoorGBlobB
import Derived.Deep.RegionHeld3
import Derived.Deep.DeepCutAuto
import Derived.StillTailTactics
import Derived.Lib.QuietBelow
namespace Go.Proofs.YtjimgncefeldbaaGreatDoor
open Go.Shelf Go.RowKit Go.Sort Go.Maps

/-- records of these texts, one behind the other -/
def recsB (T : List ByteArray) : ByteArray := ⟨(encRecs T).toArray⟩
theorem recsB_size (T : List ByteArray) : (recsB T).size = (encRecs T).length := rfl
theorem recsB_list (T : List ByteArray) : (recsB T).data.toList = encRecs T := by simp [recsB]

theorem grown_of_below {w w' : World} (h : Below w.heap.size w w') : w.grownBy w' none := ⟨h.os, h.tape, h.output, h.size, fun k hk _ => h.block k hk⟩
theorem builder_below {T e : TypeId} {B b : Nat} {bs : List Value} {w w' : World} (h : Lib.IsBuilder T e B b bs w) (hb : Below w.heap.size w w') : Lib.IsBuilder T e B b bs w' := by
  have key : ∀ p, Lib.BuilderAt T e B b p bs w → Lib.BuilderAt T e B b p bs w' := fun p hp => by
    have hlt := hp.lt
    obtain ⟨hB, v, hbk, hown, hne⟩ := hp
    exact ⟨hB, v, (hb.block b hlt).trans hbk, hown.kept (grown_of_below hb) (by cases hv : v.ownBlock <;> simp), hne⟩
  exact h.imp (key _) (key _)
theorem builder_new (w : World) : Lib.IsBuilder 121 5 w.heap.size w.heap.size [] (w.alloc (.cells #[.pointer none, .slice none 0 0] 121)) :=
  .inl ⟨Nat.le_refl _, .slice none 0 0, heap_alloc_new w _, World.ownsRow_nil _ _ _ _, by simp [Value.ownBlock]⟩
theorem enc_take_succ (T : List ByteArray) {k : Nat} (hk : k < T.length) : encRecs (T.take (k + 1)) = encRecs (T.take k) ++ recF (T.getD k ByteArray.empty) := by
  rw [List.take_succ_eq_append_getElem hk, List.getD_eq_getElem?_getD, List.getElem?_eq_getElem hk, encRecs_snoc]; rfl
theorem enc_take_le (T : List ByteArray) (k : Nat) : (encRecs (T.take k)).length ≤ (encRecs T).length := by
  conv => rhs; rw [← List.take_append_drop k T, encRecs_app, List.length_append]
  omega

set_option maxHeartbeats 4000000 in
set_option maxRecDepth 100000 in
theorem records_any' (a : Option Addr) (cap : Nat) (T : List ByteArray) (w : World) (hrow : StrRow w a T) (hl : T.length ≤ 100000) (hsz : ∀ t ∈ T, t.size ≤ 65536) (htot : (encRecs T).length ≤ 1000000) :
    Calls Tryz.prog 62 #[.slice a T.length cap] w fun e w' => e = .returned (.tuple #[.string (recsB T), .int .i64 0]) ∧ Below w.heap.size w w' := by
  have HROW := Lib.hid hrow
  have HSZ := Lib.hid hsz
  have hb0 : Below w.heap.size w (w.alloc (.cells #[.pointer none, .slice none 0 0] 121)) := (Below.refl _ _).alloc (Nat.le_refl _) _
  have HB0 := Lib.hid hb0
  have HBN := Lib.hid (builder_new w)
  have HT := Lib.hid htot
  clear hrow hsz hb0 htot
  go_enter Tryz.func62, Tryz.ntmps62
  go_wp2_with fail
  go_loopw [11] (fun i wr => ∃ k : Nat, k ≤ T.length ∧ i = .int .i64 k ∧ Hid (Lib.IsBuilder 121 5 w.heap.size w.heap.size (Lib.byteCells (encRecs (T.take k))) wr ∧ Below w.heap.size w wr)) (fun i _ => T.length - (intOf i).toNat)
  case atStart => exact ⟨0, Nat.zero_le _, rfl, ⟨HBN.out, HB0.out⟩⟩
  case round =>
    rename_i wr
    obtain ⟨k, hk, rfl, hh⟩ := hrel
    by_cases hlt : k < T.length
    · obtain ⟨b, off, rfl, hlt', hc⟩ : ∃ b off, a = some ⟨b, off, none⟩ ∧ b < w.heap.size ∧ ∀ j, j < T.length → wr.cell? ⟨b, off + j, none⟩ = some (.string (T.getD j ByteArray.empty)) := by
        rcases HROW.out with h | ⟨b, off, rfl, h1, h2⟩
        · rw [h] at hlt; simp at hlt
        · exact ⟨b, off, rfl, h1, fun j hj => by rw [hh.out.2.cell (p := ⟨b, off + j, none⟩) h1]; exact h2 j hj⟩
      have hck := hc k hlt
      have hbs := hh.out.2.size
      have hbw : b < wr.heap.size := by omega
      have HP := Lib.hid (fputC _ (HSZ.out _ (getD_mem hlt)) wr)
      have HE := Lib.hid (enc_take_succ T hlt)
      have HLE := Lib.hid (enc_take_le T (k + 1))
      clear hc
      generalize T.getD k ByteArray.empty = x at *
      obtain ⟨R, hR⟩ : ∃ R, recB x = R := ⟨_, rfl⟩
      have HR := Lib.hid hR
      rw [hR] at HP
      clear hR
      go_wp2_with fail
      refine HP.out.mono ?_
      rintro e w2 ⟨rfl, hb2⟩
      have hbl := builder_below hh.out.1 hb2
      have HB2 := Lib.hid (hh.out.2.trans (hb2.mono hbs))
      have hRl : R.data.toList = recF x := by rw [← HR.out]; simp [recB]
      have hws := Any.Builder_WriteString bldW bldX w.heap.size w.heap.size (Lib.byteCells (encRecs (T.take k))) R w2 hbl (by
        have h1 := HE.out
        have h2 := congrArg List.length h1
        rw [List.length_append, ← hRl, ba_len] at h2
        have h3 := HLE.out
        have h4 := HT.out
        simp only [Lib.byteCells, List.length_map]
        omega) HB2.out.size
      have HWS := Lib.hid hws
      have HRL := Lib.hid hRl
      clear hb2 hbl hws hRl hck
      go_wp2_with fail
      refine HWS.out.mono ?_
      rintro e w3 ⟨rfl, hbl3, hb3⟩
      have H3 := Lib.hid (show Lib.IsBuilder 121 5 w.heap.size w.heap.size (Lib.byteCells (encRecs (T.take (k + 1)))) w3 ∧ Below w.heap.size w w3 from ⟨by
        rw [HE.out, ← HRL.out]
        right
        have e : Lib.byteCells (encRecs (T.take k) ++ R.data.toList) = Lib.byteCells (encRecs (T.take k)) ++ Lib.strCells R := by simp [Lib.byteCells, Lib.strCells]
        rw [e]; exact hbl3, HB2.out.trans hb3⟩)
      clear hbl3 hb3
      go_wp2_with fail
      go_roundw
      case rel => exact ⟨k + 1, by omega, by go_num, H3⟩
      case measure => simp [intOf]; omega
    · obtain rfl : k = T.length := by omega
      have hs := Any.Builder_String_any bldS bldX w.heap.size w.heap.size (encRecs (T.take T.length)) wr hh.out.1 hh.out.2.size
      rw [List.take_length] at hs
      have HS := Lib.hid hs
      have HB := Lib.hid hh.out.2
      clear hs hh
      go_wp2_with fail
      refine HS.out.mono ?_
      rintro e w2 ⟨rfl, hb2⟩
      have H2 := Lib.hid (HB.out.trans hb2)
      clear hb2
      go_wp2_with fail
      go_ret2
      exact ⟨rfl, H2.out⟩
end Go.Proofs.YtjimgncefeldbaaGreatDoor

namespace Go.Proofs.YtjimgncefeldbaaGreatDoor
open Go.Shelf Go.RowKit Go.Sort Go.Maps

/-- the number of the segment that is written to -/
def numS (seg : Nat) (zs : List Nat) (s : DS) : Nat := if zs = [] then 1 else if seg ≤ (readD s (genN blobB (lastN zs))).1.size then lastN zs + 1 else lastN zs

section
variable {a : Addr} {B D S seg m N vc : Nat} {s : DS} {bl : List Nat} {M : DU} {va : Option Addr} {zs : List Nat} {torn en : Bool}

set_option maxHeartbeats 4000000 in
set_option maxRecDepth 100000 in
theorem writable_any (w : World) (h : ST a B D s bl S seg m N M va vc zs false en w) (hz : zs.length ≤ 1000) (hl : lastN zs < 31) :
    Calls Tryz.prog 97 #[.pointer (some ⟨S, 0, none⟩)] w fun e w' => e = .returned (.int .i64 (numS seg zs s : Nat)) ∧ Below w.heap.size w w' := by
  have c0 := h.blk.c0
  have c1 := h.blk.c1
  have c2 := h.blk.c2
  have c3 := h.blk.c3
  have c5 := h.blk.c5
  have c6 := h.blk.c6
  have hlt := h.blk.lt
  have hw1 : IntKind.i64.wrap ((lastN zs : Int) + 1) = (lastN zs : Int) + 1 := by rw [IntKind.wrap_i64]; omega
  have H := Lib.hid h
  by_cases h0 : zs = []
  · have hnum : numS seg zs s = 1 := by unfold numS; rw [if_pos h0]
    have hla := last_any w h hz
    subst h0
    rw [hnum]
    clear h hnum
    go_enter Tryz.func97, Tryz.ntmps97
    go_wp2_with fail
    refine hla.mono ?_
    rintro e w1 ⟨rfl, hb⟩
    have HB := Lib.hid hb
    clear hb
    go_wp2_with fail
    go_ret
    exact ⟨rfl, HB.out⟩
  · have hpos : 0 < zs.length := List.length_pos_iff.2 h0
    have hne : ((zs.length : Int) == 0) = false := by simp; omega
    have hnum : numS seg zs s = if seg ≤ (readD s (genN blobB (lastN zs))).1.size then lastN zs + 1 else lastN zs := by unfold numS; rw [if_neg h0]
    obtain ⟨body, er, hrd⟩ : ∃ body er, readD s (genN blobB (lastN zs)) = (body, er) := ⟨_, _, rfl⟩
    rw [hrd] at hnum
    simp only at hnum
    have hk := fun d os => h.keep (below_regrown w d os)
    have r0 := fun d os => cell_regrown c0 d os
    have r1 := fun d os => cell_regrown c1 d os
    have r2 := fun d os => cell_regrown c2 d os
    have cL := fun d os => Calls.regrown_of (last_any (grow (redrawn w d) os) (hk d os) hz)
    have cF := fun d os => Calls.regrown_of (file_any D blobB blob_ok (grow (redrawn w d) os) (hk d os).sw.tab (by have := (hk d os).sw.g2; have := (hk d os).size; omega) (lastN zs) (by omega))
    have hr := fun d os => dRead (hk d os).sw.disk (genN blobB (lastN zs))
    rw [hrd] at hr
    have cR := fun d os => Calls.regrown_of (hr d os)
    have HNUM := Lib.hid hnum
    have HCL := Lib.hid cL
    have HCF := Lib.hid cF
    have HCR := Lib.hid cR
    clear hnum cL cF cR hr hk hrd h h0
    generalize hgb : genN blobB (lastN zs) = gb at HCF HCR
    clear hgb
    generalize blobB = nmB at *
    go_enter Tryz.func97, Tryz.ntmps97
    go_upto_region 3 with fail
    clear c0 c1 c2
    refine wp_region_quiet_below (by kernel_rfl) (by kernel_rfl) ?_
    repeat (first | go_big_quiet_step (first | (go_at_call 99; with_reducible exact HCL.out _ _) | (go_at_call 67; with_reducible exact HCF.out _ _) | (go_at_call 85; with_reducible exact HCR.out _ _)) | quiet_step (first | (go_at_call 99; with_reducible exact HCL.out _ _) | (go_at_call 67; with_reducible exact HCF.out _ _) | (go_at_call 85; with_reducible exact HCR.out _ _)))
    refine wpQuiet_nil ?_
    intro _ hw'
    obtain ⟨⟨dq, osq⟩, hw''⟩ := hw'
    subst hw''
    have hb9 := below_regrown w dq osq
    generalize grow (redrawn w dq) osq = W at *
    have HB9 := Lib.hid hb9
    have H9 := Lib.hid (H.out.keep hb9)
    clear HCL HCF HCR r0 r1 r2 hb9 c3 c5 c6
    have c3 := H9.out.blk.c3
    have hla := Lib.hid (last_any W H9.out hz)
    have hltW := H9.out.blk.lt
    by_cases hsz : seg ≤ body.size
    · rw [if_pos hsz] at HNUM
      have hd : decide ((seg : Int) ≤ (body.size : Int)) = true := by simp; omega
      go_wp2_with fail
      refine hla.out.mono ?_
      rintro e w2 ⟨rfl, hb2⟩
      have HB2 := Lib.hid (HB9.out.trans (hb2.mono HB9.out.size))
      clear hb2
      go_wp2_with fail
      go_ret
      exact ⟨by rw [HNUM.out]; rfl, HB2.out⟩
    · rw [if_neg hsz] at HNUM
      have hd : decide ((seg : Int) ≤ (body.size : Int)) = false := by simp; omega
      go_wp2_with fail
      refine hla.out.mono ?_
      rintro e w2 ⟨rfl, hb2⟩
      have HB2 := Lib.hid (HB9.out.trans (hb2.mono HB9.out.size))
      clear hb2
      go_wp2_with fail
      go_ret
      exact ⟨by rw [HNUM.out]; rfl, HB2.out⟩
end
end Go.Proofs.YtjimgncefeldbaaGreatDoor

namespace Go.Proofs.YtjimgncefeldbaaGreatDoor
open Go.Shelf Go.RowKit Go.Sort Go.Maps

/-- A store behind an error of its disk. -/
def Ended (a : Addr) (B D S seg m : Nat) (s' : DS) (al' : List Nat) (w' : World) : Prop := ∃ bl' N M va vc zs t e, al' = sal S m va bl' ∧ ST a B D s' bl' S seg m N M va vc zs t e w'
/-- what a call leaves that writes: the store as it is behind it, or at its end -/
def Wrote (a : Addr) (B D S seg m : Nat) (r : Int × DS) (N' : Nat) (M' : DU) (zs' : List Nat) (al : List Nat) (w : World) (e : Ending) (w' : World) : Prop :=
  ∃ al', e = .returned (.int .i64 r.1) ∧ Fr al al' w w' ∧ (r.1 = 0 → ∃ bl' va' vc', al' = sal S m va' bl' ∧ ST a B D r.2 bl' S seg m N' M' va' vc' zs' false false w') ∧ (r.1 ≠ 0 → Ended a B D S seg m r.2 al' w')
/-- the numbers of the segments, with that which was written to -/
def addN (zs : List Nat) (n : Nat) : List Nat := if lastN zs < n then zs ++ [n] else zs

theorem ownB_slice {va : Option Addr} {n vc : Nat} : (Value.slice va n vc).ownBlock = va.map (·.block) := by cases va <;> rfl
/-- the numbers' row has grown: where it lay, or in a new block -/
theorem ST.newSegs {a : Addr} {B D S seg m N vc : Nat} {s : DS} {bl : List Nat} {M : DU} {va : Option Addr} {zs : List Nat} {torn en : Bool} {w w6 : World} (h : ST a B D s bl S seg m N M va vc zs torn en w) {va' : Option Addr} {vc' : Nat} {zs' : List Nat}
    (hg : w.grownBy w6 (Value.slice va zs.length vc).ownBlock) (hown : OwnI B (.slice va' zs'.length vc') zs' w6)
    (hloc : (Value.slice va' zs'.length vc').ownBlock = (Value.slice va zs.length vc).ownBlock ∨ (Value.slice va' zs'.length vc').ownBlock = some w.heap.size) :
    StoC S D seg m va zs.length vc torn en w6 ∧ ST a B D s bl S seg m N M va' vc' zs' torn en (w6.setCell ⟨S, 5, none⟩ (.slice va' zs'.length vc')) ∧ Fr (sal S m va bl) (sal S m va' bl) w (w6.setCell ⟨S, 5, none⟩ (.slice va' zs'.length vc')) := by
  rw [ownB_slice, ownB_slice] at hloc
  rw [ownB_slice] at hg
  have hva : ∀ ad, va = some ad → ad.block ∉ bl ∧ ad.block ≠ S ∧ ad.block ≠ m ∧ B ≤ ad.block := fun ad e => by
    have h1 := h.lt ad.block (mem_sal.2 (.inr (.inr (.inl ⟨ad, e, rfl⟩))))
    rcases h.own.2 with ⟨e2, _⟩ | ⟨g, cap, cur, e2, _⟩
    · simp at e2; rw [e2.1] at e; cases e
    · simp at e2
      rw [e2.1] at e
      cases e
      obtain ⟨h2, h3, h4⟩ := h.vo g e2.1
      exact ⟨h2, h3, h4, h1.1⟩
  have hf : Fr (va.map (·.block)).toList (va.map (·.block)).toList w w6 :=
    ⟨hg.os, hg.tape, hg.output, hg.size, fun k hk hn => hg.block k hk (fun e => hn (by rw [← e]; simp)), fun k hk => .inl hk⟩
  have hin : ∀ k, k ∈ (va.map (·.block)).toList → ∃ ad, va = some ad ∧ k = ad.block := fun k hk => by
    cases va with
    | none => simp at hk
    | some ad => simp at hk; exact ⟨ad, rfl, hk⟩
  have hS : w6.heap[S]? = w.heap[S]? := hf.block S h.blk.lt (fun hk => by obtain ⟨ad, e1, e2⟩ := hin S hk; exact (hva ad e1).2.1 e2.symm)
  have hm : w6.heap[m]? = w.heap[m]? := hf.block m h.map.lt (fun hk => by obtain ⟨ad, e1, e2⟩ := hin m hk; exact (hva ad e1).2.2.1 e2.symm)
  have hblk := h.blk.of_block hS
  have hmap := h.map.of_block hm
  have hsw := h.sw.other hf (fun k hk => by obtain ⟨ad, e1, e2⟩ := hin k hk; rw [e2]; exact (hva ad e1).2.2.2) (fun k hk hk2 => by obtain ⟨ad, e1, e2⟩ := hin k hk2; exact (hva ad e1).1 (e2 ▸ hk))
  have hbw : Below B w w6 := hf.below (fun k hk => by obtain ⟨ad, e1, e2⟩ := hin k hk; rw [e2]; exact (hva ad e1).2.2.2) h.size
  have hsha := h.sha.kept hbw h.g3
  have hv' : ∀ ad, va' = some ad → (ad.block ∉ bl ∧ ad.block ≠ S ∧ ad.block ≠ m) ∧ ((∃ ad2, va = some ad2 ∧ ad.block = ad2.block) ∨ w.heap.size ≤ ad.block) := fun ad e => by
    subst e
    rcases hloc with e | e
    · cases va with
      | none => simp at e
      | some ad2 =>
        have e' : ad.block = ad2.block := by simpa using e
        have := hva ad2 rfl
        exact ⟨by rw [e']; exact ⟨this.1, this.2.1, this.2.2.1⟩, .inl ⟨ad2, rfl, e'⟩⟩
    · have e' : ad.block = w.heap.size := by simpa using e
      refine ⟨⟨fun hk => ?_, ?_, ?_⟩, .inr (by omega)⟩
      · have := (h.sw.disk.lt _ hk).2; omega
      · have := h.blk.lt; omega
      · have := h.map.lt; omega
  have hf5 := Fr.set S 5 (.slice va' zs'.length vc') w6
  have hne : ∀ k, k < w6.heap.size → k ≠ S → (w6.setCell ⟨S, 5, none⟩ (.slice va' zs'.length vc')).heap[k]? = w6.heap[k]? := fun k hk hn => hf5.block k hk (by simpa using hn)
  refine ⟨hblk, ⟨hsw.other hf5 (fun k hk => by simp at hk; subst hk; exact h.sb) (fun k hk e => by simp at e; subst e; exact h.so hk), hblk.setSegs va' zs'.length vc', hmap.of_block (hne m hmap.lt (Ne.symm h.sm)),
    hown.of_block (fun g e => hne g (by subst e; exact (ownI_lt hown).2) (hv' _ e).1.2.1), hsha.kept (hf5.below (B := B) (fun k hk => by simp at hk; subst hk; exact h.sb) hsw.size) h.g3, h.g3, h.sb, h.mb, h.so, h.mo, h.sm, fun g e => (hv' _ e).1⟩, ?_⟩
  refine ⟨hf5.os.trans hf.os, hf5.tape.trans hf.tape, hf5.output.trans hf.output, Nat.le_trans hf.size hf5.size, fun k hk hn => ?_, fun k hk => ?_⟩
  · have h1 : k ≠ S := fun e => hn (mem_sal.2 (.inl e))
    have h2 : k ∉ (va.map (·.block)).toList := fun hk2 => by obtain ⟨ad, e1, e2⟩ := hin k hk2; exact hn (mem_sal.2 (.inr (.inr (.inl ⟨ad, e1, e2⟩))))
    exact (hf5.block k (Nat.lt_of_lt_of_le hk hf.size) (by simpa using h1)).trans (hf.block k hk h2)
  · rcases mem_sal.1 hk with e | e | ⟨ad, e, e2⟩ | e
    · exact .inl (mem_sal.2 (.inl e))
    · exact .inl (mem_sal.2 (.inr (.inl e)))
    · rcases (hv' ad e).2 with ⟨ad2, e3, e4⟩ | e3
      · exact .inl (mem_sal.2 (.inr (.inr (.inl ⟨ad2, e3, e2.trans e4⟩))))
      · exact .inr (by omega)
    · exact .inl (mem_sal.2 (.inr (.inr (.inr e))))

section
variable {a : Addr} {B D S seg m N vc : Nat} {s : DS} {bl : List Nat} {M : DU} {va : Option Addr} {zs : List Nat} {torn en : Bool}

set_option maxHeartbeats 4000000 in
set_option maxRecDepth 100000 in
theorem write_any (w : World) (h : ST a B D s bl S seg m N M va vc zs false false w) (hz : zs.length ≤ 1000) (hl : lastN zs < 30) (ra : Option Addr) (cap : Nat) (T : List ByteArray) (hrow : StrRow w ra T) (htl : T.length ≤ 100000)
    (hsz : ∀ t ∈ T, t.size ≤ 65536) (htot : (encRecs T).length ≤ 1000000) :
    Calls Tryz.prog 58 #[.pointer (some ⟨S, 0, none⟩), .slice ra T.length cap] w
      (Wrote a B D S seg m (extendS s (genN blobB (numS seg zs s)) (recsB T)) N M (addN zs (numS seg zs s)) (sal S m va bl) w) := by
  obtain ⟨i0, hi, hz0, hz1, hz2⟩ := info_parts intInfo
  have HREC := Lib.hid (records_any' ra cap T w hrow htl hsz htot)
  have H := Lib.hid h
  have hns : numS seg zs s < 32 ∧ 1 ≤ numS seg zs s + 1 := by unfold numS; split <;> (try split) <;> omega
  obtain ⟨n, hn⟩ : ∃ n, numS seg zs s = n := ⟨_, rfl⟩
  have hwr := fun W (hW : ST a B D s bl S seg m N M va vc zs false false W) => writable_any W hW hz (by omega)
  rw [hn] at hwr hns
  rw [hn]
  have hfile := fun W (hW : ST a B D s bl S seg m N M va vc zs false false W) => file_any D blobB blob_ok W hW.sw.tab (by have := hW.sw.g2; have := hW.size; omega) n hns.1
  have hgs : (genN blobB n).size ≤ 1000 := by rw [genN_size blobB hns.1]; decide
  have hrs : (recsB T).size ≤ 1000000 := htot
  have hext := fun W (hW : ST a B D s bl S seg m N M va vc zs false false W) => extend_any W hW (genN blobB n) (recsB T) hgs hrs
  obtain ⟨r, s', hr⟩ : ∃ r s', extendS s (genN blobB n) (recsB T) = (r, s') := ⟨_, _, rfl⟩
  rw [hr] at hext
  rw [hr]
  have HWR := Lib.hid hwr
  have HFI := Lib.hid hfile
  have HEX := Lib.hid hext
  have hsn := hns.1
  clear hn hwr hfile hext hgs hrs hr hns h hrow hsz htot
  generalize genN blobB n = gb at *
  generalize recsB T = rb at *
  by_cases hr0 : r = 0
  case neg =>
    have hne : (r != 0) = true := by simp [hr0]
    go_enter Tryz.func58, Tryz.ntmps58
    go_wp2_with fail
    refine HREC.out.mono ?_
    rintro e w1 ⟨rfl, hb⟩
    have HB := Lib.hid hb
    have H1 := Lib.hid (H.out.keep hb)
    clear hb
    go_wp2_with fail
    refine (HWR.out _ H1.out).mono ?_
    rintro e w2 ⟨rfl, hb⟩
    have HB2 := Lib.hid (HB.out.trans (hb.mono HB.out.size))
    have H2 := Lib.hid (H1.out.keep hb)
    clear hb
    have c1 := H2.out.blk.c1
    have c2 := H2.out.blk.c2
    have hlt := H2.out.blk.lt
    have HF := Lib.hid (HFI.out _ H2.out)
    generalize hbb : blobB = nmB at c2 HF
    go_wp2_with fail
    refine HF.out.mono ?_
    rintro e w3 ⟨rfl, hb⟩
    have HB3 := Lib.hid (HB2.out.trans (hb.mono HB2.out.size))
    have H3 := Lib.hid (H2.out.keep hb)
    clear hb c1 c2
    go_wp2_with fail
    refine (HEX.out _ H3.out).mono ?_
    rintro e w4 ⟨bl4, rfl, hst, hfr⟩
    have H4 := Lib.hid (And.intro hst ((Fr.of_below HB3.out).tr hfr))
    clear hst hfr
    have HFL := Lib.hid (failed_any w4 H4.out.1 r)
    go_wp2_with fail
    refine HFL.out.mono ?_
    rintro e w5 ⟨rfl, hst, hfr⟩
    have H5 := Lib.hid (And.intro hst (H4.out.2.tr hfr))
    clear hst hfr
    go_wp2_with fail
    go_ret
    exact ⟨_, rfl, H5.out.2, fun e => absurd e hr0, fun _ => ⟨bl4, N, M, va, vc, zs, _, _, rfl, H5.out.1⟩⟩
  case pos =>
    subst hr0
    by_cases hgt : lastN zs < n
    case neg =>
      have hd : decide (lastN zs < n) = false := by simpa using hgt
      have ha : addN zs n = zs := by unfold addN; rw [if_neg hgt]
      have HA := Lib.hid ha
      clear ha hgt
      go_enter Tryz.func58, Tryz.ntmps58
      go_wp2_with fail
      refine HREC.out.mono ?_
      rintro e w1 ⟨rfl, hb⟩
      have HB := Lib.hid hb
      have H1 := Lib.hid (H.out.keep hb)
      clear hb
      go_wp2_with fail
      refine (HWR.out _ H1.out).mono ?_
      rintro e w2 ⟨rfl, hb⟩
      have HB2 := Lib.hid (HB.out.trans (hb.mono HB.out.size))
      have H2 := Lib.hid (H1.out.keep hb)
      clear hb
      have c1 := H2.out.blk.c1
      have c2 := H2.out.blk.c2
      have hlt := H2.out.blk.lt
      have HF := Lib.hid (HFI.out _ H2.out)
      generalize hbb : blobB = nmB at c2 HF
      go_wp2_with fail
      refine HF.out.mono ?_
      rintro e w3 ⟨rfl, hb⟩
      have HB3 := Lib.hid (HB2.out.trans (hb.mono HB2.out.size))
      have H3 := Lib.hid (H2.out.keep hb)
      clear hb c1 c2
      go_wp2_with fail
      refine (HEX.out _ H3.out).mono ?_
      rintro e w4 ⟨bl4, rfl, hst, hfr⟩
      have H4 := Lib.hid (And.intro hst ((Fr.of_below HB3.out).tr hfr))
      clear hst hfr
      have HLA := Lib.hid (last_any w4 H4.out.1 hz)
      go_wp2_with fail
      refine HLA.out.mono ?_
      rintro e w5 ⟨rfl, hb⟩
      have H5 := Lib.hid (And.intro (H4.out.1.keep hb) (H4.out.2.tr (Fr.of_below hb)))
      clear hb
      go_wp2_with fail
      go_ret
      exact ⟨_, rfl, H5.out.2, fun _ => ⟨bl4, va, vc, rfl, by rw [HA.out]; exact H5.out.1⟩, fun e => absurd rfl e⟩
    case pos =>
      have hd : decide (lastN zs < n) = true := by simpa using hgt
      have ha : addN zs n = zs ++ [n] := by unfold addN; rw [if_pos hgt]
      have HA := Lib.hid ha
      clear ha hgt
      go_enter Tryz.func58, Tryz.ntmps58
      go_wp2_with fail
      refine HREC.out.mono ?_
      rintro e w1 ⟨rfl, hb⟩
      have HB := Lib.hid hb
      have H1 := Lib.hid (H.out.keep hb)
      clear hb
      go_wp2_with fail
      refine (HWR.out _ H1.out).mono ?_
      rintro e w2 ⟨rfl, hb⟩
      have HB2 := Lib.hid (HB.out.trans (hb.mono HB.out.size))
      have H2 := Lib.hid (H1.out.keep hb)
      clear hb
      have c1 := H2.out.blk.c1
      have c2 := H2.out.blk.c2
      have hlt := H2.out.blk.lt
      have HF := Lib.hid (HFI.out _ H2.out)
      generalize hbb : blobB = nmB at c2 HF
      go_wp2_with fail
      refine HF.out.mono ?_
      rintro e w3 ⟨rfl, hb⟩
      have HB3 := Lib.hid (HB2.out.trans (hb.mono HB2.out.size))
      have H3 := Lib.hid (H2.out.keep hb)
      clear hb c1 c2
      go_wp2_with fail
      refine (HEX.out _ H3.out).mono ?_
      rintro e w4 ⟨bl4, rfl, hst, hfr⟩
      have H4 := Lib.hid (And.intro hst ((Fr.of_below HB3.out).tr hfr))
      clear hst hfr
      have HLA := Lib.hid (last_any w4 H4.out.1 hz)
      go_wp2_with fail
      refine HLA.out.mono ?_
      rintro e w5 ⟨rfl, hb⟩
      have H5 := Lib.hid (And.intro (H4.out.1.keep hb) (H4.out.2.tr (Fr.of_below hb)))
      clear hb
      have c5 := H5.out.1.blk.c5
      have hlt := H5.out.1.blk.lt
      have hown := H5.out.1.own
      have hB5 := H5.out.1.size
      unfold OwnI at hown
      go_wp2_with (at_builtin; refine wpList_append_own_at _ rfl _ _ 78 rfl B 3 i0 (.int .i64 0) 1 8 Tryz.underlying78 hi hz0 hz1 hz2 rfl (by decide) _ _ _ rfl (hown.alloc _) ⟨w5.heap.size, 0, none⟩ 1 1 [Value.int .i64 (n : Int)] rfl rfl ?c1 ?c2 ?c3 ?c4 ?c5 ?_)
      case c1 =>
        intro j u hj
        match j, hj with
        | 0, hj => simp at hj; subst hj; simp [Addr.add]
      case c2 => intro u hu; simp at hu; subst hu; rfl
      case c3 => unfold maxLen; omega
      case c4 => omega
      case c5 => simp; omega
      intro v' w6 hown6 hg6 _ hloc
      have hown7 : OwnI B v' (zs ++ [n]) w6 := by unfold OwnI; rw [List.length_append, List.map_append]; exact hown6
      obtain ⟨va', vc', rfl, -, -, -⟩ := ownI_row hown7
      have hb5 : Below w5.heap.size w5 (w5.alloc (.cells #[.int .i64 (n : Int)] 3)) := (Below.refl _ _).alloc (Nat.le_refl _) _
      obtain ⟨hblk6, hst6, hfr6⟩ := (H5.out.1.keep hb5).newSegs hg6 hown7 (hloc.imp id (fun e => e.trans (by simp)))
      have k5 := hblk6.c5
      have f5 := hblk6.free 5
      have hlt6 := hblk6.lt
      have k6 := hst6.blk.c6
      have f6 := hst6.blk.free 6
      have H6 := Lib.hid (And.intro (hst6.setTorn false) (((H5.out.2.tr (Fr.of_below hb5)).tr hfr6).tr (hst6.fr_set 6 (.bool false))))
      clear hb5 hblk6 hst6 hfr6 hown6 hown7 hg6 hloc hown c5
      generalize (zs ++ [n]).length = nl at *
      go_wp2_with fail
      go_ret
      exact ⟨_, rfl, H6.out.2, fun _ => ⟨bl4, va', vc', rfl, by rw [HA.out]; exact H6.out.1⟩, fun e => absurd rfl e⟩
end
end Go.Proofs.YtjimgncefeldbaaGreatDoor
