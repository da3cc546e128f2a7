/-
  disk: each call, of a disk that is in a state.
-/
import Derived.Test.YtopigchjdegpeaaDoorDiskActs
namespace Go.Proofs.YtopigchjdegpeaaDoor
open Go.RowKit

/-- At D, from block B on, lies a disk in the state s; it has the blocks bl. -/
def Disk (B D : Nat) (s : DS) (bl : List Nat) (w : World) : Prop := Fit s ∧ ∃ m : MS, m.D = D ∧ m.abs = s ∧ m.blks = bl ∧ Lies B m w

/-- Of the blocks that were there only those of bl may have turned; bl' are of them, or new. -/
structure Fr (bl bl' : List Nat) (w w' : World) : Prop where
  os : w'.os = w.os
  tape : w'.tape = w.tape
  output : w'.output = w.output
  size : w.heap.size ≤ w'.heap.size
  block : ∀ k, k < w.heap.size → k ∉ bl → w'.heap[k]? = w.heap[k]?
  fresh : ∀ k ∈ bl', k ∈ bl ∨ w.heap.size ≤ k

theorem Fr.of {m m' : MS} {w w' : World} (h : Chg m m' w w') : Fr m.blks m'.blks w w' := ⟨h.os, h.tape, h.output, h.size, h.block, h.fresh⟩
theorem Fr.of_below {bl : List Nat} {w w' : World} (h : Below w.heap.size w w') : Fr bl bl w w' := ⟨h.os, h.tape, h.output, h.size, fun k hk _ => h.block k hk, fun _ h => .inl h⟩
theorem Fr.below {bl bl' : List Nat} {B : Nat} {w w' : World} (h : Fr bl bl' w w') (hB : ∀ k ∈ bl, B ≤ k) (hs : B ≤ w.heap.size) : Below B w w' :=
  ⟨h.os, h.tape, h.output, h.size, fun k hk => h.block k (by omega) (fun hb => by have := hB k hb; omega)⟩

theorem Disk.lt {B D : Nat} {s : DS} {bl : List Nat} {w : World} (h : Disk B D s bl w) : ∀ k ∈ bl, B ≤ k ∧ k < w.heap.size := by
  obtain ⟨_, m, _, _, rfl, hl⟩ := h
  exact hl.lt
theorem Disk.base {B D : Nat} {s : DS} {bl : List Nat} {w : World} (h : Disk B D s bl w) : B ≤ D ∧ D < w.heap.size := by
  obtain ⟨_, m, rfl, _, rfl, hl⟩ := h
  exact hl.lt m.D (by simp [MS.blks])
theorem Disk.fit {B D : Nat} {s : DS} {bl : List Nat} {w : World} (h : Disk B D s bl w) : Fit s := h.1
theorem Disk.keep {B D : Nat} {s : DS} {bl : List Nat} {w w' : World} (h : Disk B D s bl w) (hb : Below w.heap.size w w') : Disk B D s bl w' := by
  obtain ⟨hf, m, h1, h2, h3, hl⟩ := h
  exact ⟨hf, m, h1, h2, h3, hl.below hb⟩
theorem Disk.other {B D : Nat} {s : DS} {bl b1 b2 : List Nat} {w w' : World} (h : Disk B D s bl w) (hc : Fr b1 b2 w w') (hd : ∀ k ∈ bl, k ∉ b1) : Disk B D s bl w' ∧ ∀ k ∈ bl, k ∉ b2 := by
  have hlt := h.lt
  obtain ⟨hf, m, h1, h2, h3, hl⟩ := h
  refine ⟨⟨hf, m, h1, h2, h3, hl.kept fun k hk => hc.block k (hl.lt k hk).2 (hd k (by rw [← h3]; exact hk))⟩, fun k hk hk2 => ?_⟩
  rcases hc.fresh k hk2 with h | h
  · exact hd k hk h
  · have := (hlt k hk).2; omega
theorem Disk.le {B B' D : Nat} {s : DS} {bl : List Nat} {w : World} (h : Disk B D s bl w) (hB : B' ≤ B) : Disk B' D s bl w := by
  obtain ⟨hf, m, h1, h2, h3, hl⟩ := h
  exact ⟨hf, m, h1, h2, h3, hl.le hB⟩

/-- what an act leaves -/
def Acts (B D : Nat) (bl : List Nat) (r : Int × DS) (w : World) (e : Ending) (w' : World) : Prop := ∃ bl', e = .returned (.int .i64 r.1) ∧ Disk B D r.2 bl' w' ∧ Fr bl bl' w w'
/-- what a call leaves that answers nothing -/
def Turns (B D : Nat) (bl : List Nat) (s : DS) (w : World) (e : Ending) (w' : World) : Prop := ∃ bl', e = .returned (.tuple #[]) ∧ Disk B D s bl' w' ∧ Fr bl bl' w w'

theorem acts_of {B D : Nat} {m : MS} {r : Int × DS} {w w' : World} {e : Ending} (hD : m.D = D) (hf : Fit r.2) (h : Step B m r w e w') : Acts B D m.blks r w e w' := by
  obtain ⟨m', he, ha, hD', hl, hc⟩ := h
  exact ⟨m'.blks, he, ⟨hf, m', hD'.trans hD, ha, rfl, hl⟩, Fr.of hc⟩

def listD (s : DS) (p : ByteArray) : List ByteArray := if s.off then [] else (s.l.map (·.name)).filter (hasP p)

theorem dAppend {B D : Nat} {s : DS} {bl : List Nat} {w : World} (h : Disk B D s bl w) (n t : ByteArray) (a : Addr) (hp : Pow a w) (hg : 0 < B) (hsn : n.size ≤ 9223372036854775807) (hst : t.size ≤ 9223372036854775807) :
    Calls Tryd.prog 15 #[.pointer (some ⟨D, 0, none⟩), .string n, .string t] w (Acts B D bl (appendS s n t) w) := by
  obtain ⟨hf, m, rfl, rfl, rfl, hl⟩ := h
  exact (append_any m n t a w hl hf hp hg hsn hst).mono fun e w' => acts_of rfl (fit_append hf n t)
theorem dSync {B D : Nat} {s : DS} {bl : List Nat} {w : World} (h : Disk B D s bl w) (n : ByteArray) (a : Addr) (hp : Pow a w) (hg : 0 < B) :
    Calls Tryd.prog 16 #[.pointer (some ⟨D, 0, none⟩), .string n] w (Acts B D bl (syncS s n) w) := by
  obtain ⟨hf, m, rfl, rfl, rfl, hl⟩ := h
  exact (sync_any m n a w hl hf hp hg).mono fun e w' => acts_of rfl (fit_sync hf n)
theorem dRemove {B D : Nat} {s : DS} {bl : List Nat} {w : World} (h : Disk B D s bl w) (n : ByteArray) (a : Addr) (hp : Pow a w) (hg : 0 < B) :
    Calls Tryd.prog 23 #[.pointer (some ⟨D, 0, none⟩), .string n] w (Acts B D bl (removeS s n) w) := by
  obtain ⟨hf, m, rfl, rfl, rfl, hl⟩ := h
  exact (remove_any m n a w hl hf hp hg).mono fun e w' => acts_of rfl (fit_remove hf n)
theorem dRename {B D : Nat} {s : DS} {bl : List Nat} {w : World} (h : Disk B D s bl w) (n t : ByteArray) (a : Addr) (hp : Pow a w) (hg : 0 < B) (hst : t.size ≤ 9223372036854775807) :
    Calls Tryd.prog 20 #[.pointer (some ⟨D, 0, none⟩), .string n, .string t] w (Acts B D bl (renameS s n t) w) := by
  obtain ⟨hf, m, rfl, rfl, rfl, hl⟩ := h
  exact (rename_any m n t a w hl hf hp hg hst).mono fun e w' => acts_of rfl (fit_rename hf n t)

theorem readS_abs (m : MS) (b : ByteArray) : readS m b = readD m.abs b := by
  unfold readS readD
  rw [show m.abs.off = m.off from rfl, show m.abs.l = m.l.map FV.abs from rfl, ← pos_abs, List.getElem?_map]
  cases m.l[fpos m.l b]? <;> rfl
theorem listS_abs (m : MS) (p : ByteArray) : listS m p = listD m.abs p := by
  unfold listS listD namesOf
  rw [show m.abs.off = m.off from rfl, show m.abs.l = m.l.map FV.abs from rfl, List.map_map]
  rfl
theorem crash_abs (m : MS) (keep : Int) : (m.crash keep).abs = crashS m.abs keep := by
  unfold MS.crash crashS MS.abs
  simp only [List.map_map]
  congr 1

theorem dRead {B D : Nat} {s : DS} {bl : List Nat} {w : World} (h : Disk B D s bl w) (n : ByteArray) :
    Calls Tryd.prog 18 #[.pointer (some ⟨D, 0, none⟩), .string n] w fun e w' => e = .returned (.tuple #[.string (readD s n).1, .int .i64 (readD s n).2]) ∧ Below w.heap.size w w' := by
  obtain ⟨hf, m, rfl, rfl, rfl, hl⟩ := h
  rw [← readS_abs]
  exact read_any m n w hl (len_m hf) (rises_abs hf.rises n)
theorem dList {B D : Nat} {s : DS} {bl : List Nat} {w : World} (h : Disk B D s bl w) (p : ByteArray) :
    Calls Tryd.prog 13 #[.pointer (some ⟨D, 0, none⟩), .string p] w (ListPost (listD s p) w) := by
  obtain ⟨hf, m, rfl, rfl, rfl, hl⟩ := h
  rw [← listS_abs]
  exact list_any m p w hl (len_m hf)
theorem dOff {B D : Nat} {s : DS} {bl : List Nat} {w : World} (h : Disk B D s bl w) :
    Calls Tryd.prog 21 #[.pointer (some ⟨D, 0, none⟩)] w fun e w' => e = .returned (.bool s.off) ∧ w = w' := by
  obtain ⟨hf, m, rfl, rfl, rfl, hl⟩ := h
  exact off_any m w hl
theorem dUsed {B D : Nat} {s : DS} {bl : List Nat} {w : World} (h : Disk B D s bl w) :
    Calls Tryd.prog 22 #[.pointer (some ⟨D, 0, none⟩)] w fun e w' => e = .returned (.int .i64 (stotal s.l : Int)) ∧ Below w.heap.size w w' := by
  obtain ⟨hf, m, rfl, rfl, rfl, hl⟩ := h
  have := total_m hf
  rw [show stotal m.abs.l = total m.l from (total_abs m.l).symm]
  exact used_any m w hl (len_m hf) (by omega)
theorem dFuse {B D : Nat} {s : DS} {bl : List Nat} {w : World} (h : Disk B D s bl w) (n : Int) (hn : n ≤ 9223372036854775807) :
    Calls Tryd.prog 19 #[.pointer (some ⟨D, 0, none⟩), .int .i64 n] w (Turns B D bl (fuseS s n) w) := by
  obtain ⟨hf, m, rfl, rfl, rfl, hl⟩ := h
  refine (fuse_any m w n hl).mono ?_
  rintro e w' ⟨rfl, h1, h2⟩
  exact ⟨(m.fuse n).blks, rfl, ⟨fit_fuse hf hn, m.fuse n, rfl, rfl, rfl, h1⟩, Fr.of h2⟩
theorem dCrash {B D : Nat} {s : DS} {bl : List Nat} {w : World} (h : Disk B D s bl w) (k : Int) :
    Calls Tryd.prog 17 #[.pointer (some ⟨D, 0, none⟩), .int .i64 k] w (Turns B D bl (crashS s k) w) := by
  obtain ⟨hf, m, rfl, rfl, rfl, hl⟩ := h
  have ht := total_m hf
  refine (crash_any m k w hl (len_m hf) (by omega) (fun f hfm => hf.sure f.abs (List.mem_map_of_mem hfm))).mono ?_
  rintro e w' ⟨rfl, h1, h2⟩
  exact ⟨(m.crash k).blks, rfl, ⟨fit_crash hf k, m.crash k, rfl, crash_abs m k, rfl, h1⟩, Fr.of h2⟩
/-- what Copy and New leave -/
def Made (s : DS) (w : World) (D : Nat) (bl : List Nat) (w' : World) : Prop := Disk w.heap.size D s bl w' ∧ Below w.heap.size w w'
def CopyLeft (s : DS) (w : World) (e : Ending) (w' : World) : Prop := ∃ D bl, e = .returned (.pointer (some ⟨D, 0, none⟩)) ∧ Made s w D bl w'
theorem dCopy {B D : Nat} {s : DS} {bl : List Nat} {w : World} (h : Disk B D s bl w) :
    Calls Tryd.prog 9 #[.pointer (some ⟨D, 0, none⟩)] w (CopyLeft s w) := by
  obtain ⟨hf, m, rfl, rfl, rfl, hl⟩ := h
  have ht := total_m hf
  refine (copy_any m w hl (len_m hf) (by omega)).mono ?_
  rintro e w' ⟨m', rfl, h1, h2, h3, h4, h5, h6, h7⟩
  have he : m'.abs = m.abs := by unfold MS.abs; rw [h1, h2, h3, h4, h5]
  exact ⟨m'.D, m'.blks, rfl, ⟨hf, m', rfl, he, rfl, h6⟩, h7⟩
def NewLeft (room : Nat) (w : World) (e : Ending) (w' : World) : Prop := ∃ bl, e = .returned (.tuple #[.pointer (some ⟨w.heap.size, 0, none⟩), .int .i64 0]) ∧ Made (newS room) w w.heap.size bl w'
theorem dNew (room : Nat) (w : World) (hr : room ≤ 4194304) : Calls Tryd.prog 6 #[.int .i64 (room : Int)] w (NewLeft room w) := by
  refine (new_ok room w hr).mono ?_
  rintro e w' ⟨rfl, h1, h2⟩
  exact ⟨_, rfl, ⟨fit_new hr, newMS w.heap.size room, rfl, rfl, rfl, h1⟩, h2⟩
end Go.Proofs.YtopigchjdegpeaaDoor
