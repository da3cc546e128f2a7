/-
  disk: Crash.
  disk: slices.Clone of bytes and of files; Copy.
  Plain facts: what a disk is, and what each of its acts makes of it; the order of names.
  disk: what each act answers, and what is there behind it.
  disk: each call, of a disk that is in a state.
  Plain facts: files of a disk by their names.
-/
import Derived.Test.YtjimgncefeldbaaGreatDoorGDiskD
import Derived.Lib.SliceRun
import Derived.Test.YtjimgncefeldbaaGreatDoorDiskApp2
import Derived.Test.YtjimgncefeldbaaGreatDoorGDiskE
import Derived.Test.YtjimgncefeldbaaGreatDoorGDiskB
import Derived.Shelf.Abstract
namespace Go.Proofs.YtjimgncefeldbaaGreatDoor
open Go.RowKit

/-- so many bytes are kept -/
def keptN (keep : Int) (f : FV) : Nat := f.sure + (min (max keep 0) ((f.body.length : Int) - (f.sure : Int))).toNat
def cut (v : Value) (k : Nat) : Value := match v with | .slice p _ c => .slice p k c | v => v
/-- a file behind a crash -/
def crashF (keep : Int) (f : FV) : FV := { f with bv := cut f.bv (keptN keep f), body := f.body.take (keptN keep f), sure := keptN keep f }

theorem keptN_le {keep : Int} {f : FV} (h : f.sure ≤ f.body.length) : f.sure ≤ keptN keep f ∧ keptN keep f ≤ f.body.length := by unfold keptN; omega
theorem keptN_int {keep : Int} {f : FV} (h : f.sure ≤ f.body.length) : ((keptN keep f : Nat) : Int) = (f.sure : Int) + min (max keep 0) ((f.body.length : Int) - (f.sure : Int)) := by unfold keptN; omega

theorem OwnB.cut {B : Nat} {v : Value} {l : List UInt8} {w : World} (h : OwnB B v l w) (k : Nat) (hk : k ≤ l.length) : OwnB B (cut v k) (l.take k) w := by
  have hl : (l.take k).length = k := by simp; omega
  unfold OwnB
  rcases h.2 with ⟨rfl, h0⟩ | ⟨g, cap, cur, rfl, hb, hg, hnc, hcm, hcs, htake⟩
  · have : k = 0 := by omega
    subst this
    refine ⟨by simp [Lib.byteCells], .inl ⟨rfl, by simp⟩⟩
  · refine ⟨by simp [Lib.byteCells], .inr ⟨g, cap, cur, by rw [hl]; rfl, hb, hg, by omega, hcm, hcs, ?_⟩⟩
    rw [hl, show Lib.byteCells (l.take k) = (Lib.byteCells l).take k by simp [Lib.byteCells], ← htake, List.take_take]
    congr 1; omega

theorem OwnB.form2 {B : Nat} {v : Value} {l : List UInt8} {w : World} (h : OwnB B v l w) : ∃ p c, v = .slice p l.length c ∧ l.length ≤ c ∧ c ≤ maxLen ∧ (p = none ∨ ∃ g, p = some ⟨g, 0, none⟩) ∧ (p = none → l.length = 0 ∧ c = 0) := by
  rcases h.2 with ⟨hv, h0⟩ | ⟨g, cap, cur, hv, _, _, hnc, hcm, _⟩
  · exact ⟨none, 0, by rw [h0]; exact hv, by omega, by simp [maxLen], .inl rfl, fun _ => ⟨h0, rfl⟩⟩
  · exact ⟨_, _, hv, hnc, hcm, .inr ⟨g, rfl⟩, fun h => by cases h⟩

theorem cut_blk (v : Value) (k : Nat) : (cut v k).ownBlock = v.ownBlock := by
  cases v with
  | slice a l c => cases a <;> rfl
  | _ => rfl

/-- the disk of which k files have crashed -/
def MS.crashed (m : MS) (keep : Int) (k : Nat) : MS := { m with l := (m.l.take k).map (crashF keep) ++ m.l.drop k }

theorem crashed_at {m : MS} {keep : Int} {k : Nat} {f : FV} (hf : m.l[k]? = some f) : (m.crashed keep k).l[k]? = some f ∧ (m.crashed keep k).l.set k (crashF keep f) = (m.crashed keep (k + 1)).l := by
  have hk : k < m.l.length := (List.getElem?_eq_some_iff.1 hf).1
  have hl : ((m.l.take k).map (crashF keep)).length = k := by simp; omega
  have hd : m.l.drop k = f :: m.l.drop (k + 1) := by rw [List.drop_eq_getElem_cons hk, (List.getElem?_eq_some_iff.1 hf).2]
  unfold MS.crashed
  simp only
  refine ⟨by rw [List.getElem?_append_right (by omega), hl, hd]; simp, ?_⟩
  rw [List.set_append_right _ _ (by omega), hl, hd, Nat.sub_self, List.set_cons_zero, List.take_add_one, hf]
  simp

theorem Lies.crash1 {B : Nat} {m : MS} {w : World} {keep : Int} {k : Nat} {f : FV} {F n cap : Nat} (h : Lies B (m.crashed keep k) w) (hv : m.fv = .slice (some ⟨F, 0, none⟩) n cap) (hf : m.l[k]? = some f) (hs : f.sure ≤ f.body.length) :
    Lies B (m.crashed keep (k + 1)) ((w.setCell ⟨F, k * 3 + 2, none⟩ (.int .i64 (keptN keep f : Int))).setCell ⟨F, k * 3 + 1, none⟩ (cut f.bv (keptN keep f))) ∧
    Chg (m.crashed keep k) (m.crashed keep (k + 1)) w ((w.setCell ⟨F, k * 3 + 2, none⟩ (.int .i64 (keptN keep f : Int))).setCell ⟨F, k * 3 + 1, none⟩ (cut f.bv (keptN keep f))) := by
  obtain ⟨e1, e2⟩ := crashed_at (m := m) (keep := keep) hf
  have hk : k < (m.crashed keep k).l.length := (List.getElem?_eq_some_iff.1 e1).1
  obtain ⟨a1, a2⟩ := h.setFile (F := F) (n := n) (cap := cap) hv e1 (j := 2) (f' := { f with sure := keptN keep f }) (by omega) (.int .i64 (keptN keep f : Int)) rfl rfl (fun _ h => h)
  have e3 : ({ m.crashed keep k with l := (m.crashed keep k).l.set k { f with sure := keptN keep f } } : MS).l[k]? = some { f with sure := keptN keep f } := by simp [hk]
  obtain ⟨b1, b2⟩ := a1.setFile (F := F) (n := n) (cap := cap) hv e3 (j := 1) (f' := crashF keep f) (by omega) (cut f.bv (keptN keep f)) rfl (cut_blk _ _) (fun w' h => OwnB.cut h _ (keptN_le hs).2)
  have e4 : ({ ({ m.crashed keep k with l := (m.crashed keep k).l.set k { f with sure := keptN keep f } } : MS) with l := ({ m.crashed keep k with l := (m.crashed keep k).l.set k { f with sure := keptN keep f } } : MS).l.set k (crashF keep f) } : MS) = m.crashed keep (k + 1) := by
    have : ((m.crashed keep k).l.set k { f with sure := keptN keep f }).set k (crashF keep f) = (m.crashed keep (k + 1)).l := by rw [List.set_set, e2]
    show ({ m.crashed keep k with l := _ } : MS) = _
    rw [this]
    rfl
  rw [e4] at b1 b2
  exact ⟨b1, a2.trans b2⟩

set_option maxHeartbeats 1000000 in
set_option maxRecDepth 100000 in
theorem crash_nil (k : Int) (w : World) : Calls Tryz.prog 26 #[.pointer none, .int .i64 k] w fun e w' => e = .returned (.tuple #[]) ∧ w = w' := by
  go_enter Tryz.func26, Tryz.ntmps26
  go_wp2
  refine bodyPost_ret (results_none rfl _ _ _) rfl ?_
  exact ⟨rfl, rfl⟩

/-- the disk behind a crash -/
def MS.crash (m : MS) (keep : Int) : MS := { m with l := m.l.map (crashF keep), off := false, fused := false, left := 0 }

theorem Lies.drewN {B : Nat} {m : MS} {w : World} (h : Lies B m w) (n : Nat) : Lies B m (w.drewN n) := ⟨h.head, h.base, h.row, h.body, h.apart⟩
theorem Chg.fromN {m m' : MS} {w w' : World} {n : Nat} (h : Chg m m' (w.drewN n) w') : Chg m m' w w' := ⟨h.os, h.tape, h.output, h.size, h.block, h.fresh⟩

theorem lies_lit {B : Nat} {m m' : MS} {w : World} (h : Lies B m w) (e : m = m') : Lies B m' w := e ▸ h

set_option maxHeartbeats 4000000 in
set_option maxRecDepth 100000 in
theorem crash_any {B : Nat} (m : MS) (keep : Int) (w : World) (h : Lies B m w) (hlen : m.l.length ≤ 1024) (ht : total m.l ≤ 4194304) (hs : ∀ f ∈ m.l, f.sure ≤ f.body.length) :
    Calls Tryz.prog 26 #[.pointer (some ⟨m.D, 0, none⟩), .int .i64 keep] w fun e w' => e = .returned (.tuple #[]) ∧ Lies B (m.crash keep) w' ∧ Chg m (m.crash keep) w w' := by
  have hc := h.cell 1
  simp only [MS.head, List.getElem?_toArray, List.getElem?_cons_succ, List.getElem?_cons_zero] at hc
  have c0 : m.crashed keep 0 = m := by cases m; simp [MS.crashed]
  have HH := Lib.hid h
  have HS := Lib.hid hs
  obtain ⟨p, c, hfv⟩ : ∃ p c, m.fv = .slice p m.l.length c := by
    rcases Joins.ownsRow_forms h.row with ⟨hv, h0⟩ | ⟨F, cap, hv⟩
    · exact ⟨none, 0, by rw [h0]; exact hv⟩
    · exact ⟨_, _, hv⟩
  rw [hfv] at hc
  have HFV := Lib.hid hfv
  have H0 := Lib.hid c0
  clear h hs hfv c0
  go_enter Tryz.func26, Tryz.ntmps26
  go_wp2_with fail
  go_loopw [14] (fun i wr => ∃ k : Nat, k ≤ m.l.length ∧ i = .int .i64 k ∧ Lies B (m.crashed keep k) wr ∧ Chg m (m.crashed keep k) w wr) (fun i _ => m.l.length - (intOf i).toNat)
  case atStart => exact ⟨0, Nat.zero_le _, rfl, by rw [H0.out]; exact HH.out, by rw [H0.out]; exact Chg.refl _ _⟩
  case round =>
    obtain ⟨k, hk, rfl, hl, hch⟩ := hrel
    by_cases hlt : k < m.l.length
    · obtain ⟨f, hf⟩ : ∃ f, m.l[k]? = some f := ⟨_, List.getElem?_eq_getElem hlt⟩
      obtain ⟨F, cap, hv⟩ : ∃ F cap, m.fv = .slice (some ⟨F, 0, none⟩) m.l.length cap := by
        rcases Joins.ownsRow_forms HH.out.row with ⟨_, hl0⟩ | hv
        · omega
        · exact hv
      have hsf := HS.out f (List.mem_of_getElem? hf)
      obtain ⟨e1, _⟩ := crashed_at (m := m) (keep := keep) hf
      obtain ⟨-, hF, -, hrow⟩ := hl.frow hv
      obtain ⟨-, kb, ks⟩ := hrow k f e1
      have kD := hl.cell 1
      simp only [MS.head, List.getElem?_toArray, List.getElem?_cons_succ, List.getElem?_cons_zero] at kD
      have kD : wr.cell? ⟨m.D, 1, none⟩ = some m.fv := kD
      rw [hv] at kD
      have hr := hl.row
      rw [show (m.crashed keep k).fv = _ from hv] at hr
      have hcl : (m.crashed keep k).l.length = m.l.length := by simp [MS.crashed]; omega
      rw [hcl] at hr
      have fr1 := World.ownsRow.frozenAt hr (k * 3 + 1)
      have fr2 := World.ownsRow.frozenAt hr (k * 3 + 2)
      obtain ⟨pb, cb, hbv, hbc, hbm, hpb, hpn⟩ := OwnB.form2 (hl.body f (List.mem_of_getElem? e1))
      have hbl : f.body.length ≤ 4194304 := by
        have h1 := total_succ hf
        have h2 := total_le m.l (k + 1)
        omega
      have hkn := keptN_le (keep := keep) hsf
      have hki := keptN_int (keep := keep) hsf
      have HQ : Hid (∀ nq, Lies B (m.crashed keep (k + 1)) (((wr.drewN nq).setCell ⟨F, k * 3 + 2, none⟩ (.int .i64 (keptN keep f : Int))).setCell ⟨F, k * 3 + 1, none⟩ (cut f.bv (keptN keep f))) ∧ Chg m (m.crashed keep (k + 1)) w (((wr.drewN nq).setCell ⟨F, k * 3 + 2, none⟩ (.int .i64 (keptN keep f : Int))).setCell ⟨F, k * 3 + 1, none⟩ (cut f.bv (keptN keep f)))) :=
        fun nq => ⟨((hl.drewN nq).crash1 hv hf hsf).1, hch.trans ((hl.drewN nq).crash1 hv hf hsf).2.fromN⟩
      rw [hbv] at kb HQ
      unfold maxLen at hbm
      clear hl hch hr hrow e1 hf hv hcl hbv
      generalize hKN : keptN keep f = K at *
      have HKN := Lib.hid hKN; clear hKN
      generalize f.body.length = nb at *
      generalize f.sure = sf at *
      generalize hn : m.l.length = N at *
      clear hn
      have HKI := Lib.hid hki; clear hki
      have hK0 : (0 : Int) ≤ (K : Int) := by omega
      have hK1 : (K : Int) ≤ (cb : Int) := by omega
      have hK2 : K ≤ cb := by omega
      clear hpn
      rcases hpb with rfl | ⟨g, rfl⟩
      all_goals
        go_wp2_with fail
        go_quiet (fail)
        go_wp2_with fail
        rw [← HKI.out]
        go_region
        go_wp2_with fail
        go_roundw
        case rel => exact ⟨k + 1, by omega, by go_num, (HQ.out nq).1.drew, (HQ.out nq).2.drew⟩
        case measure => simp [intOf]; omega
    · obtain rfl : k = m.l.length := by omega
      have e : m.crashed keep m.l.length = { m with l := m.l.map (crashF keep) } := by simp [MS.crashed]
      rw [e] at hl hch
      have kz := hl.free 2
      have kc := hl.cell 2
      simp only [MS.head, List.getElem?_toArray, List.getElem?_cons_succ, List.getElem?_cons_zero] at kc
      obtain ⟨a1, a2⟩ := hl.setHead (m' := { m with l := m.l.map (crashF keep), off := false }) 2 (.bool false) (by simp [MS.head]) rfl rfl rfl
      have HF := Lib.hid (fuse_any _ _ (-1) a1)
      have HC := Lib.hid (hch.trans a2)
      clear a1 a2 hl hch
      go_wp2_with fail
      refine HF.out.mono ?_
      rintro e w5 ⟨rfl, h5, h6⟩
      have H5 := Lib.hid (And.intro h5 (HC.out.trans h6))
      clear h5 h6
      go_wp2_with fail
      go_end0
      exact ⟨rfl, H5.out⟩
end Go.Proofs.YtjimgncefeldbaaGreatDoor

namespace Go.Proofs.YtjimgncefeldbaaGreatDoor
open Go.RowKit

/-- what a file is, wherever its bytes lie -/
structure FS where
  name : ByteArray
  body : List UInt8
  sure : Nat
deriving DecidableEq
def FV.abs (f : FV) : FS := ⟨f.name, f.body, f.sure⟩

/-- what Clone answers: a row of the call's own -/
def ClonePost (e : TypeId) (sz : Nat) (v : Value) (n : Nat) (xs : List Value) (w : World) (en : Ending) (w' : World) : Prop :=
  ∃ v', en = .returned v' ∧ w'.ownsRow w.heap.size e sz v' n xs ∧ Below w.heap.size w w' ∧ SF w v v' ∧ ∃ p c, v' = .slice p n c

theorem own_empty0 (w : World) (e : TypeId) (sz : Nat) : (w.alloc (.cells #[] e)).ownsRow w.heap.size e sz (.slice (some ⟨w.heap.size, 0, none⟩) 0 0) 0 [] :=
  ⟨by simp, .inr ⟨w.heap.size, 0, #[], rfl, Nat.le_refl _, heap_alloc_new w _, Nat.le_refl _, by simp [maxLen], by simp, by simp⟩⟩

theorem own_base {B B' : Nat} {w : World} {v : Value} {n sz : Nat} {e : TypeId} {xs : List Value} (h : w.ownsRow B e sz v n xs) (hb : ∀ k, v.ownBlock = some k → B' ≤ k) : w.ownsRow B' e sz v n xs := by
  refine ⟨h.1, ?_⟩
  rcases h.2 with hn | ⟨g, cap, cur, rfl, _, rest⟩
  · exact .inl hn
  · exact .inr ⟨g, cap, cur, rfl, hb g rfl, rest⟩

/-- the copy, at the loop's head -/
structure CopyAt (B : Nat) (m : MS) (v : Value) (w : World) (k : Nat) (l : List FV) (wr : World) : Prop where
  len : l.length = m.l.length
  same : l.map FV.abs = m.l.map FV.abs
  done : ∀ j f, j < k → l[j]? = some f → ∀ b, f.bv.ownBlock = some b → w.heap.size ≤ b
  lies : Lies B { m with D := w.heap.size, fv := v, l := l } wr
  below : Below w.heap.size w wr
  row : ∀ b, v.ownBlock = some b → w.heap.size ≤ b

theorem copy_start {B : Nat} {m : MS} {w W1 : World} {v : Value} (h : Lies B m w) (_hv : ∃ p n c, m.fv = .slice p n c)
    (ho : W1.ownsRow ((w.alloc (.cells m.head 63)).heap.size) 70 3 v m.l.length (fcells m.l)) (hb : Below ((w.alloc (.cells m.head 63)).heap.size) (w.alloc (.cells m.head 63)) W1) :
    CopyAt B m v w 0 m.l (W1.setCell ⟨w.heap.size, 1, none⟩ v) := by
  have hsz : (w.alloc (.cells m.head 63)).heap.size = w.heap.size + 1 := by simp
  rw [hsz] at ho hb
  obtain ⟨n1, n2, n3, n4⟩ := h.nodup
  have hBD : B ≤ w.heap.size := Nat.le_trans h.base (Nat.le_of_lt (h.lt m.D (by simp [MS.blks])).2)
  have hvb : ∀ k, v.ownBlock = some k → w.heap.size + 1 ≤ k := fun k hk => (World.ownsRow.lt ho k hk).1
  have hbl : ∀ k ∈ bblks m.l, k < w.heap.size := fun k hk => (h.lt k (by simp [MS.blks, hk])).2
  have hW : ∀ k, k < w.heap.size → (W1.setCell ⟨w.heap.size, 1, none⟩ v).heap[k]? = w.heap[k]? := fun k hk => by
    rw [Below.heap_setCell _ _ _ _ (by simp; omega), hb.block k (by omega)]; exact Below.heap_alloc w _ k hk
  have hD : W1.heap[w.heap.size]? = some (.cells m.head 63 (0, 0)) := (hb.block _ (by omega)).trans (heap_alloc_new w _)
  refine ⟨rfl, rfl, fun j f hj => absurd hj (by omega), ⟨?_, hBD, ?_, ?_, ?_⟩, ?_, fun b hb => by have := hvb b hb; omega⟩
  · have := Joins.block_setCell hD (i := 1) v
    simpa [MS.head] using this
  · exact own_kept (Joins.ownsRow_le ho (by omega)) fun k hk => Below.heap_setCell _ _ _ _ (by have := hvb k hk; simp; omega)
  · exact fun f hf => own_kept (h.body f hf) fun k hk => hW k (hbl k (mem_bblks.2 ⟨f, hf, hk⟩))
  · simp only [MS.blks, List.nodup_cons, List.nodup_append, List.mem_append, Option.mem_toList, not_or]
    refine ⟨⟨fun e => by have := hvb _ e; omega, fun e => by have := hbl _ e; omega⟩, by cases v.ownBlock <;> simp, n3, fun a ha b hb2 e => ?_⟩
    have h1 := hvb a ha
    have h2 := hbl b hb2
    omega
  · exact ((Joins.below_alloc1 w _).trans (hb.mono (by omega))).setCell (by simp) v

theorem copy_step {B : Nat} {m : MS} {w wr W3 : World} {v v3 : Value} {k : Nat} {l : List FV} {f : FV} (h : CopyAt B m v w k l wr) (hf : l[k]? = some f) {F n cap : Nat} (hv : v = .slice (some ⟨F, 0, none⟩) n cap)
    (ho : W3.ownsRow wr.heap.size 5 1 v3 f.body.length (Lib.byteCells f.body)) (hb : Below wr.heap.size wr W3) (hsf : SF wr f.bv v3) :
    CopyAt B m v w (k + 1) (l.set k { f with bv := v3 }) (W3.setCell ⟨F, k * 3 + 1, none⟩ v3) := by
  have hB : B ≤ wr.heap.size := Nat.le_trans h.lies.base (Nat.le_of_lt (h.lies.lt _ (by simp [MS.blks])).2)
  have hk : k < l.length := (List.getElem?_eq_some_iff.1 hf).1
  obtain ⟨p, q⟩ := h.lies.putBody (i := k) (f := f) hv hf v3 f.body ⟨hb.os, hb.tape, hb.output, hb.size, fun j hj _ => hb.block j hj⟩ hsf (Joins.ownsRow_le ho hB)
  refine ⟨by simpa using h.len, ?_, ?_, p, ?_, h.row⟩
  · rw [← h.same, List.map_set]
    apply List.ext_getElem?
    intro j
    by_cases hj : j = k
    · subst hj; have e := (List.getElem?_eq_some_iff.1 hf).2; simp [hk, FV.abs, e]
    · rw [List.getElem?_set_ne (by omega)]
  · intro j g hj hg b hgb
    by_cases hjk : j = k
    · subst hjk
      rw [List.getElem?_set_self hk] at hg
      simp at hg; subst hg
      have h1 := (World.ownsRow.lt ho b hgb).1
      have h2 := h.below.size
      omega
    · rw [List.getElem?_set_ne (by omega)] at hg
      exact h.done j g (by omega) hg b hgb
  · have hF : w.heap.size ≤ F := h.row F (by rw [hv]; rfl)
    exact (h.below.trans (hb.mono h.below.size)).setCell (by simpa using hF) v3

/-- what Copy answers: a disk of the same, in memory of the call's own -/
def CopyPost (m : MS) (w : World) (e : Ending) (w' : World) : Prop :=
  ∃ m' : MS, e = .returned (.pointer (some ⟨m'.D, 0, none⟩)) ∧ m'.room = m.room ∧ m'.l.map FV.abs = m.l.map FV.abs ∧ m'.off = m.off ∧ m'.fused = m.fused ∧ m'.left = m.left ∧ Lies w.heap.size m' w' ∧ Below w.heap.size w w'

theorem copy_end {B : Nat} {m : MS} {w wr : World} {v : Value} {l : List FV} (h : CopyAt B m v w m.l.length l wr) : CopyPost m w (.returned (.pointer (some ⟨w.heap.size, 0, none⟩))) wr :=
  ⟨{ m with D := w.heap.size, fv := v, l := l }, rfl, rfl, h.same, rfl, rfl, rfl,
    ⟨h.lies.head, Nat.le_refl _, own_base h.lies.row h.row, fun f hf => own_base (h.lies.body f hf) fun b hb => by
      obtain ⟨j, hj, hjf⟩ := List.mem_iff_getElem.1 hf
      exact h.done j f (by rw [← h.len]; exact hj) (by rw [List.getElem?_eq_getElem hj, hjf]) b hb, h.lies.apart⟩, h.below⟩

end Go.Proofs.YtjimgncefeldbaaGreatDoor

namespace Go.Proofs.YtjimgncefeldbaaGreatDoor
open Go.Lib Go.RowKit

theorem cmp_zero : ∀ a b : List UInt8, compareBytes a b = 0 ↔ a = b
  | [], [] => by simp [compareBytes]
  | [], _ :: _ => by simp [compareBytes]
  | _ :: _, [] => by simp [compareBytes]
  | x :: a, y :: b => by
    have ih := cmp_zero a b
    unfold compareBytes
    by_cases h1 : x < y
    · have : x ≠ y := UInt8.ne_of_lt h1
      simp [h1, this]
    · by_cases h2 : y < x
      · have : x ≠ y := fun e => UInt8.lt_irrefl y (by rw [e] at h2; exact h2)
        simp [h1, h2, this]
      · have : x = y := UInt8.le_antisymm (UInt8.not_lt.1 h2) (UInt8.not_lt.1 h1)
        simp [this, ih]

theorem cmp_swap : ∀ a b : List UInt8, compareBytes b a = - compareBytes a b
  | [], [] => by simp [compareBytes]
  | [], _ :: _ => by simp [compareBytes]
  | _ :: _, [] => by simp [compareBytes]
  | x :: a, y :: b => by
    have ih := cmp_swap a b
    unfold compareBytes
    by_cases h1 : x < y
    · have h2 : ¬ y < x := fun h2 => UInt8.lt_irrefl _ (UInt8.lt_trans h1 h2)
      simp [h1, h2]
    · by_cases h2 : y < x
      · simp [h1, h2]
      · simp [h1, h2, ih]

theorem cmp_trans : ∀ a b c : List UInt8, compareBytes a b < 0 → compareBytes b c < 0 → compareBytes a c < 0
  | [], [], _ => by simp [compareBytes]
  | [], _ :: _, [] => by simp [compareBytes]
  | [], _ :: _, _ :: _ => by simp [compareBytes]
  | _ :: _, [], _ => by simp [compareBytes]
  | _ :: _, _ :: _, [] => by simp [compareBytes]
  | x :: a, y :: b, z :: c => by
    have ih := cmp_trans a b c
    intro h1 h2
    unfold compareBytes at h1 h2 ⊢
    by_cases hxy : x < y
    · by_cases hyz : y < z
      · simp [UInt8.lt_trans hxy hyz]
      · by_cases hzy : z < y
        · simp [hyz, hzy] at h2
        · have : y = z := UInt8.le_antisymm (UInt8.not_lt.1 hzy) (UInt8.not_lt.1 hyz)
          subst this; simp [hxy]
    · by_cases hyx : y < x
      · simp [hxy, hyx] at h1
      · have : x = y := UInt8.le_antisymm (UInt8.not_lt.1 hyx) (UInt8.not_lt.1 hxy)
        subst this
        simp [hxy] at h1
        by_cases hxz : x < z
        · simp [hxz]
        · by_cases hzx : z < x
          · simp [hxz, hzx] at h2
          · simp [hxz, hzx] at h2 ⊢
            exact ih h1 h2

/-- what a disk is -/
structure DS where
  room : Nat
  l : List FS
  off : Bool
  fused : Bool
  left : Nat
deriving DecidableEq

def cmpS (b : ByteArray) (f : FS) : Int := compareBytes f.name.data.toList b.data.toList
def spos (l : List FS) (b : ByteArray) : Nat := l.findIdx fun f => decide (0 ≤ cmpS b f)
def sthere (l : List FS) (b : ByteArray) : Bool := (l[spos l b]?).any fun f => decide (cmpS b f = 0)
def stotal (l : List FS) : Nat := (l.map fun f => f.body.length).sum

/-- the disk behind an act of its fuse -/
def DS.pay (s : DS) : DS := { s with left := if s.fused then s.left - 1 else s.left }
def DS.dark (s : DS) : DS := { s with off := true }
/-- is there no act left? -/
def DS.out (s : DS) : Bool := s.fused && s.left == 0
/-- an act that may be -/
def actS (s : DS) (l : List FS) : Int × DS := if s.out then (10, s.dark) else (0, { s.pay with l := l })

def sfull (s : DS) (n : ByteArray) (k : Nat) : Bool := decide ((s.room : Int) - (stotal s.l : Int) < (k : Int)) || (!sthere s.l n && (s.l.length == 1024))
def smod (l : List FS) (i : Nat) (g : FS → FS) : List FS := match l[i]? with | some f => l.set i (g f) | none => l
def sins (l : List FS) (i : Nat) (f : FS) : List FS := l.take i ++ f :: l.drop i
def sdel (l : List FS) (i : Nat) : List FS := l.take i ++ l.drop (i + 1)

def appendS (s : DS) (n t : ByteArray) : Int × DS :=
  if s.off then (10, s) else if !isNm n then (14, s) else if sfull s n t.size then (9, s) else
  actS s (if sthere s.l n then smod s.l (spos s.l n) (fun f => { f with body := f.body ++ t.data.toList }) else sins s.l (spos s.l n) ⟨n, t.data.toList, 0⟩)
def syncS (s : DS) (n : ByteArray) : Int × DS :=
  if s.off then (10, s) else if !sthere s.l n then (7, s) else actS s (smod s.l (spos s.l n) (fun f => { f with sure := f.body.length }))
def removeS (s : DS) (n : ByteArray) : Int × DS :=
  if s.off then (10, s) else if !sthere s.l n then (7, s) else actS s (sdel s.l (spos s.l n))
/-- a file is laid into a row: in place of one of its name, or in a place of its own -/
def slay (l : List FS) (f : FS) : List FS := if sthere l f.name then l.set (spos l f.name) f else sins l (spos l f.name) f
def sren (l : List FS) (n t : ByteArray) : List FS := match l[spos l n]? with | some f => slay (sdel l (spos l n)) { f with name := t } | none => l
def renameS (s : DS) (n t : ByteArray) : Int × DS :=
  if s.off then (10, s) else if !sthere s.l n then (7, s) else if !isNm t then (14, s) else actS s (sren s.l n t)
def readD (s : DS) (b : ByteArray) : ByteArray × Int :=
  if s.off then (⟨#[]⟩, 10) else
  match s.l[spos s.l b]? with
  | some f => if cmpS b f = 0 then (⟨f.body.toArray⟩, 0) else (⟨#[]⟩, 7)
  | none => (⟨#[]⟩, 7)
def keepS (keep : Int) (f : FS) : FS :=
  let k := f.sure + (min (max keep 0) ((f.body.length : Int) - (f.sure : Int))).toNat
  { f with body := f.body.take k, sure := k }
def crashS (s : DS) (keep : Int) : DS := { s with l := s.l.map (keepS keep), off := false, fused := false, left := 0 }
def fuseS (s : DS) (n : Int) : DS := { s with fused := decide (0 ≤ n), left := n.toNat }
def newS (room : Nat) : DS := ⟨room, [], false, false, 0⟩

/-- what holds of each disk -/
structure Fit (s : DS) : Prop where
  room : s.room ≤ 4194304
  len : s.l.length ≤ 1024
  total : stotal s.l ≤ s.room
  rises : s.l.Pairwise fun a b => compareBytes a.name.data.toList b.name.data.toList < 0
  sure : ∀ f ∈ s.l, f.sure ≤ f.body.length
  left : s.left < 9223372036854775808

theorem spos_le (l : List FS) (n : ByteArray) : spos l n ≤ l.length := List.findIdx_le_length

theorem before_pos {l : List FS} {n : ByteArray} {k : Nat} {f : FS} (hk : k < spos l n) (hf : l[k]? = some f) : cmpS n f < 0 := by
  have hl : k < l.length := (List.getElem?_eq_some_iff.1 hf).1
  have := List.not_of_lt_findIdx (p := fun f => decide (0 ≤ cmpS n f)) hk
  rw [(List.getElem?_eq_some_iff.1 hf).2] at this
  simpa using this

theorem at_pos {l : List FS} {n : ByteArray} {f : FS} (hf : l[spos l n]? = some f) : 0 ≤ cmpS n f := by
  have hl : spos l n < l.length := (List.getElem?_eq_some_iff.1 hf).1
  have := List.findIdx_getElem (p := fun f => decide (0 ≤ cmpS n f)) (w := hl)
  have e : l[spos l n] = f := (List.getElem?_eq_some_iff.1 hf).2
  have h2 : decide (0 ≤ cmpS n l[spos l n]) = true := this
  rw [e] at h2
  simpa using h2

theorem rises_le {l : List FS} (h : l.Pairwise fun a b => compareBytes a.name.data.toList b.name.data.toList < 0) {i j : Nat} (hij : i < j) {f g : FS} (hf : l[i]? = some f) (hg : l[j]? = some g) : compareBytes f.name.data.toList g.name.data.toList < 0 := by
  obtain ⟨hi, rfl⟩ := List.getElem?_eq_some_iff.1 hf
  obtain ⟨hj, rfl⟩ := List.getElem?_eq_some_iff.1 hg
  exact List.pairwise_iff_getElem.1 h i j hi hj hij

/-- behind the place of a name all names are greater, if the file there has another one -/
theorem after_pos {l : List FS} (h : l.Pairwise fun a b => compareBytes a.name.data.toList b.name.data.toList < 0) {n : ByteArray} (ht : sthere l n = false) {k : Nat} {f : FS} (hk : spos l n ≤ k) (hf : l[k]? = some f) : 0 < cmpS n f := by
  obtain ⟨g, hg⟩ : ∃ g, l[spos l n]? = some g := ⟨_, List.getElem?_eq_getElem (Nat.lt_of_le_of_lt hk (List.getElem?_eq_some_iff.1 hf).1)⟩
  have h0 := at_pos hg
  have hn : cmpS n g ≠ 0 := fun e => by unfold sthere at ht; rw [hg] at ht; simp [e] at ht
  have hpos : 0 < cmpS n g := by omega
  by_cases hkk : spos l n = k
  · subst hkk; rw [hg] at hf; cases hf; exact hpos
  · have h1 := rises_le h (by omega : spos l n < k) hg hf
    have e1 : compareBytes n.data.toList g.name.data.toList < 0 := by rw [cmp_swap]; unfold cmpS at hpos; omega
    have e2 := cmp_trans _ _ _ e1 h1
    rw [cmp_swap] at e2
    unfold cmpS
    omega

abbrev SRise (l : List FS) : Prop := l.Pairwise fun a b => compareBytes a.name.data.toList b.name.data.toList < 0

theorem srise_names {l l' : List FS} (h : SRise l) (e : l'.map FS.name = l.map FS.name) : SRise l' := by
  have h1 : (l.map FS.name).Pairwise fun a b => compareBytes a.data.toList b.data.toList < 0 := List.pairwise_map.2 h
  rw [← e] at h1
  exact List.pairwise_map.1 h1

theorem names_set {l : List FS} {i : Nat} {f g : FS} (hf : l[i]? = some f) (hg : g.name = f.name) : (l.set i g).map FS.name = l.map FS.name := by
  rw [List.map_set]
  apply List.ext_getElem?
  intro j
  have hi : i < l.length := (List.getElem?_eq_some_iff.1 hf).1
  by_cases hj : i = j
  · subst hj
    rw [List.getElem?_set_self (by simpa using hi), List.getElem?_map, hf, hg]; rfl
  · rw [List.getElem?_set_ne hj]

theorem srise_sins {l : List FS} (h : SRise l) {f : FS} (ht : sthere l f.name = false) : SRise (sins l (spos l f.name) f) := by
  unfold sins
  have hb : ∀ a ∈ l.take (spos l f.name), compareBytes a.name.data.toList f.name.data.toList < 0 := fun a ha => by
    obtain ⟨k, hk, rfl⟩ := List.mem_iff_getElem.1 ha
    have hk2 : k < spos l f.name := by simp at hk; omega
    have hkl : k < l.length := by simp at hk; omega
    have := before_pos (n := f.name) hk2 (List.getElem?_eq_getElem hkl)
    simpa [cmpS] using this
  have ha : ∀ a ∈ l.drop (spos l f.name), compareBytes f.name.data.toList a.name.data.toList < 0 := fun a ha => by
    obtain ⟨k, hk, rfl⟩ := List.mem_iff_getElem.1 ha
    have hkl : spos l f.name + k < l.length := by simp at hk; omega
    have := after_pos h ht (k := spos l f.name + k) (by omega) (List.getElem?_eq_getElem hkl)
    rw [cmp_swap]
    simp [cmpS] at this ⊢
    omega
  have h2 : SRise (l.take (spos l f.name) ++ l.drop (spos l f.name)) := by rw [List.take_append_drop]; exact h
  rw [SRise, List.pairwise_append] at h2 ⊢
  refine ⟨h2.1, List.pairwise_cons.2 ⟨ha, h2.2.1⟩, fun a ha2 b hb2 => ?_⟩
  rcases List.mem_cons.1 hb2 with rfl | hb2
  · exact hb a ha2
  · exact h2.2.2 a ha2 b hb2

theorem sdel_sub (l : List FS) (i : Nat) : List.Sublist (sdel l i) l := by
  unfold sdel
  conv => rhs; rw [← List.take_append_drop i l]
  refine List.Sublist.append (List.Sublist.refl _) ?_
  rw [show l.drop (i + 1) = (l.drop i).drop 1 by rw [List.drop_drop]]
  exact List.drop_sublist _ _

theorem stotal_app (a b : List FS) : stotal (a ++ b) = stotal a + stotal b := by simp [stotal]
theorem stotal_cons (f : FS) (b : List FS) : stotal (f :: b) = f.body.length + stotal b := by simp [stotal]
theorem stotal_split {l : List FS} {i : Nat} {f : FS} (hf : l[i]? = some f) : stotal l = stotal (l.take i) + (f.body.length + stotal (l.drop (i + 1))) := by
  obtain ⟨hi, he⟩ := List.getElem?_eq_some_iff.1 hf
  conv => lhs; rw [← List.take_append_drop i l, List.drop_eq_getElem_cons hi, he]
  rw [stotal_app, stotal_cons]
theorem stotal_set {l : List FS} {i : Nat} {f : FS} (hf : l[i]? = some f) (g : FS) : stotal (l.set i g) + f.body.length = stotal l + g.body.length := by
  obtain ⟨hi, he⟩ := List.getElem?_eq_some_iff.1 hf
  rw [stotal_split hf, List.set_eq_take_append_cons_drop, if_pos hi, stotal_app, stotal_cons]
  omega
theorem stotal_sins (l : List FS) (i : Nat) (f : FS) : stotal (sins l i f) = stotal l + f.body.length := by
  have : stotal l = stotal (l.take i) + stotal (l.drop i) := by rw [← stotal_app, List.take_append_drop]
  unfold sins
  rw [stotal_app, stotal_cons, this]; omega
theorem stotal_sdel {l : List FS} {i : Nat} {f : FS} (hf : l[i]? = some f) : stotal (sdel l i) + f.body.length = stotal l := by
  rw [stotal_split hf]; unfold sdel; rw [stotal_app]; omega

theorem sthere_at {l : List FS} {b : ByteArray} (h : sthere l b = true) : ∃ f, l[spos l b]? = some f ∧ f.name = b := by
  unfold sthere at h
  cases hf : l[spos l b]? with
  | none => rw [hf] at h; simp at h
  | some f =>
    rw [hf] at h
    refine ⟨f, rfl, ?_⟩
    have h0 : cmpS b f = 0 := by simpa using h
    have := (cmp_zero _ _).1 h0
    cases hn : f.name; cases b
    rw [hn] at this
    congr 1
    exact Array.toList_inj.1 this

theorem Fit.pay {s : DS} (h : Fit s) : Fit s.pay := ⟨h.room, h.len, h.total, h.rises, h.sure, by unfold DS.pay; have := h.left; simp only; split <;> omega⟩
theorem Fit.dark {s : DS} (h : Fit s) : Fit s.dark := ⟨h.room, h.len, h.total, h.rises, h.sure, h.left⟩
theorem fit_act {s : DS} (h : Fit s) {l : List FS} (h1 : l.length ≤ 1024) (h2 : stotal l ≤ s.room) (h3 : SRise l) (h4 : ∀ f ∈ l, f.sure ≤ f.body.length) : Fit (actS s l).2 := by
  unfold actS
  split
  · exact h.dark
  · exact ⟨h.room, h1, h2, h3, h4, h.pay.left⟩

theorem sins_len {l : List FS} {n : ByteArray} {f : FS} : (sins l (spos l n) f).length = l.length + 1 := by
  have := spos_le l n
  unfold sins; simp; omega

theorem fit_append {s : DS} (h : Fit s) (n t : ByteArray) : Fit (appendS s n t).2 := by
  unfold appendS
  split; · exact h
  split; · exact h
  split; · exact h
  rename_i _ _ hfull
  simp only [sfull, Bool.not_eq_true, Bool.or_eq_false_iff, decide_eq_false_iff_not] at hfull
  have ht : (t.data.toList.length : Int) = (t.size : Int) := by simp
  cases hth : sthere s.l n
  · rw [if_neg (by simp)]
    have hl : s.l.length ≠ 1024 := by have := hfull.2; rw [hth] at this; simpa using this
    refine fit_act h (by rw [sins_len]; have := h.len; omega) ?_ (srise_sins (f := ⟨n, t.data.toList, 0⟩) h.rises hth) ?_
    · rw [stotal_sins]; have := hfull.1; simp at ht ⊢; omega
    · intro f hf
      unfold sins at hf
      simp only [List.mem_append, List.mem_cons] at hf
      rcases hf with hf | rfl | hf
      · exact h.sure f (List.mem_of_mem_take hf)
      · simp
      · exact h.sure f (List.mem_of_mem_drop hf)
  · rw [if_pos rfl]
    obtain ⟨f, hf, hfn⟩ := sthere_at hth
    unfold smod
    rw [hf]
    have hs := stotal_set hf { f with body := f.body ++ t.data.toList }
    refine fit_act h (by simpa using h.len) ?_ (srise_names h.rises (names_set hf rfl)) ?_
    · simp at hs ht ⊢; have := hfull.1; omega
    · intro g hg
      rcases List.mem_or_eq_of_mem_set hg with hg | rfl
      · exact h.sure g hg
      · have := h.sure f (List.mem_of_getElem? hf); simp; omega

theorem fit_sync {s : DS} (h : Fit s) (n : ByteArray) : Fit (syncS s n).2 := by
  unfold syncS
  split; · exact h
  split; · exact h
  rename_i _ hth
  obtain ⟨f, hf, hfn⟩ := sthere_at (l := s.l) (b := n) (by simpa using hth)
  unfold smod
  rw [hf]
  have hs := stotal_set hf { f with sure := f.body.length }
  refine fit_act h (by simpa using h.len) ?_ (srise_names h.rises (names_set hf rfl)) ?_
  · simp at hs ⊢; have := h.total; omega
  · intro g hg
    rcases List.mem_or_eq_of_mem_set hg with hg | rfl
    · exact h.sure g hg
    · exact Nat.le_refl _

theorem fit_remove {s : DS} (h : Fit s) (n : ByteArray) : Fit (removeS s n).2 := by
  unfold removeS
  split; · exact h
  split; · exact h
  rename_i _ hth
  obtain ⟨f, hf, hfn⟩ := sthere_at (l := s.l) (b := n) (by simpa using hth)
  have hs := stotal_sdel hf
  refine fit_act h (Nat.le_trans (sdel_sub _ _).length_le h.len) (by have := h.total; omega) (h.rises.sublist (sdel_sub _ _)) fun g hg => h.sure g ((sdel_sub _ _).subset hg)

theorem fit_rename {s : DS} (h : Fit s) (n t : ByteArray) : Fit (renameS s n t).2 := by
  unfold renameS
  split; · exact h
  split; · exact h
  split; · exact h
  rename_i _ hth _
  obtain ⟨f, hf, hfn⟩ := sthere_at (l := s.l) (b := n) (by simpa using hth)
  have hs := stotal_sdel hf
  have hr : SRise (sdel s.l (spos s.l n)) := h.rises.sublist (sdel_sub _ _)
  have hsu : ∀ g ∈ sdel s.l (spos s.l n), g.sure ≤ g.body.length := fun g hg => h.sure g ((sdel_sub _ _).subset hg)
  have hfs := h.sure f (List.mem_of_getElem? hf)
  have hdl : (sdel s.l (spos s.l n)).length + 1 = s.l.length := by
    have := (List.getElem?_eq_some_iff.1 hf).1
    unfold sdel; simp; omega
  unfold sren
  rw [hf]
  simp only
  unfold slay
  have hlen := h.len
  have htot := h.total
  cases ht2 : sthere (sdel s.l (spos s.l n)) t
  · rw [if_neg (by simp)]
    refine fit_act h (by rw [sins_len]; omega) ?_ (srise_sins (f := { f with name := t }) hr ht2) ?_
    · rw [stotal_sins]; simp; omega
    · intro g hg
      unfold sins at hg
      simp only [List.mem_append, List.mem_cons] at hg
      rcases hg with hg | rfl | hg
      · exact hsu g (List.mem_of_mem_take hg)
      · exact hfs
      · exact hsu g (List.mem_of_mem_drop hg)
  · rw [if_pos rfl]
    obtain ⟨g, hg, hgn⟩ := sthere_at ht2
    have hs2 := stotal_set hg { f with name := t }
    refine fit_act h (by simp; omega) ?_ (srise_names hr (names_set hg hgn.symm)) ?_
    · simp at hs2 ⊢; omega
    · intro x hx
      rcases List.mem_or_eq_of_mem_set hx with hx | rfl
      · exact hsu x hx
      · exact hfs

theorem keepS_le {keep : Int} {f : FS} (h : f.sure ≤ f.body.length) : (keepS keep f).sure ≤ (keepS keep f).body.length ∧ (keepS keep f).body.length ≤ f.body.length ∧ (keepS keep f).name = f.name := by
  unfold keepS
  refine ⟨by simp; omega, by simp; omega, rfl⟩

theorem fit_crash {s : DS} (h : Fit s) (keep : Int) : Fit (crashS s keep) := by
  unfold crashS
  refine ⟨h.room, by simpa using h.len, ?_, srise_names h.rises (by simp [keepS]), ?_, by simp⟩
  · have e : ∀ l : List FS, (∀ f ∈ l, f.sure ≤ f.body.length) → stotal (l.map (keepS keep)) ≤ stotal l := by
      intro l
      induction l with
      | nil => intro _; simp [stotal]
      | cons a l ih =>
        intro hs
        rw [List.map_cons, stotal_cons, stotal_cons]
        have h1 := (keepS_le (keep := keep) (hs a (by simp))).2.1
        have h2 := ih fun f hf => hs f (by simp [hf])
        omega
    exact Nat.le_trans (e s.l h.sure) h.total
  · intro f hf
    simp only [List.mem_map] at hf
    obtain ⟨g, hg, rfl⟩ := hf
    exact (keepS_le (h.sure g hg)).1

theorem fit_fuse {s : DS} (h : Fit s) {n : Int} (hn : n ≤ 9223372036854775807) : Fit (fuseS s n) := ⟨h.room, h.len, h.total, h.rises, h.sure, by unfold fuseS; simp; omega⟩
theorem fit_new {room : Nat} (h : room ≤ 4194304) : Fit (newS room) := ⟨h, by simp [newS], by simp [newS, stotal], by simp [newS], by simp [newS], by simp [newS]⟩
end Go.Proofs.YtjimgncefeldbaaGreatDoor

namespace Go.Proofs.YtjimgncefeldbaaGreatDoor
open Go.RowKit

def MS.abs (m : MS) : DS := ⟨m.room, m.l.map FV.abs, m.off, m.fused, m.left⟩

theorem pos_abs (l : List FV) (n : ByteArray) : fpos l n = spos (l.map FV.abs) n := by unfold fpos spos; rw [List.findIdx_map]; rfl
theorem there_abs (l : List FV) (n : ByteArray) : fthere l n = sthere (l.map FV.abs) n := by
  unfold fthere sthere
  rw [← pos_abs, List.getElem?_map]
  cases l[fpos l n]? <;> rfl
theorem total_abs (l : List FV) : total l = stotal (l.map FV.abs) := by simp [total, stotal, Function.comp_def, FV.abs]
theorem rises_abs {l : List FV} (h : SRise (l.map FV.abs)) (n : ByteArray) : Rises l n := by
  intro i j hij f g hf hg hlt
  by_cases he : i = j
  · subst he; rw [hf] at hg; cases hg; exact hlt
  · have h1 := rises_le h (i := i) (j := j) (by omega) (f := f.abs) (g := g.abs) (by rw [List.getElem?_map, hf]; rfl) (by rw [List.getElem?_map, hg]; rfl)
    exact Go.Proofs.YtjimgncefeldbaaGreatDoor.cmp_trans _ _ _ h1 hlt

theorem isName_no (s : ByteArray) (w : World) (hs : isNm s = false) (hsz : s.size ≤ 9223372036854775807) : Calls Tryz.prog 35 #[.string s] w fun e w' => e = .returned (.bool (isNm s)) ∧ w = w' := by
  rw [hs]
  by_cases h0 : s.size = 0
  · obtain ⟨n1, n2⟩ := no_str h0
    go_enter Tryz.func35, Tryz.ntmps35
    go_wp2
    go_ret
    exact ⟨rfl, rfl⟩
  · have hne := some_str (t := s) (by omega)
    obtain ⟨n1, n2⟩ := hne
    by_cases h64 : 64 < s.size
    · go_enter Tryz.func35, Tryz.ntmps35
      go_wp2
      go_ret
      exact ⟨rfl, rfl⟩
    · have HA : Hid (¬ ∀ k : Nat, (hk : k < s.size) → inNm s[k] = true) := fun hall => by
        have : isNm s = true := by
          simp only [isNm, Bool.and_eq_true, decide_eq_true_eq, List.all_eq_true]
          refine ⟨⟨h0, by omega⟩, fun x hx => ?_⟩
          obtain ⟨k, hk, rfl⟩ := List.mem_iff_getElem.1 hx
          exact hall k (by simpa using hk)
        rw [hs] at this; cases this
      have h64' : s.size ≤ 64 := by omega
      clear hs h0 h64
      go_enter Tryz.func35, Tryz.ntmps35
      go_wp2
      go_loop [13] (fun i => ∃ k : Nat, k ≤ s.size ∧ i = .int .i64 k ∧ Hid (∀ j : Nat, (hj : j < s.size) → j < k → inNm s[j] = true)) (fun i => s.size - (intOf i).toNat)
      case atStart => exact ⟨0, Nat.zero_le _, rfl, fun j hj h => absurd h (by omega)⟩
      case round =>
        obtain ⟨k, hk, rfl, hall⟩ := hrel
        by_cases hlt : k < s.size
        · have hc := inName_any s[k]
          cases hb : inNm s[k]
          · rw [hb] at hc
            clear hb
            go_wp2_with fail
            refine (hc _).mono ?_
            rintro e w' ⟨rfl, rfl⟩
            go_wp2
            go_ret
            exact ⟨rfl, rfl⟩
          · rw [hb] at hc
            have HB := Lib.hid hb; clear hb
            go_wp2_with fail
            refine (hc _).mono ?_
            rintro e w' ⟨rfl, rfl⟩
            go_wp2
            go_round
            case rel =>
              refine ⟨k + 1, by omega, by go_num, fun j hj hjk => ?_⟩
              by_cases he : j = k
              · subst he; exact HB.out
              · exact hall.out j hj (by omega)
            case measure => simp [intOf]; omega
        · obtain rfl : k = s.size := by omega
          exact absurd (fun j hj => hall.out j hj hj) HA.out

/-- what an act leaves: its answer, and the disk -/
def Step (B : Nat) (m : MS) (r : Int × DS) (w : World) (e : Ending) (w' : World) : Prop :=
  ∃ m' : MS, e = .returned (.int .i64 r.1) ∧ m'.abs = r.2 ∧ m'.D = m.D ∧ Lies B m' w' ∧ Chg m m' w w'

theorem glue_ret {B : Nat} {m : MS} {g : FuncId} {cb : Array Value} {w : World} {r : Int × DS} (hent : ∀ w, (callFunc g cb).run Tryz.prog w = .ok (.enter g cb) w) (h : Lies B m w) (ho : m.off = false)
    (hf : Calls Tryz.prog g cb (actW (.pointer (some ⟨m.D, 0, none⟩)) w) (Step B m r (actW (.pointer (some ⟨m.D, 0, none⟩)) w))) :
    Calls Tryz.prog 33 #[.pointer (some ⟨m.D, 0, none⟩), .func (.func g) #[] cb] w (Step B m r w) := by
  have hsz : (actW (.pointer (some ⟨m.D, 0, none⟩)) w).heap.size = w.heap.size + 2 := by simp [actW]
  have hblt : ∀ k ∈ m.blks, k < w.heap.size := fun k hk => (h.lt k hk).2
  refine (act_ret m g cb w hent h ho (fun n w1 => n = r.1 ∧ ∃ m' : MS, m'.abs = r.2 ∧ m'.D = m.D ∧ Lies B m' w1 ∧ Chg m m' (actW (.pointer (some ⟨m.D, 0, none⟩)) w) w1) (hf.mono ?_)).mono ?_
  · rintro e w1 ⟨m', rfl, ha, hD, hl, hc⟩
    refine ⟨r.1, rfl, ⟨rfl, m', ha, hD, hl, hc⟩, ?_⟩
    rw [hc.block _ (by rw [hsz]; omega) (fun hk => by have := hblt _ hk; omega)]
    rw [show w.heap.size + 1 = (w.alloc (.cells #[.pointer (some ⟨m.D, 0, none⟩)] 24)).heap.size by simp]
    exact heap_alloc_new _ _
  · rintro e w' ⟨n, w1, rfl, ⟨rfl, m', ha, hD, hl, hc⟩, rfl⟩
    have hnot : w.heap.size + 1 ∉ m'.blks := fun hk => by
      rcases hc.fresh _ hk with h1 | h1
      · have := hblt _ h1; omega
      · rw [hsz] at h1; omega
    refine ⟨m', rfl, ha, hD, hl.kept fun k hk => Below.heap_setCell _ _ _ _ (fun e => hnot (by have e' : k = w.heap.size + 1 := e; rw [← e']; exact hk)), hc.os, hc.tape, hc.output, by have := hc.size; rw [hsz] at this; simp; omega, fun k hk hn => ?_, fun k hk => ?_⟩
    · rw [Below.heap_setCell _ _ _ _ (by simp; omega), hc.block k (by rw [hsz]; omega) hn]
      exact (Joins.below_alloc2 w _ _).block k hk
    · rcases hc.fresh k hk with h1 | h1
      · exact .inl h1
      · rw [hsz] at h1; right; omega

theorem glue_pow {B : Nat} {m : MS} {a : Addr} {g : FuncId} {cb : Array Value} {w : World} {s : DS} (hent : ∀ w, (callFunc g cb).run Tryz.prog w = .ok (.enter g cb) w) (h : Lies B m w) (ho : m.off = false) (hp : Pow a w) (hg : 0 < B) (hs : m.dark.abs = s)
    (hf : Calls Tryz.prog g cb (actW (.pointer (some ⟨m.D, 0, none⟩)) w) fun e w' => e = .panicked [{ v := powV a, recovered := false }] ∧ Below (actW (.pointer (some ⟨m.D, 0, none⟩)) w).heap.size (actW (.pointer (some ⟨m.D, 0, none⟩)) w) w') :
    Calls Tryz.prog 33 #[.pointer (some ⟨m.D, 0, none⟩), .func (.func g) #[] cb] w (Step B m (10, s) w) := by
  have hsz : (actW (.pointer (some ⟨m.D, 0, none⟩)) w).heap.size = w.heap.size + 2 := by simp [actW]
  rw [hsz] at hf
  refine (act_pow m a g cb w hent h ho hp hg hf).mono ?_
  rintro e w' ⟨rfl, hl, hc⟩
  exact ⟨m.dark, rfl, hs, rfl, hl, hc⟩

theorem glue_off {B : Nat} {m : MS} {f : Value} {w : World} {r : Int × DS} (h : Lies B m w) (ho : m.off = true) (hr : r = (10, m.abs)) :
    Calls Tryz.prog 33 #[.pointer (some ⟨m.D, 0, none⟩), f] w (Step B m r w) := by
  subst hr
  refine (act_off m f w h ho).mono ?_
  rintro e w' ⟨rfl, hb⟩
  exact ⟨m, rfl, rfl, rfl, h.below hb, Chg.of_below hb⟩

/-- a call that answers an error, and leaves the disk alone -/
theorem Step.same {B : Nat} {m : MS} {w w' : World} {n : Int} {s : DS} (h : Lies B m w) (hs : m.abs = s) (hb : Below w.heap.size w w') : Step B m (n, s) w (.returned (.int .i64 n)) w' := ⟨m, rfl, hs, rfl, h.below hb, Chg.of_below hb⟩

theorem Step.from {B : Nat} {m : MS} {w wb w' : World} {r : Int × DS} {e : Ending} (hb : Below w.heap.size w wb) (h : Step B m r wb e w') : Step B m r w e w' := by
  obtain ⟨m', he, ha, hD, hl, hc⟩ := h
  exact ⟨m', he, ha, hD, hl, (Chg.of_below (m := m) hb).trans hc⟩

theorem enters_f {f : FuncId} {fn : Func} {c : Code} (hf : Tryz.prog.funcs[f]? = some fn) (hname : (fn.name == "runtime.NumGoroutine") = false) (hb : fn.body = some c) (cb : Array Value) : ∀ w, (callFunc f cb).run Tryz.prog w = .ok (.enter f cb) w := fun w => enters_of hf hname hb cb w

/-- boxes of the call's own, in the world of an act's function -/
theorem Box.act {B : Nat} {m : MS} {w wb : World} {b : Nat} {v : Value} (p : Value) (h : Lies B m w) (_hb : Below w.heap.size w wb) (hv : wb.cell? ⟨b, 0, none⟩ = some v) (hlt : b < wb.heap.size) (hge : w.heap.size ≤ b) : Box m b v (actW p wb) := by
  refine ⟨?_, by simp [actW]; omega, fun hk => by have := (h.lt b hk).2; omega⟩
  unfold actW
  rw [(Joins.below_alloc2 wb _ _).cell (p := ⟨b, 0, none⟩) hlt]; exact hv

theorem rise_m {m : MS} (hf : Fit m.abs) : SRise (m.l.map FV.abs) := hf.rises

theorem len_m {m : MS} (hf : Fit m.abs) : m.l.length ≤ 1024 := by have := hf.len; simpa [MS.abs] using this
theorem total_m {m : MS} (hf : Fit m.abs) : total m.l ≤ m.room ∧ m.room ≤ 4194304 := ⟨by have := hf.total; rw [total_abs]; exact this, hf.room⟩

theorem at_abs {l : List FV} {n : ByteArray} {f : FV} (hf : l[fpos l n]? = some f) : (l.map FV.abs)[spos (l.map FV.abs) n]? = some f.abs := by rw [← pos_abs, List.getElem?_map, hf]; rfl

theorem out_m {m : MS} (h : m.abs.out = true) : m.fused = true ∧ m.left = 0 := by
  unfold DS.out at h
  simp only [Bool.and_eq_true, beq_iff_eq] at h
  exact h
theorem may_m {m : MS} (h : m.abs.out = false) : m.may := by
  intro hf
  unfold DS.out at h
  have : (m.fused && m.left == 0) = false := h
  rw [hf] at this
  simp at this
  omega

theorem pay_abs (m : MS) : m.pay.abs = m.abs.pay := rfl
theorem dark_abs (m : MS) : m.dark.abs = m.abs.dark := rfl

theorem below1 (w : World) (a b : Obj) : Below w.heap.size w ((w.alloc a).alloc b) := Joins.below_alloc2 w a b

set_option maxHeartbeats 2000000 in
set_option maxRecDepth 100000 in
theorem sync_nil (n : ByteArray) (w : World) : Calls Tryz.prog 68 #[.pointer none, .string n] w fun e w' => e = .returned (.int .i64 12) ∧ Below w.heap.size w w' := by
  have hmf : ∀ (fn : Fn) (first cap : Array Value) (w : World), (Instr.makeFunc fn first cap).run Tryz.prog w = .ok (.func fn first cap) w := fun _ _ _ _ => rfl
  go_enter Tryz.func68, Tryz.ntmps68
  go_wp2_with fail
  refine (act_nil _ _).mono ?_
  rintro e w1 ⟨rfl, hb⟩
  have HB := Lib.hid ((below1 w _ _).trans (hb.mono (by simp; omega)))
  clear hb
  go_wp2_with fail
  go_ret
  exact ⟨rfl, HB.out⟩

set_option maxHeartbeats 2000000 in
set_option maxRecDepth 100000 in
theorem sync_any {B : Nat} (m : MS) (n : ByteArray) (a : Addr) (w : World) (h : Lies B m w) (hf : Fit m.abs) (hp : Pow a w) (hg : 0 < B) :
    Calls Tryz.prog 68 #[.pointer (some ⟨m.D, 0, none⟩), .string n] w (Step B m (syncS m.abs n) w) := by
  have hmf : ∀ (fn : Fn) (first cap : Array Value) (w : World), (Instr.makeFunc fn first cap).run Tryz.prog w = .ok (.func fn first cap) w := fun _ _ _ _ => rfl
  have hbb := below1 w (.cells #[.pointer (some ⟨m.D, 0, none⟩)] 24) (.cells #[.string n] 9)
  have hact : Calls Tryz.prog 33 #[.pointer (some ⟨m.D, 0, none⟩), .func (.func 108) #[] #[.pointer (some ⟨w.heap.size, 0, none⟩), .pointer (some ⟨w.heap.size + 1, 0, none⟩)]] ((w.alloc (.cells #[.pointer (some ⟨m.D, 0, none⟩)] 24)).alloc (.cells #[.string n] 9)) (Step B m (syncS m.abs n) ((w.alloc (.cells #[.pointer (some ⟨m.D, 0, none⟩)] 24)).alloc (.cells #[.string n] 9))) := by
    have hl := h.below hbb
    have hla := hl.below (Joins.below_alloc2 _ (.cells #[.pointer (some ⟨m.D, 0, none⟩)] 24) (.cells #[.int .i64 0] 25))
    have hent := enters_f Tryz.func108 (by kernel_rfl) rfl #[.pointer (some ⟨w.heap.size, 0, none⟩), .pointer (some ⟨w.heap.size + 1, 0, none⟩)]
    have x0 : Box m w.heap.size (.pointer (some ⟨m.D, 0, none⟩)) (actW (.pointer (some ⟨m.D, 0, none⟩)) ((w.alloc (.cells #[.pointer (some ⟨m.D, 0, none⟩)] 24)).alloc (.cells #[.string n] 9))) := Box.act _ h hbb (by simp [go_sem]) (by simp; omega) (Nat.le_refl _)
    have x1 : Box m (w.heap.size + 1) (.string n) (actW (.pointer (some ⟨m.D, 0, none⟩)) ((w.alloc (.cells #[.pointer (some ⟨m.D, 0, none⟩)] 24)).alloc (.cells #[.string n] 9))) := Box.act _ h hbb (by simp [go_sem]) (by simp) (by omega)
    cases ho : m.off
    · unfold syncS
      rw [if_neg (by rw [show m.abs.off = m.off from rfl, ho]; simp)]
      cases ht : fthere m.l n
      · rw [if_pos (by rw [show m.abs.l = m.l.map FV.abs from rfl, ← there_abs, ht]; rfl)]
        refine glue_ret hent hl ho ((syncC_none m n _ _ _ hla (len_m hf) (rises_abs hf.rises n) x0 x1 ht).mono ?_)
        rintro e w' ⟨rfl, hb⟩
        exact Step.same hla rfl hb
      · rw [if_neg (by rw [show m.abs.l = m.l.map FV.abs from rfl, ← there_abs, ht]; simp)]
        obtain ⟨f, hff, hc0⟩ := there_at ht
        unfold actS
        cases hout : m.abs.out
        · rw [if_neg (by simp)]
          refine glue_ret hent hl ho ((syncC_ok m n _ _ _ f hla (len_m hf) (rises_abs hf.rises n) x0 x1 hff hc0 hf.left (may_m hout)).mono ?_)
          rintro e w' ⟨rfl, hl', hc'⟩
          refine ⟨m.pay.syncAt (fpos m.l n) f, rfl, ?_, rfl, hl', hc'⟩
          unfold smod
          rw [show m.abs.l = m.l.map FV.abs from rfl, at_abs hff, ← pos_abs]
          simp [MS.abs, MS.syncAt, MS.pay, DS.pay, FV.abs, List.map_set]
          rfl
        · rw [if_pos rfl]
          obtain ⟨o1, o2⟩ := out_m hout
          exact glue_pow hent hl ho (hp.below hbb hp.lt) hg rfl (syncC_out m n _ _ a _ hla (len_m hf) (rises_abs hf.rises n) x0 x1 ht ((hp.below hbb hp.lt).below (Joins.below_alloc2 _ _ _) (by have := hp.lt; have := hbb.size; omega)) o1 o2)
    · exact glue_off hl ho (by unfold syncS; rw [if_pos (by exact ho)])
  have HA := Lib.hid hact
  have HBB := Lib.hid hbb
  clear hact hbb h hf hp hg
  go_enter Tryz.func68, Tryz.ntmps68
  go_wp2_with fail
  refine HA.out.mono ?_
  rintro e w1 ⟨m', rfl, hs⟩
  have HS := Lib.hid (Step.from (e := .returned (.int .i64 (syncS m.abs n).1)) HBB.out ⟨m', rfl, hs⟩)
  clear hs
  go_wp2_with fail
  go_ret
  exact HS.out
set_option maxHeartbeats 2000000 in
set_option maxRecDepth 100000 in
theorem remove_nil (n : ByteArray) (w : World) : Calls Tryz.prog 93 #[.pointer none, .string n] w fun e w' => e = .returned (.int .i64 12) ∧ Below w.heap.size w w' := by
  have hmf : ∀ (fn : Fn) (first cap : Array Value) (w : World), (Instr.makeFunc fn first cap).run Tryz.prog w = .ok (.func fn first cap) w := fun _ _ _ _ => rfl
  go_enter Tryz.func93, Tryz.ntmps93
  go_wp2_with fail
  refine (act_nil _ _).mono ?_
  rintro e w1 ⟨rfl, hb⟩
  have HB := Lib.hid ((below1 w _ _).trans (hb.mono (by simp; omega)))
  clear hb
  go_wp2_with fail
  go_ret
  exact ⟨rfl, HB.out⟩

set_option maxHeartbeats 2000000 in
set_option maxRecDepth 100000 in
theorem remove_any {B : Nat} (m : MS) (n : ByteArray) (a : Addr) (w : World) (h : Lies B m w) (hf : Fit m.abs) (hp : Pow a w) (hg : 0 < B) :
    Calls Tryz.prog 93 #[.pointer (some ⟨m.D, 0, none⟩), .string n] w (Step B m (removeS m.abs n) w) := by
  have hmf : ∀ (fn : Fn) (first cap : Array Value) (w : World), (Instr.makeFunc fn first cap).run Tryz.prog w = .ok (.func fn first cap) w := fun _ _ _ _ => rfl
  have hbb := below1 w (.cells #[.pointer (some ⟨m.D, 0, none⟩)] 24) (.cells #[.string n] 9)
  have hact : Calls Tryz.prog 33 #[.pointer (some ⟨m.D, 0, none⟩), .func (.func 119) #[] #[.pointer (some ⟨w.heap.size, 0, none⟩), .pointer (some ⟨w.heap.size + 1, 0, none⟩)]] ((w.alloc (.cells #[.pointer (some ⟨m.D, 0, none⟩)] 24)).alloc (.cells #[.string n] 9)) (Step B m (removeS m.abs n) ((w.alloc (.cells #[.pointer (some ⟨m.D, 0, none⟩)] 24)).alloc (.cells #[.string n] 9))) := by
    have hl := h.below hbb
    have hla := hl.below (Joins.below_alloc2 _ (.cells #[.pointer (some ⟨m.D, 0, none⟩)] 24) (.cells #[.int .i64 0] 25))
    have hent := enters_f Tryz.func119 (by kernel_rfl) rfl #[.pointer (some ⟨w.heap.size, 0, none⟩), .pointer (some ⟨w.heap.size + 1, 0, none⟩)]
    have x0 : Box m w.heap.size (.pointer (some ⟨m.D, 0, none⟩)) (actW (.pointer (some ⟨m.D, 0, none⟩)) ((w.alloc (.cells #[.pointer (some ⟨m.D, 0, none⟩)] 24)).alloc (.cells #[.string n] 9))) := Box.act _ h hbb (by simp [go_sem]) (by simp; omega) (Nat.le_refl _)
    have x1 : Box m (w.heap.size + 1) (.string n) (actW (.pointer (some ⟨m.D, 0, none⟩)) ((w.alloc (.cells #[.pointer (some ⟨m.D, 0, none⟩)] 24)).alloc (.cells #[.string n] 9))) := Box.act _ h hbb (by simp [go_sem]) (by simp) (by omega)
    cases ho : m.off
    · unfold removeS
      rw [if_neg (by rw [show m.abs.off = m.off from rfl, ho]; simp)]
      cases ht : fthere m.l n
      · rw [if_pos (by rw [show m.abs.l = m.l.map FV.abs from rfl, ← there_abs, ht]; rfl)]
        refine glue_ret hent hl ho ((removeC_none m n _ _ _ hla (len_m hf) (rises_abs hf.rises n) x0 x1 ht).mono ?_)
        rintro e w' ⟨rfl, hb⟩
        exact Step.same hla rfl hb
      · rw [if_neg (by rw [show m.abs.l = m.l.map FV.abs from rfl, ← there_abs, ht]; simp)]
        obtain ⟨f, hff, hc0⟩ := there_at ht
        unfold actS
        cases hout : m.abs.out
        · rw [if_neg (by simp)]
          refine glue_ret hent hl ho ((removeC_ok m n _ _ _ f hla (len_m hf) (rises_abs hf.rises n) x0 x1 hff hc0 hf.left (may_m hout)).mono ?_)
          rintro e w' ⟨v, rfl, hl', hc'⟩
          refine ⟨{ m.pay with fv := v, l := m.l.take (fpos m.l n) ++ m.l.drop (fpos m.l n + 1) }, rfl, ?_, rfl, hl', hc'⟩
          unfold sdel
          rw [show m.abs.l = m.l.map FV.abs from rfl, ← pos_abs]
          simp [MS.abs, MS.pay, DS.pay, List.map_take, List.map_drop]
          rfl
        · rw [if_pos rfl]
          obtain ⟨o1, o2⟩ := out_m hout
          exact glue_pow hent hl ho (hp.below hbb hp.lt) hg rfl (removeC_out m n _ _ a _ hla (len_m hf) (rises_abs hf.rises n) x0 x1 ht ((hp.below hbb hp.lt).below (Joins.below_alloc2 _ _ _) (by have := hp.lt; have := hbb.size; omega)) o1 o2)
    · exact glue_off hl ho (by unfold removeS; rw [if_pos (by exact ho)])
  have HA := Lib.hid hact
  have HBB := Lib.hid hbb
  clear hact hbb h hf hp hg
  go_enter Tryz.func93, Tryz.ntmps93
  go_wp2_with fail
  refine HA.out.mono ?_
  rintro e w1 ⟨m', rfl, hs⟩
  have HS := Lib.hid (Step.from (e := .returned (.int .i64 (removeS m.abs n).1)) HBB.out ⟨m', rfl, hs⟩)
  clear hs
  go_wp2_with fail
  go_ret
  exact HS.out

/-- the world in which an act of two texts is called -/
def box3 (p a b : Value) (w : World) : World := ((w.alloc (.cells #[p] 24)).alloc (.cells #[a] 9)).alloc (.cells #[b] 9)
theorem below3 (w : World) (p a b : Value) : Below w.heap.size w (box3 p a b w) := Joins.below_alloc3 w _ _ _

set_option maxHeartbeats 2000000 in
set_option maxRecDepth 100000 in
theorem append_nil (n t : ByteArray) (w : World) : Calls Tryz.prog 8 #[.pointer none, .string n, .string t] w fun e w' => e = .returned (.int .i64 12) ∧ Below w.heap.size w w' := by
  have hmf : ∀ (fn : Fn) (first cap : Array Value) (w : World), (Instr.makeFunc fn first cap).run Tryz.prog w = .ok (.func fn first cap) w := fun _ _ _ _ => rfl
  go_enter Tryz.func8, Tryz.ntmps8
  go_wp2_with fail
  refine (act_nil _ _).mono ?_
  rintro e w1 ⟨rfl, hb⟩
  have HB := Lib.hid ((below3 w _ _ _).trans (hb.mono (by simp; omega)))
  clear hb
  go_wp2_with fail
  go_ret
  exact ⟨rfl, HB.out⟩

set_option maxHeartbeats 2000000 in
set_option maxRecDepth 100000 in
theorem append_any {B : Nat} (m : MS) (n t : ByteArray) (a : Addr) (w : World) (h : Lies B m w) (hf : Fit m.abs) (hp : Pow a w) (hg : 0 < B) (hsn : n.size ≤ 9223372036854775807) (hst : t.size ≤ 9223372036854775807) :
    Calls Tryz.prog 8 #[.pointer (some ⟨m.D, 0, none⟩), .string n, .string t] w (Step B m (appendS m.abs n t) w) := by
  have hmf : ∀ (fn : Fn) (first cap : Array Value) (w : World), (Instr.makeFunc fn first cap).run Tryz.prog w = .ok (.func fn first cap) w := fun _ _ _ _ => rfl
  have hbb := below3 w (.pointer (some ⟨m.D, 0, none⟩)) (.string n) (.string t)
  have hact : Calls Tryz.prog 33 #[.pointer (some ⟨m.D, 0, none⟩), .func (.func 34) #[] #[.pointer (some ⟨w.heap.size + 1, 0, none⟩), .pointer (some ⟨w.heap.size, 0, none⟩), .pointer (some ⟨w.heap.size + 2, 0, none⟩)]] (box3 (.pointer (some ⟨m.D, 0, none⟩)) (.string n) (.string t) w) (Step B m (appendS m.abs n t) (box3 (.pointer (some ⟨m.D, 0, none⟩)) (.string n) (.string t) w)) := by
    have hl := h.below hbb
    have hla := hl.below (Joins.below_alloc2 _ (.cells #[.pointer (some ⟨m.D, 0, none⟩)] 24) (.cells #[.int .i64 0] 25))
    have hent := enters_f Tryz.func34 (by kernel_rfl) rfl #[.pointer (some ⟨w.heap.size + 1, 0, none⟩), .pointer (some ⟨w.heap.size, 0, none⟩), .pointer (some ⟨w.heap.size + 2, 0, none⟩)]
    have x0 : Box m (w.heap.size + 1) (.string n) (actW (.pointer (some ⟨m.D, 0, none⟩)) (box3 (.pointer (some ⟨m.D, 0, none⟩)) (.string n) (.string t) w)) := Box.act _ h hbb (by simp [box3, go_sem]) (by simp [box3]) (by omega)
    have x1 : Box m w.heap.size (.pointer (some ⟨m.D, 0, none⟩)) (actW (.pointer (some ⟨m.D, 0, none⟩)) (box3 (.pointer (some ⟨m.D, 0, none⟩)) (.string n) (.string t) w)) := Box.act _ h hbb (by simp [box3, go_sem]) (by simp [box3]; omega) (Nat.le_refl _)
    have x2 : Box m (w.heap.size + 2) (.string t) (actW (.pointer (some ⟨m.D, 0, none⟩)) (box3 (.pointer (some ⟨m.D, 0, none⟩)) (.string n) (.string t) w)) := Box.act _ h hbb (by simp [box3, go_sem]) (by simp [box3]) (by omega)
    have htm := total_m hf
    cases ho : m.off
    · unfold appendS
      rw [if_neg (by rw [show m.abs.off = m.off from rfl, ho]; simp)]
      cases hnm : isNm n
      · rw [if_pos (show (!false) = true from rfl)]
        refine glue_ret hent hl ho ((appendC_name m n t _ _ _ _ x0 hnm (fun w => isName_no n w hnm hsn)).mono ?_)
        rintro e w' ⟨rfl, rfl⟩
        exact Step.same hla rfl (Below.refl _ _)
      · rw [if_neg (by simp)]
        have hfe : fullB m n t.size = sfull m.abs n t.size := by
          unfold fullB sfull
          rw [there_abs, total_abs]
          simp [MS.abs]
          rfl
        cases hfl : fullB m n t.size
        · rw [if_neg (by rw [← hfe, hfl]; simp)]
          unfold actS
          cases hout : m.abs.out
          · rw [if_neg (by simp)]
            cases ht : fthere m.l n
            · rw [if_neg (by rw [show m.abs.l = m.l.map FV.abs from rfl, ← there_abs, ht]; simp)]
              refine glue_ret hent hl ho ((appendC_new m n t _ _ _ _ hla (len_m hf) (rises_abs hf.rises n) htm.1 htm.2 hst x0 x1 x2 hnm hfl ht hf.left (may_m hout)).mono ?_)
              rintro e w' ⟨v, v', rfl, hl', hc'⟩
              refine ⟨{ m.pay with fv := v, l := m.l.take (fpos m.l n) ++ { newFV n with bv := v', body := t.data.toList } :: m.l.drop (fpos m.l n) }, rfl, ?_, rfl, hl', hc'⟩
              unfold sins
              rw [show m.abs.l = m.l.map FV.abs from rfl, ← pos_abs]
              simp [MS.abs, MS.pay, DS.pay, List.map_take, List.map_drop, newFV, FV.abs]
              rfl
            · rw [if_pos (by rw [show m.abs.l = m.l.map FV.abs from rfl, ← there_abs, ht])]
              obtain ⟨f, hff, hc0⟩ := there_at ht
              refine glue_ret hent hl ho ((appendC_old m n t _ _ _ _ hla (len_m hf) (rises_abs hf.rises n) htm.1 htm.2 hst x0 x1 x2 hnm hfl f hff hc0 hf.left (may_m hout)).mono ?_)
              rintro e w' ⟨v, rfl, hl', hc'⟩
              refine ⟨{ m.pay with l := m.l.set (fpos m.l n) { f with bv := v, body := f.body ++ t.data.toList } }, rfl, ?_, rfl, hl', hc'⟩
              unfold smod
              rw [show m.abs.l = m.l.map FV.abs from rfl, at_abs hff, ← pos_abs]
              simp [MS.abs, MS.pay, DS.pay, FV.abs, List.map_set]
              rfl
          · rw [if_pos rfl]
            obtain ⟨o1, o2⟩ := out_m hout
            exact glue_pow hent hl ho (hp.below hbb hp.lt) hg rfl (appendC_out m n t _ _ _ _ hla (len_m hf) (rises_abs hf.rises n) htm.1 htm.2 hst x0 x1 x2 hnm hfl a ((hp.below hbb hp.lt).below (Joins.below_alloc2 _ _ _) (by have := hp.lt; have := hbb.size; omega)) o1 o2)
        · rw [if_pos (by rw [← hfe, hfl])]
          refine glue_ret hent hl ho ((appendC_full m n t _ _ _ _ hla (len_m hf) (rises_abs hf.rises n) htm.1 htm.2 hst x0 x1 x2 hnm hfl).mono ?_)
          rintro e w' ⟨rfl, hb⟩
          exact Step.same hla rfl hb
    · exact glue_off hl ho (by unfold appendS; rw [if_pos (by exact ho)])
  have HA := Lib.hid hact
  have HBB := Lib.hid hbb
  clear hact hbb h hf hp hg
  go_enter Tryz.func8, Tryz.ntmps8
  go_wp2_with fail
  refine HA.out.mono ?_
  rintro e w1 ⟨m', rfl, hs⟩
  have HS := Lib.hid (Step.from (e := .returned (.int .i64 (appendS m.abs n t).1)) HBB.out ⟨m', rfl, hs⟩)
  clear hs
  go_wp2_with fail
  go_ret
  exact HS.out

set_option maxHeartbeats 2000000 in
set_option maxRecDepth 100000 in
theorem rename_nil (n t : ByteArray) (w : World) : Calls Tryz.prog 130 #[.pointer none, .string n, .string t] w fun e w' => e = .returned (.int .i64 12) ∧ Below w.heap.size w w' := by
  have hmf : ∀ (fn : Fn) (first cap : Array Value) (w : World), (Instr.makeFunc fn first cap).run Tryz.prog w = .ok (.func fn first cap) w := fun _ _ _ _ => rfl
  go_enter Tryz.func130, Tryz.ntmps130
  go_wp2_with fail
  refine (act_nil _ _).mono ?_
  rintro e w1 ⟨rfl, hb⟩
  have HB := Lib.hid ((below3 w _ _ _).trans (hb.mono (by simp; omega)))
  clear hb
  go_wp2_with fail
  go_ret
  exact ⟨rfl, HB.out⟩

theorem name_eq {f : FV} {n : ByteArray} (h : cmpF n f = 0) : f.name = n := by
  have := (Go.Proofs.YtjimgncefeldbaaGreatDoor.cmp_zero _ _).1 h
  cases hn : f.name; cases n
  rw [hn] at this
  congr 1
  exact Array.toList_inj.1 this

set_option maxHeartbeats 2000000 in
set_option maxRecDepth 100000 in
theorem rename_any {B : Nat} (m : MS) (n t : ByteArray) (a : Addr) (w : World) (h : Lies B m w) (hf : Fit m.abs) (hp : Pow a w) (hg : 0 < B) (hst : t.size ≤ 9223372036854775807) :
    Calls Tryz.prog 130 #[.pointer (some ⟨m.D, 0, none⟩), .string n, .string t] w (Step B m (renameS m.abs n t) w) := by
  have hmf : ∀ (fn : Fn) (first cap : Array Value) (w : World), (Instr.makeFunc fn first cap).run Tryz.prog w = .ok (.func fn first cap) w := fun _ _ _ _ => rfl
  have hbb := below3 w (.pointer (some ⟨m.D, 0, none⟩)) (.string n) (.string t)
  have hact : Calls Tryz.prog 33 #[.pointer (some ⟨m.D, 0, none⟩), .func (.func 148) #[] #[.pointer (some ⟨w.heap.size, 0, none⟩), .pointer (some ⟨w.heap.size + 1, 0, none⟩), .pointer (some ⟨w.heap.size + 2, 0, none⟩)]] (box3 (.pointer (some ⟨m.D, 0, none⟩)) (.string n) (.string t) w) (Step B m (renameS m.abs n t) (box3 (.pointer (some ⟨m.D, 0, none⟩)) (.string n) (.string t) w)) := by
    have hl := h.below hbb
    have hla := hl.below (Joins.below_alloc2 _ (.cells #[.pointer (some ⟨m.D, 0, none⟩)] 24) (.cells #[.int .i64 0] 25))
    have hent := enters_f Tryz.func148 (by kernel_rfl) rfl #[.pointer (some ⟨w.heap.size, 0, none⟩), .pointer (some ⟨w.heap.size + 1, 0, none⟩), .pointer (some ⟨w.heap.size + 2, 0, none⟩)]
    have x1 : Box m (w.heap.size + 1) (.string n) (actW (.pointer (some ⟨m.D, 0, none⟩)) (box3 (.pointer (some ⟨m.D, 0, none⟩)) (.string n) (.string t) w)) := Box.act _ h hbb (by simp [box3, go_sem]) (by simp [box3]) (by omega)
    have x0 : Box m w.heap.size (.pointer (some ⟨m.D, 0, none⟩)) (actW (.pointer (some ⟨m.D, 0, none⟩)) (box3 (.pointer (some ⟨m.D, 0, none⟩)) (.string n) (.string t) w)) := Box.act _ h hbb (by simp [box3, go_sem]) (by simp [box3]; omega) (Nat.le_refl _)
    have x2 : Box m (w.heap.size + 2) (.string t) (actW (.pointer (some ⟨m.D, 0, none⟩)) (box3 (.pointer (some ⟨m.D, 0, none⟩)) (.string n) (.string t) w)) := Box.act _ h hbb (by simp [box3, go_sem]) (by simp [box3]) (by omega)
    cases ho : m.off
    · unfold renameS
      rw [if_neg (by rw [show m.abs.off = m.off from rfl, ho]; simp)]
      cases ht : fthere m.l n
      · rw [if_pos (by rw [show m.abs.l = m.l.map FV.abs from rfl, ← there_abs, ht]; rfl)]
        refine glue_ret hent hl ho ((renameC_none m n t _ _ _ _ hla (len_m hf) (rises_abs hf.rises n) x0 x1 x2 ht).mono ?_)
        rintro e w' ⟨rfl, hb⟩
        exact Step.same hla rfl hb
      · rw [if_neg (by rw [show m.abs.l = m.l.map FV.abs from rfl, ← there_abs, ht]; simp)]
        obtain ⟨f, hff, hc0⟩ := there_at ht
        cases hnm : isNm t
        · rw [if_pos (show (!false) = true from rfl)]
          refine glue_ret hent hl ho ((renameC_name m n t _ _ _ _ hla (len_m hf) (rises_abs hf.rises n) x0 x1 x2 ht hnm (fun w => isName_no t w hnm hst)).mono ?_)
          rintro e w' ⟨rfl, hb⟩
          exact Step.same hla rfl hb
        · rw [if_neg (by simp)]
          unfold actS
          cases hout : m.abs.out
          · rw [if_neg (by simp)]
            have hmap : (m.l.take (fpos m.l n) ++ m.l.drop (fpos m.l n + 1)).map FV.abs = sdel (m.l.map FV.abs) (spos (m.l.map FV.abs) n) := by
              rw [← pos_abs]; unfold sdel; simp [List.map_take, List.map_drop]
            have hrt : Rises (m.l.take (fpos m.l n) ++ m.l.drop (fpos m.l n + 1)) t := rises_abs (by rw [hmap]; exact List.Pairwise.sublist (sdel_sub _ _) hf.rises) t
            cases htk : fthere (m.l.take (fpos m.l n) ++ m.l.drop (fpos m.l n + 1)) t
            · refine glue_ret hent hl ho ((renameC_free m n t _ _ _ _ hla (len_m hf) (rises_abs hf.rises n) x0 x1 x2 hrt f hff hc0 hnm hf.left (may_m hout) htk).mono ?_)
              rintro e w' ⟨v, rfl, hl', hc'⟩
              refine ⟨{ m.pay with fv := v, l := (m.l.take (fpos m.l n) ++ m.l.drop (fpos m.l n + 1)).take (fpos (m.l.take (fpos m.l n) ++ m.l.drop (fpos m.l n + 1)) t) ++ { f with name := t } :: (m.l.take (fpos m.l n) ++ m.l.drop (fpos m.l n + 1)).drop (fpos (m.l.take (fpos m.l n) ++ m.l.drop (fpos m.l n + 1)) t) }, rfl, ?_, rfl, hl', hc'⟩
              unfold sren
              rw [show m.abs.l = m.l.map FV.abs from rfl, at_abs hff]
              simp only
              unfold slay
              rw [← hmap, ← there_abs, htk, if_neg (by simp), ← pos_abs]
              unfold sins
              simp [MS.abs, MS.pay, DS.pay, List.map_take, List.map_drop, FV.abs]
              rfl
            · refine glue_ret hent hl ho ((renameC_taken m n t _ _ _ _ hla (len_m hf) (rises_abs hf.rises n) x0 x1 x2 hrt f hff hc0 hnm hf.left (may_m hout) htk).mono ?_)
              rintro e w' ⟨v, rfl, hl', hc'⟩
              refine ⟨{ m.drop (fpos m.l n) v with l := (m.drop (fpos m.l n) v).l.set (fpos (m.drop (fpos m.l n) v).l t) { f with name := t } }, rfl, ?_, rfl, hl', hc'⟩
              unfold sren
              rw [show m.abs.l = m.l.map FV.abs from rfl, at_abs hff]
              simp only
              unfold slay
              rw [← hmap, ← there_abs, htk, if_pos rfl, ← pos_abs]
              simp [MS.abs, MS.drop, MS.pay, DS.pay, FV.abs, List.map_set]
              rfl
          · rw [if_pos rfl]
            obtain ⟨o1, o2⟩ := out_m hout
            exact glue_pow hent hl ho (hp.below hbb hp.lt) hg rfl (renameC_out m n t _ _ _ _ hla (len_m hf) (rises_abs hf.rises n) x0 x1 x2 ht hnm a ((hp.below hbb hp.lt).below (Joins.below_alloc2 _ _ _) (by have := hp.lt; have := hbb.size; omega)) o1 o2)
    · exact glue_off hl ho (by unfold renameS; rw [if_pos (by exact ho)])
  have HA := Lib.hid hact
  have HBB := Lib.hid hbb
  clear hact hbb h hf hp hg
  go_enter Tryz.func130, Tryz.ntmps130
  go_wp2_with fail
  refine HA.out.mono ?_
  rintro e w1 ⟨m', rfl, hs⟩
  have HS := Lib.hid (Step.from (e := .returned (.int .i64 (renameS m.abs n t).1)) HBB.out ⟨m', rfl, hs⟩)
  clear hs
  go_wp2_with fail
  go_ret
  exact HS.out
end Go.Proofs.YtjimgncefeldbaaGreatDoor

namespace Go.Proofs.YtjimgncefeldbaaGreatDoor
open Go.RowKit

/-- At D, from block B on, lies a disk in the state s; it has the blocks bl. -/
def Disk (B D : Nat) (s : DS) (bl : List Nat) (w : World) : Prop := Fit s ∧ ∃ m : MS, m.D = D ∧ m.abs = s ∧ m.blks = bl ∧ Lies B m w

/-- Of the blocks that were there only those of bl may have turned; bl' are of them, or new. -/
structure Fr (bl bl' : List Nat) (w w' : World) : Prop where
  os : w'.os = w.os
  tape : w'.tape = w.tape
  output : w'.output = w.output
  size : w.heap.size ≤ w'.heap.size
  block : ∀ k, k < w.heap.size → k ∉ bl → w'.heap[k]? = w.heap[k]?
  fresh : ∀ k ∈ bl', k ∈ bl ∨ w.heap.size ≤ k

theorem Fr.of {m m' : MS} {w w' : World} (h : Chg m m' w w') : Fr m.blks m'.blks w w' := ⟨h.os, h.tape, h.output, h.size, h.block, h.fresh⟩
theorem Fr.of_below {bl : List Nat} {w w' : World} (h : Below w.heap.size w w') : Fr bl bl w w' := ⟨h.os, h.tape, h.output, h.size, fun k hk _ => h.block k hk, fun _ h => .inl h⟩
theorem Fr.below {bl bl' : List Nat} {B : Nat} {w w' : World} (h : Fr bl bl' w w') (hB : ∀ k ∈ bl, B ≤ k) (hs : B ≤ w.heap.size) : Below B w w' :=
  ⟨h.os, h.tape, h.output, h.size, fun k hk => h.block k (by omega) (fun hb => by have := hB k hb; omega)⟩

theorem Disk.lt {B D : Nat} {s : DS} {bl : List Nat} {w : World} (h : Disk B D s bl w) : ∀ k ∈ bl, B ≤ k ∧ k < w.heap.size := by
  obtain ⟨_, m, _, _, rfl, hl⟩ := h
  exact hl.lt
theorem Disk.base {B D : Nat} {s : DS} {bl : List Nat} {w : World} (h : Disk B D s bl w) : B ≤ D ∧ D < w.heap.size := by
  obtain ⟨_, m, rfl, _, rfl, hl⟩ := h
  exact hl.lt m.D (by simp [MS.blks])
theorem Disk.fit {B D : Nat} {s : DS} {bl : List Nat} {w : World} (h : Disk B D s bl w) : Fit s := h.1
theorem Disk.keep {B D : Nat} {s : DS} {bl : List Nat} {w w' : World} (h : Disk B D s bl w) (hb : Below w.heap.size w w') : Disk B D s bl w' := by
  obtain ⟨hf, m, h1, h2, h3, hl⟩ := h
  exact ⟨hf, m, h1, h2, h3, hl.below hb⟩
theorem Disk.other {B D : Nat} {s : DS} {bl b1 b2 : List Nat} {w w' : World} (h : Disk B D s bl w) (hc : Fr b1 b2 w w') (hd : ∀ k ∈ bl, k ∉ b1) : Disk B D s bl w' ∧ ∀ k ∈ bl, k ∉ b2 := by
  have hlt := h.lt
  obtain ⟨hf, m, h1, h2, h3, hl⟩ := h
  refine ⟨⟨hf, m, h1, h2, h3, hl.kept fun k hk => hc.block k (hl.lt k hk).2 (hd k (by rw [← h3]; exact hk))⟩, fun k hk hk2 => ?_⟩
  rcases hc.fresh k hk2 with h | h
  · exact hd k hk h
  · have := (hlt k hk).2; omega
theorem Disk.le {B B' D : Nat} {s : DS} {bl : List Nat} {w : World} (h : Disk B D s bl w) (hB : B' ≤ B) : Disk B' D s bl w := by
  obtain ⟨hf, m, h1, h2, h3, hl⟩ := h
  exact ⟨hf, m, h1, h2, h3, hl.le hB⟩

/-- what an act leaves -/
def Acts (B D : Nat) (bl : List Nat) (r : Int × DS) (w : World) (e : Ending) (w' : World) : Prop := ∃ bl', e = .returned (.int .i64 r.1) ∧ Disk B D r.2 bl' w' ∧ Fr bl bl' w w'
/-- what a call leaves that answers nothing -/
def Turns (B D : Nat) (bl : List Nat) (s : DS) (w : World) (e : Ending) (w' : World) : Prop := ∃ bl', e = .returned (.tuple #[]) ∧ Disk B D s bl' w' ∧ Fr bl bl' w w'

theorem acts_of {B D : Nat} {m : MS} {r : Int × DS} {w w' : World} {e : Ending} (hD : m.D = D) (hf : Fit r.2) (h : Step B m r w e w') : Acts B D m.blks r w e w' := by
  obtain ⟨m', he, ha, hD', hl, hc⟩ := h
  exact ⟨m'.blks, he, ⟨hf, m', hD'.trans hD, ha, rfl, hl⟩, Fr.of hc⟩

def listD (s : DS) (p : ByteArray) : List ByteArray := if s.off then [] else (s.l.map (·.name)).filter (hasP p)

theorem dAppend {B D : Nat} {s : DS} {bl : List Nat} {w : World} (h : Disk B D s bl w) (n t : ByteArray) (a : Addr) (hp : Pow a w) (hg : 0 < B) (hsn : n.size ≤ 9223372036854775807) (hst : t.size ≤ 9223372036854775807) :
    Calls Tryz.prog 8 #[.pointer (some ⟨D, 0, none⟩), .string n, .string t] w (Acts B D bl (appendS s n t) w) := by
  obtain ⟨hf, m, rfl, rfl, rfl, hl⟩ := h
  exact (append_any m n t a w hl hf hp hg hsn hst).mono fun e w' => acts_of rfl (fit_append hf n t)
theorem dSync {B D : Nat} {s : DS} {bl : List Nat} {w : World} (h : Disk B D s bl w) (n : ByteArray) (a : Addr) (hp : Pow a w) (hg : 0 < B) :
    Calls Tryz.prog 68 #[.pointer (some ⟨D, 0, none⟩), .string n] w (Acts B D bl (syncS s n) w) := by
  obtain ⟨hf, m, rfl, rfl, rfl, hl⟩ := h
  exact (sync_any m n a w hl hf hp hg).mono fun e w' => acts_of rfl (fit_sync hf n)
theorem dRemove {B D : Nat} {s : DS} {bl : List Nat} {w : World} (h : Disk B D s bl w) (n : ByteArray) (a : Addr) (hp : Pow a w) (hg : 0 < B) :
    Calls Tryz.prog 93 #[.pointer (some ⟨D, 0, none⟩), .string n] w (Acts B D bl (removeS s n) w) := by
  obtain ⟨hf, m, rfl, rfl, rfl, hl⟩ := h
  exact (remove_any m n a w hl hf hp hg).mono fun e w' => acts_of rfl (fit_remove hf n)
theorem dRename {B D : Nat} {s : DS} {bl : List Nat} {w : World} (h : Disk B D s bl w) (n t : ByteArray) (a : Addr) (hp : Pow a w) (hg : 0 < B) (hst : t.size ≤ 9223372036854775807) :
    Calls Tryz.prog 130 #[.pointer (some ⟨D, 0, none⟩), .string n, .string t] w (Acts B D bl (renameS s n t) w) := by
  obtain ⟨hf, m, rfl, rfl, rfl, hl⟩ := h
  exact (rename_any m n t a w hl hf hp hg hst).mono fun e w' => acts_of rfl (fit_rename hf n t)

theorem readS_abs (m : MS) (b : ByteArray) : readS m b = readD m.abs b := by
  unfold readS readD
  rw [show m.abs.off = m.off from rfl, show m.abs.l = m.l.map FV.abs from rfl, ← pos_abs, List.getElem?_map]
  cases m.l[fpos m.l b]? <;> rfl
theorem listS_abs (m : MS) (p : ByteArray) : listS m p = listD m.abs p := by
  unfold listS listD namesOf
  rw [show m.abs.off = m.off from rfl, show m.abs.l = m.l.map FV.abs from rfl, List.map_map]
  rfl
theorem crash_abs (m : MS) (keep : Int) : (m.crash keep).abs = crashS m.abs keep := by
  unfold MS.crash crashS MS.abs
  simp only [List.map_map]
  congr 1

theorem dRead {B D : Nat} {s : DS} {bl : List Nat} {w : World} (h : Disk B D s bl w) (n : ByteArray) :
    Calls Tryz.prog 85 #[.pointer (some ⟨D, 0, none⟩), .string n] w fun e w' => e = .returned (.tuple #[.string (readD s n).1, .int .i64 (readD s n).2]) ∧ Below w.heap.size w w' := by
  obtain ⟨hf, m, rfl, rfl, rfl, hl⟩ := h
  rw [← readS_abs]
  exact read_any m n w hl (len_m hf) (rises_abs hf.rises n)
theorem dList {B D : Nat} {s : DS} {bl : List Nat} {w : World} (h : Disk B D s bl w) (p : ByteArray) :
    Calls Tryz.prog 91 #[.pointer (some ⟨D, 0, none⟩), .string p] w (ListPost (listD s p) w) := by
  obtain ⟨hf, m, rfl, rfl, rfl, hl⟩ := h
  rw [← listS_abs]
  exact list_any m p w hl (len_m hf)
theorem dOff {B D : Nat} {s : DS} {bl : List Nat} {w : World} (h : Disk B D s bl w) :
    Calls Tryz.prog 18 #[.pointer (some ⟨D, 0, none⟩)] w fun e w' => e = .returned (.bool s.off) ∧ w = w' := by
  obtain ⟨hf, m, rfl, rfl, rfl, hl⟩ := h
  exact off_any m w hl
theorem dUsed {B D : Nat} {s : DS} {bl : List Nat} {w : World} (h : Disk B D s bl w) :
    Calls Tryz.prog 37 #[.pointer (some ⟨D, 0, none⟩)] w fun e w' => e = .returned (.int .i64 (stotal s.l : Int)) ∧ Below w.heap.size w w' := by
  obtain ⟨hf, m, rfl, rfl, rfl, hl⟩ := h
  have := total_m hf
  rw [show stotal m.abs.l = total m.l from (total_abs m.l).symm]
  exact used_any m w hl (len_m hf) (by omega)
theorem dFuse {B D : Nat} {s : DS} {bl : List Nat} {w : World} (h : Disk B D s bl w) (n : Int) (hn : n ≤ 9223372036854775807) :
    Calls Tryz.prog 17 #[.pointer (some ⟨D, 0, none⟩), .int .i64 n] w (Turns B D bl (fuseS s n) w) := by
  obtain ⟨hf, m, rfl, rfl, rfl, hl⟩ := h
  refine (fuse_any m w n hl).mono ?_
  rintro e w' ⟨rfl, h1, h2⟩
  exact ⟨(m.fuse n).blks, rfl, ⟨fit_fuse hf hn, m.fuse n, rfl, rfl, rfl, h1⟩, Fr.of h2⟩
theorem dCrash {B D : Nat} {s : DS} {bl : List Nat} {w : World} (h : Disk B D s bl w) (k : Int) :
    Calls Tryz.prog 26 #[.pointer (some ⟨D, 0, none⟩), .int .i64 k] w (Turns B D bl (crashS s k) w) := by
  obtain ⟨hf, m, rfl, rfl, rfl, hl⟩ := h
  have ht := total_m hf
  refine (crash_any m k w hl (len_m hf) (by omega) (fun f hfm => hf.sure f.abs (List.mem_map_of_mem hfm))).mono ?_
  rintro e w' ⟨rfl, h1, h2⟩
  exact ⟨(m.crash k).blks, rfl, ⟨fit_crash hf k, m.crash k, rfl, crash_abs m k, rfl, h1⟩, Fr.of h2⟩
/-- what Copy and New leave -/
def Made (s : DS) (w : World) (D : Nat) (bl : List Nat) (w' : World) : Prop := Disk w.heap.size D s bl w' ∧ Below w.heap.size w w'
def CopyLeft (s : DS) (w : World) (e : Ending) (w' : World) : Prop := ∃ D bl, e = .returned (.pointer (some ⟨D, 0, none⟩)) ∧ Made s w D bl w'
def NewLeft (room : Nat) (w : World) (e : Ending) (w' : World) : Prop := ∃ bl, e = .returned (.tuple #[.pointer (some ⟨w.heap.size, 0, none⟩), .int .i64 0]) ∧ Made (newS room) w w.heap.size bl w'
theorem dNew (room : Nat) (w : World) (hr : room ≤ 4194304) : Calls Tryz.prog 6 #[.int .i64 (room : Int)] w (NewLeft room w) := by
  refine (new_ok room w hr).mono ?_
  rintro e w' ⟨rfl, h1, h2⟩
  exact ⟨_, rfl, ⟨fit_new hr, newMS w.heap.size room, rfl, rfl, rfl, h1⟩, h2⟩
end Go.Proofs.YtjimgncefeldbaaGreatDoor

namespace Go.Proofs.YtjimgncefeldbaaGreatDoor
open Go.Lib Go.RowKit

theorem cmpS_self {n : ByteArray} {f : FS} (h : f.name = n) : cmpS n f = 0 := by unfold cmpS; rw [h]; exact (cmp_zero _ _).2 rfl
theorem not_there {l : List FS} (h : SRise l) {n : ByteArray} (ht : sthere l n = false) : ∀ f ∈ l, f.name ≠ n := by
  intro f hf e
  obtain ⟨k, hk⟩ := List.mem_iff_getElem?.1 hf
  have h0 := cmpS_self e
  by_cases hlt : k < spos l n
  · have := before_pos hlt hk; omega
  · have := after_pos h ht (by omega) hk; omega
theorem is_there {l : List FS} (h : SRise l) {f : FS} (hf : f ∈ l) : sthere l f.name = true ∧ l[spos l f.name]? = some f := by
  cases ht : sthere l f.name
  · exact absurd rfl (not_there h ht f hf)
  · refine ⟨rfl, ?_⟩
    obtain ⟨g, hg, hn⟩ := sthere_at ht
    obtain ⟨k, hk⟩ := List.mem_iff_getElem?.1 hf
    by_cases h1 : k < spos l f.name
    · have := before_pos h1 hk; have := cmpS_self (f := f) rfl; omega
    · by_cases h2 : k = spos l f.name
      · rw [← h2]; exact hk
      · have h3 := rises_le h (show spos l f.name < k by omega) hg hk
        rw [hn, (cmp_zero _ _).2 rfl] at h3; omega
theorem read_off {s : DS} (h : Fit s) (ho : s.off = false) {f : FS} (hf : f ∈ s.l) : readD s f.name = (⟨f.body.toArray⟩, 0) := by
  unfold readD
  rw [if_neg (by rw [ho]; simp), (is_there h.rises hf).2]
  simp [cmpS_self (f := f) rfl]
theorem body_le {l : List FS} {f : FS} (hf : f ∈ l) : f.body.length ≤ stotal l := by
  obtain ⟨k, hk⟩ := List.mem_iff_getElem?.1 hf
  have := stotal_split hk
  omega
end Go.Proofs.YtjimgncefeldbaaGreatDoor
