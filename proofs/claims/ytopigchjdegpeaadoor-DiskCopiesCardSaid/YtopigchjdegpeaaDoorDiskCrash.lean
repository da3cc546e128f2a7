/-
  disk: Crash.
-/
import Derived.Test.YtopigchjdegpeaaDoorDiskSync
namespace Go.Proofs.YtopigchjdegpeaaDoor
open Go.RowKit

/-- so many bytes are kept -/
def keptN (keep : Int) (f : FV) : Nat := f.sure + (min (max keep 0) ((f.body.length : Int) - (f.sure : Int))).toNat
def cut (v : Value) (k : Nat) : Value := match v with | .slice p _ c => .slice p k c | v => v
/-- a file behind a crash -/
def crashF (keep : Int) (f : FV) : FV := { f with bv := cut f.bv (keptN keep f), body := f.body.take (keptN keep f), sure := keptN keep f }

theorem keptN_le {keep : Int} {f : FV} (h : f.sure ≤ f.body.length) : f.sure ≤ keptN keep f ∧ keptN keep f ≤ f.body.length := by unfold keptN; omega
theorem keptN_int {keep : Int} {f : FV} (h : f.sure ≤ f.body.length) : ((keptN keep f : Nat) : Int) = (f.sure : Int) + min (max keep 0) ((f.body.length : Int) - (f.sure : Int)) := by unfold keptN; omega

theorem OwnB.cut {B : Nat} {v : Value} {l : List UInt8} {w : World} (h : OwnB B v l w) (k : Nat) (hk : k ≤ l.length) : OwnB B (cut v k) (l.take k) w := by
  have hl : (l.take k).length = k := by simp; omega
  unfold OwnB
  rcases h.2 with ⟨rfl, h0⟩ | ⟨g, cap, cur, rfl, hb, hg, hnc, hcm, hcs, htake⟩
  · have : k = 0 := by omega
    subst this
    refine ⟨by simp [Lib.byteCells], .inl ⟨rfl, by simp⟩⟩
  · refine ⟨by simp [Lib.byteCells], .inr ⟨g, cap, cur, by rw [hl]; rfl, hb, hg, by omega, hcm, hcs, ?_⟩⟩
    rw [hl, show Lib.byteCells (l.take k) = (Lib.byteCells l).take k by simp [Lib.byteCells], ← htake, List.take_take]
    congr 1; omega

theorem OwnB.form2 {B : Nat} {v : Value} {l : List UInt8} {w : World} (h : OwnB B v l w) : ∃ p c, v = .slice p l.length c ∧ l.length ≤ c ∧ c ≤ maxLen ∧ (p = none ∨ ∃ g, p = some ⟨g, 0, none⟩) ∧ (p = none → l.length = 0 ∧ c = 0) := by
  rcases h.2 with ⟨hv, h0⟩ | ⟨g, cap, cur, hv, _, _, hnc, hcm, _⟩
  · exact ⟨none, 0, by rw [h0]; exact hv, by omega, by simp [maxLen], .inl rfl, fun _ => ⟨h0, rfl⟩⟩
  · exact ⟨_, _, hv, hnc, hcm, .inr ⟨g, rfl⟩, fun h => by cases h⟩

theorem cut_blk (v : Value) (k : Nat) : (cut v k).ownBlock = v.ownBlock := by
  cases v with
  | slice a l c => cases a <;> rfl
  | _ => rfl

/-- the disk of which k files have crashed -/
def MS.crashed (m : MS) (keep : Int) (k : Nat) : MS := { m with l := (m.l.take k).map (crashF keep) ++ m.l.drop k }

theorem crashed_at {m : MS} {keep : Int} {k : Nat} {f : FV} (hf : m.l[k]? = some f) : (m.crashed keep k).l[k]? = some f ∧ (m.crashed keep k).l.set k (crashF keep f) = (m.crashed keep (k + 1)).l := by
  have hk : k < m.l.length := (List.getElem?_eq_some_iff.1 hf).1
  have hl : ((m.l.take k).map (crashF keep)).length = k := by simp; omega
  have hd : m.l.drop k = f :: m.l.drop (k + 1) := by rw [List.drop_eq_getElem_cons hk, (List.getElem?_eq_some_iff.1 hf).2]
  unfold MS.crashed
  simp only
  refine ⟨by rw [List.getElem?_append_right (by omega), hl, hd]; simp, ?_⟩
  rw [List.set_append_right _ _ (by omega), hl, hd, Nat.sub_self, List.set_cons_zero, List.take_add_one, hf]
  simp

theorem Lies.crash1 {B : Nat} {m : MS} {w : World} {keep : Int} {k : Nat} {f : FV} {F n cap : Nat} (h : Lies B (m.crashed keep k) w) (hv : m.fv = .slice (some ⟨F, 0, none⟩) n cap) (hf : m.l[k]? = some f) (hs : f.sure ≤ f.body.length) :
    Lies B (m.crashed keep (k + 1)) ((w.setCell ⟨F, k * 3 + 2, none⟩ (.int .i64 (keptN keep f : Int))).setCell ⟨F, k * 3 + 1, none⟩ (cut f.bv (keptN keep f))) ∧
    Chg (m.crashed keep k) (m.crashed keep (k + 1)) w ((w.setCell ⟨F, k * 3 + 2, none⟩ (.int .i64 (keptN keep f : Int))).setCell ⟨F, k * 3 + 1, none⟩ (cut f.bv (keptN keep f))) := by
  obtain ⟨e1, e2⟩ := crashed_at (m := m) (keep := keep) hf
  have hk : k < (m.crashed keep k).l.length := (List.getElem?_eq_some_iff.1 e1).1
  obtain ⟨a1, a2⟩ := h.setFile (F := F) (n := n) (cap := cap) hv e1 (j := 2) (f' := { f with sure := keptN keep f }) (by omega) (.int .i64 (keptN keep f : Int)) rfl rfl (fun _ h => h)
  have e3 : ({ m.crashed keep k with l := (m.crashed keep k).l.set k { f with sure := keptN keep f } } : MS).l[k]? = some { f with sure := keptN keep f } := by simp [hk]
  obtain ⟨b1, b2⟩ := a1.setFile (F := F) (n := n) (cap := cap) hv e3 (j := 1) (f' := crashF keep f) (by omega) (cut f.bv (keptN keep f)) rfl (cut_blk _ _) (fun w' h => OwnB.cut h _ (keptN_le hs).2)
  have e4 : ({ ({ m.crashed keep k with l := (m.crashed keep k).l.set k { f with sure := keptN keep f } } : MS) with l := ({ m.crashed keep k with l := (m.crashed keep k).l.set k { f with sure := keptN keep f } } : MS).l.set k (crashF keep f) } : MS) = m.crashed keep (k + 1) := by
    have : ((m.crashed keep k).l.set k { f with sure := keptN keep f }).set k (crashF keep f) = (m.crashed keep (k + 1)).l := by rw [List.set_set, e2]
    show ({ m.crashed keep k with l := _ } : MS) = _
    rw [this]
    rfl
  rw [e4] at b1 b2
  exact ⟨b1, a2.trans b2⟩

set_option maxHeartbeats 1000000 in
set_option maxRecDepth 100000 in
theorem crash_nil (k : Int) (w : World) : Calls Tryd.prog 17 #[.pointer none, .int .i64 k] w fun e w' => e = .returned (.tuple #[]) ∧ w = w' := by
  go_enter Tryd.func17, Tryd.ntmps17
  go_wp2
  refine bodyPost_ret (results_none rfl _ _ _) rfl ?_
  exact ⟨rfl, rfl⟩

/-- the disk behind a crash -/
def MS.crash (m : MS) (keep : Int) : MS := { m with l := m.l.map (crashF keep), off := false, fused := false, left := 0 }

theorem Lies.drewN {B : Nat} {m : MS} {w : World} (h : Lies B m w) (n : Nat) : Lies B m (w.drewN n) := ⟨h.head, h.base, h.row, h.body, h.apart⟩
theorem Chg.fromN {m m' : MS} {w w' : World} {n : Nat} (h : Chg m m' (w.drewN n) w') : Chg m m' w w' := ⟨h.os, h.tape, h.output, h.size, h.block, h.fresh⟩

theorem lies_lit {B : Nat} {m m' : MS} {w : World} (h : Lies B m w) (e : m = m') : Lies B m' w := e ▸ h

set_option maxHeartbeats 4000000 in
set_option maxRecDepth 100000 in
theorem crash_any {B : Nat} (m : MS) (keep : Int) (w : World) (h : Lies B m w) (hlen : m.l.length ≤ 1024) (ht : total m.l ≤ 4194304) (hs : ∀ f ∈ m.l, f.sure ≤ f.body.length) :
    Calls Tryd.prog 17 #[.pointer (some ⟨m.D, 0, none⟩), .int .i64 keep] w fun e w' => e = .returned (.tuple #[]) ∧ Lies B (m.crash keep) w' ∧ Chg m (m.crash keep) w w' := by
  have hc := h.cell 1
  simp only [MS.head, List.getElem?_toArray, List.getElem?_cons_succ, List.getElem?_cons_zero] at hc
  have c0 : m.crashed keep 0 = m := by cases m; simp [MS.crashed]
  have HH := Lib.hid h
  have HS := Lib.hid hs
  obtain ⟨p, c, hfv⟩ : ∃ p c, m.fv = .slice p m.l.length c := by
    rcases Joins.ownsRow_forms h.row with ⟨hv, h0⟩ | ⟨F, cap, hv⟩
    · exact ⟨none, 0, by rw [h0]; exact hv⟩
    · exact ⟨_, _, hv⟩
  rw [hfv] at hc
  have HFV := Lib.hid hfv
  have H0 := Lib.hid c0
  clear h hs hfv c0
  go_enter Tryd.func17, Tryd.ntmps17
  go_wp2_with fail
  go_loopw [14] (fun i wr => ∃ k : Nat, k ≤ m.l.length ∧ i = .int .i64 k ∧ Lies B (m.crashed keep k) wr ∧ Chg m (m.crashed keep k) w wr) (fun i _ => m.l.length - (intOf i).toNat)
  case atStart => exact ⟨0, Nat.zero_le _, rfl, by rw [H0.out]; exact HH.out, by rw [H0.out]; exact Chg.refl _ _⟩
  case round =>
    obtain ⟨k, hk, rfl, hl, hch⟩ := hrel
    by_cases hlt : k < m.l.length
    · obtain ⟨f, hf⟩ : ∃ f, m.l[k]? = some f := ⟨_, List.getElem?_eq_getElem hlt⟩
      obtain ⟨F, cap, hv⟩ : ∃ F cap, m.fv = .slice (some ⟨F, 0, none⟩) m.l.length cap := by
        rcases Joins.ownsRow_forms HH.out.row with ⟨_, hl0⟩ | hv
        · omega
        · exact hv
      have hsf := HS.out f (List.mem_of_getElem? hf)
      obtain ⟨e1, _⟩ := crashed_at (m := m) (keep := keep) hf
      obtain ⟨-, hF, -, hrow⟩ := hl.frow hv
      obtain ⟨-, kb, ks⟩ := hrow k f e1
      have kD := hl.cell 1
      simp only [MS.head, List.getElem?_toArray, List.getElem?_cons_succ, List.getElem?_cons_zero] at kD
      have kD : wr.cell? ⟨m.D, 1, none⟩ = some m.fv := kD
      rw [hv] at kD
      have hr := hl.row
      rw [show (m.crashed keep k).fv = _ from hv] at hr
      have hcl : (m.crashed keep k).l.length = m.l.length := by simp [MS.crashed]; omega
      rw [hcl] at hr
      have fr1 := World.ownsRow.frozenAt hr (k * 3 + 1)
      have fr2 := World.ownsRow.frozenAt hr (k * 3 + 2)
      obtain ⟨pb, cb, hbv, hbc, hbm, hpb, hpn⟩ := OwnB.form2 (hl.body f (List.mem_of_getElem? e1))
      have hbl : f.body.length ≤ 4194304 := by
        have h1 := total_succ hf
        have h2 := total_le m.l (k + 1)
        omega
      have hkn := keptN_le (keep := keep) hsf
      have hki := keptN_int (keep := keep) hsf
      have HQ : Hid (∀ nq, Lies B (m.crashed keep (k + 1)) (((wr.drewN nq).setCell ⟨F, k * 3 + 2, none⟩ (.int .i64 (keptN keep f : Int))).setCell ⟨F, k * 3 + 1, none⟩ (cut f.bv (keptN keep f))) ∧ Chg m (m.crashed keep (k + 1)) w (((wr.drewN nq).setCell ⟨F, k * 3 + 2, none⟩ (.int .i64 (keptN keep f : Int))).setCell ⟨F, k * 3 + 1, none⟩ (cut f.bv (keptN keep f)))) :=
        fun nq => ⟨((hl.drewN nq).crash1 hv hf hsf).1, hch.trans ((hl.drewN nq).crash1 hv hf hsf).2.fromN⟩
      rw [hbv] at kb HQ
      unfold maxLen at hbm
      clear hl hch hr hrow e1 hf hv hcl hbv
      generalize hKN : keptN keep f = K at *
      have HKN := Lib.hid hKN; clear hKN
      generalize f.body.length = nb at *
      generalize f.sure = sf at *
      generalize hn : m.l.length = N at *
      clear hn
      have HKI := Lib.hid hki; clear hki
      have hK0 : (0 : Int) ≤ (K : Int) := by omega
      have hK1 : (K : Int) ≤ (cb : Int) := by omega
      have hK2 : K ≤ cb := by omega
      clear hpn
      rcases hpb with rfl | ⟨g, rfl⟩
      all_goals
        go_wp2_with fail
        go_quiet (fail)
        go_wp2_with fail
        rw [← HKI.out]
        go_region
        go_wp2_with fail
        go_roundw
        case rel => exact ⟨k + 1, by omega, by go_num, (HQ.out nq).1.drew, (HQ.out nq).2.drew⟩
        case measure => simp [intOf]; omega
    · obtain rfl : k = m.l.length := by omega
      have e : m.crashed keep m.l.length = { m with l := m.l.map (crashF keep) } := by simp [MS.crashed]
      rw [e] at hl hch
      have kz := hl.free 2
      have kc := hl.cell 2
      simp only [MS.head, List.getElem?_toArray, List.getElem?_cons_succ, List.getElem?_cons_zero] at kc
      obtain ⟨a1, a2⟩ := hl.setHead (m' := { m with l := m.l.map (crashF keep), off := false }) 2 (.bool false) (by simp [MS.head]) rfl rfl rfl
      have HF := Lib.hid (fuse_any _ _ (-1) a1)
      have HC := Lib.hid (hch.trans a2)
      clear a1 a2 hl hch
      go_wp2_with fail
      refine HF.out.mono ?_
      rintro e w5 ⟨rfl, h5, h6⟩
      have H5 := Lib.hid (And.intro h5 (HC.out.trans h6))
      clear h5 h6
      go_wp2_with fail
      go_end0
      exact ⟨rfl, H5.out⟩
end Go.Proofs.YtopigchjdegpeaaDoor
