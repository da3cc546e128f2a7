/-
  disk: slices.Clone of bytes and of files; Copy.
-/
import Derived.Test.YtopigchjdegpeaaDoorDiskSync
import Derived.Lib.SliceRun
namespace Go.Proofs.YtopigchjdegpeaaDoor
open Go.RowKit

/-- what a file is, wherever its bytes lie -/
structure FS where
  name : ByteArray
  body : List UInt8
  sure : Nat
deriving DecidableEq
def FV.abs (f : FV) : FS := ⟨f.name, f.body, f.sure⟩

/-- what Clone answers: a row of the call's own -/
def ClonePost (e : TypeId) (sz : Nat) (v : Value) (n : Nat) (xs : List Value) (w : World) (en : Ending) (w' : World) : Prop :=
  ∃ v', en = .returned v' ∧ w'.ownsRow w.heap.size e sz v' n xs ∧ Below w.heap.size w w' ∧ SF w v v' ∧ ∃ p c, v' = .slice p n c

theorem own_empty0 (w : World) (e : TypeId) (sz : Nat) : (w.alloc (.cells #[] e)).ownsRow w.heap.size e sz (.slice (some ⟨w.heap.size, 0, none⟩) 0 0) 0 [] :=
  ⟨by simp, .inr ⟨w.heap.size, 0, #[], rfl, Nat.le_refl _, heap_alloc_new w _, Nat.le_refl _, by simp [maxLen], by simp, by simp⟩⟩

set_option maxHeartbeats 1000000 in
set_option maxRecDepth 100000 in
theorem cloneB_any (B : Nat) (v : Value) (l : List UInt8) (w : World) (h : OwnB B v l w) (hl : l.length ≤ 4194304) :
    Calls Tryd.prog 25 #[v] w (ClonePost 5 1 v l.length (Lib.byteCells l) w) := by
  obtain ⟨i0, hi, hz0, hz1, hz2⟩ := info_parts bytesInfo
  rcases h.2 with ⟨rfl, h0⟩ | ⟨g, cap, cur, rfl, hb, hg, hnc, hcm, hcs, htake⟩
  · have : l = [] := List.length_eq_zero_iff.1 h0
    subst this
    have HF := Lib.hid (show ClonePost 5 1 (.slice none 0 0) 0 (Lib.byteCells []) w (.returned (.slice none 0 0)) w from ⟨_, rfl, World.ownsRow_nil _ _ _ _, Below.refl _ _, .inl rfl, _, _, rfl⟩)
    clear h h0
    have hq := fun (w : World) (a : Option Addr) (n c : Nat) => Lib.run_eql_slice_nil (P := Tryd.prog) w 55 5 a n c 0 0 Tryd.underlying55
    go_enter Tryd.func25, Tryd.ntmps25
    go_wp2_with fail
    go_ret
    exact HF.out
  · have hcells : ∀ j u, (Lib.byteCells l)[j]? = some u → (w.alloc (.cells #[] 5)).cell? ((⟨g, 0, none⟩ : Addr).add j) = some u := (World.ownsRow.alloc h (.cells #[] 5)).cells (g := g) rfl
    obtain ⟨v', W', hr, ho, hgr, hsf, hform⟩ := run_append_sf (P := Tryd.prog) (w.alloc (.cells #[] 5)) w.heap.size 55 55 55 5 i0 (.int .u8 0) 1 1 Tryd.underlying55 hi hz0 hz1 hz2 rfl _ 0 [] (own_empty0 w _ _)
      (.slice (some ⟨g, 0, none⟩) l.length cap) l.length (Lib.byteCells l) (Src.ofSlice _ Tryd.underlying55 ⟨g, 0, none⟩ l.length cap _ (by simpa using h.1) hcells (fun u hu => by simp [Lib.byteCells] at hu; obtain ⟨x, _, rfl⟩ := hu; rfl)) (by unfold maxLen; omega) (by omega) (by simp)
    simp only [Nat.zero_add, List.nil_append] at ho hform
    have hbel : Below w.heap.size w W' := (Joins.below_alloc1 w _).grown hgr (by simp) (fun k hk => by simp [Value.ownBlock] at hk; omega)
    have hsf' : SF w (.slice (some ⟨g, 0, none⟩) l.length cap) v' := by
      rcases hsf with hs | ⟨q, hq, hqe⟩
      · exact .inr ⟨w.heap.size, by rw [hs]; rfl, Nat.le_refl _⟩
      · exact .inr ⟨q, hq, by simp at hqe; omega⟩
    have hf2 : ∃ p c, v' = .slice p l.length c := by
      rcases ho.2 with ⟨hv, h0⟩ | ⟨g', c', _, hv, _⟩
      · exact ⟨none, 0, by rw [h0]; exact hv⟩
      · exact ⟨_, _, hv⟩
    obtain ⟨p2, c2, rfl⟩ := hf2
    have HF := Lib.hid (show ClonePost 5 1 (.slice (some ⟨g, 0, none⟩) l.length cap) l.length (Lib.byteCells l) w (.returned (.slice p2 l.length c2)) W' from ⟨_, rfl, ho, hbel, hsf', _, _, rfl⟩)
    clear h hg hcs htake hcells ho hgr hsf hform hbel hsf' hi hz0 hz1 hz2
    unfold maxLen at hcm
    generalize l.length = n at *
    have hq := fun (w : World) (a : Option Addr) (n c : Nat) => Lib.run_eql_slice_nil (P := Tryd.prog) w 55 5 a n c 0 0 Tryd.underlying55
    go_enter Tryd.func25, Tryd.ntmps25
    go_wp2_with (at_builtin; refine wpList_append_run rfl _ _ 55 55 rfl (.slice (some ⟨w.heap.size, 0, none⟩) 0 0) (.slice (some ⟨g, 0, none⟩) n cap) _ W' rfl rfl hr ?_)
    go_ret
    exact HF.out

set_option maxHeartbeats 1000000 in
set_option maxRecDepth 100000 in
theorem cloneF_any (B : Nat) (v : Value) (n : Nat) (xs : List Value) (w : World) (h : OwnF B v n xs w) (hn : n ≤ 1024) (h1 : ∀ u ∈ xs, u.oneCell' = true) :
    Calls Tryd.prog 24 #[v] w (ClonePost 57 3 v n xs w) := by
  obtain ⟨i0, hi, hz0, hz1, hz2⟩ := info_parts fileInfo
  rcases h.2 with ⟨rfl, rfl⟩ | ⟨g, cap, cur, rfl, hb, hg, hnc, hcm, hcs, htake⟩
  · have : xs = [] := List.length_eq_zero_iff.1 (by simpa using h.1)
    subst this
    have HF := Lib.hid (show ClonePost 57 3 (.slice none 0 0) 0 [] w (.returned (.slice none 0 0)) w from ⟨_, rfl, World.ownsRow_nil _ _ _ _, Below.refl _ _, .inl rfl, _, _, rfl⟩)
    clear h
    have hq := fun (w : World) (a : Option Addr) (n c : Nat) => Lib.run_eql_slice_nil (P := Tryd.prog) w 51 57 a n c 0 0 Tryd.underlying51
    go_enter Tryd.func24, Tryd.ntmps24
    go_wp2_with fail
    go_ret
    exact HF.out
  · have hcells : ∀ j u, xs[j]? = some u → (w.alloc (.cells #[] 57)).cell? ((⟨g, 0, none⟩ : Addr).add j) = some u := (World.ownsRow.alloc h (.cells #[] 57)).cells (g := g) rfl
    obtain ⟨v', W', hr, ho, hgr, hsf, hform⟩ := run_append_sf (P := Tryd.prog) (w.alloc (.cells #[] 57)) w.heap.size 51 51 51 57 i0 _ 3 48 Tryd.underlying51 hi hz0 hz1 hz2 rfl _ 0 [] (own_empty0 w _ _)
      (.slice (some ⟨g, 0, none⟩) n cap) n xs (Src.ofSlice _ Tryd.underlying51 ⟨g, 0, none⟩ n cap _ h.1 hcells h1) (by unfold maxLen; omega) (by omega) (by simp)
    simp only [Nat.zero_add, List.nil_append] at ho hform
    have hbel : Below w.heap.size w W' := (Joins.below_alloc1 w _).grown hgr (by simp) (fun k hk => by simp [Value.ownBlock] at hk; omega)
    have hsf' : SF w (.slice (some ⟨g, 0, none⟩) n cap) v' := by
      rcases hsf with hs | ⟨q, hq, hqe⟩
      · exact .inr ⟨w.heap.size, by rw [hs]; rfl, Nat.le_refl _⟩
      · exact .inr ⟨q, hq, by simp at hqe; omega⟩
    have hf2 : ∃ p c, v' = .slice p n c := by
      rcases ho.2 with ⟨hv, h0⟩ | ⟨g', c', _, hv, _⟩
      · exact ⟨none, 0, by rw [h0]; exact hv⟩
      · exact ⟨_, _, hv⟩
    obtain ⟨p2, c2, rfl⟩ := hf2
    have HF := Lib.hid (show ClonePost 57 3 (.slice (some ⟨g, 0, none⟩) n cap) n xs w (.returned (.slice p2 n c2)) W' from ⟨_, rfl, ho, hbel, hsf', _, _, rfl⟩)
    clear h hg hcs htake hcells ho hgr hsf hform hbel hsf' hi hz0 hz1 hz2 h1
    unfold maxLen at hcm
    have hq := fun (w : World) (a : Option Addr) (n c : Nat) => Lib.run_eql_slice_nil (P := Tryd.prog) w 51 57 a n c 0 0 Tryd.underlying51
    go_enter Tryd.func24, Tryd.ntmps24
    go_wp2_with (at_builtin; refine wpList_append_run rfl _ _ 51 51 rfl (.slice (some ⟨w.heap.size, 0, none⟩) 0 0) (.slice (some ⟨g, 0, none⟩) n cap) _ W' rfl rfl hr ?_)
    go_ret
    exact HF.out

theorem own_base {B B' : Nat} {w : World} {v : Value} {n sz : Nat} {e : TypeId} {xs : List Value} (h : w.ownsRow B e sz v n xs) (hb : ∀ k, v.ownBlock = some k → B' ≤ k) : w.ownsRow B' e sz v n xs := by
  refine ⟨h.1, ?_⟩
  rcases h.2 with hn | ⟨g, cap, cur, rfl, _, rest⟩
  · exact .inl hn
  · exact .inr ⟨g, cap, cur, rfl, hb g rfl, rest⟩

/-- the copy, at the loop's head -/
structure CopyAt (B : Nat) (m : MS) (v : Value) (w : World) (k : Nat) (l : List FV) (wr : World) : Prop where
  len : l.length = m.l.length
  same : l.map FV.abs = m.l.map FV.abs
  done : ∀ j f, j < k → l[j]? = some f → ∀ b, f.bv.ownBlock = some b → w.heap.size ≤ b
  lies : Lies B { m with D := w.heap.size, fv := v, l := l } wr
  below : Below w.heap.size w wr
  row : ∀ b, v.ownBlock = some b → w.heap.size ≤ b

theorem copy_start {B : Nat} {m : MS} {w W1 : World} {v : Value} (h : Lies B m w) (hv : ∃ p n c, m.fv = .slice p n c)
    (ho : W1.ownsRow ((w.alloc (.cells m.head 53)).heap.size) 57 3 v m.l.length (fcells m.l)) (hb : Below ((w.alloc (.cells m.head 53)).heap.size) (w.alloc (.cells m.head 53)) W1) :
    CopyAt B m v w 0 m.l (W1.setCell ⟨w.heap.size, 1, none⟩ v) := by
  have hsz : (w.alloc (.cells m.head 53)).heap.size = w.heap.size + 1 := by simp
  rw [hsz] at ho hb
  obtain ⟨n1, n2, n3, n4⟩ := h.nodup
  have hBD : B ≤ w.heap.size := Nat.le_trans h.base (Nat.le_of_lt (h.lt m.D (by simp [MS.blks])).2)
  have hvb : ∀ k, v.ownBlock = some k → w.heap.size + 1 ≤ k := fun k hk => (World.ownsRow.lt ho k hk).1
  have hbl : ∀ k ∈ bblks m.l, k < w.heap.size := fun k hk => (h.lt k (by simp [MS.blks, hk])).2
  have hW : ∀ k, k < w.heap.size → (W1.setCell ⟨w.heap.size, 1, none⟩ v).heap[k]? = w.heap[k]? := fun k hk => by
    rw [Below.heap_setCell _ _ _ _ (by simp; omega), hb.block k (by omega)]; exact Below.heap_alloc w _ k hk
  have hD : W1.heap[w.heap.size]? = some (.cells m.head 53 (0, 0)) := (hb.block _ (by omega)).trans (heap_alloc_new w _)
  refine ⟨rfl, rfl, fun j f hj => absurd hj (by omega), ⟨?_, hBD, ?_, ?_, ?_⟩, ?_, fun b hb => by have := hvb b hb; omega⟩
  · have := Joins.block_setCell hD (i := 1) v
    simpa [MS.head] using this
  · exact own_kept (Joins.ownsRow_le ho (by omega)) fun k hk => Below.heap_setCell _ _ _ _ (by have := hvb k hk; simp; omega)
  · exact fun f hf => own_kept (h.body f hf) fun k hk => hW k (hbl k (mem_bblks.2 ⟨f, hf, hk⟩))
  · simp only [MS.blks, List.nodup_cons, List.nodup_append, List.mem_append, Option.mem_toList, not_or]
    refine ⟨⟨fun e => by have := hvb _ e; omega, fun e => by have := hbl _ e; omega⟩, by cases v.ownBlock <;> simp, n3, fun a ha b hb2 e => ?_⟩
    have h1 := hvb a ha
    have h2 := hbl b hb2
    omega
  · exact ((Joins.below_alloc1 w _).trans (hb.mono (by omega))).setCell (by simp) v

theorem copy_step {B : Nat} {m : MS} {w wr W3 : World} {v v3 : Value} {k : Nat} {l : List FV} {f : FV} (h : CopyAt B m v w k l wr) (hf : l[k]? = some f) {F n cap : Nat} (hv : v = .slice (some ⟨F, 0, none⟩) n cap)
    (ho : W3.ownsRow wr.heap.size 5 1 v3 f.body.length (Lib.byteCells f.body)) (hb : Below wr.heap.size wr W3) (hsf : SF wr f.bv v3) :
    CopyAt B m v w (k + 1) (l.set k { f with bv := v3 }) (W3.setCell ⟨F, k * 3 + 1, none⟩ v3) := by
  have hB : B ≤ wr.heap.size := Nat.le_trans h.lies.base (Nat.le_of_lt (h.lies.lt _ (by simp [MS.blks])).2)
  have hk : k < l.length := (List.getElem?_eq_some_iff.1 hf).1
  obtain ⟨p, q⟩ := h.lies.putBody (i := k) (f := f) hv hf v3 f.body ⟨hb.os, hb.tape, hb.output, hb.size, fun j hj _ => hb.block j hj⟩ hsf (Joins.ownsRow_le ho hB)
  refine ⟨by simpa using h.len, ?_, ?_, p, ?_, h.row⟩
  · rw [← h.same, List.map_set]
    apply List.ext_getElem?
    intro j
    by_cases hj : j = k
    · subst hj; have e := (List.getElem?_eq_some_iff.1 hf).2; simp [hk, FV.abs, e]
    · rw [List.getElem?_set_ne (by omega)]
  · intro j g hj hg b hgb
    by_cases hjk : j = k
    · subst hjk
      rw [List.getElem?_set_self hk] at hg
      simp at hg; subst hg
      have h1 := (World.ownsRow.lt ho b hgb).1
      have h2 := h.below.size
      omega
    · rw [List.getElem?_set_ne (by omega)] at hg
      exact h.done j g (by omega) hg b hgb
  · have hF : w.heap.size ≤ F := h.row F (by rw [hv]; rfl)
    exact (h.below.trans (hb.mono h.below.size)).setCell (by simpa using hF) v3

/-- what Copy answers: a disk of the same, in memory of the call's own -/
def CopyPost (m : MS) (w : World) (e : Ending) (w' : World) : Prop :=
  ∃ m' : MS, e = .returned (.pointer (some ⟨m'.D, 0, none⟩)) ∧ m'.room = m.room ∧ m'.l.map FV.abs = m.l.map FV.abs ∧ m'.off = m.off ∧ m'.fused = m.fused ∧ m'.left = m.left ∧ Lies w.heap.size m' w' ∧ Below w.heap.size w w'

theorem copy_end {B : Nat} {m : MS} {w wr : World} {v : Value} {l : List FV} (h : CopyAt B m v w m.l.length l wr) : CopyPost m w (.returned (.pointer (some ⟨w.heap.size, 0, none⟩))) wr :=
  ⟨{ m with D := w.heap.size, fv := v, l := l }, rfl, rfl, h.same, rfl, rfl, rfl,
    ⟨h.lies.head, Nat.le_refl _, own_base h.lies.row h.row, fun f hf => own_base (h.lies.body f hf) fun b hb => by
      obtain ⟨j, hj, hjf⟩ := List.mem_iff_getElem.1 hf
      exact h.done j f (by rw [← h.len]; exact hj) (by rw [List.getElem?_eq_getElem hj, hjf]) b hb, h.lies.apart⟩, h.below⟩

set_option maxHeartbeats 1000000 in
set_option maxRecDepth 100000 in
theorem copy_nil (w : World) : Calls Tryd.prog 9 #[.pointer none] w fun e w' => e = .returned (.pointer none) ∧ w = w' := by
  go_enter Tryd.func9, Tryd.ntmps9
  go_wp2
  go_ret
  exact ⟨rfl, rfl⟩

set_option maxHeartbeats 4000000 in
set_option maxRecDepth 100000 in
theorem copy_any {B : Nat} (m : MS) (w : World) (h : Lies B m w) (hlen : m.l.length ≤ 1024) (ht : total m.l ≤ 4194304) :
    Calls Tryd.prog 9 #[.pointer (some ⟨m.D, 0, none⟩)] w (CopyPost m w) := by
  have hc0 := h.cell 0
  have hc1 := h.cell 1
  have hc2 := h.cell 2
  have hc3 := h.cell 3
  have hc4 := h.cell 4
  simp only [MS.head, List.getElem?_toArray, List.getElem?_cons_succ, List.getElem?_cons_zero] at hc0 hc1 hc2 hc3 hc4
  obtain ⟨p, c, hfv⟩ : ∃ p c, m.fv = .slice p m.l.length c := by
    rcases Joins.ownsRow_forms h.row with ⟨hv, h0⟩ | ⟨F, cap, hv⟩
    · exact ⟨none, 0, by rw [h0]; exact hv⟩
    · exact ⟨_, _, hv⟩
  have hDlt := (h.lt m.D (by simp [MS.blks])).2
  have hcl := cloneF_any B m.fv m.l.length (fcells m.l) (w.alloc (.cells m.head 53)) (World.ownsRow.alloc h.row _) hlen (one_cells h)
  have hst := fun (W1 : World) (v : Value) => copy_start (W1 := W1) (v := v) h ⟨_, _, _, hfv⟩
  simp only [MS.head, hfv] at hcl hst
  rw [hfv] at hc1
  have HCL := Lib.hid hcl
  have HST := Lib.hid hst
  clear hcl hst h hfv
  go_enter Tryd.func9, Tryd.ntmps9
  go_wp2_with fail
  refine HCL.out.mono ?_
  rintro e W1 ⟨v1, rfl, ho, hb, hsf, p1, c1, rfl⟩
  have HS := Lib.hid (HST.out W1 _ ho hb)
  have kD2 : W1.cell? ⟨w.heap.size, 1, none⟩ = some (.slice p m.l.length c) := by
    rw [hb.cell (p := ⟨w.heap.size, 1, none⟩) (by simp)]; simp [go_sem]
  have kz2 : W1.frozen? ⟨w.heap.size, 1, none⟩ = false := by
    rw [hb.frozen (p := ⟨w.heap.size, 1, none⟩) (by simp)]; simp [go_sem]
  have hsz1 := hb.size
  simp at hsz1
  clear ho hb hsf hc0 hc1 hc2 hc3 hc4 hDlt
  go_wp2_with fail
  go_loopw [20] (fun i wr => ∃ (k : Nat) (l : List FV), k ≤ m.l.length ∧ i = .int .i64 k ∧ CopyAt B m (.slice p1 m.l.length c1) w k l wr) (fun i _ => m.l.length - (intOf i).toNat)
  case atStart => exact ⟨0, m.l, Nat.zero_le _, rfl, HS.out⟩
  case round =>
    obtain ⟨k, l, hk, rfl, hat⟩ := hrel
    by_cases hlt : k < m.l.length
    · obtain ⟨f, hf⟩ : ∃ f, l[k]? = some f := ⟨_, List.getElem?_eq_getElem (by rw [hat.len]; exact hlt)⟩
      obtain ⟨F, rfl⟩ : ∃ F, p1 = some ⟨F, 0, none⟩ := by
        rcases hat.lies.row.2 with ⟨hv, h0⟩ | ⟨g, cap, cur, hv, _⟩
        · have h0' : l.length = 0 := h0
          have := hat.len
          omega
        · have hv' : Value.slice p1 m.l.length c1 = .slice (some ⟨g, 0, none⟩) l.length cap := hv
          simp at hv'
          exact ⟨g, hv'.1⟩
      have hl := hat.lies
      have kD := hl.cell 1
      simp only [MS.head, List.getElem?_toArray, List.getElem?_cons_succ, List.getElem?_cons_zero] at kD
      obtain ⟨-, hF, -, hrow⟩ := hl.frow rfl
      obtain ⟨-, kb, -⟩ := hrow k f hf
      have hr := hl.row
      have hr' : wr.ownsRow B 57 3 (.slice (some ⟨F, 0, none⟩) m.l.length c1) m.l.length (fcells l) := by have := hr; rw [show ({ m with D := w.heap.size, fv := .slice (some ⟨F, 0, none⟩) m.l.length c1, l := l } : MS).l.length = m.l.length from hat.len] at this; exact this
      have fr1 := World.ownsRow.frozenAt hr' (k * 3 + 1)
      have hbody := hl.body f (List.mem_of_getElem? hf)
      have hbl : f.body.length ≤ 4194304 := by
        have h1 := total_succ hf
        have h2 := total_le l (k + 1)
        have h3 : total l = total m.l := by
          have e : ∀ l : List FV, total l = ((l.map FV.abs).map fun f => f.body.length).sum := fun l => by simp [total, Function.comp_def, FV.abs]
          rw [e, e, hat.same]
        omega
      have hcl := cloneB_any B f.bv f.body wr hbody hbl
      obtain ⟨pb, cb, hbv⟩ := OwnB.form hbody
      have HAT := Lib.hid (And.intro hat (And.intro hf hbv))
      rw [hbv] at kb hcl
      have HCB := Lib.hid hcl
      clear hcl hl hrow hr hr' hbody hat hf hbv HS kD2 kz2 HCL HST
      generalize hn : m.l.length = N at *
      have HN := Lib.hid hn
      clear hn
      generalize hnb : f.body.length = nb at *
      have HNB := Lib.hid hnb
      clear hnb
      go_wp2_with fail
      refine HCB.out.mono ?_
      rintro e W3 ⟨v3, rfl, ho, hb, hsf, p3, c3, rfl⟩
      obtain ⟨hat, hf, hbv⟩ := HAT.out
      have HST3 := Lib.hid (copy_step (W3 := W3) (v3 := .slice p3 nb c3) hat hf rfl (by rw [HNB.out]; exact ho) hb (by rw [hbv]; exact hsf))
      have kb3 : W3.cell? ⟨F, k * 3 + 1, none⟩ = some (.slice pb nb cb) := (hb.cell (p := ⟨F, k * 3 + 1, none⟩) hF).trans kb
      have kf3 : W3.frozen? ⟨F, k * 3 + 1, none⟩ = false := (hb.frozen (p := ⟨F, k * 3 + 1, none⟩) hF).trans fr1
      clear ho hb hsf hat hf hbv
      go_wp2_with fail
      go_roundw
      case rel => exact ⟨k + 1, _, by omega, by go_num, HST3.out⟩
      case measure => simp [intOf]; omega
    · obtain rfl : k = m.l.length := by omega
      have HE := Lib.hid (copy_end hat)
      clear hat
      go_wp2_with fail
      go_ret
      exact HE.out
end Go.Proofs.YtopigchjdegpeaaDoor
