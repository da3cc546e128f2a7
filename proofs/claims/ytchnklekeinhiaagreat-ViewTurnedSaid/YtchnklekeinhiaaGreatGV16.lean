/-
  Rows of names that lie between two blocks, and stay as they are while others are written.
  Rows of texts that a call owns: RefRead3 holds what is wanted of them.
  Rows of texts: appended to, and parts of them.
  Blocks of any cells: made, read, stored over; whole rows and cells where nothing is drawn, where it is, where one only reads.
-/
import Derived.Test.YtchnklekeinhiaaGreatGV15
import Derived.Test.YtchnklekeinhiaaGreatGV09
import Derived.Test.YtchnklekeinhiaaGreatGV04
import Derived.Test.YtchnklekeinhiaaGreatGV10
import Derived.Test.YtchnklekeinhiaaGreatGV11
namespace Go.Proofs.YtchnklekeinhiaaGreat
set_option maxRecDepth 100000
open Go.RowKit Go.Sort

/-- names in a block from lo on -/
def DFrom (w : World) (lo : Nat) (a : Option Addr) (l : List Dt) : Prop :=
  l = [] ∨ ∃ b off, a = some ⟨b, off, none⟩ ∧ lo ≤ b ∧ b < w.heap.size ∧ ∀ j d, l[j]? = some d → w.cell? ⟨b, off + j * 2, none⟩ = some (.int .i64 d.1) ∧ w.cell? ⟨b, off + j * 2 + 1, none⟩ = some (.int .i64 d.2)
theorem DFrom.din {w : World} {lo : Nat} {a : Option Addr} {l : List Dt} (h : DFrom w lo a l) : DIn w a l := by
  rcases h with h | ⟨b, off, h1, h2, h3, h4⟩
  · exact .inl h
  · exact .inr ⟨b, off, h1, h3, h4⟩
/-- from lo to hi all is as it was -/
structure Mid (lo hi : Nat) (w w' : World) : Prop where
  size : w.heap.size ≤ w'.heap.size
  block : ∀ b, lo ≤ b → b < hi → w'.heap[b]? = w.heap[b]?
theorem Mid.refl (lo hi : Nat) (w : World) : Mid lo hi w w := ⟨Nat.le_refl _, fun _ _ _ => rfl⟩
theorem Mid.below {lo hi B : Nat} {w w1 w2 : World} (h : Mid lo hi w w1) (hb : Go.RowKit.Below B w1 w2) (hB : hi ≤ B) : Mid lo hi w w2 :=
  ⟨Nat.le_trans h.size hb.size, fun b h1 h2 => (hb.block b (by omega)).trans (h.block b h1 h2)⟩
theorem Mid.set {lo hi : Nat} {w w1 : World} (h : Mid lo hi w w1) {g : Nat} (hg : g < lo ∨ hi ≤ g) (j : Nat) (v : Value) : Mid lo hi w (w1.setCell ⟨g, j, none⟩ v) :=
  ⟨by simpa using h.size, fun b h1 h2 => by rw [Below.heap_setCell _ _ _ _ (show b ≠ g by omega)]; exact h.block b h1 h2⟩
theorem Mid.setRow {lo hi : Nat} {w w1 : World} (h : Mid lo hi w w1) {g : Nat} (hg : g < lo ∨ hi ≤ g) (C : Array Value) : Mid lo hi w (w1.setRow g C) :=
  ⟨by simpa using h.size, fun b h1 h2 => by rw [setRow_other _ _ _ _ (show b ≠ g by omega)]; exact h.block b h1 h2⟩
theorem DFrom.mid {w w' : World} {lo hi : Nat} {a : Option Addr} {l : List Dt} (h : DFrom w lo a l) (hm : Mid lo hi w w') (hh : w.heap.size ≤ hi) : DFrom w' lo a l := by
  rcases h with h | ⟨b, off, h1, h2, h3, h4⟩
  · exact .inl h
  · have hb := hm.block b h2 (by omega)
    refine .inr ⟨b, off, h1, h2, Nat.lt_of_lt_of_le h3 hm.size, fun j d hj => ?_⟩
    obtain ⟨c0, c1⟩ := h4 j d hj
    exact ⟨(World.cell?_of_block (a := ⟨b, off + j * 2, none⟩) hb).trans c0, (World.cell?_of_block (a := ⟨b, off + j * 2 + 1, none⟩) hb).trans c1⟩
theorem DFrom.below {w w' : World} {lo : Nat} {a : Option Addr} {l : List Dt} (h : DFrom w lo a l) (hb : Go.RowKit.Below w.heap.size w w') : DFrom w' lo a l :=
  h.mid (hi := w.heap.size) ⟨hb.size, fun b _ h2 => hb.block b h2⟩ (Nat.le_refl _)
theorem DFrom.mono {w : World} {lo lo' : Nat} {a : Option Addr} {l : List Dt} (h : DFrom w lo a l) (hl : lo' ≤ lo) : DFrom w lo' a l := by
  rcases h with h | ⟨b, off, h1, h2, h3, h4⟩
  · exact .inl h
  · exact .inr ⟨b, off, h1, by omega, h3, h4⟩
theorem DFrom.set {w : World} {lo : Nat} {a : Option Addr} {l : List Dt} (h : DFrom w lo a l) {g : Nat} (hg : g < lo) (j : Nat) (v : Value) : DFrom (w.setCell ⟨g, j, none⟩ v) lo a l :=
  h.mid (hi := w.heap.size) ((Mid.refl _ _ _).set (.inl hg) j v) (Nat.le_refl _)
theorem DFrom.setRow {w : World} {lo : Nat} {a : Option Addr} {l : List Dt} (h : DFrom w lo a l) {g : Nat} (hg : g < lo) (C : Array Value) : DFrom (w.setRow g C) lo a l :=
  h.mid (hi := w.heap.size) ((Mid.refl _ _ _).setRow (.inl hg) C) (Nat.le_refl _)
theorem OwnD.from {B : Nat} {v : Value} {l : List Dt} {w : World} (h : OwnD B v l w) : ∃ a cap, v = .slice a l.length cap ∧ DFrom w B a l ∧ l.length ≤ cap ∧ cap ≤ maxLen := by
  obtain ⟨a, cap, hv, hd, hc, hm⟩ := h.din2
  refine ⟨a, cap, hv, ?_, hc, hm⟩
  rcases h.2 with ⟨he, h0⟩ | ⟨g, cap', cur, he, hB, hg, -⟩
  · exact .inl (List.length_eq_zero_iff.1 h0)
  · rcases hd with h | ⟨b, off, ha, hlt, hcc⟩
    · exact .inl h
    · rw [hv, ha] at he
      injection he with h1 h2 h3
      injection h1 with h1
      injection h1 with h4 h5
      exact .inr ⟨b, off, ha, by omega, hlt, hcc⟩
end Go.Proofs.YtchnklekeinhiaaGreat

namespace Go.Proofs.YtchnklekeinhiaaGreat
end Go.Proofs.YtchnklekeinhiaaGreat

namespace Go.Proofs.YtchnklekeinhiaaGreat
set_option linter.unusedSimpArgs false
set_option linter.unusedVariables false
set_option maxRecDepth 100000
open Go.RowKit Go.Sort

theorem str_eq (x y : ByteArray) : (x.toList == y.toList) = decide (x = y) := by
  by_cases h : x = y
  · simp [h]
  · have : x.toList ≠ y.toList := fun e => h (bytes_inj e)
    simp [h, this]
theorem OwnS.fin2 {B : Nat} {v : Value} {l : List ByteArray} {w : World} (h : OwnS B v l w) : ∃ a cap, v = .slice a l.length cap ∧ StrRow w a l ∧ l.length ≤ cap ∧ cap ≤ maxLen := by
  obtain ⟨a, cap, hv, hd, -⟩ := ownS_row h
  refine ⟨a, cap, hv, hd, ?_⟩
  rcases h.2 with ⟨rfl, h0⟩ | ⟨g, cap', cur, rfl, hB, hg, hn, hm, hs, htk⟩
  · injection hv with h1 h2 h3; subst h3; exact ⟨by omega, by simp [maxLen]⟩
  · injection hv with h1 h2 h3; subst h3; exact ⟨hn, hm⟩
theorem getD_at {l : List ByteArray} {j : Nat} (h : j < l.length) (d : ByteArray) : l.getD j d = l[j] := by simp [List.getD_eq_getElem?_getD, h]
theorem StrRow.take {w : World} {a : Option Addr} {l : List ByteArray} (h : StrRow w a l) (k : Nat) : StrRow w a (l.take k) := by
  rcases h with rfl | ⟨b, off, rfl, hlt, hc⟩
  · exact .inl (by simp)
  · refine .inr ⟨b, off, rfl, hlt, fun j hj => ?_⟩
    rw [List.length_take] at hj
    rw [hc j (by omega), getD_at (by omega), getD_at (by rw [List.length_take]; omega), List.getElem_take]
theorem StrRow.drop {w : World} {b off : Nat} {l : List ByteArray} (h : StrRow w (some ⟨b, off, none⟩) l) (k : Nat) : StrRow w (some ⟨b, off + k, none⟩) (l.drop k) := by
  rcases h with rfl | ⟨b', off', he, hlt, hc⟩
  · exact .inl (by simp)
  · injection he with he; injection he with h1 h2; subst h1 h2
    refine .inr ⟨b, off + k, rfl, hlt, fun j hj => ?_⟩
    rw [List.length_drop] at hj
    have := hc (k + j) (by omega)
    rw [show off + k + j = off + (k + j) by omega, this, getD_at (by omega), getD_at (by rw [List.length_drop]; omega), List.getElem_drop]
theorem StrRow.at {w : World} {a : Option Addr} {l : List ByteArray} (h : StrRow w a l) {j : Nat} {x : ByteArray} (hj : l[j]? = some x) : ∃ b off, a = some ⟨b, off, none⟩ ∧ b < w.heap.size ∧ w.cell? ⟨b, off + j, none⟩ = some (.string x) := by
  obtain ⟨hl, rfl⟩ := List.getElem?_eq_some_iff.1 hj
  rcases h with rfl | ⟨b, off, rfl, hlt, hc⟩
  · simp at hl
  · exact ⟨b, off, rfl, hlt, by rw [hc j hl, getD_at hl]⟩

theorem appX {w : World} {B c : Nat} {v : Value} {xs ys : List ByteArray} {p : Option Addr} (h : OwnS B v xs w) (hp : StrRow w p ys) (hb : B ≤ w.heap.size) (n : Nat) (hn : xs.length + ys.length = n) (hl : n ≤ 200000) :
    ∃ p' c' w', (Builtin.append_ #[25, 25] 25 #[v, .slice p ys.length c]).run Tryz.prog w = .ok (.slice p' n c') w' ∧ OwnS B (.slice p' n c') (xs ++ ys) w' ∧ Go.RowKit.Below B w w' := by
  obtain ⟨i0, hi, hz0, hz1, hz2⟩ := info_parts strInfo
  have hsrc : Src Tryz.prog 1 25 (.slice p ys.length c) ys.length (ys.map Value.string) w := by
    cases p with
    | none =>
      have : ys = [] := by
        rcases hp with h | ⟨_, _, h, _⟩
        · exact h
        · cases h
      subst this
      exact Src.ofNil _ Tryz.underlying25 c
    | some x =>
      refine Src.ofSlice _ Tryz.underlying25 x ys.length c _ (by simp) (fun j u hj => ?_) (fun u hu => by obtain ⟨s, _, rfl⟩ := List.mem_map.1 hu; rfl)
      rw [List.getElem?_map] at hj
      obtain ⟨s, hs, rfl⟩ := Option.map_eq_some_iff.1 hj
      obtain ⟨b, off, hbe, hlt, hc⟩ := hp.at hs
      obtain rfl := Option.some.inj hbe
      have e1 : (⟨b, off, none⟩ : Addr).add j = ⟨b, off + j, none⟩ := by cases j <;> simp [Addr.add]
      rw [e1]; exact hc
  obtain ⟨v', w', hr, ho, hg, -, -⟩ := run_append_sf (P := Tryz.prog) w B 25 25 25 9 i0 _ 1 16 Tryz.underlying25 hi hz0 hz1 hz2 rfl v xs.length (xs.map Value.string) h _ ys.length (ys.map Value.string) hsrc (by unfold maxLen; omega) (by omega) hb
  have ho' : OwnS B v' (xs ++ ys) w' := by
    unfold OwnS
    rw [List.length_append, List.map_append]
    exact ho
  obtain ⟨p', c', rfl, -, -⟩ := ho'.fin2
  rw [List.length_append, hn] at ho' hr
  exact ⟨p', c', w', hr, ho', (Below.refl _ _).grown hg hb (fun j hj => (World.ownsRow.lt h j hj).1)⟩

/-- a part of a row of texts, from its beginning -/
theorem takeX (a : Option Addr) (n cap k : Nat) (hk : k ≤ n) (hn : n ≤ cap) (_hc : cap ≤ maxLen) :
    ∃ p : Option Addr, (∀ W, (Instr.slice 25 (.slice a n cap) none (some (.int .i64 (k : Int))) none).run Tryz.prog W = .ok (.slice p k cap) W) ∧ ∀ W (l : List ByteArray), l.length = n → StrRow W a l → StrRow W p (l.take k) := by
  have ht := Tryz.underlying25
  have ht' : Tryz.prog.underlying 25 = some (.slice (Tryz.prog.elem 25)) := by simp [Program.elem, ht]
  have he : Tryz.prog.elem 25 = 9 := by simp [Program.elem, ht]
  refine ⟨a, fun W => ?_, fun W l hl h => h.take k⟩
  rw [run_slice_h W _ _ _ _ ht' .i64 _ (by omega) (by omega), he, Tryz.sizeOf9]
  by_cases h0 : cap = 0
  · simp [Result.andThen, sliced, h0]
  · cases a <;> simp [Result.andThen, sliced, h0, Addr.add]
/-- .. to its end -/
theorem dropX (a : Option Addr) (n cap k : Nat) (hk : k ≤ n) (hn : n ≤ cap) (_hc : cap ≤ maxLen) :
    ∃ p : Option Addr, (∀ W, (Instr.slice 25 (.slice a n cap) (some (.int .i64 (k : Int))) none none).run Tryz.prog W = .ok (.slice p (n - k) (cap - k)) W) ∧ ∀ W (l : List ByteArray), l.length = n → StrRow W a l → StrRow W p (l.drop k) := by
  have ht := Tryz.underlying25
  have ht' : Tryz.prog.underlying 25 = some (.slice (Tryz.prog.elem 25)) := by simp [Program.elem, ht]
  have he : Tryz.prog.elem 25 = 9 := by simp [Program.elem, ht]
  refine ⟨if cap = k then a else a.map (·.add (k * 1)), fun W => ?_, fun W l hl h => ?_⟩
  · rw [run_slice_l W _ _ _ _ ht' .i64 _ (by omega) (by omega), he, Tryz.sizeOf9]
    simp [Result.andThen, sliced]
  · by_cases h0 : cap = k
    · exact .inl (List.drop_of_length_le (by omega))
    · rw [if_neg h0]
      rcases id h with rfl | ⟨b, off, rfl, hlt, hc⟩
      · exact .inl (by simp)
      · have h2 := h.drop k
        have e1 : (⟨b, off, none⟩ : Addr).add (k * 1) = ⟨b, off + k, none⟩ := by simp only [Addr.add, Nat.mul_one]; split <;> simp_all
        rw [Option.map_some, e1]
        exact h2
end Go.Proofs.YtchnklekeinhiaaGreat

namespace Go.Proofs.YtchnklekeinhiaaGreat
set_option linter.unusedSimpArgs false
set_option linter.unusedVariables false
set_option maxRecDepth 100000
open Go.RowKit Go.Sort

theorem lowA (w : World) (o : Obj) : Go.RowKit.Below w.heap.size w (w.alloc o) := (Below.refl _ _).alloc (Nat.le_refl _) _
/-! a block of these cells -/
def Blk (w : World) (b : Nat) (T : TypeId) (A : Array Value) : Prop := w.heap[b]? = some (.cells A T (0, 0))
theorem Blk.lt {w : World} {b : Nat} {T : TypeId} {A : Array Value} (h : Blk w b T A) : b < w.heap.size := lt_of_block h
theorem Blk.below {w w' : World} {b B : Nat} {T : TypeId} {A : Array Value} (h : Blk w b T A) (hb : Go.RowKit.Below B w w') (hB : b < B) : Blk w' b T A := by unfold Blk; rw [hb.block b hB]; exact h
theorem Blk.keep {w w' : World} {b : Nat} {T : TypeId} {A : Array Value} (h : Blk w b T A) (hb : Go.RowKit.Below w.heap.size w w') : Blk w' b T A := h.below hb h.lt
theorem Blk.new (w : World) (T : TypeId) (A : Array Value) : Blk (w.alloc (.cells A T)) w.heap.size T A := heap_alloc_new w _
theorem Blk.alloc {w : World} {b : Nat} {T : TypeId} {A : Array Value} (h : Blk w b T A) (o : Obj) : Blk (w.alloc o) b T A := h.keep ((Below.refl _ _).alloc (Nat.le_refl _) o)
theorem Blk.cell {w : World} {b j : Nat} {T : TypeId} {A : Array Value} {u : Value} (h : Blk w b T A) (hj : A[j]? = some u) : w.cell? ⟨b, j, none⟩ = some u := by
  rw [Joins.cell_of_block h]; exact hj
theorem Blk.range {w : World} {b : Nat} {T : TypeId} {A : Array Value} (h : Blk w b T A) (o : Nat) (cs : List Value) (hs : ∀ j v, cs[j]? = some v → A[o + j]? = some v) : w.rangeAt b o cs := fun j v hv => h.cell (hs j v hv)
theorem Blk.all {w : World} {b : Nat} {T : TypeId} {A : Array Value} (h : Blk w b T A) : w.rangeAt b 0 A.toList := h.range 0 _ fun j v hv => by rw [Nat.zero_add]; simpa using hv
theorem Blk.other {w : World} {b c : Nat} {T : TypeId} {A : Array Value} (h : Blk w b T A) (hc : b ≠ c) (C : Array Value) : Blk (w.setRow c C) b T A := by unfold Blk; rw [setRow_other _ _ _ _ hc]; exact h
theorem Blk.put {w : World} {b : Nat} {T : TypeId} {old : Array Value} (h : Blk w b T old) (A : Array Value) : Blk (w.setRow b A) b T A := setRow_heap _ _ _ _ _ _ h
theorem Blk.set {w : World} {b c j : Nat} {T : TypeId} {A : Array Value} (h : Blk w b T A) (hc : b ≠ c) (u : Value) : Blk (w.setCell ⟨c, j, none⟩ u) b T A := by
  unfold Blk; rw [Below.heap_setCell _ _ _ _ (show b ≠ c from hc)]; exact h

/-- a whole row loaded, from wherever it lies -/
theorem bl_load {ops : Array Oper} {rest : List Oper} {o : Oper} {a : Act} {w : World} {Q : Exit → Act → World → Prop} (hw : Region.wanted o (yielded ops a.tmps) = true) (T : TypeId) (x : Operand) (ho : o.op = .load T x) (g off : Nat) (A : Array Value) {d : TypeDesc}
    (hx : a.eval x = .pointer (some ⟨g, off, none⟩)) (hg : w.rangeAt g off A.toList) (hu : Tryz.prog.underlying T = some d) (hd : d.isRow = true) (hi : (Tryz.prog.info? T).map (·.size) = some A.size)
    (h : wpList Tryz.prog ops Q rest (a.put o.dst (.agg A)) w) : wpList Tryz.prog ops Q (o :: rest) a w := by
  unfold wpList
  rw [if_pos hw]
  exact .inl (wp_load_mid T x ho g off hx A.toList d hg hu hd (by simpa using hi) h)
/-- .. in a region that draws -/
theorem b_yield {ops : Array Oper} {S : World → Prop} {o : Oper} {a : Act} (hw : Region.wanted o (yielded ops a.tmps) = true) (T : TypeId) (x : Operand) (ho : o.op = .load T x) (g off : Nat) (A : Array Value) {d : TypeDesc}
    (hx : a.eval x = .pointer (some ⟨g, off, none⟩)) (hg : ∀ w, S w → w.rangeAt g off A.toList) (hu : Tryz.prog.underlying T = some d) (hd : d.isRow = true) (hi : (Tryz.prog.info? T).map (·.size) = some A.size) : YieldsIf Tryz.prog ops S o (.agg A) a :=
  yieldsIf_load_mid hw T x ho g off hx A.toList d hg hu hd (by simpa using hi)
/-- one cell, in a region that draws -/
theorem c_yield {ops : Array Oper} {S : World → Prop} {o : Oper} {a : Act} (hw : Region.wanted o (yielded ops a.tmps) = true) (T : TypeId) (x : Operand) (ho : o.op = .load T x) (p : Addr) (v : Value) (hx : a.eval x = .pointer (some p))
    (hr : ∀ w, S w → (Instr.loadAt T (.pointer (some p))).run Tryz.prog w = .ok v w) : YieldsIf Tryz.prog ops S o v a := by
  refine .inl ⟨hw, fun w hS => ?_⟩
  unfold execOp
  simp only [ho, hx, Sem.run_bind, Sem.run_pure, Result.andThen_ok, hr w hS]
/-- a whole row stored over an elder one -/
theorem bl_store {ops : Array Oper} {rest : List Oper} {o : Oper} {a : Act} {w : World} {Q : Exit → Act → World → Prop} (hgd : o.guard = none) (T : TypeId) (x y : Operand) (ho : o.op = .store T x y) (g : Nat) (A : Array Value)
    (hx : a.eval x = .pointer (some ⟨g, 0, none⟩)) (hy : a.eval y = .agg A) (hg : ∃ old, Blk w g T old ∧ old.size = A.size) (hi : (Tryz.prog.info? T).map (·.size) = some A.size) (h1 : A.all (·.oneCell') = true)
    (h : wpList Tryz.prog ops Q rest (a.put o.dst undef) (w.setRow g A)) : wpList Tryz.prog ops Q (o :: rest) a w := by
  obtain ⟨old, hg, ho2⟩ := hg
  exact wpList_store_row hgd T x y ho g A hx hy T old hg hi ho2 h1 h
theorem draw_storeB {ops : Array Oper} {o : Oper} {a : Act} {w : World} {K : Act → World → Prop} {Q : Exit → Act → World → Prop} (hgd : o.guard = none) (T : TypeId) (x y : Operand) (ho : o.op = .store T x y)
    (g : Nat) (A : Array Value) (hx : a.eval x = .pointer (some ⟨g, 0, none⟩)) (hy : a.eval y = .agg A) (hi : (Tryz.prog.info? T).map (·.size) = some A.size) (h1 : A.all (·.oneCell') = true) (hg : ∃ old, Blk w g T old ∧ old.size = A.size) (h : K (a.put o.dst undef) (w.setRow g A)) :
    if Region.wanted o (yielded ops a.tmps) = true then Oper.wp Tryz.prog o a w K Q else K (a.put o.dst undef) w := by
  obtain ⟨old, hg, ho2⟩ := hg
  have hl' := run_storeVar_row (P := Tryz.prog) w g T T old A hg hi ho2 h1
  simp only [Region.wanted, hgd, if_true]
  unfold Oper.wp execOp
  simp only [ho, hx, hy, Instr.storeAt, Instr.sureAddr, Sem.run_bind, Sem.run_pure, Result.andThen_ok, hl']
  exact h
end Go.Proofs.YtchnklekeinhiaaGreat
