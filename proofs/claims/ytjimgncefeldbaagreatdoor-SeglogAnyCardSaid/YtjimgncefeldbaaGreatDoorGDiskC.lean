/-
  Rows of elements of any size that a call owns: append, copy, clear; each as one step of a walk, and of a region that draws its order.
  slices.Insert of one file, slices.Delete of one.
  disk: what becomes of a disk in memory when its row of files, or one file, is another one.
-/
import Derived.Test.YtjimgncefeldbaaGreatDoorBase
import Derived.Deep.AppendSrc
import Derived.Deep.RegionLaw
import Derived.Laws.CopyRow
import Derived.Laws.OwnMore
import Derived.Test.YtjimgncefeldbaaGreatDoorGDiskA
import Derived.Deep.AppendLies
import Derived.Lib.Overlaps
import Derived.Lib.AppendZerosOnto
import Derived.Test.YtjimgncefeldbaaGreatDoorGDiskB
namespace Go.Proofs.YtjimgncefeldbaaGreatDoor
open Go.RowKit

/-- The row's block is the one it was, or a new one. -/
def SF (w : World) (v v' : Value) : Prop := v'.ownBlock = v.ownBlock ∨ ∃ g, v'.ownBlock = some g ∧ w.heap.size ≤ g

section
variable {P : Program}

theorem run_append_room_row (w : World) (t tx ty e : TypeId) (i : TypeInfo) (ht : P.underlying t = some (.slice e)) (hi : P.info? e = some i) (g n cap : Nat) (cur : Array Value) (hg : w.heap[g]? = some (.cells cur e (0, 0)))
    (x : Value) (m : Nat) (news : List Value) (hs : Src P i.size tx x m news w) (hroom : n + m ≤ cap) (hfit : n * i.size + news.length ≤ cur.size) :
    (Builtin.append_ #[t, tx] ty #[.slice (some ⟨g, 0, none⟩) n cap, x]).run P w =
      .ok (.slice (some ⟨g, 0, none⟩) (n + m) cap) (w.setRow g (cur.toList.take (n * i.size) ++ news ++ cur.toList.drop (n * i.size + news.length)).toArray) := by
  have hst := run_storeCells_at P g (n * i.size) e news 0 cur w hg (by simpa using hfit) hs.one
  simp only [Nat.add_zero] at hst
  rcases hs.kind with ⟨e', hk⟩ | hk <;> simp [Builtin.append_, run_underlying ht, run_underlying hk, sizeOf, typeInfo, hi, hs.len, hroom, hs.cells, Addr.add_lit, hst]

theorem run_append_sf (w : World) (B : Nat) (t tx ty e : TypeId) (i : TypeInfo) (z : Value) (size bytes : Nat) (ht : P.underlying t = some (.slice e)) (hi : P.info? e = some i) (hz : i.zero = some z)
    (hsize : i.size = size) (hby : i.bytes = bytes) (hzs : z.cells.size = size)
    (v : Value) (n : Nat) (xs : List Value) (hown : w.ownsRow B e size v n xs) (x : Value) (m : Nat) (news : List Value) (hs : Src P size tx x m news w)
    (h63 : n + m ≤ maxLen) (hbytes : (n + m) * bytes ≤ 140737488355328) (hB : B ≤ w.heap.size) :
    ∃ v' w', (Builtin.append_ #[t, tx] ty #[v, x]).run P w = .ok v' w' ∧ w'.ownsRow B e size v' (n + m) (xs ++ news) ∧ w.grownBy w' v.ownBlock ∧ SF w v v' ∧ (0 < m → ∃ g c, v' = .slice (some ⟨g, 0, none⟩) (n + m) c) := by
  subst hsize
  subst hby
  have hl := hs.newsLen
  have hsmall : ((n + m : Nat) : Int) ≤ 9223372036854775807 := by simp only [maxLen] at h63; omega
  have hlen : (xs ++ news).length = (n + m) * i.size := by rw [List.length_append, hown.1, hl, Nat.add_mul]
  have grown : ∀ (old : Nat), old < n + m → ∀ (row : Option Nat),
      (w.drew.alloc (.cells ((xs ++ news).toArray ++ Builtin.zeroCells z.cells (grownCap w (n + m) old e - (n + m))) e)).ownsRow B e i.size
        (.slice (some ⟨w.heap.size, 0, none⟩) (n + m) (grownCap w (n + m) old e)) (n + m) (xs ++ news) ∧
      w.grownBy (w.drew.alloc (.cells ((xs ++ news).toArray ++ Builtin.zeroCells z.cells (grownCap w (n + m) old e - (n + m))) e)) row := by
    intro old ho row
    have hge := grownCap_ge w (n + m) old e
    have hcm : grownCap w (n + m) old e ≤ maxLen := grownCap_le_maxLen w (n + m) old e h63
    refine ⟨⟨hlen, .inr ⟨w.heap.size, _, _, rfl, hB, heap_alloc_new w.drew _, hge, hcm, ?_, ?_⟩⟩, ⟨rfl, rfl, rfl, by simp, fun k hk _ => Below.heap_alloc w.drew _ k hk⟩⟩
    · simp only [Array.size_append, List.size_toArray, size_zeroCells, hzs, hlen, ← Nat.add_mul]
      congr 1
      omega
    · simp only [Array.toList_append]
      rw [← hlen]
      exact List.take_left
  rcases hown.2 with ⟨rfl, rfl⟩ | ⟨g, cap, cur, rfl, hbg, hg, hnc, hcm, hcs, htake⟩
  · have hx : xs = [] := List.eq_nil_of_length_eq_zero (by simpa using hown.1)
    subst hx
    by_cases hm : m = 0
    · subst hm
      have hn : news = [] := List.eq_nil_of_length_eq_zero (by simpa using hl)
      subst hn
      refine ⟨.slice none 0 0, w, ?_, World.ownsRow_nil w B e i.size, ⟨rfl, rfl, rfl, Nat.le_refl _, fun _ _ _ => rfl⟩, .inl rfl, fun h => absurd h (Nat.lt_irrefl _)⟩
      rcases hs.kind with ⟨e', hk⟩ | hk <;> simp [Builtin.append_, run_underlying ht, run_underlying hk, sizeOf, typeInfo, hi, hs.len, hs.cells]
    · have hr := run_append_grow_src (P := P) w t tx ty e i z ht hi hz none 0 0 [] (run_firstCells_none w.drew i.size 0 0 0) x m news hs (by omega) (by omega) (growslice_fits (by omega) hbytes)
      have hgr := grown 0 (by omega) (Value.ownBlock (.slice none 0 0))
      exact ⟨_, _, hr, hgr.1, hgr.2, .inr ⟨w.heap.size, rfl, Nat.le_refl _⟩, fun _ => ⟨_, _, rfl⟩⟩
  · by_cases hroom : n + m ≤ cap
    · have hfit : n * i.size + news.length ≤ cur.size := by rw [hl, hcs, ← Nat.add_mul]; exact Nat.mul_le_mul_right _ hroom
      have hr := run_append_room_row (P := P) w t tx ty e i ht hi g n cap cur hg x m news hs hroom hfit
      refine ⟨_, _, hr, ⟨hlen, .inr ⟨g, cap, _, rfl, hbg, setRow_heap w g cur _ e _ hg, hroom, hcm, ?_, ?_⟩⟩, ⟨rfl, rfl, rfl, by simp, fun k _ hk => setRow_other w g k _ (fun e => hk (by simp [Value.ownBlock, e]))⟩, .inl rfl, fun _ => ⟨_, _, rfl⟩⟩
      · simp only [List.size_toArray, List.length_append, List.length_take, List.length_drop, Array.length_toList]
        omega
      · rw [htake, ← hlen]
        exact List.take_left
    · have holds : ∀ j u, xs[j]? = some u → w.drew.cell? ((⟨g, 0, none⟩ : Addr).add j) = some u := hown.cells (g := g) rfl
      have hr := run_append_grow_src (P := P) w t tx ty e i z ht hi hz (some ⟨g, 0, none⟩) n cap xs (run_firstCells_some w.drew i.size n ⟨g, 0, none⟩ n cap xs hown.1 holds) x m news hs (by omega) (by omega) (growslice_fits (by omega) hbytes)
      have hgr := grown cap (by omega) (Value.ownBlock (.slice (some ⟨g, 0, none⟩) n cap))
      exact ⟨_, _, hr, hgr.1, hgr.2, .inr ⟨w.heap.size, rfl, Nat.le_refl _⟩, fun _ => ⟨_, _, rfl⟩⟩

/-- copy, of elements of any size -/
theorem run_copy_cells (w : World) (dT sT ty elem : TypeId) (i : TypeInfo) (g o dLen dCap : Nat) (a : Addr) (sLen sCap : Nat) (cur : Array Value) (t : TypeId) (cs : List Value)
    (hu : P.underlying dT = some (.slice elem)) (hi : P.info? elem = some i) (hg : w.heap[g]? = some (.cells cur t (0, 0))) (hn : cs.length = Nat.min sLen dLen * i.size)
    (hsrc : ∀ j v, cs[j]? = some v → w.cell? (a.add j) = some v) (hfit : o + cs.length ≤ cur.size) (h1 : ∀ v ∈ cs, v.oneCell' = true) :
    (Builtin.copy_ #[dT, sT] ty #[.slice (some ⟨g, o, none⟩) dLen dCap, .slice (some a) sLen sCap]).run P w =
      .ok (goInt (Nat.min sLen dLen : Nat)) (w.setRow g (cur.toList.take o ++ cs ++ cur.toList.drop (o + cs.length)).toArray) := by
  have hl := run_loadCells_list (P := P) w a cs hsrc
  have hst := run_storeCells_at P g o t cs 0 cur w hg (by simpa using hfit) h1
  simp [Builtin.copy_, run_underlying hu, Builtin.lenOf, Builtin.firstCells, sizeOf, typeInfo, hi, ← hn, hl, hst]

/-- clear, of a part of a row -/
theorem run_clear_cells (w : World) (t ty elem : TypeId) (z : Value) (i : TypeInfo) (g o n cap : Nat) (cur : Array Value) (e : TypeId) (ht : P.underlying t = some (.slice elem)) (hi : P.info? elem = some i) (hz : i.zero = some z)
    (hg : w.heap[g]? = some (.cells cur e (0, 0))) (hfit : o + n * z.cells.size ≤ cur.size) (h1 : ∀ v ∈ (Builtin.zeroCells z.cells n).toList, v.oneCell' = true) (hn : 0 < n) :
    (Builtin.clear_ #[t] ty #[.slice (some ⟨g, o, none⟩) n cap]).run P w =
      .ok (.tuple #[]) (w.setRow g (cur.toList.take o ++ (Builtin.zeroCells z.cells n).toList ++ cur.toList.drop (o + (Builtin.zeroCells z.cells n).toList.length)).toArray) := by
  have hst := run_storeCells_at P g o e (Builtin.zeroCells z.cells n).toList 0 cur w hg (by simpa [size_zeroCells] using hfit) h1
  obtain ⟨n, rfl⟩ : ∃ k, n = k + 1 := ⟨n - 1, by omega⟩
  simp [Builtin.clear_, run_underlying ht, zeroValue, typeInfo, hi, hz, hst]

theorem wpList_append_run {w : World} {ops : Array Oper} {rest : List Oper} {o : Oper} {a : Act} {Q : Exit → Act → World → Prop} (hgd : o.guard = none) (s x : Operand) (t tx : TypeId)
    (ho : o.op = .call { callee := .builtin .append, args := #[s, x], argTypes := #[t, tx] }) (vs vx v : Value) (w' : World) (hs : a.eval s = vs) (hx : a.eval x = vx)
    (hrun : (Builtin.append_ #[t, tx] o.type #[vs, vx]).run P w = .ok v w') (h : wpList P ops Q rest (a.put o.dst v) w') : wpList P ops Q (o :: rest) a w := by
  refine wpList_plain hgd fun K hK => ?_
  unfold Oper.wp
  simp [execOp, ho, resolve, invoke, builtin, hs, hx, hrun, Result.andThen]
  exact hK _ _ h

theorem wpList_copy_run {w : World} {ops : Array Oper} {rest : List Oper} {o : Oper} {a : Act} {Q : Exit → Act → World → Prop} (hgd : o.guard = none) (s x : Operand) (t tx : TypeId)
    (ho : o.op = .call { callee := .builtin .copy, args := #[s, x], argTypes := #[t, tx] }) (vs vx v : Value) (w' : World) (hs : a.eval s = vs) (hx : a.eval x = vx)
    (hrun : (Builtin.copy_ #[t, tx] o.type #[vs, vx]).run P w = .ok v w') (h : wpList P ops Q rest (a.put o.dst v) w') : wpList P ops Q (o :: rest) a w := by
  refine wpList_plain hgd fun K hK => ?_
  unfold Oper.wp
  simp [execOp, ho, resolve, invoke, builtin, hs, hx, hrun, Result.andThen]
  exact hK _ _ h

theorem wpList_clear_run {w : World} {ops : Array Oper} {rest : List Oper} {o : Oper} {a : Act} {Q : Exit → Act → World → Prop} (hgd : o.guard = none) (s : Operand) (t : TypeId)
    (ho : o.op = .call { callee := .builtin .clear, args := #[s], argTypes := #[t] }) (vs v : Value) (w' : World) (hs : a.eval s = vs)
    (hrun : (Builtin.clear_ #[t] o.type #[vs]).run P w = .ok v w') (h : wpList P ops Q rest (a.put o.dst v) w') : wpList P ops Q (o :: rest) a w := by
  refine wpList_plain hgd fun K hK => ?_
  unfold Oper.wp
  simp [execOp, ho, resolve, invoke, builtin, hs, hrun, Result.andThen]
  exact hK _ _ h

theorem step_append_run {w : World} {ops : Array Oper} {o : Oper} {a : Act} {K : Act → World → Prop} {Q : Exit → Act → World → Prop} {E : Prop} (hgd : o.guard = none) (s x : Operand) (t tx : TypeId)
    (ho : o.op = .call { callee := .builtin .append, args := #[s, x], argTypes := #[t, tx] }) (vs vx v : Value) (w' : World) (hs : a.eval s = vs) (hx : a.eval x = vx)
    (hrun : (Builtin.append_ #[t, tx] o.type #[vs, vx]).run P w = .ok v w') (h : K (a.put o.dst v) w') : if Region.wanted o (yielded ops a.tmps) = true then Oper.wp P o a w K Q else E := by
  have hw : Region.wanted o (yielded ops a.tmps) = true := by simp [Region.wanted, hgd]
  rw [if_pos hw]
  unfold Oper.wp
  simp [execOp, ho, resolve, invoke, builtin, hs, hx, hrun, Result.andThen]
  exact h

theorem step_copy_run {w : World} {ops : Array Oper} {o : Oper} {a : Act} {K : Act → World → Prop} {Q : Exit → Act → World → Prop} {E : Prop} (hgd : o.guard = none) (s x : Operand) (t tx : TypeId)
    (ho : o.op = .call { callee := .builtin .copy, args := #[s, x], argTypes := #[t, tx] }) (vs vx v : Value) (w' : World) (hs : a.eval s = vs) (hx : a.eval x = vx)
    (hrun : (Builtin.copy_ #[t, tx] o.type #[vs, vx]).run P w = .ok v w') (h : K (a.put o.dst v) w') : if Region.wanted o (yielded ops a.tmps) = true then Oper.wp P o a w K Q else E := by
  have hw : Region.wanted o (yielded ops a.tmps) = true := by simp [Region.wanted, hgd]
  rw [if_pos hw]
  unfold Oper.wp
  simp [execOp, ho, resolve, invoke, builtin, hs, hx, hrun, Result.andThen]
  exact h
end
end Go.Proofs.YtjimgncefeldbaaGreatDoor

namespace Go.Proofs.YtjimgncefeldbaaGreatDoor
open Go.RowKit

theorem fileInfo : (Tryz.prog.info? 70).map (fun i => (i.zero, i.size, i.bytes)) = some (some (.agg #[.string ByteArray.empty, .slice none 0 0, .int .i64 0]), 3, 48) := by kernel_rfl

/-- a row of n files that a call owns -/
def OwnF (B : Nat) (v : Value) (n : Nat) (xs : List Value) (w : World) : Prop := w.ownsRow B 70 3 v n xs

/-- what Insert answers: a row of one more, in the same block or in a new one -/
def InsPost (B : Nat) (v : Value) (n : Nat) (xs : List Value) (w : World) (e : Ending) (w' : World) : Prop :=
  ∃ v', e = .returned v' ∧ OwnF B v' (n + 1) xs w' ∧ w.grownBy w' v.ownBlock ∧ SF w v v'

set_option maxHeartbeats 2000000 in
set_option maxRecDepth 100000 in
theorem insert_end (B : Nat) (v : Value) (n : Nat) (xs : List Value) (x0 x1 x2 : Value) (g : Nat) (w : World) (hown : OwnF B v n xs w) (hn : n ≤ 1023) (hB : B ≤ w.heap.size)
    (hg : w.heap[g]? = some (.cells #[x0, x1, x2] 70 (0, 0))) (h1 : ∀ u ∈ [x0, x1, x2], u.oneCell' = true) :
    Calls Tryz.prog 39 #[v, .int .i64 (n : Int), .slice (some ⟨g, 0, none⟩) 1 1] w (InsPost B v n (xs ++ [x0, x1, x2]) w) := by
  obtain ⟨i0, hi, hz0, hz1, hz2⟩ := info_parts fileInfo
  have hsrc : Src Tryz.prog 3 61 (.slice (some ⟨g, 0, none⟩) 1 1) 1 [x0, x1, x2] w :=
    Src.ofSlice w Tryz.underlying61 ⟨g, 0, none⟩ 1 1 [x0, x1, x2] rfl (World.news_of_block hg) h1
  have happ := fun ty => run_append_sf (P := Tryz.prog) w B 61 61 ty 70 i0 _ 3 48 Tryz.underlying61 hi hz0 hz1 hz2 rfl v n xs hown _ 1 _ hsrc (by unfold maxLen; omega) (by omega) hB
  obtain ⟨v', w', hr, ho, hgr, hsf, _⟩ := happ 61
  have HF := Lib.hid (show InsPost B v n (xs ++ [x0, x1, x2]) w (.returned v') w' from ⟨v', rfl, ho, hgr, hsf⟩)
  clear ho hgr hsf happ hsrc
  have hcap : ∃ p c, v = .slice p n c := by
    rcases hown.2 with ⟨hv, h0⟩ | ⟨g, cap, cur, hv, _⟩
    · exact ⟨none, 0, by rw [h0]; exact hv⟩
    · exact ⟨_, _, hv⟩
  rcases hown.2 with ⟨rfl, rfl⟩ | ⟨F, c, cur, rfl, hbF, hF, hnc, hcm, hcs, htake⟩
  · clear hown hcap
    go_enter Tryz.func39, Tryz.ntmps39
    go_wp2_with (at_builtin; refine wpList_append_run rfl _ _ _ _ rfl _ _ _ _ rfl rfl hr ?_)
    go_ret
    exact HF.out
  · clear hown hcap hF hcs htake
    unfold maxLen at hcm
    go_enter Tryz.func39, Tryz.ntmps39
    go_wp2_with (at_builtin; refine wpList_append_run rfl _ _ _ _ rfl _ _ _ _ rfl rfl hr ?_)
    all_goals (go_ret; exact HF.out)

theorem shift_list (cur xs news : List Value) (a k : Nat) (htake : cur.take k = xs) (hk : xs.length = k) (hn : news.length = 3) (hak : a ≤ k) (hfit : k + 3 ≤ cur.length) :
    ((((cur.take (a + 3) ++ xs.drop a ++ cur.drop (a + 3 + (xs.drop a).length)).take a ++ news ++ (cur.take (a + 3) ++ xs.drop a ++ cur.drop (a + 3 + (xs.drop a).length)).drop (a + news.length)).take (k + 3)) = xs.take a ++ (news ++ xs.drop a)) := by
  have h1 : (cur.take (a + 3) ++ xs.drop a ++ cur.drop (a + 3 + (xs.drop a).length)).take a = xs.take a := by
    rw [List.append_assoc, List.take_append_of_le_length (by rw [List.length_take]; omega), List.take_take, ← htake, List.take_take]
    congr 1; omega
  have h2 : (cur.take (a + 3) ++ xs.drop a ++ cur.drop (a + 3 + (xs.drop a).length)).drop (a + news.length) = xs.drop a ++ cur.drop (a + 3 + (xs.drop a).length) := by
    rw [hn, List.append_assoc, List.drop_append_of_le_length (by rw [List.length_take]; omega), List.drop_take]
    simp
  rw [h1, h2]
  have h3 : xs.take a ++ news ++ (xs.drop a ++ cur.drop (a + 3 + (xs.drop a).length)) = (xs.take a ++ (news ++ xs.drop a)) ++ cur.drop (a + 3 + (xs.drop a).length) := by simp [List.append_assoc]
  rw [h3, List.take_append_of_le_length (by simp; omega), List.take_of_length_le (by simp; omega)]

set_option maxHeartbeats 4000000 in
set_option maxRecDepth 100000 in
theorem insert_shift (B : Nat) (F c n i : Nat) (xs : List Value) (x0 x1 x2 : Value) (g : Nat) (w : World) (hown : OwnF B (.slice (some ⟨F, 0, none⟩) n c) n xs w) (hn : n ≤ 1023) (hi : i < n) (hroom : n + 1 ≤ c) (hgF : g ≠ F)
    (hg : w.heap[g]? = some (.cells #[x0, x1, x2] 70 (0, 0))) (h1 : ∀ u ∈ [x0, x1, x2], u.oneCell' = true) (h1x : ∀ u ∈ xs, u.oneCell' = true) :
    Calls Tryz.prog 39 #[.slice (some ⟨F, 0, none⟩) n c, .int .i64 (i : Int), .slice (some ⟨g, 0, none⟩) 1 1] w (InsPost B (.slice (some ⟨F, 0, none⟩) n c) n (xs.take (i * 3) ++ ([x0, x1, x2] ++ xs.drop (i * 3))) w) := by
  obtain ⟨i0, hii, hz0, hz1, hz2⟩ := info_parts fileInfo
  rcases hown.2 with ⟨h, _⟩ | ⟨F', c', cur, h, hbF, hF, hnc, hcm, hcs, htake⟩
  · simp at h
  simp only [Value.slice.injEq, Option.some.injEq, Addr.mk.injEq, and_true, true_and] at h
  obtain ⟨rfl, rfl⟩ := h
  have hxl := hown.1
  unfold maxLen at hcm
  have hsizeOf : ∀ w, (Go.sizeOf 70).run Tryz.prog w = .ok 3 w := fun w => by simp [Go.sizeOf, typeInfo, hii, hz1]
  have hov : ∀ lb cb, (callFunc 77 #[.slice (some ⟨g, 0, none⟩) 1 1, .slice (some ⟨F, (i + 1) * 3, none⟩) lb cb]).run Tryz.prog w = .ok (.value (.bool false)) w := fun lb cb => by
    rw [run_callFunc_extern Tryz.func77 (by kernel_rfl) (by kernel_rfl) (by kernel_rfl) (e := Extern.SlicesOverlaps.overlaps #[61, 61] #[4]) (by kernel_rfl),
      Lib.run_overlaps_apart w 61 4 70 Tryz.underlying61 3 hsizeOf ⟨g, 0, none⟩ ⟨F, (i + 1) * 3, none⟩ 1 1 lb cb hgF 70 70 3 (c * 3) (by simp [World.shape?, hg]) (by simp [World.shape?, hF, hcs]) (by omega) (Joins.unfrozen_of_block hg 0) (Joins.unfrozen_of_block hg 3)]
    rfl
  have hdl : (xs.drop (i * 3)).length = (n - i) * 3 := by rw [List.length_drop, hxl]; omega
  have hcsl : cur.toList.length = c * 3 := by simpa using hcs
  have hcell : ∀ j v, xs[j]? = some v → w.cell? ⟨F, j, none⟩ = some v := fun j v hj => by
    have hjl : j < n * 3 := by have := (List.getElem?_eq_some_iff.1 hj).1; omega
    rw [hown.cellAt j hjl]; exact hj
  have hcp1 : ∀ ty dc sc, (Builtin.copy_ #[61, 61] ty #[.slice (some ⟨F, (i + 1) * 3, none⟩) (n + 1 - (i + 1)) dc, .slice (some ⟨F, i * 3, none⟩) (n + 1 - i) sc]).run Tryz.prog w.drew =
      .ok (goInt (Nat.min (n + 1 - i) (n + 1 - (i + 1)) : Nat)) (w.drew.setRow F (cur.toList.take ((i + 1) * 3) ++ xs.drop (i * 3) ++ cur.toList.drop ((i + 1) * 3 + (xs.drop (i * 3)).length)).toArray) := fun ty dc sc =>
    run_copy_cells w.drew _ _ ty 70 i0 F ((i + 1) * 3) (n + 1 - (i + 1)) dc ⟨F, i * 3, none⟩ (n + 1 - i) sc cur 70 (xs.drop (i * 3)) Tryz.underlying61 hii hF
      (by rw [hz1, hdl, show Nat.min (n + 1 - i) (n + 1 - (i + 1)) = n - i by simp only [Nat.min_def]; split <;> omega])
      (fun j v hj => by rw [Addr.add_lit]; exact hcell _ v (by rwa [List.getElem?_drop] at hj)) (by rw [hdl, hcs]; omega) (fun v hv => h1x v (List.mem_of_mem_drop hv))
  obtain ⟨W1, hW1⟩ : ∃ W1, W1 = w.drew.setRow F (cur.toList.take ((i + 1) * 3) ++ xs.drop (i * 3) ++ cur.toList.drop ((i + 1) * 3 + (xs.drop (i * 3)).length)).toArray := ⟨_, rfl⟩
  have hF1 : W1.heap[F]? = some (.cells (cur.toList.take ((i + 1) * 3) ++ xs.drop (i * 3) ++ cur.toList.drop ((i + 1) * 3 + (xs.drop (i * 3)).length)).toArray 70 (0, 0)) := by
    rw [hW1]; exact setRow_heap w.drew F cur _ _ _ hF
  have hg1 : W1.heap[g]? = some (.cells #[x0, x1, x2] 70 (0, 0)) := by
    rw [hW1, setRow_other _ _ _ _ hgF]; exact hg
  have hcur1 : (cur.toList.take ((i + 1) * 3) ++ xs.drop (i * 3) ++ cur.toList.drop ((i + 1) * 3 + (xs.drop (i * 3)).length)).length = c * 3 := by
    simp only [List.length_append, List.length_take, List.length_drop, hcsl, hxl]; omega
  have hcp2 := fun ty dc => run_copy_cells (P := Tryz.prog) W1 61 61 ty 70 i0 F (i * 3) (n + 1 - i) dc ⟨g, 0, none⟩ 1 1 _ 70 [x0, x1, x2] Tryz.underlying61 hii hF1
      (by rw [hz1, show Nat.min 1 (n + 1 - i) = 1 by simp only [Nat.min_def]; split <;> omega]; rfl)
      (World.news_of_block hg1) (by simp only [List.size_toArray, hcur1, List.length_cons, List.length_nil]; omega) h1
  have hlist := shift_list cur.toList xs [x0, x1, x2] (i * 3) (n * 3) htake hxl rfl (by omega) (by omega)
  rw [show i * 3 + 3 = (i + 1) * 3 by omega] at hlist
  have hsize2 : ((cur.toList.take ((i + 1) * 3) ++ xs.drop (i * 3) ++ cur.toList.drop ((i + 1) * 3 + (xs.drop (i * 3)).length)).take (i * 3) ++ [x0, x1, x2] ++ (cur.toList.take ((i + 1) * 3) ++ xs.drop (i * 3) ++ cur.toList.drop ((i + 1) * 3 + (xs.drop (i * 3)).length)).drop (i * 3 + [x0, x1, x2].length)).length = c * 3 := by
    simp only [List.length_append, List.length_take, List.length_drop, List.length_cons, List.length_nil, hcsl, hxl]; omega
  simp only [] at hcp2
  obtain ⟨W2, hW2⟩ : ∃ W2, W2 = W1.setRow F ((cur.toList.take ((i + 1) * 3) ++ xs.drop (i * 3) ++ cur.toList.drop ((i + 1) * 3 + (xs.drop (i * 3)).length)).take (i * 3) ++ [x0, x1, x2] ++ (cur.toList.take ((i + 1) * 3) ++ xs.drop (i * 3) ++ cur.toList.drop ((i + 1) * 3 + (xs.drop (i * 3)).length)).drop (i * 3 + [x0, x1, x2].length)).toArray := ⟨_, rfl⟩
  rw [← hW2] at hcp2
  rw [← hW1] at hcp1
  obtain ⟨ys, hys⟩ : ∃ ys, xs.take (i * 3) ++ ([x0, x1, x2] ++ xs.drop (i * 3)) = ys := ⟨_, rfl⟩
  have HF : Hid (InsPost B (.slice (some ⟨F, 0, none⟩) n c) n ys w (.returned (.slice (some ⟨F, 0, none⟩) (n + 1) c)) W2) := by
    refine ⟨_, rfl, ⟨by rw [← hys]; simp [hxl]; omega, .inr ⟨F, c, _, rfl, hbF, by rw [hW2]; exact setRow_heap W1 F _ _ _ _ hF1, hroom, by unfold maxLen; omega, by simpa using hsize2, ?_⟩⟩, ?_, .inl rfl⟩
    · rw [List.toList_toArray, ← hys, show (n + 1) * 3 = n * 3 + 3 by omega]; exact hlist
    · refine ⟨by rw [hW2, hW1]; rfl, by rw [hW2, hW1]; rfl, by rw [hW2, hW1]; rfl, by rw [hW2, hW1]; simp, fun k hk hne => ?_⟩
      have hkF : k ≠ F := fun e => hne (by simp [Value.ownBlock, e])
      rw [hW2, setRow_other _ _ _ _ hkF, hW1, setRow_other _ _ _ _ hkF]
      rfl
  rw [hys]
  clear hys hlist hsize2 hcur1 hcell hcsl hdl hsizeOf htake hcs hF hxl hg1 hF1 hown hg h1 h1x
  have HW1 := Lib.hid hW1; clear hW1
  have HW2 := Lib.hid hW2; clear hW2
  have hw1 : IntKind.i64.wrap ((i : Int) + 1) = (i : Int) + 1 := by rw [IntKind.wrap_i64]; omega
  have hb1 : (0 : Int) ≤ (i : Int) + 1 := by omega
  have htn : ((i : Int) + 1).toNat = i + 1 := by omega
  have hb2 : ¬ (c = i + 1) := by omega
  have hb3 : (i : Int) + 1 ≤ (n : Int) + 1 := by omega
  have hb4 : ¬ (c = i) := by omega
  have hb5 : i ≤ n := by omega
  have hb6 : (i : Int) ≤ (n : Int) + 1 := by omega
  go_enter Tryz.func39, Tryz.ntmps39
  go_wp2_with (simp only [hov])
  go_region_law (refine step_copy_run rfl (.tmp 73) (.tmp 76) 61 61 rfl (.slice (some ⟨F, (i + 1) * 3, none⟩) (n + 1 - (i + 1)) (c - (i + 1))) (.slice (some ⟨F, i * 3, none⟩) (n + 1 - i) (c - i)) _ W1 (by simp [Act.eval, Act.put]) (by simp [Act.eval, Act.put]) (hcp1 _ _ _) ?_)
  go_wp2_with (with_reducible refine wpList_copy_run rfl (.tmp 80) (.tmp 81) 61 61 rfl (.slice (some ⟨F, i * 3, none⟩) (n + 1 - i) (c - i)) (.slice (some ⟨g, 0, none⟩) 1 1) _ W2 rfl rfl (hcp2 _ _) ?_)
  go_ret
  exact HF.out

theorem grow_list (cur xs news : List Value) (a k : Nat) (htake : cur.take a = xs.take a) (hk : xs.length = k) (hn : news.length = 3) (hak : a ≤ k) (hfit : k + 3 ≤ cur.length) :
    (((cur.take a ++ news ++ cur.drop (a + news.length)).take (a + 3) ++ xs.drop a ++ (cur.take a ++ news ++ cur.drop (a + news.length)).drop (a + 3 + (xs.drop a).length)).take (k + 3)) = xs.take a ++ (news ++ xs.drop a) := by
  have h1 : (cur.take a ++ news ++ cur.drop (a + news.length)).take (a + 3) = xs.take a ++ news := by
    rw [List.take_append_of_le_length (by simp; omega), List.take_of_length_le (by simp; omega), htake]
  rw [h1, List.take_append_of_le_length (by simp; omega), List.take_of_length_le (by simp; omega)]
  simp [List.append_assoc]

theorem run_zeros (w : World) (F c n i : Nat) (xs : List Value) (B : Nat) (hown : OwnF B (.slice (some ⟨F, 0, none⟩) n c) n xs w) (hn : n ≤ 1023) (hi : i < n) (hroom : c < n + 1) :
    ∃ cap W1 cur, (∀ ty, (Builtin.append_ #[61, 3] ty #[.slice (some ⟨F, 0, none⟩) i c, .int .i64 ((n : Int) + 1 - (i : Int))]).run Tryz.prog w = .ok (.slice (some ⟨w.heap.size, 0, none⟩) (n + 1) cap) W1) ∧
      W1.heap[w.heap.size]? = some (.cells cur 70 (0, 0)) ∧ cur.size = cap * 3 ∧ n + 1 ≤ cap ∧ cap ≤ maxLen ∧ cur.toList.take (i * 3) = xs.take (i * 3) ∧ w.grownBy W1 none := by
  obtain ⟨i0, hii, hz0, hz1, hz2⟩ := info_parts fileInfo
  have hxl := hown.1
  have hcell : ∀ j u, (xs.take (i * 3))[j]? = some u → w.drew.cell? ((⟨F, 0, none⟩ : Addr).add j) = some u := fun j u hj => by
    have hj2 := hj
    rw [List.getElem?_take] at hj2
    split at hj2
    · exact hown.cells (g := F) rfl j u hj2
    · cases hj2
  have hold := run_firstCells_some (P := Tryz.prog) w.drew i0.size i ⟨F, 0, none⟩ i c (xs.take (i * 3)) (by rw [hz1, List.length_take]; omega) hcell
  have hnil : c = n := by
    rcases hown.2 with ⟨h, _⟩ | ⟨F', c', cur, h, hbF, hF, hnc, _⟩
    · simp at h
    · simp at h; omega
  have hr := fun ty => Lib.run_append_grow_zeros (P := Tryz.prog) w 61 3 ty 70 i0 _ .i64 .i64 Tryz.underlying61 Tryz.underlying3 hii hz0 (some ⟨F, 0, none⟩) i c (xs.take (i * 3)) hold (n + 1 - i) (by omega) (by omega) (by omega) (by omega) (by rw [hz2]; omega)
    (growslice_fits (by omega) (by rw [hz2]; omega))
  have e1 : ((n + 1 - i : Nat) : Int) = (n : Int) + 1 - (i : Int) := by omega
  have e2 : i + (n + 1 - i) = n + 1 := by omega
  rw [e1, e2] at hr
  have hge := grownCap_ge w (n + 1) c 70
  have hcm : grownCap w (n + 1) c 70 ≤ maxLen := grownCap_le_maxLen w (n + 1) c 70 (by unfold maxLen; omega)
  refine ⟨_, _, _, hr, heap_alloc_new w.drew _, ?_, hge, hcm, ?_, ⟨rfl, rfl, rfl, by simp, fun k hk _ => Below.heap_alloc w.drew _ k hk⟩⟩
  · simp only [Array.size_append, List.size_toArray, size_zeroCells, List.length_take, hxl]
    have : (Value.agg #[Value.string ByteArray.empty, Value.slice none 0 0, Value.int .i64 0]).cells.size = 3 := rfl
    rw [this]
    omega
  · simp only [Array.toList_append, List.append_assoc]
    rw [List.take_append_of_le_length (by rw [List.length_take]; omega), List.take_of_length_le (by rw [List.length_take]; omega)]

set_option maxHeartbeats 4000000 in
set_option maxRecDepth 100000 in
theorem insert_grow (B : Nat) (F c n i : Nat) (xs : List Value) (x0 x1 x2 : Value) (g : Nat) (w : World) (hown : OwnF B (.slice (some ⟨F, 0, none⟩) n c) n xs w) (hn : n ≤ 1023) (hi : i < n) (hroom : c < n + 1) (hB : B ≤ w.heap.size)
    (hg : w.heap[g]? = some (.cells #[x0, x1, x2] 70 (0, 0))) (h1 : ∀ u ∈ [x0, x1, x2], u.oneCell' = true) (h1x : ∀ u ∈ xs, u.oneCell' = true) :
    Calls Tryz.prog 39 #[.slice (some ⟨F, 0, none⟩) n c, .int .i64 (i : Int), .slice (some ⟨g, 0, none⟩) 1 1] w (InsPost B (.slice (some ⟨F, 0, none⟩) n c) n (xs.take (i * 3) ++ ([x0, x1, x2] ++ xs.drop (i * 3))) w) := by
  obtain ⟨i0, hii, hz0, hz1, hz2⟩ := info_parts fileInfo
  obtain ⟨cap, W1, cur, hap, hG, hcs, hcap, hcm, htake, hgr1⟩ := run_zeros w F c n i xs B hown hn hi hroom
  have hxl := hown.1
  have hc0 : n ≤ c := by
    rcases hown.2 with ⟨h, _⟩ | ⟨F', c', cur, h, hbF, hF, hnc, _⟩
    · simp at h
    · simp at h; omega
  have hFb : ∃ curF, w.heap[F]? = some (.cells curF 70 (0, 0)) := by
    rcases hown.2 with ⟨h, _⟩ | ⟨F', c', cur, h, hbF, hF, hnc, _⟩
    · simp at h
    · simp at h; exact ⟨cur, by rw [h.1]; exact hF⟩
  obtain ⟨curF, hF⟩ := hFb
  have hFlt : F < w.heap.size := (Array.getElem?_eq_some_iff.1 hF).1
  have hglt : g < w.heap.size := (Array.getElem?_eq_some_iff.1 hg).1
  have hdl : (xs.drop (i * 3)).length = (n - i) * 3 := by rw [List.length_drop, hxl]; omega
  have hcsl : cur.toList.length = cap * 3 := by simpa using hcs
  have hcell : ∀ j v, xs[j]? = some v → w.cell? ⟨F, j, none⟩ = some v := fun j v hj => by
    have hjl : j < n * 3 := by have := (List.getElem?_eq_some_iff.1 hj).1; omega
    rw [hown.cellAt j hjl]; exact hj
  have hg1 : W1.heap[g]? = some (.cells #[x0, x1, x2] 70 (0, 0)) := by rw [hgr1.block g hglt (by simp)]; exact hg
  have hcp1 := fun ty dc => run_copy_cells (P := Tryz.prog) W1 61 61 ty 70 i0 w.heap.size (i * 3) (n + 1 - i) dc ⟨g, 0, none⟩ 1 1 cur 70 [x0, x1, x2] Tryz.underlying61 hii hG
      (by rw [hz1, show Nat.min 1 (n + 1 - i) = 1 by simp only [Nat.min_def]; split <;> omega]; rfl)
      (World.news_of_block hg1) (by simp only [hcs, List.length_cons, List.length_nil]; omega) h1
  obtain ⟨W2, hW2⟩ : ∃ W2, W2 = W1.setRow w.heap.size (cur.toList.take (i * 3) ++ [x0, x1, x2] ++ cur.toList.drop (i * 3 + [x0, x1, x2].length)).toArray := ⟨_, rfl⟩
  rw [← hW2] at hcp1
  have hG2 : W2.heap[w.heap.size]? = some (.cells (cur.toList.take (i * 3) ++ [x0, x1, x2] ++ cur.toList.drop (i * 3 + [x0, x1, x2].length)).toArray 70 (0, 0)) := by
    rw [hW2]; exact setRow_heap W1 _ cur _ _ _ hG
  have hsz2 : (cur.toList.take (i * 3) ++ [x0, x1, x2] ++ cur.toList.drop (i * 3 + [x0, x1, x2].length)).length = cap * 3 := by
    simp only [List.length_append, List.length_take, List.length_drop, List.length_cons, List.length_nil, hcsl]; omega
  have hF2 : ∀ j v, xs[j]? = some v → W2.drew.cell? ⟨F, j, none⟩ = some v := fun j v hj => by
    have hb2 : W2.heap[F]? = w.heap[F]? := by rw [hW2, setRow_other _ _ _ _ (by omega), hgr1.block F hFlt (by simp)]
    rw [World.cell?_drew, World.cell?_of_block (w := w) (a := ⟨F, j, none⟩) hb2]; exact hcell j v hj
  have hcp2 : ∀ ty dc sc, (Builtin.copy_ #[61, 61] ty #[.slice (some ⟨w.heap.size, (i + 1) * 3, none⟩) (n + 1 - (i + 1)) dc, .slice (some ⟨F, i * 3, none⟩) (n - i) sc]).run Tryz.prog W2.drew =
      .ok (goInt (Nat.min (n - i) (n + 1 - (i + 1)) : Nat)) (W2.drew.setRow w.heap.size ((cur.toList.take (i * 3) ++ [x0, x1, x2] ++ cur.toList.drop (i * 3 + [x0, x1, x2].length)).take ((i + 1) * 3) ++ xs.drop (i * 3) ++ (cur.toList.take (i * 3) ++ [x0, x1, x2] ++ cur.toList.drop (i * 3 + [x0, x1, x2].length)).drop ((i + 1) * 3 + (xs.drop (i * 3)).length)).toArray) := fun ty dc sc => by
    have h := run_copy_cells (P := Tryz.prog) W2.drew 61 61 ty 70 i0 w.heap.size ((i + 1) * 3) (n + 1 - (i + 1)) dc ⟨F, i * 3, none⟩ (n - i) sc _ 70 (xs.drop (i * 3)) Tryz.underlying61 hii hG2
      (by rw [hz1, hdl, show Nat.min (n - i) (n + 1 - (i + 1)) = n - i by simp only [Nat.min_def]; split <;> omega])
      (fun j v hj => by rw [Addr.add_lit]; exact hF2 _ v (by rwa [List.getElem?_drop] at hj)) (by simp only [List.size_toArray, hsz2, hdl]; omega) (fun v hv => h1x v (List.mem_of_mem_drop hv))
    exact h
  obtain ⟨W3, hW3⟩ : ∃ W3, W3 = W2.drew.setRow w.heap.size ((cur.toList.take (i * 3) ++ [x0, x1, x2] ++ cur.toList.drop (i * 3 + [x0, x1, x2].length)).take ((i + 1) * 3) ++ xs.drop (i * 3) ++ (cur.toList.take (i * 3) ++ [x0, x1, x2] ++ cur.toList.drop (i * 3 + [x0, x1, x2].length)).drop ((i + 1) * 3 + (xs.drop (i * 3)).length)).toArray := ⟨_, rfl⟩
  rw [← hW3] at hcp2
  have hlist := grow_list cur.toList xs [x0, x1, x2] (i * 3) (n * 3) htake hxl rfl (by omega) (by omega)
  rw [show i * 3 + 3 = (i + 1) * 3 by omega] at hlist
  have hsz3 : ((cur.toList.take (i * 3) ++ [x0, x1, x2] ++ cur.toList.drop (i * 3 + [x0, x1, x2].length)).take ((i + 1) * 3) ++ xs.drop (i * 3) ++ (cur.toList.take (i * 3) ++ [x0, x1, x2] ++ cur.toList.drop (i * 3 + [x0, x1, x2].length)).drop ((i + 1) * 3 + (xs.drop (i * 3)).length)).length = cap * 3 := by
    rw [List.length_append, List.length_append, hdl, List.length_take, List.length_drop, hsz2]; omega
  obtain ⟨ys, hys⟩ : ∃ ys, xs.take (i * 3) ++ ([x0, x1, x2] ++ xs.drop (i * 3)) = ys := ⟨_, rfl⟩
  have HF : Hid (InsPost B (.slice (some ⟨F, 0, none⟩) n c) n ys w (.returned (.slice (some ⟨w.heap.size, 0, none⟩) (n + 1) cap)) W3) := by
    refine ⟨_, rfl, ⟨by rw [← hys]; simp [hxl]; omega, .inr ⟨w.heap.size, cap, _, rfl, hB, by rw [hW3]; exact setRow_heap W2.drew _ _ _ _ _ hG2, hcap, hcm, by simpa using hsz3, ?_⟩⟩, ?_, .inr ⟨_, rfl, Nat.le_refl _⟩⟩
    · rw [List.toList_toArray, ← hys, show (n + 1) * 3 = n * 3 + 3 by omega]; exact hlist
    · refine ⟨by rw [hW3, hW2]; exact hgr1.os, by rw [hW3, hW2]; exact hgr1.tape, by rw [hW3, hW2]; exact hgr1.output, by rw [hW3, hW2]; simpa using hgr1.size, fun k hk hne => ?_⟩
      rw [hW3, setRow_other _ _ _ _ (by omega), show W2.drew.heap[k]? = W2.heap[k]? from rfl, hW2, setRow_other _ _ _ _ (by omega)]
      exact hgr1.block k hk (by simp)
  rw [hys]
  unfold maxLen at hcm
  have hc1024 : c ≤ 1023 := by omega
  clear hys hlist hsz3 hsz2 hcell hcsl hdl htake hcs hF hxl hg1 hG hG2 hF2 hown hg h1 h1x hgr1
  have HW2 := Lib.hid hW2; clear hW2
  have HW3 := Lib.hid hW3; clear hW3
  have hw1 : IntKind.i64.wrap ((i : Int) + 1) = (i : Int) + 1 := by rw [IntKind.wrap_i64]; omega
  have hb1 : (0 : Int) ≤ (i : Int) + 1 := by omega
  have htn : ((i : Int) + 1).toNat = i + 1 := by omega
  have hb2 : ¬ (cap = i + 1) := by omega
  have hb3 : (i : Int) + 1 ≤ (n : Int) + 1 := by omega
  have hb4 : ¬ (c = i) := by omega
  have hb5 : i ≤ n := by omega
  have hb6 : (i : Int) ≤ (n : Int) + 1 := by omega
  have hb7 : ¬ (cap = i) := by omega
  go_enter Tryz.func39, Tryz.ntmps39
  go_wp2_with (at_builtin; refine wpList_append_run rfl (.tmp 34) (.tmp 39) 61 3 rfl (.slice (some ⟨F, 0, none⟩) i c) (.int .i64 ((n : Int) + 1 - (i : Int))) _ W1 rfl rfl (hap _) ?_)
  go_wp2_with (with_reducible refine wpList_copy_run rfl (.tmp 43) (.tmp 44) 61 61 rfl (.slice (some ⟨w.heap.size, i * 3, none⟩) (n + 1 - i) (cap - i)) (.slice (some ⟨g, 0, none⟩) 1 1) _ W2 rfl rfl (hcp1 _ _) ?_)
  go_region_law (refine step_copy_run rfl (.tmp 50) (.tmp 53) 61 61 rfl (.slice (some ⟨w.heap.size, (i + 1) * 3, none⟩) (n + 1 - (i + 1)) (cap - (i + 1))) (.slice (some ⟨F, i * 3, none⟩) (n - i) (c - i)) _ W3 (by simp [Act.eval, Act.put]) (by simp [Act.eval, Act.put]) (hcp2 _ _ _) ?_)
  go_wp2_with fail
  go_ret
  exact HF.out

theorem insert_any (B : Nat) (v : Value) (n i : Nat) (xs : List Value) (x0 x1 x2 : Value) (g : Nat) (w : World) (hown : OwnF B v n xs w) (hn : n ≤ 1023) (hi : i ≤ n) (hB : B ≤ w.heap.size) (hne : v.ownBlock ≠ some g)
    (hg : w.heap[g]? = some (.cells #[x0, x1, x2] 70 (0, 0))) (h1 : ∀ u ∈ [x0, x1, x2], u.oneCell' = true) (h1x : ∀ u ∈ xs, u.oneCell' = true) :
    Calls Tryz.prog 39 #[v, .int .i64 (i : Int), .slice (some ⟨g, 0, none⟩) 1 1] w (InsPost B v n (xs.take (i * 3) ++ ([x0, x1, x2] ++ xs.drop (i * 3))) w) := by
  by_cases hin : i = n
  · subst hin
    have hxl := hown.1
    rw [List.take_of_length_le (by omega), List.drop_eq_nil_of_le (by omega), List.append_nil]
    exact insert_end B v i xs x0 x1 x2 g w hown hn hB hg h1
  · rcases Joins.ownsRow_forms hown with ⟨_, h0⟩ | ⟨F, c, rfl⟩
    · omega
    · by_cases hroom : n + 1 ≤ c
      · exact insert_shift B F c n i xs x0 x1 x2 g w hown hn (by omega) hroom (fun e => hne (by simp [Value.ownBlock, e])) hg h1 h1x
      · exact insert_grow B F c n i xs x0 x1 x2 g w hown hn (by omega) (by omega) hB hg h1 h1x

theorem zero3 : (Builtin.zeroCells (Value.agg #[Value.string ByteArray.empty, Value.slice none 0 0, Value.int .i64 0]).cells 1).toList = [Value.string ByteArray.empty, Value.slice none 0 0, Value.int .i64 0] := by kernel_rfl

theorem delete_list (cur X Z : List Value) (a k : Nat) (_hZ : Z.length = 3) (hX : X.length = k - a) (hak : a ≤ k) (hfit : k + 3 ≤ cur.length) :
    ((cur.take a ++ X ++ cur.drop (a + X.length)).take k ++ Z ++ (cur.take a ++ X ++ cur.drop (a + X.length)).drop (k + Z.length)).take k = cur.take a ++ X := by
  rw [List.append_assoc, List.take_append_of_le_length (by simp; omega), List.take_take, Nat.min_self, List.take_append_of_le_length (by simp; omega), List.take_of_length_le (by simp; omega)]

/-- what Delete answers: a row of one less, in the same block -/
def DelPost (B : Nat) (F c k : Nat) (xs : List Value) (w : World) (e : Ending) (w' : World) : Prop :=
  e = .returned (.slice (some ⟨F, 0, none⟩) k c) ∧ OwnF B (.slice (some ⟨F, 0, none⟩) k c) k xs w' ∧ w.grownBy w' (some F)

set_option maxHeartbeats 4000000 in
set_option maxRecDepth 100000 in
theorem delete_any (B : Nat) (F c k i : Nat) (xs : List Value) (w : World) (hown : OwnF B (.slice (some ⟨F, 0, none⟩) (k + 1) c) (k + 1) xs w) (hn : k ≤ 1023) (hi : i ≤ k) (h1x : ∀ u ∈ xs, u.oneCell' = true) :
    Calls Tryz.prog 120 #[.slice (some ⟨F, 0, none⟩) (k + 1) c, .int .i64 (i : Int), .int .i64 ((i : Int) + 1)] w (DelPost B F c k (xs.take (i * 3) ++ xs.drop ((i + 1) * 3)) w) := by
  obtain ⟨i0, hii, hz0, hz1, hz2⟩ := info_parts fileInfo
  rcases hown.2 with ⟨h, _⟩ | ⟨F', c', cur, h, hbF, hF, hnc, hcm, hcs, htake⟩
  · simp at h
  simp only [Value.slice.injEq, Option.some.injEq, Addr.mk.injEq, and_true, true_and] at h
  obtain ⟨rfl, rfl⟩ := h
  have hxl := hown.1
  have hcsl : cur.toList.length = c * 3 := by simpa using hcs
  have hdl : (xs.drop ((i + 1) * 3)).length = (k - i) * 3 := by rw [List.length_drop, hxl]; omega
  have hsrc : ∀ ad sc, (k - i = 0 ∨ ad = (⟨F, (i + 1) * 3, none⟩ : Addr)) → Src Tryz.prog i0.size 61 (.slice (some ad) (k - i) sc) (k - i) (xs.drop ((i + 1) * 3)) w.drew := fun ad sc hor => by
    refine Src.ofSlice w.drew Tryz.underlying61 ad (k - i) sc _ (by rw [hz1]; exact hdl) (fun j u hj => ?_) (fun u hu => h1x u (List.mem_of_mem_drop hu))
    have hjl := (List.getElem?_eq_some_iff.1 hj).1
    rcases hor with h0 | rfl
    · omega
    · rw [Addr.add_lit, World.cell?_drew, hown.cellAt _ (by omega)]
      rwa [List.getElem?_drop] at hj
  have hap : ∀ ty ad sc, (k - i = 0 ∨ ad = (⟨F, (i + 1) * 3, none⟩ : Addr)) → (Builtin.append_ #[61, 61] ty #[.slice (some ⟨F, 0, none⟩) i c, .slice (some ad) (k - i) sc]).run Tryz.prog w.drew =
      .ok (.slice (some ⟨F, 0, none⟩) k c) (w.drew.setRow F (cur.toList.take (i * 3) ++ xs.drop ((i + 1) * 3) ++ cur.toList.drop (i * 3 + (xs.drop ((i + 1) * 3)).length)).toArray) := fun ty ad sc hor => by
    have h := run_append_room_row (P := Tryz.prog) w.drew 61 61 ty 70 i0 Tryz.underlying61 hii F i c cur hF _ (k - i) _ (hsrc ad sc hor) (by omega) (by rw [hz1, hdl, hcs]; omega)
    rw [hz1, show i + (k - i) = k by omega] at h
    exact h
  obtain ⟨W1, hW1⟩ : ∃ W1, W1 = w.drew.setRow F (cur.toList.take (i * 3) ++ xs.drop ((i + 1) * 3) ++ cur.toList.drop (i * 3 + (xs.drop ((i + 1) * 3)).length)).toArray := ⟨_, rfl⟩
  rw [← hW1] at hap
  have hF1 : W1.heap[F]? = some (.cells (cur.toList.take (i * 3) ++ xs.drop ((i + 1) * 3) ++ cur.toList.drop (i * 3 + (xs.drop ((i + 1) * 3)).length)).toArray 70 (0, 0)) := by
    rw [hW1]; exact setRow_heap w.drew F cur _ _ _ hF
  have hsz1 : (cur.toList.take (i * 3) ++ xs.drop ((i + 1) * 3) ++ cur.toList.drop (i * 3 + (xs.drop ((i + 1) * 3)).length)).length = c * 3 := by
    rw [List.length_append, List.length_append, hdl, List.length_take, List.length_drop, hcsl]; omega
  have hcl := fun ty cc => run_clear_cells (P := Tryz.prog) W1 61 ty 70 _ i0 F (k * 3) 1 cc _ 70 Tryz.underlying61 hii hz0 hF1
    (by rw [show (Value.agg #[Value.string ByteArray.empty, Value.slice none 0 0, Value.int .i64 0]).cells.size = 3 from rfl, List.size_toArray, hsz1]; omega) (by rw [zero3]; simp [Value.oneCell']) (by omega)
  rw [zero3] at hcl
  simp only [] at hcl
  obtain ⟨W2, hW2⟩ : ∃ W2, W2 = W1.setRow F ((cur.toList.take (i * 3) ++ xs.drop ((i + 1) * 3) ++ cur.toList.drop (i * 3 + (xs.drop ((i + 1) * 3)).length)).take (k * 3) ++ [Value.string ByteArray.empty, Value.slice none 0 0, Value.int .i64 0] ++ (cur.toList.take (i * 3) ++ xs.drop ((i + 1) * 3) ++ cur.toList.drop (i * 3 + (xs.drop ((i + 1) * 3)).length)).drop (k * 3 + [Value.string ByteArray.empty, Value.slice none 0 0, Value.int .i64 0].length)).toArray := ⟨_, rfl⟩
  rw [← hW2] at hcl
  have hlist := delete_list cur.toList (xs.drop ((i + 1) * 3)) [Value.string ByteArray.empty, Value.slice none 0 0, Value.int .i64 0] (i * 3) (k * 3) rfl (by rw [hdl]; omega) (by omega) (by omega)
  have htk : cur.toList.take (i * 3) = xs.take (i * 3) := by rw [← htake, List.take_take]; congr 1; omega
  obtain ⟨ys, hys⟩ : ∃ ys, xs.take (i * 3) ++ xs.drop ((i + 1) * 3) = ys := ⟨_, rfl⟩
  have HF : Hid (DelPost B F c k ys w (.returned (.slice (some ⟨F, 0, none⟩) k c)) W2) := by
    refine ⟨rfl, ⟨by rw [← hys, List.length_append, List.length_take, hdl, hxl]; omega, .inr ⟨F, c, _, rfl, hbF, by rw [hW2]; exact setRow_heap W1 F _ _ _ _ hF1, by omega, hcm, ?_, ?_⟩⟩, ?_⟩
    · rw [List.size_toArray, List.length_append, List.length_append, List.length_take, List.length_drop (i := k * 3 + _), hsz1]; simp; omega
    · rw [List.toList_toArray, ← hys, ← htk]; exact hlist
    · refine ⟨by rw [hW2, hW1]; rfl, by rw [hW2, hW1]; rfl, by rw [hW2, hW1]; rfl, by rw [hW2, hW1]; simp, fun j hj hne => ?_⟩
      have hkF : j ≠ F := fun e => hne (by rw [e])
      rw [hW2, setRow_other _ _ _ _ hkF, hW1, setRow_other _ _ _ _ hkF]
      rfl
  rw [hys]
  unfold maxLen at hcm
  clear hys hlist hsz1 hcsl hdl htake htk hcs hF hxl hF1 hown h1x hsrc
  have HW1 := Lib.hid hW1; clear hW1
  have HW2 := Lib.hid hW2; clear hW2
  have hw1 : IntKind.i64.wrap ((i : Int) + 1) = (i : Int) + 1 := by rw [IntKind.wrap_i64]; omega
  have hb1 : (0 : Int) ≤ (i : Int) + 1 := by omega
  have htn : ((i : Int) + 1).toNat = i + 1 := by omega
  have hb3 : (i : Int) + 1 ≤ (k : Int) + 1 := by omega
  have hb5 : i ≤ k := by omega
  have hb6 : ¬ ((i : Int) = (i : Int) + 1) := by omega
  have hb7 : i ≤ c := by omega
  have hb8 : (i : Int) ≤ (c : Int) := by omega
  have hb9 : (i : Int) ≤ (i : Int) + 1 := by omega
  by_cases hic : c = i + 1
  · obtain rfl : k = i := by omega
    subst hic
    have hap2 := fun ty ad sc => hap ty ad sc (.inl (Nat.sub_self k))
    simp only [Nat.sub_self] at hap2
    clear hap
    go_enter Tryz.func120, Tryz.ntmps120
    go_wp2_with fail
    go_region_law (refine step_append_run rfl (.tmp 22) (.tmp 25) 61 61 rfl (.slice (some ⟨F, 0, none⟩) k (k + 1)) (.slice (some ⟨F, 0, none⟩) 0 0) _ W1 (by simp [Act.eval, Act.put]) (by simp [Act.eval, Act.put]) (hap2 _ _ _) ?_)
    go_wp2_with (with_reducible refine wpList_clear_run rfl (.tmp 31) 61 rfl (.slice (some ⟨F, k * 3, none⟩) 1 1) _ W2 rfl (hcl _ _) ?_)
    go_ret
    exact HF.out
  · have hap2 := fun ty sc => hap ty ⟨F, (i + 1) * 3, none⟩ sc (.inr rfl)
    clear hap
    go_enter Tryz.func120, Tryz.ntmps120
    go_wp2_with fail
    go_region_law (refine step_append_run rfl (.tmp 22) (.tmp 25) 61 61 rfl (.slice (some ⟨F, 0, none⟩) i c) (.slice (some ⟨F, (i + 1) * 3, none⟩) (k - i) (c - (i + 1))) _ W1 (by simp [Act.eval, Act.put]) (by simp [Act.eval, Act.put]) (hap2 _ _) ?_)
    go_wp2_with (with_reducible refine wpList_clear_run rfl (.tmp 31) 61 rfl (.slice (some ⟨F, k * 3, none⟩) 1 (c - k)) _ W2 rfl (hcl _ _) ?_)
    go_ret
    exact HF.out
end Go.Proofs.YtjimgncefeldbaaGreatDoor

namespace Go.Proofs.YtjimgncefeldbaaGreatDoor
open Go.RowKit

theorem own_kept {B : Nat} {w w' : World} {v : Value} {n sz : Nat} {e : TypeId} {xs : List Value} (ho : w.ownsRow B e sz v n xs) (hm : ∀ k, v.ownBlock = some k → w'.heap[k]? = w.heap[k]?) : w'.ownsRow B e sz v n xs := by
  refine ⟨ho.1, ?_⟩
  rcases ho.2 with hn | ⟨g, cap, cur, rfl, hb, hgg, rest⟩
  · exact .inl hn
  · exact .inr ⟨g, cap, cur, rfl, hb, by rw [hm g rfl]; exact hgg, rest⟩

theorem mem_bblks {l : List FV} {k : Nat} : k ∈ bblks l ↔ ∃ f ∈ l, f.bv.ownBlock = some k := by simp [bblks]
theorem bblks_append (a b : List FV) : bblks (a ++ b) = bblks a ++ bblks b := by simp [bblks]
theorem bblks_cons (f : FV) (b : List FV) : bblks (f :: b) = f.bv.ownBlock.toList ++ bblks b := by simp [bblks]

theorem Lies.nodup {B : Nat} {m : MS} {w : World} (h : Lies B m w) : (∀ k, m.fv.ownBlock = some k → k ≠ m.D) ∧ (∀ k ∈ bblks m.l, k ≠ m.D) ∧ (bblks m.l).Nodup ∧ (∀ k ∈ bblks m.l, m.fv.ownBlock ≠ some k) := by
  have ha := h.apart
  simp only [MS.blks, List.nodup_cons, List.nodup_append, List.mem_append, Option.mem_toList, not_or] at ha
  obtain ⟨⟨h1, h2⟩, _, h3, h4⟩ := ha
  exact ⟨fun k hk e => h1 (by rw [← e]; exact hk), fun k hk e => h2 (by rw [← e]; exact hk), h3, fun k hk e => h4 k e k hk rfl⟩

theorem Lies.rebuild {B : Nat} {m m' : MS} {w w' : World} (h : Lies B m w) (hD : m'.D = m.D) (hh : w'.heap[m.D]? = some (.cells m'.head 63 (0, 0)))
    (hrow : OwnF B m'.fv m'.l.length (fcells m'.l) w') (hsf : SF w m.fv m'.fv) (hbody : ∀ f ∈ m'.l, OwnB B f.bv f.body w') (hnd : (bblks m'.l).Nodup)
    (hsub : ∀ k ∈ bblks m'.l, k ∈ bblks m.l ∨ w.heap.size ≤ k) (hnew : ∀ k ∈ bblks m'.l, m'.fv.ownBlock ≠ some k) : Lies B m' w' := by
  obtain ⟨n1, n2, n3, n4⟩ := h.nodup
  have hDlt := (h.lt m.D (by simp [MS.blks])).2
  refine ⟨by rw [hD]; exact hh, by rw [hD]; exact h.base, hrow, hbody, ?_⟩
  simp only [MS.blks, List.nodup_cons, List.nodup_append, List.mem_append, Option.mem_toList, not_or, hD]
  refine ⟨⟨fun e => ?_, fun e => ?_⟩, ?_, hnd, fun a ha b hb e => hnew b hb (by rw [← e]; exact ha)⟩
  · have e' : m'.fv.ownBlock = some m.D := e
    rcases hsf with hs | ⟨g, hg, hge⟩
    · rw [hs] at e'; exact n1 _ e' rfl
    · rw [hg] at e'; simp at e'; omega
  · rcases hsub _ e with hs | hs
    · exact n2 _ hs rfl
    · omega
  · cases m'.fv.ownBlock <;> simp

/-- the blocks of another disk at the same place are the disk's own, or new -/
theorem blks_fresh {m m' : MS} {w : World} (hD : m'.D = m.D) (hsf : SF w m.fv m'.fv) (hsub : ∀ k ∈ bblks m'.l, k ∈ bblks m.l ∨ w.heap.size ≤ k) : ∀ k ∈ m'.blks, k ∈ m.blks ∨ w.heap.size ≤ k := by
  intro k hk
  simp only [MS.blks, List.mem_cons, List.mem_append, Option.mem_toList, hD] at hk ⊢
  rcases hk with rfl | hk | hk
  · exact .inl (.inl rfl)
  · have hk' : m'.fv.ownBlock = some k := hk
    rcases hsf with hs | ⟨g, hg, hge⟩
    · exact .inl (.inr (.inl (by rw [← hs]; exact hk')))
    · rw [hg] at hk'; simp at hk'; right; omega
  · rcases hsub k hk with hs | hs
    · exact .inl (.inr (.inr hs))
    · exact .inr hs

theorem fcells_set (l : List FV) : ∀ (i j : Nat) (f f' : FV) (u : Value), l[i]? = some f → j < 3 → f'.cells = f.cells.set j u → fcells (l.set i f') = (fcells l).set (i * 3 + j) u := by
  induction l with
  | nil => intro i j f f' u h; simp at h
  | cons a l ih =>
    intro i j f f' u h hj hu
    cases i with
    | zero =>
      simp at h; subst h
      simp only [List.set_cons_zero, fcells, List.flatMap_cons, Nat.zero_mul, Nat.zero_add]
      rw [hu, List.set_append_left _ _ (by simp [FV.cells]; omega)]
    | succ i =>
      simp at h
      have := ih i j f f' u h hj hu
      simp only [List.set_cons_succ, fcells, List.flatMap_cons] at this ⊢
      rw [this, List.set_append_right _ _ (by simp [FV.cells]; omega)]
      congr 2
      simp [FV.cells]; omega

theorem ownF_set {B : Nat} {w : World} {F n cap : Nat} {l : List FV} {i j : Nat} {f f' : FV} (h : OwnF B (.slice (some ⟨F, 0, none⟩) n cap) l.length (fcells l) w) (hn : n = l.length) (hf : l[i]? = some f) (hj : j < 3) (u : Value) (hu : f'.cells = f.cells.set j u) :
    OwnF B (.slice (some ⟨F, 0, none⟩) n cap) (l.set i f').length (fcells (l.set i f')) (w.setCell ⟨F, i * 3 + j, none⟩ u) ∧ w.grownBy (w.setCell ⟨F, i * 3 + j, none⟩ u) (some F) := by
  subst hn
  have hs := World.ownsRow.stored h (i * 3 + j) u
  rw [List.length_set, fcells_set l i j f f' u hf hj hu]
  exact hs

theorem bblks_set {l : List FV} {i : Nat} {f f' : FV} (hf : l[i]? = some f) (hb : f'.bv.ownBlock = f.bv.ownBlock) : bblks (l.set i f') = bblks l := by
  induction l generalizing i with
  | nil => simp at hf
  | cons a l ih =>
    cases i with
    | zero => simp at hf; subst hf; simp [bblks_cons, hb]
    | succ i => simp at hf; simp only [List.set_cons_succ, bblks_cons]; rw [ih hf]

/-- one cell of one file is stored, with the same block of bytes -/
theorem Lies.setFile {B : Nat} {m : MS} {w : World} (h : Lies B m w) {F n cap : Nat} (hv : m.fv = .slice (some ⟨F, 0, none⟩) n cap) {i j : Nat} {f f' : FV} (hf : m.l[i]? = some f) (hj : j < 3) (u : Value) (hu : f'.cells = f.cells.set j u)
    (hb : f'.bv.ownBlock = f.bv.ownBlock) (hbody : ∀ w' : World, OwnB B f.bv f.body w' → OwnB B f'.bv f'.body w') :
    Lies B { m with l := m.l.set i f' } (w.setCell ⟨F, i * 3 + j, none⟩ u) ∧ Chg m { m with l := m.l.set i f' } w (w.setCell ⟨F, i * 3 + j, none⟩ u) := by
  obtain ⟨hn, hF, hFm, _⟩ := h.frow hv
  obtain ⟨n1, n2, n3, n4⟩ := h.nodup
  have hrow := h.row
  rw [hv] at hrow
  obtain ⟨hr, hg⟩ := ownF_set hrow hn hf hj u hu
  have hFD : F ≠ m.D := n1 F (by rw [hv]; rfl)
  have hown : ∀ g ∈ m.l, OwnB B g.bv g.body (w.setCell ⟨F, i * 3 + j, none⟩ u) := fun g hgm =>
    own_kept (h.body g hgm) fun k hk => Below.heap_setCell _ _ _ _ (fun e => n4 k (mem_bblks.2 ⟨g, hgm, hk⟩) (by rw [hv, e]; rfl))
  refine ⟨h.rebuild rfl ?_ (by rw [← hv] at hr; exact hr) (.inl rfl) ?_ ?_ ?_ ?_, ⟨rfl, rfl, rfl, by simp, fun k _ hk => Below.heap_setCell _ _ _ _ (fun e => hk (by rw [e]; exact hFm)), ?_⟩⟩
  · rw [Below.heap_setCell _ _ _ _ (fun e => hFD e.symm)]; exact h.head
  · intro g hgm
    rcases List.mem_or_eq_of_mem_set hgm with hgm | rfl
    · exact hown g hgm
    · exact hbody _ (hown f (List.mem_of_getElem? hf))
  · show (bblks (m.l.set i f')).Nodup
    rw [bblks_set hf hb]; exact n3
  · show ∀ k ∈ bblks (m.l.set i f'), _
    rw [bblks_set hf hb]; exact fun k hk => .inl hk
  · show ∀ k ∈ bblks (m.l.set i f'), _
    rw [bblks_set hf hb]; exact n4
  · exact blks_fresh rfl (.inl rfl) (by show ∀ k ∈ bblks (m.l.set i f'), _; rw [bblks_set hf hb]; exact fun k hk => .inl hk)

theorem OwnF.drew {B : Nat} {v : Value} {n : Nat} {xs : List Value} {w : World} (h : OwnF B v n xs w) : OwnF B v n xs w.drew := h

theorem fcells_take (l : List FV) (i : Nat) : fcells (l.take i) = (fcells l).take (i * 3) := by
  induction l generalizing i with
  | nil => simp [fcells]
  | cons a l ih =>
    cases i with
    | zero => simp [fcells]
    | succ i =>
      have := ih i
      simp only [fcells, List.take_succ_cons, List.flatMap_cons] at this ⊢
      rw [this, List.take_append]
      have e : a.cells.length = 3 := rfl
      rw [List.take_of_length_le (l := a.cells) (by omega), e, show (i + 1) * 3 - 3 = i * 3 by omega]

theorem fcells_drop (l : List FV) (i : Nat) : fcells (l.drop i) = (fcells l).drop (i * 3) := by
  induction l generalizing i with
  | nil => simp [fcells]
  | cons a l ih =>
    cases i with
    | zero => simp [fcells]
    | succ i =>
      have := ih i
      simp only [fcells, List.drop_succ_cons, List.flatMap_cons] at this ⊢
      rw [this, List.drop_append]
      have e : a.cells.length = 3 := rfl
      have e2 : a.cells.drop ((i + 1) * 3) = [] := List.drop_eq_nil_of_le (by omega)
      rw [e2, e, show (i + 1) * 3 - 3 = i * 3 by omega]
      rfl

theorem fcells_del (l : List FV) (i : Nat) : fcells (l.take i ++ l.drop (i + 1)) = (fcells l).take (i * 3) ++ (fcells l).drop ((i + 1) * 3) := by
  rw [fcells_append, fcells_take, fcells_drop]

theorem fcells_ins (l : List FV) (i : Nat) (x : FV) : fcells (l.take i ++ x :: l.drop i) = (fcells l).take (i * 3) ++ (x.cells ++ (fcells l).drop (i * 3)) := by
  rw [fcells_append, fcells_take, show x :: l.drop i = [x] ++ l.drop i from rfl, fcells_append, fcells_drop]
  simp [fcells]

theorem one_cells {B : Nat} {m : MS} {w : World} (h : Lies B m w) : ∀ u ∈ fcells m.l, u.oneCell' = true := by
  intro u hu
  simp only [fcells, List.mem_flatMap] at hu
  obtain ⟨f, hf, hu⟩ := hu
  obtain ⟨p, c, hbv⟩ := OwnB.form (h.body f hf)
  simp only [FV.cells, List.mem_cons, List.not_mem_nil, or_false] at hu
  rcases hu with rfl | rfl | rfl
  · rfl
  · rw [hbv]; rfl
  · rfl

theorem bblks_del {l : List FV} (i : Nat) : List.Sublist (bblks (l.take i ++ l.drop (i + 1))) (bblks l) := by
  have e : bblks l = bblks (l.take i) ++ bblks (l.drop i) := by rw [← bblks_append, List.take_append_drop]
  rw [bblks_append, e]
  refine List.Sublist.append (List.Sublist.refl _) ?_
  have h2 : l.drop (i + 1) = (l.drop i).drop 1 := by rw [List.drop_drop]
  rw [h2]
  cases l.drop i with
  | nil => simp [bblks]
  | cons a r => simp only [List.drop_succ_cons, List.drop_zero, bblks_cons]; exact List.sublist_append_right _ _

/-- the row is another one, in the head's cell -/
theorem Lies.refile {B : Nat} {m : MS} {w w1 : World} (h : Lies B m w) (v : Value) (l : List FV) (hg : w.grownBy w1 m.fv.ownBlock) (hrow : OwnF B v l.length (fcells l) w1) (hsf : SF w m.fv v)
    (hbody : ∀ f ∈ l, OwnB B f.bv f.body w ∧ ∀ k, f.bv.ownBlock = some k → k ≠ m.D ∧ m.fv.ownBlock ≠ some k) (hnd : (bblks l).Nodup) :
    Lies B { m with fv := v, l := l } (w1.setCell ⟨m.D, 1, none⟩ v) ∧ (∀ k, k < w.heap.size → k ≠ m.D → m.fv.ownBlock ≠ some k → (w1.setCell ⟨m.D, 1, none⟩ v).heap[k]? = w.heap[k]?) := by
  obtain ⟨n1, n2, n3, n4⟩ := h.nodup
  have hDlt := (h.lt m.D (by simp [MS.blks])).2
  have hvD : ∀ k, v.ownBlock = some k → k ≠ m.D := fun k hk => by
    rcases hsf with hs | ⟨g, hgv, hge⟩
    · exact n1 k (by rw [← hs]; exact hk)
    · rw [hgv] at hk; simp at hk; omega
  have hD1 : w1.heap[m.D]? = w.heap[m.D]? := hg.block m.D hDlt (fun e => n1 m.D e.symm rfl)
  have hkeep : ∀ k, k < w.heap.size → k ≠ m.D → m.fv.ownBlock ≠ some k → (w1.setCell ⟨m.D, 1, none⟩ v).heap[k]? = w.heap[k]? := fun k hk hkD hne => by
    rw [Below.heap_setCell _ _ _ _ hkD]; exact hg.block k hk (fun e => hne e.symm)
  have hbl : ∀ f ∈ l, ∀ k, f.bv.ownBlock = some k → k < w.heap.size := fun f hf k hk => (World.ownsRow.lt (hbody f hf).1 k hk).2
  refine ⟨⟨?_, h.base, own_kept hrow fun k hk => Below.heap_setCell _ _ _ _ (hvD k hk), fun f hf => own_kept (hbody f hf).1 fun k hk => hkeep k (hbl f hf k hk) ((hbody f hf).2 k hk).1 ((hbody f hf).2 k hk).2, ?_⟩, hkeep⟩
  · have := Joins.block_setCell (hD1.trans h.head) (i := 1) v
    simpa [MS.head] using this
  · simp only [MS.blks, List.nodup_cons, List.nodup_append, List.mem_append, Option.mem_toList, not_or]
    refine ⟨⟨fun e => hvD _ e rfl, fun e => ?_⟩, by cases v.ownBlock <;> simp, hnd, fun a ha b hb e => ?_⟩
    · obtain ⟨f, hf, hk⟩ := mem_bblks.1 e
      exact ((hbody f hf).2 _ hk).1 rfl
    · subst e
      obtain ⟨f, hf, hk⟩ := mem_bblks.1 hb
      have ha' : v.ownBlock = some a := ha
      rcases hsf with hs | ⟨g, hgv, hge⟩
      · rw [hs] at ha'; exact ((hbody f hf).2 a hk).2 ha'
      · rw [hgv] at ha'; simp at ha'; have := hbl f hf a hk; omega

theorem split_at {l : List FV} {i : Nat} {f : FV} (hf : l[i]? = some f) (f' : FV) : l = l.take i ++ f :: l.drop (i + 1) ∧ l.set i f' = l.take i ++ f' :: l.drop (i + 1) := by
  obtain ⟨hi, he⟩ := List.getElem?_eq_some_iff.1 hf
  refine ⟨?_, by rw [List.set_eq_take_append_cons_drop, if_pos hi]⟩
  conv => lhs; rw [← List.take_append_drop i l]
  rw [List.drop_eq_getElem_cons hi, he]

theorem nodup_swap {A C : List Nat} {x y : Option Nat} (h : (A ++ (x.toList ++ C)).Nodup) (hy : y = x ∨ ∃ g, y = some g ∧ g ∉ A ∧ g ∉ C) : (A ++ (y.toList ++ C)).Nodup := by
  rcases hy with rfl | ⟨g, rfl, hA, hC⟩
  · exact h
  · simp only [List.nodup_append, Option.mem_toList, List.mem_append] at h ⊢
    obtain ⟨h1, ⟨_, h3, _⟩, h5⟩ := h
    refine ⟨h1, ⟨by simp, h3, fun a ha b hb e => ?_⟩, fun a ha b hb e => ?_⟩
    · simp at ha; subst ha; subst e; exact hC hb
    · rcases hb with hb | hb
      · simp at hb; subst hb; subst e; exact hA ha
      · exact h5 a ha b (.inr hb) e

/-- a file's bytes are others, in the same block or in a new one -/
theorem Lies.putBody {B : Nat} {m : MS} {w W3 : World} (h : Lies B m w) {F n cap : Nat} (hv : m.fv = .slice (some ⟨F, 0, none⟩) n cap) {i : Nat} {f : FV} (hf : m.l[i]? = some f) (v' : Value) (body' : List UInt8)
    (hg : w.grownBy W3 f.bv.ownBlock) (hsf : SF w f.bv v') (hown : OwnB B v' body' W3) :
    Lies B { m with l := m.l.set i { f with bv := v', body := body' } } (W3.setCell ⟨F, i * 3 + 1, none⟩ v') ∧ Chg m { m with l := m.l.set i { f with bv := v', body := body' } } w (W3.setCell ⟨F, i * 3 + 1, none⟩ v') := by
  obtain ⟨hn, hF, hFm, _⟩ := h.frow hv
  obtain ⟨n1, n2, n3, n4⟩ := h.nodup
  obtain ⟨e1, e2⟩ := split_at hf { f with bv := v', body := body' }
  have hfm : f ∈ m.l := List.mem_of_getElem? hf
  have hFf : ∀ k, f.bv.ownBlock = some k → k ≠ F ∧ k ≠ m.D ∧ k < w.heap.size := fun k hk =>
    ⟨fun e => n4 k (mem_bblks.2 ⟨f, hfm, hk⟩) (by rw [hv, e]; rfl), n2 k (mem_bblks.2 ⟨f, hfm, hk⟩), (World.ownsRow.lt (h.body f hfm) k hk).2⟩
  have hDlt := (h.lt m.D (by simp [MS.blks])).2
  have hFD : F ≠ m.D := n1 F (by rw [hv]; rfl)
  have hrow3 : OwnF B (.slice (some ⟨F, 0, none⟩) n cap) m.l.length (fcells m.l) W3 := by
    have := h.row; rw [hv] at this
    exact own_kept this fun k hk => hg.block k (by simp [Value.ownBlock] at hk; subst hk; exact hF) (fun e => by simp [Value.ownBlock] at hk; subst hk; exact (hFf F e.symm).1 rfl)
  obtain ⟨hr, _⟩ := ownF_set (i := i) (j := 1) (f := f) (f' := { f with bv := v', body := body' }) hrow3 hn hf (by omega) v' rfl
  have hnd : (bblks (m.l.take i) ++ (f.bv.ownBlock.toList ++ bblks (m.l.drop (i + 1)))).Nodup := by rw [← bblks_cons, ← bblks_append, ← e1]; exact n3
  have hold : ∀ k, k ∈ bblks (m.l.take i) ∨ k ∈ bblks (m.l.drop (i + 1)) → k ∈ bblks m.l ∧ f.bv.ownBlock ≠ some k := fun k hk => by
    refine ⟨by rw [e1, bblks_append, bblks_cons]; simp; rcases hk with hk | hk; exact .inl hk; exact .inr (.inr hk), fun e => ?_⟩
    simp only [List.nodup_append, Option.mem_toList, List.mem_append] at hnd
    rcases hk with hk | hk
    · exact hnd.2.2 k hk k (.inl e) rfl
    · exact hnd.2.1.2.2 k e k hk rfl
  have hbl : ∀ k ∈ bblks m.l, k < w.heap.size := fun k hk => (h.lt k (by simp [MS.blks, hk])).2
  have hv' : v'.ownBlock = f.bv.ownBlock ∨ ∃ g, v'.ownBlock = some g ∧ g ∉ bblks (m.l.take i) ∧ g ∉ bblks (m.l.drop (i + 1)) := by
    rcases hsf with hs | ⟨g, hgv, hge⟩
    · exact .inl hs
    · exact .inr ⟨g, hgv, fun hk => by have := hbl g (hold g (.inl hk)).1; omega, fun hk => by have := hbl g (hold g (.inr hk)).1; omega⟩
  have hnd' : (bblks (m.l.set i { f with bv := v', body := body' })).Nodup := by rw [e2, bblks_append, bblks_cons]; exact nodup_swap hnd hv'
  have hmem' : ∀ k ∈ bblks (m.l.set i { f with bv := v', body := body' }), (k ∈ bblks m.l ∧ (k ∈ bblks (m.l.take i) ∨ k ∈ bblks (m.l.drop (i + 1)) ∨ f.bv.ownBlock = some k)) ∨ w.heap.size ≤ k := fun k hk => by
    rw [e2, bblks_append, bblks_cons] at hk
    simp only [List.mem_append, Option.mem_toList] at hk
    rcases hk with hk | hk | hk
    · exact .inl ⟨(hold k (.inl hk)).1, .inl hk⟩
    · have hk' : v'.ownBlock = some k := hk
      rcases hsf with hs | ⟨g, hgv, hge⟩
      · exact .inl ⟨mem_bblks.2 ⟨f, hfm, by rw [← hs]; exact hk'⟩, .inr (.inr (by rw [← hs]; exact hk'))⟩
      · rw [hgv] at hk'; simp at hk'; right; omega
    · exact .inl ⟨(hold k (.inr hk)).1, .inr (.inl hk)⟩
  have hvF : ∀ k, v'.ownBlock = some k → k ≠ F := fun k hk => by
    rcases hsf with hs | ⟨g, hgv, hge⟩
    · exact (hFf k (by rw [← hs]; exact hk)).1
    · rw [hgv] at hk; simp at hk; omega
  have hkeep : ∀ k, k < w.heap.size → f.bv.ownBlock ≠ some k → k ≠ F → (W3.setCell ⟨F, i * 3 + 1, none⟩ v').heap[k]? = w.heap[k]? := fun k hk hne hkF => by
    rw [Below.heap_setCell _ _ _ _ hkF]; exact hg.block k hk (fun e => hne e.symm)
  refine ⟨h.rebuild rfl ?_ ?_ (.inl rfl) ?_ hnd' (fun k hk => (hmem' k hk).imp (·.1) id) ?_, ⟨hg.os, hg.tape, hg.output, by simpa using hg.size, fun k hk hne => ?_, blks_fresh rfl (.inl rfl) (fun k hk => (hmem' k hk).imp (·.1) id)⟩⟩
  · rw [hkeep m.D hDlt (fun e => (hFf m.D e).2.1 rfl) (fun e => hFD e.symm)]; exact h.head
  · show OwnF B m.fv _ _ _; rw [hv]; exact hr
  · intro g hgm
    have hgm' : g ∈ m.l.set i { f with bv := v', body := body' } := hgm
    rw [e2] at hgm'
    simp only [List.mem_append, List.mem_cons] at hgm'
    have hside : ∀ g, g ∈ m.l.take i ∨ g ∈ m.l.drop (i + 1) → OwnB B g.bv g.body (W3.setCell ⟨F, i * 3 + 1, none⟩ v') := fun g hgs => by
      have hgl : g ∈ m.l := by rcases hgs with h | h; exact List.mem_of_mem_take h; exact List.mem_of_mem_drop h
      refine own_kept (h.body g hgl) fun k hk => hkeep k (World.ownsRow.lt (h.body g hgl) k hk).2 (hold k ?_).2 (fun e => n4 k (mem_bblks.2 ⟨g, hgl, hk⟩) (by rw [hv, e]; rfl))
      rcases hgs with h | h
      · exact .inl (mem_bblks.2 ⟨g, h, hk⟩)
      · exact .inr (mem_bblks.2 ⟨g, h, hk⟩)
    rcases hgm' with hgs | rfl | hgs
    · exact hside g (.inl hgs)
    · exact own_kept hown fun k hk => Below.heap_setCell _ _ _ _ (hvF k hk)
    · exact hside g (.inr hgs)
  · intro k hk
    rcases hmem' k hk with hm | hm
    · exact n4 k hm.1
    · intro e
      have e' : m.fv.ownBlock = some k := e
      rw [hv] at e'; simp [Value.ownBlock] at e'; omega
  · simp only [MS.blks, List.mem_cons, List.mem_append, Option.mem_toList, not_or] at hne
    exact hkeep k hk (fun e => hne.2.2 (mem_bblks.2 ⟨f, hfm, e⟩)) (fun e => hne.2.1 (by rw [hv, e]; rfl))
end Go.Proofs.YtjimgncefeldbaaGreatDoor
