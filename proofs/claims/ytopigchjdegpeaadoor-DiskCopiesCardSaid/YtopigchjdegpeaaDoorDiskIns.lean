/-
  slices.Insert of one file, slices.Delete of one.
-/
import Derived.Test.YtopigchjdegpeaaDoorDiskMem
import Derived.Test.YtopigchjdegpeaaDoorDiskRows
import Derived.Deep.AppendLies
import Derived.Lib.Overlaps
import Derived.Lib.AppendZerosOnto
namespace Go.Proofs.YtopigchjdegpeaaDoor
open Go.RowKit

theorem fileInfo : (Tryd.prog.info? 57).map (fun i => (i.zero, i.size, i.bytes)) = some (some (.agg #[.string ByteArray.empty, .slice none 0 0, .int .i64 0]), 3, 48) := by kernel_rfl

/-- a row of n files that a call owns -/
def OwnF (B : Nat) (v : Value) (n : Nat) (xs : List Value) (w : World) : Prop := w.ownsRow B 57 3 v n xs

/-- what Insert answers: a row of one more, in the same block or in a new one -/
def InsPost (B : Nat) (v : Value) (n : Nat) (xs : List Value) (w : World) (e : Ending) (w' : World) : Prop :=
  ∃ v', e = .returned v' ∧ OwnF B v' (n + 1) xs w' ∧ w.grownBy w' v.ownBlock ∧ SF w v v'

set_option maxHeartbeats 2000000 in
set_option maxRecDepth 100000 in
theorem insert_end (B : Nat) (v : Value) (n : Nat) (xs : List Value) (x0 x1 x2 : Value) (g : Nat) (w : World) (hown : OwnF B v n xs w) (hn : n ≤ 1023) (hB : B ≤ w.heap.size)
    (hg : w.heap[g]? = some (.cells #[x0, x1, x2] 57 (0, 0))) (h1 : ∀ u ∈ [x0, x1, x2], u.oneCell' = true) :
    Calls Tryd.prog 36 #[v, .int .i64 (n : Int), .slice (some ⟨g, 0, none⟩) 1 1] w (InsPost B v n (xs ++ [x0, x1, x2]) w) := by
  obtain ⟨i0, hi, hz0, hz1, hz2⟩ := info_parts fileInfo
  have hsrc : Src Tryd.prog 3 51 (.slice (some ⟨g, 0, none⟩) 1 1) 1 [x0, x1, x2] w :=
    Src.ofSlice w Tryd.underlying51 ⟨g, 0, none⟩ 1 1 [x0, x1, x2] rfl (World.news_of_block hg) h1
  have happ := fun ty => run_append_sf (P := Tryd.prog) w B 51 51 ty 57 i0 _ 3 48 Tryd.underlying51 hi hz0 hz1 hz2 rfl v n xs hown _ 1 _ hsrc (by unfold maxLen; omega) (by omega) hB
  obtain ⟨v', w', hr, ho, hgr, hsf, _⟩ := happ 51
  have HF := Lib.hid (show InsPost B v n (xs ++ [x0, x1, x2]) w (.returned v') w' from ⟨v', rfl, ho, hgr, hsf⟩)
  clear ho hgr hsf happ hsrc
  have hcap : ∃ p c, v = .slice p n c := by
    rcases hown.2 with ⟨hv, h0⟩ | ⟨g, cap, cur, hv, _⟩
    · exact ⟨none, 0, by rw [h0]; exact hv⟩
    · exact ⟨_, _, hv⟩
  rcases hown.2 with ⟨rfl, rfl⟩ | ⟨F, c, cur, rfl, hbF, hF, hnc, hcm, hcs, htake⟩
  · clear hown hcap
    go_enter Tryd.func36, Tryd.ntmps36
    go_wp2_with (at_builtin; refine wpList_append_run rfl _ _ _ _ rfl _ _ _ _ rfl rfl hr ?_)
    go_ret
    exact HF.out
  · clear hown hcap hF hcs htake
    unfold maxLen at hcm
    go_enter Tryd.func36, Tryd.ntmps36
    go_wp2_with (at_builtin; refine wpList_append_run rfl _ _ _ _ rfl _ _ _ _ rfl rfl hr ?_)
    all_goals (go_ret; exact HF.out)

theorem shift_list (cur xs news : List Value) (a k : Nat) (htake : cur.take k = xs) (hk : xs.length = k) (hn : news.length = 3) (hak : a ≤ k) (hfit : k + 3 ≤ cur.length) :
    ((((cur.take (a + 3) ++ xs.drop a ++ cur.drop (a + 3 + (xs.drop a).length)).take a ++ news ++ (cur.take (a + 3) ++ xs.drop a ++ cur.drop (a + 3 + (xs.drop a).length)).drop (a + news.length)).take (k + 3)) = xs.take a ++ (news ++ xs.drop a)) := by
  have h1 : (cur.take (a + 3) ++ xs.drop a ++ cur.drop (a + 3 + (xs.drop a).length)).take a = xs.take a := by
    rw [List.append_assoc, List.take_append_of_le_length (by rw [List.length_take]; omega), List.take_take, ← htake, List.take_take]
    congr 1; omega
  have h2 : (cur.take (a + 3) ++ xs.drop a ++ cur.drop (a + 3 + (xs.drop a).length)).drop (a + news.length) = xs.drop a ++ cur.drop (a + 3 + (xs.drop a).length) := by
    rw [hn, List.append_assoc, List.drop_append_of_le_length (by rw [List.length_take]; omega), List.drop_take]
    simp
  rw [h1, h2]
  have h3 : xs.take a ++ news ++ (xs.drop a ++ cur.drop (a + 3 + (xs.drop a).length)) = (xs.take a ++ (news ++ xs.drop a)) ++ cur.drop (a + 3 + (xs.drop a).length) := by simp [List.append_assoc]
  rw [h3, List.take_append_of_le_length (by simp; omega), List.take_of_length_le (by simp; omega)]

set_option maxHeartbeats 4000000 in
set_option maxRecDepth 100000 in
theorem insert_shift (B : Nat) (F c n i : Nat) (xs : List Value) (x0 x1 x2 : Value) (g : Nat) (w : World) (hown : OwnF B (.slice (some ⟨F, 0, none⟩) n c) n xs w) (hn : n ≤ 1023) (hi : i < n) (hroom : n + 1 ≤ c) (hgF : g ≠ F)
    (hg : w.heap[g]? = some (.cells #[x0, x1, x2] 57 (0, 0))) (h1 : ∀ u ∈ [x0, x1, x2], u.oneCell' = true) (h1x : ∀ u ∈ xs, u.oneCell' = true) :
    Calls Tryd.prog 36 #[.slice (some ⟨F, 0, none⟩) n c, .int .i64 (i : Int), .slice (some ⟨g, 0, none⟩) 1 1] w (InsPost B (.slice (some ⟨F, 0, none⟩) n c) n (xs.take (i * 3) ++ ([x0, x1, x2] ++ xs.drop (i * 3))) w) := by
  obtain ⟨i0, hii, hz0, hz1, hz2⟩ := info_parts fileInfo
  rcases hown.2 with ⟨h, _⟩ | ⟨F', c', cur, h, hbF, hF, hnc, hcm, hcs, htake⟩
  · simp at h
  simp only [Value.slice.injEq, Option.some.injEq, Addr.mk.injEq, and_true, true_and] at h
  obtain ⟨rfl, rfl⟩ := h
  have hxl := hown.1
  unfold maxLen at hcm
  have hsizeOf : ∀ w, (Go.sizeOf 57).run Tryd.prog w = .ok 3 w := fun w => by simp [Go.sizeOf, typeInfo, hii, hz1]
  have hov : ∀ lb cb, (callFunc 53 #[.slice (some ⟨g, 0, none⟩) 1 1, .slice (some ⟨F, (i + 1) * 3, none⟩) lb cb]).run Tryd.prog w = .ok (.value (.bool false)) w := fun lb cb => by
    rw [run_callFunc_extern Tryd.func53 (by kernel_rfl) (by kernel_rfl) (by kernel_rfl) (e := Extern.SlicesOverlaps.overlaps #[51, 51] #[4]) (by kernel_rfl),
      Lib.run_overlaps_apart w 51 4 57 Tryd.underlying51 3 hsizeOf ⟨g, 0, none⟩ ⟨F, (i + 1) * 3, none⟩ 1 1 lb cb hgF 57 57 3 (c * 3) (by simp [World.shape?, hg]) (by simp [World.shape?, hF, hcs]) (by omega) (Joins.unfrozen_of_block hg 0) (Joins.unfrozen_of_block hg 3)]
    rfl
  have hdl : (xs.drop (i * 3)).length = (n - i) * 3 := by rw [List.length_drop, hxl]; omega
  have hcsl : cur.toList.length = c * 3 := by simpa using hcs
  have hcell : ∀ j v, xs[j]? = some v → w.cell? ⟨F, j, none⟩ = some v := fun j v hj => by
    have hjl : j < n * 3 := by have := (List.getElem?_eq_some_iff.1 hj).1; omega
    rw [hown.cellAt j hjl]; exact hj
  have hcp1 : ∀ ty dc sc, (Builtin.copy_ #[51, 51] ty #[.slice (some ⟨F, (i + 1) * 3, none⟩) (n + 1 - (i + 1)) dc, .slice (some ⟨F, i * 3, none⟩) (n + 1 - i) sc]).run Tryd.prog w.drew =
      .ok (goInt (Nat.min (n + 1 - i) (n + 1 - (i + 1)) : Nat)) (w.drew.setRow F (cur.toList.take ((i + 1) * 3) ++ xs.drop (i * 3) ++ cur.toList.drop ((i + 1) * 3 + (xs.drop (i * 3)).length)).toArray) := fun ty dc sc =>
    run_copy_cells w.drew _ _ ty 57 i0 F ((i + 1) * 3) (n + 1 - (i + 1)) dc ⟨F, i * 3, none⟩ (n + 1 - i) sc cur 57 (xs.drop (i * 3)) Tryd.underlying51 hii hF
      (by rw [hz1, hdl, show Nat.min (n + 1 - i) (n + 1 - (i + 1)) = n - i by simp only [Nat.min_def]; split <;> omega])
      (fun j v hj => by rw [Addr.add_lit]; exact hcell _ v (by rwa [List.getElem?_drop] at hj)) (by rw [hdl, hcs]; omega) (fun v hv => h1x v (List.mem_of_mem_drop hv))
  obtain ⟨W1, hW1⟩ : ∃ W1, W1 = w.drew.setRow F (cur.toList.take ((i + 1) * 3) ++ xs.drop (i * 3) ++ cur.toList.drop ((i + 1) * 3 + (xs.drop (i * 3)).length)).toArray := ⟨_, rfl⟩
  have hF1 : W1.heap[F]? = some (.cells (cur.toList.take ((i + 1) * 3) ++ xs.drop (i * 3) ++ cur.toList.drop ((i + 1) * 3 + (xs.drop (i * 3)).length)).toArray 57 (0, 0)) := by
    rw [hW1]; exact setRow_heap w.drew F cur _ _ _ hF
  have hg1 : W1.heap[g]? = some (.cells #[x0, x1, x2] 57 (0, 0)) := by
    rw [hW1, setRow_other _ _ _ _ hgF]; exact hg
  have hcur1 : (cur.toList.take ((i + 1) * 3) ++ xs.drop (i * 3) ++ cur.toList.drop ((i + 1) * 3 + (xs.drop (i * 3)).length)).length = c * 3 := by
    simp only [List.length_append, List.length_take, List.length_drop, hcsl, hxl]; omega
  have hcp2 := fun ty dc => run_copy_cells (P := Tryd.prog) W1 51 51 ty 57 i0 F (i * 3) (n + 1 - i) dc ⟨g, 0, none⟩ 1 1 _ 57 [x0, x1, x2] Tryd.underlying51 hii hF1
      (by rw [hz1, show Nat.min 1 (n + 1 - i) = 1 by simp only [Nat.min_def]; split <;> omega]; rfl)
      (World.news_of_block hg1) (by simp only [List.size_toArray, hcur1, List.length_cons, List.length_nil]; omega) h1
  have hlist := shift_list cur.toList xs [x0, x1, x2] (i * 3) (n * 3) htake hxl rfl (by omega) (by omega)
  rw [show i * 3 + 3 = (i + 1) * 3 by omega] at hlist
  have hsize2 : ((cur.toList.take ((i + 1) * 3) ++ xs.drop (i * 3) ++ cur.toList.drop ((i + 1) * 3 + (xs.drop (i * 3)).length)).take (i * 3) ++ [x0, x1, x2] ++ (cur.toList.take ((i + 1) * 3) ++ xs.drop (i * 3) ++ cur.toList.drop ((i + 1) * 3 + (xs.drop (i * 3)).length)).drop (i * 3 + [x0, x1, x2].length)).length = c * 3 := by
    simp only [List.length_append, List.length_take, List.length_drop, List.length_cons, List.length_nil, hcsl, hxl]; omega
  simp only [List.toList_toArray] at hcp2
  obtain ⟨W2, hW2⟩ : ∃ W2, W2 = W1.setRow F ((cur.toList.take ((i + 1) * 3) ++ xs.drop (i * 3) ++ cur.toList.drop ((i + 1) * 3 + (xs.drop (i * 3)).length)).take (i * 3) ++ [x0, x1, x2] ++ (cur.toList.take ((i + 1) * 3) ++ xs.drop (i * 3) ++ cur.toList.drop ((i + 1) * 3 + (xs.drop (i * 3)).length)).drop (i * 3 + [x0, x1, x2].length)).toArray := ⟨_, rfl⟩
  rw [← hW2] at hcp2
  rw [← hW1] at hcp1
  obtain ⟨ys, hys⟩ : ∃ ys, xs.take (i * 3) ++ ([x0, x1, x2] ++ xs.drop (i * 3)) = ys := ⟨_, rfl⟩
  have HF : Hid (InsPost B (.slice (some ⟨F, 0, none⟩) n c) n ys w (.returned (.slice (some ⟨F, 0, none⟩) (n + 1) c)) W2) := by
    refine ⟨_, rfl, ⟨by rw [← hys]; simp [hxl]; omega, .inr ⟨F, c, _, rfl, hbF, by rw [hW2]; exact setRow_heap W1 F _ _ _ _ hF1, hroom, by unfold maxLen; omega, by simpa using hsize2, ?_⟩⟩, ?_, .inl rfl⟩
    · rw [List.toList_toArray, ← hys, show (n + 1) * 3 = n * 3 + 3 by omega]; exact hlist
    · refine ⟨by rw [hW2, hW1]; rfl, by rw [hW2, hW1]; rfl, by rw [hW2, hW1]; rfl, by rw [hW2, hW1]; simp, fun k hk hne => ?_⟩
      have hkF : k ≠ F := fun e => hne (by simp [Value.ownBlock, e])
      rw [hW2, setRow_other _ _ _ _ hkF, hW1, setRow_other _ _ _ _ hkF]
      rfl
  rw [hys]
  clear hys hlist hsize2 hcur1 hcell hcsl hdl hsizeOf htake hcs hF hxl hg1 hF1 hown hg h1 h1x
  have HW1 := Lib.hid hW1; clear hW1
  have HW2 := Lib.hid hW2; clear hW2
  have hw1 : IntKind.i64.wrap ((i : Int) + 1) = (i : Int) + 1 := by rw [IntKind.wrap_i64]; omega
  have hb1 : (0 : Int) ≤ (i : Int) + 1 := by omega
  have htn : ((i : Int) + 1).toNat = i + 1 := by omega
  have hb2 : ¬ (c = i + 1) := by omega
  have hb3 : (i : Int) + 1 ≤ (n : Int) + 1 := by omega
  have hb4 : ¬ (c = i) := by omega
  have hb5 : i ≤ n := by omega
  have hb6 : (i : Int) ≤ (n : Int) + 1 := by omega
  go_enter Tryd.func36, Tryd.ntmps36
  go_wp2_with (simp only [hov])
  go_region_law (refine step_copy_run rfl (.tmp 73) (.tmp 76) 51 51 rfl (.slice (some ⟨F, (i + 1) * 3, none⟩) (n + 1 - (i + 1)) (c - (i + 1))) (.slice (some ⟨F, i * 3, none⟩) (n + 1 - i) (c - i)) _ W1 (by simp [Act.eval, Act.put]) (by simp [Act.eval, Act.put]) (hcp1 _ _ _) ?_)
  go_wp2_with (with_reducible refine wpList_copy_run rfl (.tmp 80) (.tmp 81) 51 51 rfl (.slice (some ⟨F, i * 3, none⟩) (n + 1 - i) (c - i)) (.slice (some ⟨g, 0, none⟩) 1 1) _ W2 rfl rfl (hcp2 _ _) ?_)
  go_ret
  exact HF.out

theorem grow_list (cur xs news : List Value) (a k : Nat) (htake : cur.take a = xs.take a) (hk : xs.length = k) (hn : news.length = 3) (hak : a ≤ k) (hfit : k + 3 ≤ cur.length) :
    (((cur.take a ++ news ++ cur.drop (a + news.length)).take (a + 3) ++ xs.drop a ++ (cur.take a ++ news ++ cur.drop (a + news.length)).drop (a + 3 + (xs.drop a).length)).take (k + 3)) = xs.take a ++ (news ++ xs.drop a) := by
  have h1 : (cur.take a ++ news ++ cur.drop (a + news.length)).take (a + 3) = xs.take a ++ news := by
    rw [List.take_append_of_le_length (by simp; omega), List.take_of_length_le (by simp; omega), htake]
  rw [h1, List.take_append_of_le_length (by simp; omega), List.take_of_length_le (by simp; omega)]
  simp [List.append_assoc]

theorem run_zeros (w : World) (F c n i : Nat) (xs : List Value) (B : Nat) (hown : OwnF B (.slice (some ⟨F, 0, none⟩) n c) n xs w) (hn : n ≤ 1023) (hi : i < n) (hroom : c < n + 1) :
    ∃ cap W1 cur, (∀ ty, (Builtin.append_ #[51, 3] ty #[.slice (some ⟨F, 0, none⟩) i c, .int .i64 ((n : Int) + 1 - (i : Int))]).run Tryd.prog w = .ok (.slice (some ⟨w.heap.size, 0, none⟩) (n + 1) cap) W1) ∧
      W1.heap[w.heap.size]? = some (.cells cur 57 (0, 0)) ∧ cur.size = cap * 3 ∧ n + 1 ≤ cap ∧ cap ≤ maxLen ∧ cur.toList.take (i * 3) = xs.take (i * 3) ∧ w.grownBy W1 none := by
  obtain ⟨i0, hii, hz0, hz1, hz2⟩ := info_parts fileInfo
  have hxl := hown.1
  have hcell : ∀ j u, (xs.take (i * 3))[j]? = some u → w.drew.cell? ((⟨F, 0, none⟩ : Addr).add j) = some u := fun j u hj => by
    have hj2 := hj
    rw [List.getElem?_take] at hj2
    split at hj2
    · exact hown.cells (g := F) rfl j u hj2
    · cases hj2
  have hold := run_firstCells_some (P := Tryd.prog) w.drew i0.size i ⟨F, 0, none⟩ i c (xs.take (i * 3)) (by rw [hz1, List.length_take]; omega) hcell
  have hnil : c = n := by
    rcases hown.2 with ⟨h, _⟩ | ⟨F', c', cur, h, hbF, hF, hnc, _⟩
    · simp at h
    · simp at h; omega
  have hr := fun ty => Lib.run_append_grow_zeros (P := Tryd.prog) w 51 3 ty 57 i0 _ .i64 .i64 Tryd.underlying51 Tryd.underlying3 hii hz0 (some ⟨F, 0, none⟩) i c (xs.take (i * 3)) hold (n + 1 - i) (by omega) (by omega) (by omega) (by omega) (by rw [hz2]; omega)
    (growslice_fits (by omega) (by rw [hz2]; omega))
  have e1 : ((n + 1 - i : Nat) : Int) = (n : Int) + 1 - (i : Int) := by omega
  have e2 : i + (n + 1 - i) = n + 1 := by omega
  rw [e1, e2] at hr
  have hge := grownCap_ge w (n + 1) c 57
  have hcm : grownCap w (n + 1) c 57 ≤ maxLen := grownCap_le_maxLen w (n + 1) c 57 (by unfold maxLen; omega)
  refine ⟨_, _, _, hr, heap_alloc_new w.drew _, ?_, hge, hcm, ?_, ⟨rfl, rfl, rfl, by simp, fun k hk _ => Below.heap_alloc w.drew _ k hk⟩⟩
  · simp only [Array.size_append, List.size_toArray, size_zeroCells, List.length_take, hxl]
    have : (Value.agg #[Value.string ByteArray.empty, Value.slice none 0 0, Value.int .i64 0]).cells.size = 3 := rfl
    rw [this]
    omega
  · simp only [Array.toList_append, List.append_assoc]
    rw [List.take_append_of_le_length (by rw [List.length_take]; omega), List.take_of_length_le (by rw [List.length_take]; omega)]

set_option maxHeartbeats 4000000 in
set_option maxRecDepth 100000 in
theorem insert_grow (B : Nat) (F c n i : Nat) (xs : List Value) (x0 x1 x2 : Value) (g : Nat) (w : World) (hown : OwnF B (.slice (some ⟨F, 0, none⟩) n c) n xs w) (hn : n ≤ 1023) (hi : i < n) (hroom : c < n + 1) (hB : B ≤ w.heap.size)
    (hg : w.heap[g]? = some (.cells #[x0, x1, x2] 57 (0, 0))) (h1 : ∀ u ∈ [x0, x1, x2], u.oneCell' = true) (h1x : ∀ u ∈ xs, u.oneCell' = true) :
    Calls Tryd.prog 36 #[.slice (some ⟨F, 0, none⟩) n c, .int .i64 (i : Int), .slice (some ⟨g, 0, none⟩) 1 1] w (InsPost B (.slice (some ⟨F, 0, none⟩) n c) n (xs.take (i * 3) ++ ([x0, x1, x2] ++ xs.drop (i * 3))) w) := by
  obtain ⟨i0, hii, hz0, hz1, hz2⟩ := info_parts fileInfo
  obtain ⟨cap, W1, cur, hap, hG, hcs, hcap, hcm, htake, hgr1⟩ := run_zeros w F c n i xs B hown hn hi hroom
  have hxl := hown.1
  have hc0 : n ≤ c := by
    rcases hown.2 with ⟨h, _⟩ | ⟨F', c', cur, h, hbF, hF, hnc, _⟩
    · simp at h
    · simp at h; omega
  have hFb : ∃ curF, w.heap[F]? = some (.cells curF 57 (0, 0)) := by
    rcases hown.2 with ⟨h, _⟩ | ⟨F', c', cur, h, hbF, hF, hnc, _⟩
    · simp at h
    · simp at h; exact ⟨cur, by rw [h.1]; exact hF⟩
  obtain ⟨curF, hF⟩ := hFb
  have hFlt : F < w.heap.size := (Array.getElem?_eq_some_iff.1 hF).1
  have hglt : g < w.heap.size := (Array.getElem?_eq_some_iff.1 hg).1
  have hdl : (xs.drop (i * 3)).length = (n - i) * 3 := by rw [List.length_drop, hxl]; omega
  have hcsl : cur.toList.length = cap * 3 := by simpa using hcs
  have hcell : ∀ j v, xs[j]? = some v → w.cell? ⟨F, j, none⟩ = some v := fun j v hj => by
    have hjl : j < n * 3 := by have := (List.getElem?_eq_some_iff.1 hj).1; omega
    rw [hown.cellAt j hjl]; exact hj
  have hg1 : W1.heap[g]? = some (.cells #[x0, x1, x2] 57 (0, 0)) := by rw [hgr1.block g hglt (by simp)]; exact hg
  have hcp1 := fun ty dc => run_copy_cells (P := Tryd.prog) W1 51 51 ty 57 i0 w.heap.size (i * 3) (n + 1 - i) dc ⟨g, 0, none⟩ 1 1 cur 57 [x0, x1, x2] Tryd.underlying51 hii hG
      (by rw [hz1, show Nat.min 1 (n + 1 - i) = 1 by simp only [Nat.min_def]; split <;> omega]; rfl)
      (World.news_of_block hg1) (by simp only [hcs, List.length_cons, List.length_nil]; omega) h1
  obtain ⟨W2, hW2⟩ : ∃ W2, W2 = W1.setRow w.heap.size (cur.toList.take (i * 3) ++ [x0, x1, x2] ++ cur.toList.drop (i * 3 + [x0, x1, x2].length)).toArray := ⟨_, rfl⟩
  rw [← hW2] at hcp1
  have hG2 : W2.heap[w.heap.size]? = some (.cells (cur.toList.take (i * 3) ++ [x0, x1, x2] ++ cur.toList.drop (i * 3 + [x0, x1, x2].length)).toArray 57 (0, 0)) := by
    rw [hW2]; exact setRow_heap W1 _ cur _ _ _ hG
  have hsz2 : (cur.toList.take (i * 3) ++ [x0, x1, x2] ++ cur.toList.drop (i * 3 + [x0, x1, x2].length)).length = cap * 3 := by
    simp only [List.length_append, List.length_take, List.length_drop, List.length_cons, List.length_nil, hcsl]; omega
  have hF2 : ∀ j v, xs[j]? = some v → W2.drew.cell? ⟨F, j, none⟩ = some v := fun j v hj => by
    have hb2 : W2.heap[F]? = w.heap[F]? := by rw [hW2, setRow_other _ _ _ _ (by omega), hgr1.block F hFlt (by simp)]
    rw [World.cell?_drew, World.cell?_of_block (w := w) (a := ⟨F, j, none⟩) hb2]; exact hcell j v hj
  have hcp2 : ∀ ty dc sc, (Builtin.copy_ #[51, 51] ty #[.slice (some ⟨w.heap.size, (i + 1) * 3, none⟩) (n + 1 - (i + 1)) dc, .slice (some ⟨F, i * 3, none⟩) (n - i) sc]).run Tryd.prog W2.drew =
      .ok (goInt (Nat.min (n - i) (n + 1 - (i + 1)) : Nat)) (W2.drew.setRow w.heap.size ((cur.toList.take (i * 3) ++ [x0, x1, x2] ++ cur.toList.drop (i * 3 + [x0, x1, x2].length)).take ((i + 1) * 3) ++ xs.drop (i * 3) ++ (cur.toList.take (i * 3) ++ [x0, x1, x2] ++ cur.toList.drop (i * 3 + [x0, x1, x2].length)).drop ((i + 1) * 3 + (xs.drop (i * 3)).length)).toArray) := fun ty dc sc => by
    have h := run_copy_cells (P := Tryd.prog) W2.drew 51 51 ty 57 i0 w.heap.size ((i + 1) * 3) (n + 1 - (i + 1)) dc ⟨F, i * 3, none⟩ (n - i) sc _ 57 (xs.drop (i * 3)) Tryd.underlying51 hii hG2
      (by rw [hz1, hdl, show Nat.min (n - i) (n + 1 - (i + 1)) = n - i by simp only [Nat.min_def]; split <;> omega])
      (fun j v hj => by rw [Addr.add_lit]; exact hF2 _ v (by rwa [List.getElem?_drop] at hj)) (by simp only [List.size_toArray, hsz2, hdl]; omega) (fun v hv => h1x v (List.mem_of_mem_drop hv))
    exact h
  obtain ⟨W3, hW3⟩ : ∃ W3, W3 = W2.drew.setRow w.heap.size ((cur.toList.take (i * 3) ++ [x0, x1, x2] ++ cur.toList.drop (i * 3 + [x0, x1, x2].length)).take ((i + 1) * 3) ++ xs.drop (i * 3) ++ (cur.toList.take (i * 3) ++ [x0, x1, x2] ++ cur.toList.drop (i * 3 + [x0, x1, x2].length)).drop ((i + 1) * 3 + (xs.drop (i * 3)).length)).toArray := ⟨_, rfl⟩
  rw [← hW3] at hcp2
  have hlist := grow_list cur.toList xs [x0, x1, x2] (i * 3) (n * 3) htake hxl rfl (by omega) (by omega)
  rw [show i * 3 + 3 = (i + 1) * 3 by omega] at hlist
  have hsz3 : ((cur.toList.take (i * 3) ++ [x0, x1, x2] ++ cur.toList.drop (i * 3 + [x0, x1, x2].length)).take ((i + 1) * 3) ++ xs.drop (i * 3) ++ (cur.toList.take (i * 3) ++ [x0, x1, x2] ++ cur.toList.drop (i * 3 + [x0, x1, x2].length)).drop ((i + 1) * 3 + (xs.drop (i * 3)).length)).length = cap * 3 := by
    rw [List.length_append, List.length_append, hdl, List.length_take, List.length_drop, hsz2]; omega
  obtain ⟨ys, hys⟩ : ∃ ys, xs.take (i * 3) ++ ([x0, x1, x2] ++ xs.drop (i * 3)) = ys := ⟨_, rfl⟩
  have HF : Hid (InsPost B (.slice (some ⟨F, 0, none⟩) n c) n ys w (.returned (.slice (some ⟨w.heap.size, 0, none⟩) (n + 1) cap)) W3) := by
    refine ⟨_, rfl, ⟨by rw [← hys]; simp [hxl]; omega, .inr ⟨w.heap.size, cap, _, rfl, hB, by rw [hW3]; exact setRow_heap W2.drew _ _ _ _ _ hG2, hcap, hcm, by simpa using hsz3, ?_⟩⟩, ?_, .inr ⟨_, rfl, Nat.le_refl _⟩⟩
    · rw [List.toList_toArray, ← hys, show (n + 1) * 3 = n * 3 + 3 by omega]; exact hlist
    · refine ⟨by rw [hW3, hW2]; exact hgr1.os, by rw [hW3, hW2]; exact hgr1.tape, by rw [hW3, hW2]; exact hgr1.output, by rw [hW3, hW2]; simpa using hgr1.size, fun k hk hne => ?_⟩
      rw [hW3, setRow_other _ _ _ _ (by omega), show W2.drew.heap[k]? = W2.heap[k]? from rfl, hW2, setRow_other _ _ _ _ (by omega)]
      exact hgr1.block k hk (by simp)
  rw [hys]
  unfold maxLen at hcm
  have hc1024 : c ≤ 1023 := by omega
  clear hys hlist hsz3 hsz2 hcell hcsl hdl htake hcs hF hxl hg1 hG hG2 hF2 hown hg h1 h1x hgr1
  have HW2 := Lib.hid hW2; clear hW2
  have HW3 := Lib.hid hW3; clear hW3
  have hw1 : IntKind.i64.wrap ((i : Int) + 1) = (i : Int) + 1 := by rw [IntKind.wrap_i64]; omega
  have hb1 : (0 : Int) ≤ (i : Int) + 1 := by omega
  have htn : ((i : Int) + 1).toNat = i + 1 := by omega
  have hb2 : ¬ (cap = i + 1) := by omega
  have hb3 : (i : Int) + 1 ≤ (n : Int) + 1 := by omega
  have hb4 : ¬ (c = i) := by omega
  have hb5 : i ≤ n := by omega
  have hb6 : (i : Int) ≤ (n : Int) + 1 := by omega
  have hb7 : ¬ (cap = i) := by omega
  go_enter Tryd.func36, Tryd.ntmps36
  go_wp2_with (at_builtin; refine wpList_append_run rfl (.tmp 34) (.tmp 39) 51 3 rfl (.slice (some ⟨F, 0, none⟩) i c) (.int .i64 ((n : Int) + 1 - (i : Int))) _ W1 rfl rfl (hap _) ?_)
  go_wp2_with (with_reducible refine wpList_copy_run rfl (.tmp 43) (.tmp 44) 51 51 rfl (.slice (some ⟨w.heap.size, i * 3, none⟩) (n + 1 - i) (cap - i)) (.slice (some ⟨g, 0, none⟩) 1 1) _ W2 rfl rfl (hcp1 _ _) ?_)
  go_region_law (refine step_copy_run rfl (.tmp 50) (.tmp 53) 51 51 rfl (.slice (some ⟨w.heap.size, (i + 1) * 3, none⟩) (n + 1 - (i + 1)) (cap - (i + 1))) (.slice (some ⟨F, i * 3, none⟩) (n - i) (c - i)) _ W3 (by simp [Act.eval, Act.put]) (by simp [Act.eval, Act.put]) (hcp2 _ _ _) ?_)
  go_wp2_with fail
  go_ret
  exact HF.out

theorem insert_any (B : Nat) (v : Value) (n i : Nat) (xs : List Value) (x0 x1 x2 : Value) (g : Nat) (w : World) (hown : OwnF B v n xs w) (hn : n ≤ 1023) (hi : i ≤ n) (hB : B ≤ w.heap.size) (hne : v.ownBlock ≠ some g)
    (hg : w.heap[g]? = some (.cells #[x0, x1, x2] 57 (0, 0))) (h1 : ∀ u ∈ [x0, x1, x2], u.oneCell' = true) (h1x : ∀ u ∈ xs, u.oneCell' = true) :
    Calls Tryd.prog 36 #[v, .int .i64 (i : Int), .slice (some ⟨g, 0, none⟩) 1 1] w (InsPost B v n (xs.take (i * 3) ++ ([x0, x1, x2] ++ xs.drop (i * 3))) w) := by
  by_cases hin : i = n
  · subst hin
    have hxl := hown.1
    rw [List.take_of_length_le (by omega), List.drop_eq_nil_of_le (by omega), List.append_nil]
    exact insert_end B v i xs x0 x1 x2 g w hown hn hB hg h1
  · rcases Joins.ownsRow_forms hown with ⟨_, h0⟩ | ⟨F, c, rfl⟩
    · omega
    · by_cases hroom : n + 1 ≤ c
      · exact insert_shift B F c n i xs x0 x1 x2 g w hown hn (by omega) hroom (fun e => hne (by simp [Value.ownBlock, e])) hg h1 h1x
      · exact insert_grow B F c n i xs x0 x1 x2 g w hown hn (by omega) (by omega) hB hg h1 h1x

theorem zero3 : (Builtin.zeroCells (Value.agg #[Value.string ByteArray.empty, Value.slice none 0 0, Value.int .i64 0]).cells 1).toList = [Value.string ByteArray.empty, Value.slice none 0 0, Value.int .i64 0] := by kernel_rfl

theorem delete_list (cur X Z : List Value) (a k : Nat) (hZ : Z.length = 3) (hX : X.length = k - a) (hak : a ≤ k) (hfit : k + 3 ≤ cur.length) :
    ((cur.take a ++ X ++ cur.drop (a + X.length)).take k ++ Z ++ (cur.take a ++ X ++ cur.drop (a + X.length)).drop (k + Z.length)).take k = cur.take a ++ X := by
  rw [List.append_assoc, List.take_append_of_le_length (by simp; omega), List.take_take, Nat.min_self, List.take_append_of_le_length (by simp; omega), List.take_of_length_le (by simp; omega)]

/-- what Delete answers: a row of one less, in the same block -/
def DelPost (B : Nat) (F c k : Nat) (xs : List Value) (w : World) (e : Ending) (w' : World) : Prop :=
  e = .returned (.slice (some ⟨F, 0, none⟩) k c) ∧ OwnF B (.slice (some ⟨F, 0, none⟩) k c) k xs w' ∧ w.grownBy w' (some F)

set_option maxHeartbeats 4000000 in
set_option maxRecDepth 100000 in
theorem delete_any (B : Nat) (F c k i : Nat) (xs : List Value) (w : World) (hown : OwnF B (.slice (some ⟨F, 0, none⟩) (k + 1) c) (k + 1) xs w) (hn : k ≤ 1023) (hi : i ≤ k) (h1x : ∀ u ∈ xs, u.oneCell' = true) :
    Calls Tryd.prog 40 #[.slice (some ⟨F, 0, none⟩) (k + 1) c, .int .i64 (i : Int), .int .i64 ((i : Int) + 1)] w (DelPost B F c k (xs.take (i * 3) ++ xs.drop ((i + 1) * 3)) w) := by
  obtain ⟨i0, hii, hz0, hz1, hz2⟩ := info_parts fileInfo
  rcases hown.2 with ⟨h, _⟩ | ⟨F', c', cur, h, hbF, hF, hnc, hcm, hcs, htake⟩
  · simp at h
  simp only [Value.slice.injEq, Option.some.injEq, Addr.mk.injEq, and_true, true_and] at h
  obtain ⟨rfl, rfl⟩ := h
  have hxl := hown.1
  have hcsl : cur.toList.length = c * 3 := by simpa using hcs
  have hdl : (xs.drop ((i + 1) * 3)).length = (k - i) * 3 := by rw [List.length_drop, hxl]; omega
  have hsrc : ∀ ad sc, (k - i = 0 ∨ ad = (⟨F, (i + 1) * 3, none⟩ : Addr)) → Src Tryd.prog i0.size 51 (.slice (some ad) (k - i) sc) (k - i) (xs.drop ((i + 1) * 3)) w.drew := fun ad sc hor => by
    refine Src.ofSlice w.drew Tryd.underlying51 ad (k - i) sc _ (by rw [hz1]; exact hdl) (fun j u hj => ?_) (fun u hu => h1x u (List.mem_of_mem_drop hu))
    have hjl := (List.getElem?_eq_some_iff.1 hj).1
    rcases hor with h0 | rfl
    · omega
    · rw [Addr.add_lit, World.cell?_drew, hown.cellAt _ (by omega)]
      rwa [List.getElem?_drop] at hj
  have hap : ∀ ty ad sc, (k - i = 0 ∨ ad = (⟨F, (i + 1) * 3, none⟩ : Addr)) → (Builtin.append_ #[51, 51] ty #[.slice (some ⟨F, 0, none⟩) i c, .slice (some ad) (k - i) sc]).run Tryd.prog w.drew =
      .ok (.slice (some ⟨F, 0, none⟩) k c) (w.drew.setRow F (cur.toList.take (i * 3) ++ xs.drop ((i + 1) * 3) ++ cur.toList.drop (i * 3 + (xs.drop ((i + 1) * 3)).length)).toArray) := fun ty ad sc hor => by
    have h := run_append_room_row (P := Tryd.prog) w.drew 51 51 ty 57 i0 Tryd.underlying51 hii F i c cur hF _ (k - i) _ (hsrc ad sc hor) (by omega) (by rw [hz1, hdl, hcs]; omega)
    rw [hz1, show i + (k - i) = k by omega] at h
    exact h
  obtain ⟨W1, hW1⟩ : ∃ W1, W1 = w.drew.setRow F (cur.toList.take (i * 3) ++ xs.drop ((i + 1) * 3) ++ cur.toList.drop (i * 3 + (xs.drop ((i + 1) * 3)).length)).toArray := ⟨_, rfl⟩
  rw [← hW1] at hap
  have hF1 : W1.heap[F]? = some (.cells (cur.toList.take (i * 3) ++ xs.drop ((i + 1) * 3) ++ cur.toList.drop (i * 3 + (xs.drop ((i + 1) * 3)).length)).toArray 57 (0, 0)) := by
    rw [hW1]; exact setRow_heap w.drew F cur _ _ _ hF
  have hsz1 : (cur.toList.take (i * 3) ++ xs.drop ((i + 1) * 3) ++ cur.toList.drop (i * 3 + (xs.drop ((i + 1) * 3)).length)).length = c * 3 := by
    rw [List.length_append, List.length_append, hdl, List.length_take, List.length_drop, hcsl]; omega
  have hcl := fun ty cc => run_clear_cells (P := Tryd.prog) W1 51 ty 57 _ i0 F (k * 3) 1 cc _ 57 Tryd.underlying51 hii hz0 hF1
    (by rw [show (Value.agg #[Value.string ByteArray.empty, Value.slice none 0 0, Value.int .i64 0]).cells.size = 3 from rfl, List.size_toArray, hsz1]; omega) (by rw [zero3]; simp [Value.oneCell']) (by omega)
  rw [zero3] at hcl
  simp only [List.toList_toArray] at hcl
  obtain ⟨W2, hW2⟩ : ∃ W2, W2 = W1.setRow F ((cur.toList.take (i * 3) ++ xs.drop ((i + 1) * 3) ++ cur.toList.drop (i * 3 + (xs.drop ((i + 1) * 3)).length)).take (k * 3) ++ [Value.string ByteArray.empty, Value.slice none 0 0, Value.int .i64 0] ++ (cur.toList.take (i * 3) ++ xs.drop ((i + 1) * 3) ++ cur.toList.drop (i * 3 + (xs.drop ((i + 1) * 3)).length)).drop (k * 3 + [Value.string ByteArray.empty, Value.slice none 0 0, Value.int .i64 0].length)).toArray := ⟨_, rfl⟩
  rw [← hW2] at hcl
  have hlist := delete_list cur.toList (xs.drop ((i + 1) * 3)) [Value.string ByteArray.empty, Value.slice none 0 0, Value.int .i64 0] (i * 3) (k * 3) rfl (by rw [hdl]; omega) (by omega) (by omega)
  have htk : cur.toList.take (i * 3) = xs.take (i * 3) := by rw [← htake, List.take_take]; congr 1; omega
  obtain ⟨ys, hys⟩ : ∃ ys, xs.take (i * 3) ++ xs.drop ((i + 1) * 3) = ys := ⟨_, rfl⟩
  have HF : Hid (DelPost B F c k ys w (.returned (.slice (some ⟨F, 0, none⟩) k c)) W2) := by
    refine ⟨rfl, ⟨by rw [← hys, List.length_append, List.length_take, hdl, hxl]; omega, .inr ⟨F, c, _, rfl, hbF, by rw [hW2]; exact setRow_heap W1 F _ _ _ _ hF1, by omega, hcm, ?_, ?_⟩⟩, ?_⟩
    · rw [List.size_toArray, List.length_append, List.length_append, List.length_take, List.length_drop (i := k * 3 + _), hsz1]; simp; omega
    · rw [List.toList_toArray, ← hys, ← htk]; exact hlist
    · refine ⟨by rw [hW2, hW1]; rfl, by rw [hW2, hW1]; rfl, by rw [hW2, hW1]; rfl, by rw [hW2, hW1]; simp, fun j hj hne => ?_⟩
      have hkF : j ≠ F := fun e => hne (by rw [e])
      rw [hW2, setRow_other _ _ _ _ hkF, hW1, setRow_other _ _ _ _ hkF]
      rfl
  rw [hys]
  unfold maxLen at hcm
  clear hys hlist hsz1 hcsl hdl htake htk hcs hF hxl hF1 hown h1x hsrc
  have HW1 := Lib.hid hW1; clear hW1
  have HW2 := Lib.hid hW2; clear hW2
  have hw1 : IntKind.i64.wrap ((i : Int) + 1) = (i : Int) + 1 := by rw [IntKind.wrap_i64]; omega
  have hb1 : (0 : Int) ≤ (i : Int) + 1 := by omega
  have htn : ((i : Int) + 1).toNat = i + 1 := by omega
  have hb3 : (i : Int) + 1 ≤ (k : Int) + 1 := by omega
  have hb5 : i ≤ k := by omega
  have hb6 : ¬ ((i : Int) = (i : Int) + 1) := by omega
  have hb7 : i ≤ c := by omega
  have hb8 : (i : Int) ≤ (c : Int) := by omega
  have hb9 : (i : Int) ≤ (i : Int) + 1 := by omega
  by_cases hic : c = i + 1
  · obtain rfl : k = i := by omega
    subst hic
    have hap2 := fun ty ad sc => hap ty ad sc (.inl (Nat.sub_self k))
    simp only [Nat.sub_self] at hap2
    clear hap
    go_enter Tryd.func40, Tryd.ntmps40
    go_wp2_with fail
    go_region_law (refine step_append_run rfl (.tmp 22) (.tmp 25) 51 51 rfl (.slice (some ⟨F, 0, none⟩) k (k + 1)) (.slice (some ⟨F, 0, none⟩) 0 0) _ W1 (by simp [Act.eval, Act.put]) (by simp [Act.eval, Act.put]) (hap2 _ _ _) ?_)
    go_wp2_with (with_reducible refine wpList_clear_run rfl (.tmp 31) 51 rfl (.slice (some ⟨F, k * 3, none⟩) 1 1) _ W2 rfl (hcl _ _) ?_)
    go_ret
    exact HF.out
  · have hap2 := fun ty sc => hap ty ⟨F, (i + 1) * 3, none⟩ sc (.inr rfl)
    clear hap
    go_enter Tryd.func40, Tryd.ntmps40
    go_wp2_with fail
    go_region_law (refine step_append_run rfl (.tmp 22) (.tmp 25) 51 51 rfl (.slice (some ⟨F, 0, none⟩) i c) (.slice (some ⟨F, (i + 1) * 3, none⟩) (k - i) (c - (i + 1))) _ W1 (by simp [Act.eval, Act.put]) (by simp [Act.eval, Act.put]) (hap2 _ _) ?_)
    go_wp2_with (with_reducible refine wpList_clear_run rfl (.tmp 31) 51 rfl (.slice (some ⟨F, k * 3, none⟩) 1 (c - k)) _ W2 rfl (hcl _ _) ?_)
    go_ret
    exact HF.out
end Go.Proofs.YtopigchjdegpeaaDoor
