/-
  Manifest: the program's.
-/
import Derived.Test.YtiabbmdgddbgbaaDoorGChunkA
import Derived.Test.YtiabbmdgddbgbaaDoorGHexaB
import Derived.Deep.AppendLies
namespace Go.Proofs.YtiabbmdgddbgbaaDoor
open Go.RowKit Go.Shelf

attribute [local go_sem] Oper.semAt_some
attribute [-go_sem] Builtin.append_

/-- a manifest -/
structure Man where
  size : Int
  chunk : Int
  ids : List ByteArray

/-- its value: v are its IDs -/
abbrev mv (m : Man) (v : Value) : Value := .agg #[.int .i64 m.size, .int .i64 m.chunk, v]

/-- a manifest in memory -/
def MBox (W : World) (B : Nat) (m : Man) (v : Value) : Prop := W.heap[B]? = some (.cells #[.int .i64 m.size, .int .i64 m.chunk, v] 31 (0, 0))
theorem MBox.lt {W : World} {B : Nat} {m : Man} {v : Value} (h : MBox W B m v) : B < W.heap.size := (Array.getElem?_eq_some_iff.1 h).1
theorem MBox.c0 {W : World} {B : Nat} {m : Man} {v : Value} (h : MBox W B m v) : W.cell? ⟨B, 0, none⟩ = some (.int .i64 m.size) := by rw [Joins.cell_of_block h]; rfl
theorem MBox.c1 {W : World} {B : Nat} {m : Man} {v : Value} (h : MBox W B m v) : W.cell? ⟨B, 1, none⟩ = some (.int .i64 m.chunk) := by rw [Joins.cell_of_block h]; rfl
theorem MBox.c2 {W : World} {B : Nat} {m : Man} {v : Value} (h : MBox W B m v) : W.cell? ⟨B, 2, none⟩ = some v := by rw [Joins.cell_of_block h]; rfl
theorem MBox.free {W : World} {B : Nat} {m : Man} {v : Value} (h : MBox W B m v) (i : Nat) : W.frozen? ⟨B, i, none⟩ = false := Joins.unfrozen_of_block h i
theorem MBox.new (W : World) (m : Man) (v : Value) : MBox (W.alloc (.cells #[.int .i64 m.size, .int .i64 m.chunk, v] 31)) W.heap.size m v := World.alloc_heap_new W _
theorem MBox.kept {W W' : World} {row : Option Nat} {B : Nat} {m : Man} {v : Value} (h : MBox W B m v) (hg : W.grownBy W' row) (hne : some B ≠ row) : MBox W' B m v := (hg.block B h.lt hne).trans h
theorem MBox.below {W W' : World} {C B : Nat} {m : Man} {v : Value} (h : MBox W B m v) (hb : Below C W W') (hC : B < C) : MBox W' B m v := (hb.block B hC).trans h
theorem MBox.alloc {W : World} {B : Nat} {m : Man} {v : Value} (h : MBox W B m v) (o : Obj) : MBox (W.alloc o) B m v := h.kept (World.grownBy_alloc W o none) (by simp)
theorem MBox.set {W : World} {B : Nat} {m : Man} {v : Value} (h : MBox W B m v) (v' : Value) : MBox (W.setCell ⟨B, 2, none⟩ v') B m v' := by
  obtain ⟨hlt, hk⟩ := Array.getElem?_eq_some_iff.1 h
  show (W.heap.modify B _)[B]? = _
  rw [Array.getElem?_eq_getElem (by rw [Array.size_modify]; exact hlt), Array.getElem_modify_self, hk]
  rfl

theorem MBox.put {W : World} {B : Nat} {m : Man} {v : Value} (h : MBox W B m v) (m' : Man) (v' : Value) : MBox (((W.setCell ⟨B, 0, none⟩ (.int .i64 m'.size)).setCell ⟨B, 1, none⟩ (.int .i64 m'.chunk)).setCell ⟨B, 2, none⟩ v') B m' v' := by
  have h0 := Joins.block_setCell (i := 0) h (.int .i64 m'.size)
  have h1 := Joins.block_setCell (i := 1) h0 (.int .i64 m'.chunk)
  have h2 := Joins.block_setCell (i := 2) h1 v'
  unfold MBox
  simpa using h2

theorem manInfo : (Tryd.prog.info? 31).map (·.size) = some 3 := by kernel_rfl

theorem results_man {P : Program} {fn : Func} {p u : Tmp} {ty : TypeId} (h : fn.results = #[.cell p ty, .tmp u]) (tmps : Array Value) (w : World) (g : Nat) (t : TypeId) (x0 x1 x2 : Value) (fr : Nat × Nat) (d : TypeDesc)
    (hp : tmps.getD p undef = .pointer (some ⟨g, 0, none⟩)) (hg : w.heap[g]? = some (.cells #[x0, x1, x2] t fr))
    (hu : P.underlying ty = some d) (hd : (match d with | .struct _ | .array _ _ => true | _ => false) = true) (hi : (P.info? ty).map (·.size) = some 3) :
    (results fn tmps).run P w = .ok (.tuple #[.agg #[x0, x1, x2], tmps.getD u undef]) w := by
  have hp' : tmps[p]?.getD undef = .pointer (some ⟨g, 0, none⟩) := by simpa using hp
  rw [results_cell_tmp h]
  simp [hp', asAddr, run_loadVar_row w g t ty #[x0, x1, x2] fr d hg hu hd hi, Result.andThen]

/-- the manifest of some bytes, where there is no error -/
def manOf (s : ByteArray) (n : Int) : Man := if cutE s.size n = 0 then ⟨s.size, n, (parts s n.toNat).map idS⟩ else ⟨0, 0, []⟩

theorem man_own (n₀ B : Nat) (m : Man) (e : TypeId) (f : List Pc → List Value) : Own (fun (pre : List Pc) W => ∃ v, MBox W B m v ∧ W.ownsRow n₀ e 1 v pre.length (f pre)) := by
  rintro s X Y row ⟨v, hv, hr⟩ hg hrow
  refine ⟨v, hv.kept hg (fun e' => ?_), hr.kept hg ?_⟩
  · obtain ⟨o, ho, hc⟩ := hrow B e'.symm
    rw [show X.heap[B]? = _ from hv] at ho; cases ho; cases hc
  · rcases hr.2 with ⟨rfl, _⟩ | ⟨g, cap, cur, rfl, _, hgb, _⟩
    · exact .inl rfl
    · refine .inr fun e' => ?_
      obtain ⟨o, ho, hc⟩ := hrow g (by simpa [Value.ownBlock] using e'.symm)
      rw [hgb] at ho; cases ho; cases hc

theorem mbox_own {β : Type} (B : Nat) (m : Man) (v : Value) : Own (fun (_ : β) W => MBox W B m v) := by
  rintro s X Y row hv hg hrow
  refine hv.kept hg (fun e' => ?_)
  obtain ⟨o, ho, hc⟩ := hrow B e'.symm
  rw [show X.heap[B]? = _ from hv] at ho; cases ho; cases hc

theorem KeepsOthers.below {W W' : World} (h : Below W.heap.size W W') : KeepsOthers W W' := ⟨h.size, fun k _ hk _ => (h.block k (Array.getElem?_eq_some_iff.1 hk).1).trans hk⟩

theorem row_below {W W' : World} {base e size k : Nat} {v : Value} {xs : List Value} (h : W.ownsRow base e size v k xs) (hb : Below W.heap.size W W') : W'.ownsRow base e size v k xs := by
  refine ⟨h.1, ?_⟩
  rcases h.2 with h0 | ⟨g, cap, cur, hv, hg, hh, r⟩
  · exact .inl h0
  · exact .inr ⟨g, cap, cur, hv, hg, by rw [hb.block g (Array.getElem?_eq_some_iff.1 hh).1]; exact hh, r⟩

theorem row_form {W : World} {base e size k : Nat} {v : Value} {xs : List Value} (h : W.ownsRow base e size v k xs) : ∃ a c, v = .slice a k c := by
  rcases h.2 with ⟨rfl, rfl⟩ | ⟨g, cap, cur, rfl, _⟩
  · exact ⟨none, 0, rfl⟩
  · exact ⟨_, cap, rfl⟩

theorem row_mono {W : World} {base base' e size k : Nat} {v : Value} {xs : List Value} (h : W.ownsRow base e size v k xs) (hle : base' ≤ base) : W.ownsRow base' e size v k xs := by
  refine ⟨h.1, ?_⟩
  rcases h.2 with h0 | ⟨g, cap, cur, hv, hg, r⟩
  · exact .inl h0
  · exact .inr ⟨g, cap, cur, hv, Nat.le_trans hle hg, r⟩

theorem row_cells {W : World} {base e size k : Nat} {v : Value} {xs : List Value} (h : W.ownsRow base e size v k xs) {j : Nat} {o : Obj} (ej : v.ownBlock = some j) (hj : W.heap[j]? = some o) : o.isCells = true := by
  rcases h.2 with ⟨rfl, _⟩ | ⟨g, cap, cur, rfl, _, hgb, _⟩
  · simp [Value.ownBlock] at ej
  · obtain rfl : g = j := by simpa [Value.ownBlock] using ej
    rw [hgb] at hj; cases hj; rfl

set_option maxHeartbeats 4000000 in
set_option maxRecDepth 100000 in
theorem man_okC (s : ByteArray) (m : Nat) (h1 : 1 ≤ m) (h2 : m ≤ 4096) (ha : s.size ≤ 32768) (hn : nP s.size m ≤ 4096) (w : World) (hT : Tab w) :
    Calls Tryd.prog 11 #[.string s, .int .i64 m] w fun e w' => ∃ v, e = .returned (.tuple #[mv ⟨s.size, m, (parts s m).map idS⟩ v, .int .i64 0]) ∧ OwnS w.heap.size v ((parts s m).map idS) w' ∧ Below w.heap.size w w' := by
  obtain ⟨i0, hi, hz0, hz1, hz2⟩ := info_parts strInfo
  have hE : cutE s.size (m : Int) = 0 := by unfold cutE; rw [if_neg (by omega), if_neg (by rw [Int.toNat_natCast]; omega)]
  have cM := fun W => mayCutC s.size m W
  rw [hE] at cM
  clear hE
  have hpm : (parts s m).length = nP s.size m := parts_length s m
  have hpp := uptoP_parts s m h2
  have hNl := uptoP_length s m h2 (nP s.size m)
  generalize hN : nP s.size m = N at hn hpm hpp hNl
  have hT' := Lib.hid hT
  clear hT
  refine (callsIn_wide (n := 4)).1 ?_
  refine callsIn_of_wp_marks Tryd.func11 rfl trivial ?_ rfl
  simp only [Tryd.ntmps11, List.size_toArray, List.length_cons, List.length_nil, Nat.reduceAdd, Nat.reduceSub, Array.replicate_succ, Array.replicate_zero, List.push_toArray, List.append_toArray, List.nil_append, List.cons_append]
  gi_wp2_with (first
    | (refine ⟨trivial, ?_⟩; gi_at_call 23; refine (callsIn_wide.2 (cM _)).mono ?_; rintro e w1 ⟨rfl, rfl⟩)
    | (refine ⟨trivial, ?_⟩; gi_at_call 25; refine (chunksC Fence.wide _ trivial rfl s m _).mono ?_; rintro e w2 ⟨rfl, rfl⟩))
  have r0 := MBox.new w ⟨0, 0, []⟩ (.slice none 0 0)
  have r1 := MBox.new (w.alloc (.cells #[.int .i64 0, .int .i64 0, .slice none 0 0] 31)) ⟨s.size, m, []⟩ (.slice none 0 0)
  have b1 := Boxed.new ((w.alloc (.cells #[.int .i64 0, .int .i64 0, .slice none 0 0] 31)).alloc (.cells #[.int .i64 s.size, .int .i64 m, .slice none 0 0] 31)) 9 (.string s)
  have b2 := Boxed.new (((w.alloc (.cells #[.int .i64 0, .int .i64 0, .slice none 0 0] 31)).alloc (.cells #[.int .i64 s.size, .int .i64 m, .slice none 0 0] 31)).alloc (.cells #[.string s] 9)) 3 (.int .i64 m)
  simp only [World.size_alloc] at r1 b1 b2
  obtain ⟨WL, hWL⟩ : ∃ WL, ((((w.alloc (.cells #[.int .i64 0, .int .i64 0, .slice none 0 0] 31)).alloc (.cells #[.int .i64 s.size, .int .i64 m, .slice none 0 0] 31)).alloc (.cells #[.string s] 9)).alloc (.cells #[.int .i64 m] 3)) = WL := ⟨_, rfl⟩
  have hSL : WL.heap.size = w.heap.size + 4 := by rw [← hWL]; simp
  have hbL : Below w.heap.size w WL := by rw [← hWL]; exact ((((Below.refl _ w).alloc (Nat.le_refl _) _).alloc (by simp) _).alloc (by simp; omega) _).alloc (by simp; omega) _
  have r0L : MBox WL w.heap.size ⟨0, 0, []⟩ (.slice none 0 0) := by rw [← hWL]; exact ((r0.alloc _).alloc _).alloc _
  have r1L : MBox WL (w.heap.size + 1) ⟨s.size, m, []⟩ (.slice none 0 0) := by rw [← hWL]; exact (r1.alloc _).alloc _
  have b1L : Boxed WL (w.heap.size + 1 + 1) 9 (.string s) := by rw [← hWL]; exact b1.alloc _
  have b2L : Boxed WL (w.heap.size + 1 + 1 + 1) 3 (.int .i64 m) := by rw [← hWL]; exact b2
  rw [hWL]
  clear hWL r0 r1 b1 b2 cM
  refine wpIn_rangeFunc_ownG rfl (by omega) (gf := 44) (lb := #[.pointer (some ⟨w.heap.size + 1 + 1, 0, none⟩), .pointer (some ⟨w.heap.size + 1 + 1 + 1, 0, none⟩)]) rfl trivial (enters_of Tryd.func44 (by kernel_rfl) rfl)
    (chunks_stops Fence.wide _ trivial rfl (by omega) (w.heap.size + 1 + 1) (w.heap.size + 1 + 1 + 1) s m h1 h2 (by omega) WL (by omega) (by omega) b1L.cell b2L.cell) (fun h k => h.trans k) (keep2_b (by omega) (by omega)) (Below.refl _ _) (fun _ => rfl)
    (fun pre W => ((∃ v, MBox W (w.heap.size + 1) ⟨s.size, m, []⟩ v ∧ W.ownsRow WL.heap.size 9 1 v pre.length (((vals pre).map idS).map Value.string)) ∧ MBox W w.heap.size ⟨0, 0, []⟩ (.slice none 0 0) ∧ WL.heap.size ≤ W.heap.size) ∧ Below w.heap.size w W)
    (fun _ _ _ => False)
    (OwnFrom.and (OwnFrom.and (Own.from (man_own WL.heap.size (w.heap.size + 1) ⟨s.size, m, []⟩ 9 (fun pre => ((vals pre).map idS).map Value.string)) _) (OwnFrom.and (Own.from (mbox_own _ _ _) _) (fun s A B row hs hg _ => Nat.le_trans hs hg.size))) (ownFrom_below (Nat.le_refl _) (by omega)))
    (fun _ _ _ _ _ hs _ _ => hs)
    ⟨⟨⟨_, r1L, World.ownsRow_nil _ _ _ _⟩, r0L, Nat.le_refl _⟩, hbL⟩
    (fun x => { tmps := #[.string s, .int .i64 m, undef, undef, .pointer (some ⟨w.heap.size, 0, none⟩), .int .i64 0, .int .i64 0, .pointer (some ⟨w.heap.size + 1, 0, none⟩), .string x.1, .string s, .int .i64 s.size, .int .i64 m, .int .i64 0, .int .i64 0, .bool false, undef, undef, .string s, .int .i64 s.size, .int .i64 m, .agg #[.int .i64 s.size, .int .i64 m, .slice none 0 0], .string s, .int .i64 m, .func (.func 44) #[] #[.pointer (some ⟨w.heap.size + 1 + 1, 0, none⟩), .pointer (some ⟨w.heap.size + 1 + 1 + 1, 0, none⟩)], .string x.1, undef, undef, undef, undef, undef, undef, undef, undef], defers := [] }) ?assign ?body ?done ?stop
  case assign =>
    intro l x W K hK
    gi_wp2
    exact hK
  case body =>
    rintro l pre x W ⟨⟨⟨v, hv, hrow⟩, hr, hLW⟩, hB⟩ hlt
    rw [hN] at hlt
    have hmx : Tryd.prog.follows .mixedOrders = true := by kernel_rfl
    have hWs := hB.size
    have hx := x.2
    have hrl := World.ownsRow.lt hrow
    have cI := idC x.1 W.drew (by omega) ((hT'.out.below hB).drew)
    have hc := hv.c2
    have hf := hv.free 2
    gi_wp2
    gi_region_with_o (
        (refine ⟨trivial, ?_⟩; gi_at_call 27; refine (CallsIn.inRound l (callsIn_wide.2 cI)).mono ?_; rintro e w2 ⟨rfl, hb2⟩; have hb2' : Below W.heap.size W w2 := undrew hb2; clear hb2; have hv2 : MBox w2 (w.heap.size + 1) ⟨s.size, m, []⟩ v := hv.below hb2' hv.lt; have hc2 := hv2.c2; have hc2a := (hv2.alloc (.cells #[.string (idS x.1)] 9)).c2
         have hrow2 : w2.ownsRow WL.heap.size 9 1 v pre.length (((vals pre).map idS).map Value.string) := row_below hrow hb2'
         obtain ⟨v', w3, hrun, hown3, hg3, _⟩ := run_append_own (P := Tryd.prog) (w2.alloc (.cells #[.string (idS x.1)] 9)) WL.heap.size 23 23 9 i0 (.string ByteArray.empty) 1 16 Tryd.underlying23 hi hz0 hz1 hz2 rfl (by decide) v pre.length _ (hrow2.alloc _) ⟨w2.heap.size, 0, none⟩ 1 1 [.string (idS x.1)] rfl (cell_one_new _ _ _) (by simp [Value.oneCell']) (by unfold maxLen; omega) (by omega) (by have := hb2'.size; simp; omega)
         obtain ⟨g', cap', rfl⟩ := ownsRow_succ hown3
         have hv3 : MBox w3 (w.heap.size + 1) ⟨s.size, m, []⟩ v := (hv2.alloc _).kept hg3 (fun e => by have := (hrl _ e.symm).1; omega)
         have hc3 := hv3.c2
         have hf3 := hv3.free 2))
    all_goals
      have hg' := World.ownsRow.lt hown3 g' rfl
      have hz2' := hb2'.size
      have hz3 := hg3.size
      rw [World.size_alloc] at hz3
      have hz4 : (w3.setCell ⟨w.heap.size + 1, 2, none⟩ (.slice (some ⟨g', 0, none⟩) (pre.length + 1) cap')).heap.size = w3.heap.size := by simp
      have n0 : ∀ j, j < WL.heap.size → some j ≠ v.ownBlock := fun j hj e => by have := (hrl _ e.symm).1; omega
      refine ⟨((((KeepsOthers.below hb2').trans (KeepsOthers.alloc _ _)).trans (KeepsOthers.of_grownBy hg3 fun j o ej hj => row_cells (hrow2.alloc _) ej hj)).trans (KeepsOthers.setCell _ _ _)).from _, ?_, ⟨⟨_, hv3.set _, ?_⟩, ?_, ?_⟩, ?_⟩
      · exact (Keep2.below hb2').trans ((Keep2.grown (World.grownBy_alloc _ _ none) (by simp) (by simp)).trans ((Keep2.grown hg3 (n0 _ (by omega)) (n0 _ (by omega))).trans (Keep2.grown (grownBy_setCell _ _ _ _) (fun e => by have := Option.some.inj e; omega) (fun e => by have := Option.some.inj e; omega))))
      · rw [vals_snoc, List.map_append, List.map_append, List.length_append]
        exact hown3.kept (grownBy_setCell w3 (w.heap.size + 1) 2 _) (.inr (fun e => by have : g' = w.heap.size + 1 := Option.some.inj e; omega))
      · exact (((hr.below hb2' hr.lt).alloc _).kept hg3 (n0 _ (by omega))).kept (grownBy_setCell w3 (w.heap.size + 1) 2 _) (fun e => by have := Option.some.inj e; omega)
      · omega
      · exact (((hB.trans (hb2'.mono hWs)).alloc (by omega) _).grown hg3 (by simp; omega) (fun j ej => by have := (hrl _ ej).1; omega)).setCell (p := ⟨w.heap.size + 1, 2, none⟩) (by simp) _
  case done =>
    rintro D ys W hD rfl ⟨⟨⟨v, hv, hrow⟩, hr, hLW⟩, hB⟩ hK
    obtain ⟨av, cv, rfl⟩ := row_form hrow
    have hc0 := hv.c0
    have hc1 := hv.c1
    have hc2 := hv.c2
    have hr0 := hr.c0
    have hr1 := hr.c1
    have hr2 := hr.c2
    have hf0 := hr.free 0
    have hf1 := hr.free 1
    have hf2 := hr.free 2
    have hput := hr.put ⟨s.size, m, []⟩ (.slice av (uptoP s m h2 N).length cv)
    rw [hN] at hrow
    have hK' := (((KeepsOthers.setCell W ⟨w.heap.size, 0, none⟩ (.int .i64 s.size)).trans (KeepsOthers.setCell _ ⟨w.heap.size, 1, none⟩ (.int .i64 m))).trans (KeepsOthers.setCell _ ⟨w.heap.size, 2, none⟩ (.slice av (uptoP s m h2 N).length cv))).same D _ hK rfl
    have hB' : Below w.heap.size w (((W.setCell ⟨w.heap.size, 0, none⟩ (.int .i64 s.size)).setCell ⟨w.heap.size, 1, none⟩ (.int .i64 m)).setCell ⟨w.heap.size, 2, none⟩ (.slice av (uptoP s m h2 N).length cv)) := ((hB.setCell (p := ⟨w.heap.size, 0, none⟩) (Nat.le_refl _) _).setCell (p := ⟨w.heap.size, 1, none⟩) (Nat.le_refl _) _).setCell (p := ⟨w.heap.size, 2, none⟩) (Nat.le_refl _) _
    have hrow' : (((W.setCell ⟨w.heap.size, 0, none⟩ (.int .i64 s.size)).setCell ⟨w.heap.size, 1, none⟩ (.int .i64 m)).setCell ⟨w.heap.size, 2, none⟩ (.slice av (uptoP s m h2 N).length cv)).ownsRow WL.heap.size 9 1 (.slice av (uptoP s m h2 N).length cv) (uptoP s m h2 N).length (((vals (uptoP s m h2 N)).map idS).map Value.string) := by
      have ho : some w.heap.size ≠ (Value.slice av (uptoP s m h2 N).length cv).ownBlock := fun e => by have := (World.ownsRow.lt hrow _ e.symm).1; omega
      exact ((hrow.kept (grownBy_setCell W w.heap.size 0 _) (.inr ho.symm)).kept (grownBy_setCell _ w.heap.size 1 _) (.inr ho.symm)).kept (grownBy_setCell _ w.heap.size 2 _) (.inr ho.symm)
    rw [hNl] at hput hK' hB' hrow'
    gi_wp2
    refine ⟨by simp, .inl ⟨_, _, rfl, run_takeDeferred hK', ?_⟩⟩
    have hput' : MBox ((((W.setCell ⟨w.heap.size, 0, none⟩ (.int .i64 s.size)).setCell ⟨w.heap.size, 1, none⟩ (.int .i64 m)).setCell ⟨w.heap.size, 2, none⟩ (.slice av N cv)).putObj D (.deferred none)) w.heap.size ⟨s.size, m, []⟩ (.slice av N cv) := (World.putObj_heap_other (by omega)).trans hput
    refine ⟨_, results_man rfl _ _ w.heap.size 31 _ _ _ (0, 0) _ rfl hput' Tryd.underlying31 rfl manInfo, ?_⟩
    refine ⟨_, rfl, ?_, hB'.trans (belowK_b (w := w) (Nat.le_refl _) _ D _ _ (by omega) hK' rfl rfl)⟩
    have hr' := ownsRow_putObj hrow' (.deferred none) hK' rfl
    rw [show vals (uptoP s m h2 N) = parts s m from hpp] at hr'
    unfold OwnS
    rw [List.length_map, hpm]
    exact row_mono hr' (by omega)
  case stop =>
    rintro D c pre W _ _ h _
    exact h.elim

set_option maxHeartbeats 2000000 in
set_option maxRecDepth 100000 in
/-- Manifest, the program's -/
theorem manC (s : ByteArray) (n : Int) (w : World) (hT : Tab w) :
    Calls Tryd.prog 11 #[.string s, .int .i64 n] w fun e w' => ∃ v, e = .returned (.tuple #[mv (manOf s n) v, .int .i64 (cutE s.size n)]) ∧ OwnS w.heap.size v (manOf s n).ids w' ∧ Below w.heap.size w w' := by
  by_cases h : cutE s.size n = 0
  · obtain ⟨m, rfl, h1, h2, h3, h4⟩ := cutE_ok h
    have hl : manOf s (m : Int) = ⟨s.size, m, (parts s m).map idS⟩ := by unfold manOf; rw [if_pos h, Int.toNat_natCast]
    rw [h, hl]
    exact man_okC s m h1 h2 h3 h4 w hT
  · have hl : manOf s n = ⟨0, 0, []⟩ := by unfold manOf; rw [if_neg h]
    have hc := fun W => mayCutC s.size n W
    rw [hl]
    have hne : (cutE s.size n != 0) = true := by simp [h]
    have r0 := MBox.new w ⟨0, 0, []⟩ (.slice none 0 0)
    have hr0 := r0.c0
    have hr1 := r0.c1
    have hr2 := r0.c2
    have hf0 := r0.free 0
    have hf1 := r0.free 1
    have hf2 := r0.free 2
    have hput := Lib.hid r0
    generalize cutE s.size n = E at hc hne ⊢
    clear h hl r0 hT
    go_enter Tryd.func11, Tryd.ntmps11
    go_wp2_with (go_at_call 23; refine (hc _).mono ?_; rintro e w1 ⟨rfl, rfl⟩)
    refine bodyPost_ret (results_man rfl _ _ w.heap.size 31 _ _ _ (0, 0) _ rfl hput.out Tryd.underlying31 rfl manInfo) rfl ?_
    exact ⟨_, rfl, ownS_nil _ _, (Below.refl _ w).alloc (Nat.le_refl _) _⟩
end Go.Proofs.YtiabbmdgddbgbaaDoor
