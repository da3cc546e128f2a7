/-
  almonrylaw15: one, awake.
-/
import Derived.Test.YtlcjiodbdopcdabGreatFactCmp
import Derived.Test.YtlcjiodbdopcdabGreatFactPut
import Derived.Test.YtlcjiodbdopcdabGreatFactRd
import Derived.Test.YtlcjiodbdopcdabGreatFactSame
namespace Go.Proofs.YtlcjiodbdopcdabGreat
set_option linter.unusedSimpArgs false
open Go.RowKit Go.Sort
set_option maxRecDepth 100000

/-- a tag -/
def oneF (r n : Int) (nm v : ByteArray) : Ft := ⟨(r, n), ⟨n, 0, r⟩, 3, nm, v⟩
set_option maxHeartbeats 1000000 in
theorem oneC (r n : Int) (nm v : ByteArray) (w : World) : Calls Tryz.prog 18 #[.int .i64 r, .int .i64 n, .string nm, .string v] w fun e w' => e = .returned (.agg (fcs (oneF r n nm v)).toArray) ∧ Below w.heap.size w w' := by
  have hb := boxZ_below w (oneF r n nm v)
  have hr := boxZ_row w (oneF r n nm v)
  have HB := Lib.hid hb
  have HR := Lib.hid hr
  clear hb hr
  go_enter Tryz.func18, Tryz.ntmps18
  go_wp2_with ((with_reducible refine fl_store ?_ (.tmp 8) (.tmp 17) ?_ w.heap.size (oneF r n nm v) ?_ ?_ ?_ ?_); rfl; rfl; rfl; rfl; exact boxZ_old w)
  refine bodyPost_ret (results_cell_row rfl _ _ w.heap.size 36 (fcs (oneF r n nm v)).toArray (0, 0) _ rfl HR.out Tryz.underlying36 rfl factSize) rfl ?_
  exact ⟨rfl, HB.out⟩

def awX : Ft := oneF 1 2 ⟨#[98]⟩ ⟨#[120]⟩
def awY : Ft := oneF 0 1 ⟨#[97]⟩ ⟨#[121]⟩
def awE : Ft := oneF 1 2 ⟨#[]⟩ ⟨#[120]⟩
def awZ : Ft := ⟨(1, 2), ⟨2, 0, 2⟩, 3, ⟨#[98]⟩, ⟨#[120]⟩⟩
def awO : Ft := ⟨(0, 0), ⟨0, 0, 0⟩, 0, ⟨#[]⟩, ⟨#[]⟩⟩
abbrev awB : ByteArray := ⟨#[2, 0, 1, 1, 0, 3, 1, 97, 1, 121, 1, 2, 2, 0, 3, 1, 98, 1, 120]⟩
theorem awF_sort : sortF [awX, awY, awX] = [awY, awX] := by decide +kernel
theorem awF_put : putF rdM [awY, awX] = (awB, 0) := by decide +kernel
theorem awF_read : readF rdM awB = ([awY, awX], 0) := readF_put awF_put
theorem awF_z : chkFm awZ = 5 := by decide +kernel
theorem awF_e : chkFm awE = 14 := by decide +kernel
theorem awF_o : chkFm awO = 2 := by decide +kernel
theorem awF_lt : ltF awY awX = true := by decide +kernel
theorem awF_small : ∀ f ∈ [awY, awX], f.v.size ≤ 5000 := by
  intro f hf
  simp only [List.mem_cons, List.not_mem_nil, or_false] at hf
  rcases hf with rfl | rfl <;> decide

theorem fyield_F {ops : Array Oper} {S : World → Prop} {o : Oper} {a : Act} (hw : Region.wanted o (yielded ops a.tmps) = true) (x : Operand) (ho : o.op = .load 36 x) (g off : Nat) (f : Ft) (hx : a.eval x = .pointer (some ⟨g, off, none⟩))
    (hg : ∀ w, S w → w.rangeAt g off (fcs f)) : YieldsIf Tryz.prog ops S o (.agg (fcs f).toArray) a :=
  yieldsIf_load_mid hw 36 x ho g off hx (fcs f) _ hg Tryz.underlying36 rfl factSize
theorem FRow.set4 {w : World} {b : Nat} (h : FRow w b awX) : FRow (w.setCell ⟨b, 4, none⟩ (.int .i64 2)) b awZ := by
  have := Joins.block_setCell (i := 4) h (.int .i64 2)
  exact this
theorem FRow.free {w : World} {b : Nat} {f : Ft} (h : FRow w b f) (j : Nat) : w.frozen? ⟨b, j, none⟩ = false := Joins.unfrozen_of_block h j
theorem FRow.other {w : World} {b c i : Nat} {f : Ft} (h : FRow w b f) (hn : b ≠ c) (u : Value) : FRow (w.setCell ⟨c, i, none⟩ u) b f := by
  unfold FRow; rw [Below.heap_setCell _ _ _ _ hn]; exact h
theorem FRow.setRow {w : World} {b c : Nat} {f : Ft} (h : FRow w b f) (hn : b ≠ c) (cs : Array Value) : FRow (w.setRow c cs) b f := by
  unfold FRow; rw [setRow_other _ _ _ _ hn]; exact h

/-- two blocks made, facts stored there -/
def boxY (w : World) (a b : Ft) : World := (((w.alloc (.cells zcs 36)).alloc (.cells zcs 36)).setRow w.heap.size (fcs a).toArray).setRow (w.heap.size + 1) (fcs b).toArray
theorem boxY_old0 (w : World) : ∃ old : Array Value, ((w.alloc (.cells zcs 36)).alloc (.cells zcs 36)).heap[w.heap.size]? = some (.cells old 36 (0, 0)) ∧ old.size = 8 :=
  ⟨_, (Below.heap_alloc _ _ _ (by simp)).trans (heap_alloc_new w _), rfl⟩
theorem boxY_old1 (w : World) (a : Ft) : ∃ old : Array Value, (((w.alloc (.cells zcs 36)).alloc (.cells zcs 36)).setRow w.heap.size (fcs a).toArray).heap[w.heap.size + 1]? = some (.cells old 36 (0, 0)) ∧ old.size = 8 := by
  have hn : w.heap.size + 1 ≠ w.heap.size := by omega
  refine ⟨zcs, ?_, rfl⟩
  rw [setRow_other _ _ _ _ hn]
  exact heap_alloc2_new w _ _
theorem boxY_rows (w : World) (a b : Ft) : FRow (boxY w a b) w.heap.size a ∧ FRow (boxY w a b) (w.heap.size + 1) b := by
  obtain ⟨o0, h0, -⟩ := boxY_old0 w
  obtain ⟨o1, h1, -⟩ := boxY_old1 w a
  have hn : w.heap.size ≠ w.heap.size + 1 := by omega
  exact ⟨FRow.setRow (setRow_heap _ _ _ _ _ _ h0) hn _, setRow_heap _ _ _ _ _ _ h1⟩
theorem boxY_below (w : World) (a b : Ft) : Below w.heap.size w (boxY w a b) :=
  belowRow (belowRow ((((Below.refl _ w).alloc (Nat.le_refl _) _).alloc (by simp) _)) (Nat.le_refl _) _) (by omega) _

set_option maxHeartbeats 8000000 in
theorem factAwake (w : World) : Calls Tryz.prog 6 #[] w fun e w' => e = .returned (.bool true) ∧ Below w.heap.size w w' := by
  have o1 := fun W => oneC 1 2 ⟨#[98]⟩ ⟨#[120]⟩ W
  have o2 := fun W => oneC 0 1 ⟨#[97]⟩ ⟨#[121]⟩ W
  have o3 := fun W => oneC 1 2 ⟨#[]⟩ ⟨#[120]⟩ W
  have O1 := Lib.hid (show ∀ W, Calls Tryz.prog 18 #[.int .i64 1, .int .i64 2, .string ⟨#[98]⟩, .string ⟨#[120]⟩] W fun e w' => e = .returned (.agg (fcs awX).toArray) ∧ Below W.heap.size W w' from o1)
  have O2 := Lib.hid (show ∀ W, Calls Tryz.prog 18 #[.int .i64 0, .int .i64 1, .string ⟨#[97]⟩, .string ⟨#[121]⟩] W fun e w' => e = .returned (.agg (fcs awY).toArray) ∧ Below W.heap.size W w' from o2)
  have O3 := Lib.hid (show ∀ W, Calls Tryz.prog 18 #[.int .i64 1, .int .i64 2, .string ⟨#[]⟩, .string ⟨#[120]⟩] W fun e w' => e = .returned (.agg (fcs awE).toArray) ∧ Below W.heap.size W w' from o3)
  clear o1 o2 o3
  have hb3 := fun W => build3F awX awY awX W
  go_enter Tryz.func6, Tryz.ntmps6
  go_wp2_with fail
  refine (O1.out _).mono ?_
  rintro e w1 ⟨rfl, h1⟩
  have B1 := Lib.hid h1
  clear h1
  go_wp2_with fail
  refine (O2.out _).mono ?_
  rintro e w2 ⟨rfl, h2⟩
  have B2 := Lib.hid (B1.out.trans (h2.mono B1.out.size))
  clear h2 B1
  go_wp2_with fail
  refine (O1.out _).mono ?_
  rintro e w3 ⟨rfl, h3⟩
  have B3 := Lib.hid (B2.out.trans (h3.mono B2.out.size))
  have hd3 := Lib.hid (fin_cells w3 [awX, awY, awX])
  clear h3 B2
  go_wp2_with fail
  have B4 := Lib.hid (B3.out.alloc B3.out.size (.cells (rowF [awX, awY, awX]).toArray 36))
  clear hb3
  have hs5 := sortFC [awX, awY, awX] (some ⟨w3.heap.size, 0, none⟩) 3 _ hd3.out (by decide)
  rw [awF_sort] at hs5
  refine Calls.mono hs5 ?_
  rintro e w5 ⟨a1, c1, rfl, hin5, hb5⟩
  have B5 := Lib.hid (B4.out.trans (hb5.mono B4.out.size))
  have D5 := Lib.hid hin5
  have hl2 : [awY, awX].length = 2 := rfl
  rw [hl2]
  clear hs5 hin5 hb5 B4 B3 hd3
  go_wp2_with fail
  have hp := putFC [awY, awX] a1 c1 w5 D5.out (by decide) awF_small
  rw [awF_put] at hp
  refine Calls.mono hp ?_
  rintro e w6 ⟨rfl, hb6⟩
  have B6 := Lib.hid (B5.out.trans (hb6.mono B5.out.size))
  have D6 := Lib.hid (D5.out.below hb6)
  clear hp hb6 B5 D5
  go_wp2_with fail
  have hr := readFC awB (by decide) (fun f hf => Nat.le_trans (rdF_val awB f hf) (by decide)) w6
  rw [awF_read] at hr
  refine Calls.mono hr ?_
  rintro e w7 ⟨v7, rfl, hown7, hb7⟩
  obtain ⟨a7, c7, rfl, hin7, -⟩ := hown7.fin
  have B7 := Lib.hid (B6.out.trans (hb7.mono B6.out.size))
  have D7 := Lib.hid (And.intro (D6.out.below hb7) hin7)
  rw [hl2]
  clear hr hown7 hin7 hb7 B6 D6
  go_wp2_with fail
  refine (O1.out _).mono ?_
  rintro e w8 ⟨rfl, h8⟩
  have B8 := Lib.hid (B7.out.trans (h8.mono B7.out.size))
  have D8 := Lib.hid (And.intro (D7.out.1.below h8) (D7.out.2.below h8))
  clear h8 B7 D7
  go_wp2_with fail
  refine (O3.out _).mono ?_
  rintro e w9 ⟨rfl, h9⟩
  have B9 := Lib.hid (B8.out.trans (h9.mono B8.out.size))
  have D9 := Lib.hid (And.intro (D8.out.1.below h9) (D8.out.2.below h9))
  have Y9 := Lib.hid (boxY_rows w9 awX awE)
  have YB := Lib.hid (boxY_below w9 awX awE)
  clear h9 B8 D8 hl2
  go_upto_region 5 with (first
    | ((with_reducible refine fl_store ?_ (.tmp 6) (.tmp 23) ?_ w9.heap.size awX ?_ ?_ ?_ ?_); rfl; rfl; rfl; rfl; exact boxY_old0 w9)
    | ((with_reducible refine fl_store ?_ (.tmp 7) (.tmp 24) ?_ (w9.heap.size + 1) awE ?_ ?_ ?_ ?_); rfl; rfl; rfl; rfl; exact boxY_old1 w9 awX))
  change Code.wp _ _ _ _ (boxY w9 awX awE)
  have hVB : Below w9.heap.size w9 ((boxY w9 awX awE).setCell ⟨w9.heap.size, 4, none⟩ (.int .i64 2)) := YB.out.setCell (p := ⟨w9.heap.size, 4, none⟩) (Nat.le_refl _) _
  have hn1 : w9.heap.size + 1 ≠ w9.heap.size := by omega
  have B11 := Lib.hid (B9.out.trans (hVB.mono B9.out.size))
  have D11 := Lib.hid (And.intro (D9.out.1.below hVB) (D9.out.2.below hVB))
  have Y11 := Lib.hid (And.intro Y9.out.1.set4 (FRow.other Y9.out.2 hn1 (i := 4) (.int .i64 2)))
  have c4 : (boxY w9 awX awE).cell? ⟨w9.heap.size, 4, none⟩ = some (.int .i64 1) := by have h := Y9.out.1.range 4 _ rfl; rwa [Nat.zero_add] at h
  have f4 := Y9.out.1.free 4
  clear YB B9 D9 hVB hn1
  go_upto_region 6 with fail
  clear c4 f4 Y9
  generalize (boxY w9 awX awE).setCell ⟨w9.heap.size, 4, none⟩ (.int .i64 2) = W at *
  generalize w9.heap.size = g0 at *
  obtain ⟨b1, of1, rfl, hb1, r0⟩ := D11.out.1.at (j := 0) (f := awY) rfl
  obtain ⟨b1', of1', hbe, -, r1⟩ := D11.out.1.at (j := 1) (f := awX) rfl
  have hbe2 := Option.some.inj hbe
  obtain ⟨rfl, rfl⟩ : b1 = b1' ∧ of1 = of1' := by injection hbe2 with h1 h2; exact ⟨h1, h2⟩
  have RR := Lib.hid (And.intro hb1 (And.intro r0 r1))
  have hb2 := fun W => build2F awY awX W
  clear hbe hbe2 hb1 r0 r1
  refine wp_region_held (S := fun U => Below W.heap.size W U) (by kernel_rfl) ?_
  change wpAnyH _ _ _ _ _ _ _ _ W.drew
  have K0 : (fun U => Below W.heap.size W U) W.drew := (Below.refl _ _).drew
  refine wpAnyH_take (i := 0) (oi := { dst := some 27, op := _, type := _, pos := _, after := _, guard := _ }) (v := ?v1) rfl (by kernel_rfl) (by kernel_rfl) (by kernel_rfl) (fun _ _ _ h => h) (Or.inl ⟨by rfl, ?hy1⟩) K0 ?rest1
  case hy1 => (intro w hSw; (try dsimp only at hSw); first | (go_simp; done) | (go_simp; with_reducible rfl))
  try simp only [Act.put, List.setIfInBounds_toArray, List.set_cons_zero, List.set_cons_succ]
  refine wpAnyH_ready (rs := [1]) (by kernel_rfl) (by simp) ?_
  refine AllReadyH.cons (o := { dst := some 28, op := _, type := _, pos := _, after := _, guard := _ }) rfl (fun K hK => ?_) AllReadyH.nil
  go_simp
  refine (O2.out _).mono ?_
  rintro e u1 ⟨rfl, hb⟩
  have K1 := K0
  have K1 := Below.trans K1 (hb.mono (Below.size K1))
  clear hb
  refine hK.out _ _ K1 (fun _ => ?_)
  clear hK K
  try simp only [Act.put, List.setIfInBounds_toArray, List.set_cons_zero, List.set_cons_succ]
  refine wpAnyH_ready (rs := [2]) (by kernel_rfl) (by simp) ?_
  refine AllReadyH.cons (o := { dst := some 29, op := _, type := _, pos := _, after := _, guard := _ }) rfl (fun K hK => ?_) AllReadyH.nil
  go_simp
  refine (O1.out _).mono ?_
  rintro e u2 ⟨rfl, hb⟩
  have K2 := K1
  have K2 := Below.trans K2 (hb.mono (Below.size K2))
  clear hb
  refine hK.out _ _ K2 (fun _ => ?_)
  clear hK K
  try simp only [Act.put, List.setIfInBounds_toArray, List.set_cons_zero, List.set_cons_succ]
  refine wpAnyH_ready (rs := [3]) (by kernel_rfl) (by simp) ?_
  refine AllReadyH.cons (o := { dst := some 30, op := _, type := _, pos := _, after := _, guard := _ }) rfl (fun K hK => ?_) AllReadyH.nil
  go_simp
  have K3 := K2
  have K3 := Below.alloc K3 (Below.size K3) (.cells (rowF [awY, awX]).toArray 36)
  have HS3 := Lib.hid (fin_cells u2 [awY, awX])
  refine hK.out _ _ K3 (fun _ => ?_)
  clear hK K
  try simp only [Act.put, List.setIfInBounds_toArray, List.set_cons_zero, List.set_cons_succ]
  refine wpAnyH_ready (rs := [4]) (by kernel_rfl) (by simp) ?_
  refine AllReadyH.cons (o := { dst := some 31, op := _, type := _, pos := _, after := _, guard := _ }) rfl (fun K hK => ?_) AllReadyH.nil
  go_simp
  have hh := same_anyF [awY, awX] [awY, awX] 2 2 rfl rfl (some ⟨b1, of1, none⟩) (some ⟨u2.heap.size, 0, none⟩) c1 2 _ (D11.out.1.below K3) HS3.out (by decide) true (by simp)
  refine Calls.mono hh ?_
  rintro e u4 ⟨rfl, hb⟩
  have K4 := K3
  have K4 := Below.trans K4 (hb.mono (Below.size K4))
  clear hh hb HS3
  refine hK.out _ _ K4 (fun _ => ?_)
  clear hK K
  try simp only [Act.put, List.setIfInBounds_toArray, List.set_cons_zero, List.set_cons_succ]
  refine wpAnyH_take (i := 5) (oi := { dst := some 32, op := _, type := _, pos := _, after := _, guard := _ }) (v := ?v2) rfl (by kernel_rfl) (by kernel_rfl) (by kernel_rfl) (fun _ _ _ h => h) (Or.inl ⟨by rfl, ?hy2⟩) K4 ?rest2
  case hy2 => (intro w hSw; (try dsimp only at hSw); first | (go_simp; done) | (go_simp; with_reducible rfl))
  try simp only [Act.put, List.setIfInBounds_toArray, List.set_cons_zero, List.set_cons_succ]
  refine wpAnyH_take (i := 6) (oi := { dst := some 33, op := _, type := _, pos := _, after := _, guard := _ }) (v := ?v3) rfl (by kernel_rfl) (by kernel_rfl) (by kernel_rfl) (fun _ _ _ h => h) (Or.inl ⟨by rfl, ?hy3⟩) K4 ?rest3
  case hy3 => (intro w hSw; (try dsimp only at hSw); first | (go_simp; done) | (go_simp; with_reducible rfl))
  try simp only [Act.put, List.setIfInBounds_toArray, List.set_cons_zero, List.set_cons_succ]
  refine wpAnyH_take (i := 7) (oi := { dst := some 34, op := _, type := _, pos := _, after := _, guard := _ }) (v := ?v4) rfl (by kernel_rfl) (by kernel_rfl) (by kernel_rfl) (fun _ _ _ h => h) (Or.inl ⟨by rfl, ?hy4⟩) K4 ?rest4
  case hy4 => (intro w hSw; (try dsimp only at hSw); first | (go_simp; done) | (go_simp; with_reducible rfl))
  try simp only [Act.put, List.setIfInBounds_toArray, List.set_cons_zero, List.set_cons_succ]
  refine wpAnyH_take (i := 8) (oi := { dst := some 35, op := _, type := _, pos := _, after := _, guard := _ }) (v := ?v5) rfl (by kernel_rfl) (by kernel_rfl) (by kernel_rfl) (fun _ _ _ h => h) (Or.inl ⟨by rfl, ?hy5⟩) K4 ?rest5
  case hy5 => (intro w hSw; (try dsimp only at hSw); first | (go_simp; done) | (go_simp; with_reducible rfl))
  try simp only [Act.put, List.setIfInBounds_toArray, List.set_cons_zero, List.set_cons_succ]
  refine wpAnyH_take (i := 9) (oi := { dst := some 36, op := _, type := _, pos := _, after := _, guard := _ }) (v := ?v6) rfl (by kernel_rfl) (by kernel_rfl) (by kernel_rfl) (fun _ _ _ h => h) (Or.inl ⟨by rfl, ?hy6⟩) K4 ?rest6
  case hy6 => (intro w hSw; (try dsimp only at hSw); first | (go_simp; done) | (go_simp; with_reducible rfl))
  try simp only [Act.put, List.setIfInBounds_toArray, List.set_cons_zero, List.set_cons_succ]
  refine wpAnyH_take (i := 10) (oi := { dst := some 37, op := _, type := _, pos := _, after := _, guard := _ }) (v := ?v7) rfl (by kernel_rfl) (by kernel_rfl) (by kernel_rfl) (fun _ _ _ h => h) (Or.inl ⟨by rfl, ?hy7⟩) K4 ?rest7
  case hy7 => (intro w hSw; (try dsimp only at hSw); first | (go_simp; done) | (go_simp; with_reducible rfl))
  try simp only [Act.put, List.setIfInBounds_toArray, List.set_cons_zero, List.set_cons_succ]
  refine wpAnyH_take (i := 11) (oi := { dst := some 38, op := _, type := _, pos := _, after := _, guard := _ }) (v := ?v8) rfl (by kernel_rfl) (by kernel_rfl) (by kernel_rfl) (fun _ _ _ h => h) (Or.inl ⟨by rfl, ?hy8⟩) K4 ?rest8
  case hy8 => (intro w hSw; (try dsimp only at hSw); first | (go_simp; done) | (go_simp; with_reducible rfl))
  try simp only [Act.put, List.setIfInBounds_toArray, List.set_cons_zero, List.set_cons_succ]
  refine wpAnyH_ready (rs := [12]) (by kernel_rfl) (by simp) ?_
  refine AllReadyH.cons (o := { dst := some 39, op := _, type := _, pos := _, after := _, guard := _ }) rfl (fun K hK => ?_) AllReadyH.nil
  go_simp
  have hh := same_anyF [awY, awX] [awY, awX] 2 2 rfl rfl a7 (some ⟨b1, of1, none⟩) c7 c1 _ (D11.out.2.below K4) (D11.out.1.below K4) (by decide) true (by simp)
  refine Calls.mono hh ?_
  rintro e u12 ⟨rfl, hb⟩
  have K12 := K4
  have K12 := Below.trans K12 (hb.mono (Below.size K12))
  clear hh hb
  refine hK.out _ _ K12 (fun _ => ?_)
  clear hK K
  try simp only [Act.put, List.setIfInBounds_toArray, List.set_cons_zero, List.set_cons_succ]
  refine wpAnyH_take (i := 13) (oi := { dst := some 40, op := _, type := _, pos := _, after := _, guard := _ }) (v := ?v9) rfl (by kernel_rfl) (by kernel_rfl) (by kernel_rfl) (fun _ _ _ h => h) (Or.inl ⟨by rfl, ?hy9⟩) K12 ?rest9
  case hy9 => (intro w hSw; (try dsimp only at hSw); first | (go_simp; done) | (go_simp; with_reducible rfl))
  try simp only [Act.put, List.setIfInBounds_toArray, List.set_cons_zero, List.set_cons_succ]
  refine wpAnyH_take (i := 14) (oi := { dst := some 41, op := _, type := _, pos := _, after := _, guard := _ }) (v := ?v10) rfl (by kernel_rfl) (by kernel_rfl) (by kernel_rfl) (fun _ _ _ h => h) (Or.inl ⟨by rfl, ?hy10⟩) K12 ?rest10
  case hy10 => (intro w hSw; (try dsimp only at hSw); first | (go_simp; done) | (go_simp; with_reducible rfl))
  try simp only [Act.put, List.setIfInBounds_toArray, List.set_cons_zero, List.set_cons_succ]
  refine wpAnyH_take (i := 15) (oi := { dst := some 42, op := _, type := _, pos := _, after := _, guard := _ }) (v := ?v11) rfl (by kernel_rfl) (by kernel_rfl) (by kernel_rfl) (fun _ _ _ h => h) (Or.inl ⟨by rfl, ?hy11⟩) K12 ?rest11
  case hy11 => (intro w hSw; (try dsimp only at hSw); first | (go_simp; done) | (go_simp; with_reducible rfl))
  try simp only [Act.put, List.setIfInBounds_toArray, List.set_cons_zero, List.set_cons_succ]
  refine wpAnyH_take (i := 16) (oi := { dst := some 43, op := _, type := _, pos := _, after := _, guard := _ }) (v := ?v12) rfl (by kernel_rfl) (by kernel_rfl) (by kernel_rfl) (fun _ _ _ h => h) (Or.inl ⟨by rfl, ?hy12⟩) K12 ?rest12
  case hy12 => (intro w hSw; (try dsimp only at hSw); first | (go_simp; done) | (go_simp; with_reducible rfl))
  try simp only [Act.put, List.setIfInBounds_toArray, List.set_cons_zero, List.set_cons_succ]
  refine wpAnyH_take (i := 17) (oi := { dst := some 44, op := _, type := _, pos := _, after := _, guard := _ }) (v := ?v13) rfl (by kernel_rfl) (by kernel_rfl) (by kernel_rfl) (fun _ _ _ h => h) (Or.inl ⟨by rfl, ?hy13⟩) K12 ?rest13
  case hy13 => (intro w hSw; (try dsimp only at hSw); first | (go_simp; done) | (go_simp; with_reducible rfl))
  try simp only [Act.put, List.setIfInBounds_toArray, List.set_cons_zero, List.set_cons_succ]
  refine wpAnyH_take (i := 18) (oi := { dst := some 45, op := _, type := _, pos := _, after := _, guard := _ }) (v := ?v14) rfl (by kernel_rfl) (by kernel_rfl) (by kernel_rfl) (fun _ _ _ h => h) (Or.inl ⟨by rfl, ?hy14⟩) K12 ?rest14
  case hy14 => (intro w hSw; (try dsimp only at hSw); first | (go_simp; done) | (go_simp; with_reducible rfl))
  try simp only [Act.put, List.setIfInBounds_toArray, List.set_cons_zero, List.set_cons_succ]
  refine wpAnyH_take (i := 19) (oi := { dst := some 46, op := _, type := _, pos := _, after := _, guard := _ }) rfl (by kernel_rfl) (by kernel_rfl) (by kernel_rfl) (fun _ _ _ h => h) (fyield_F (by rfl) (.tmp 6) rfl g0 0 awZ rfl (fun U hU => FRow.range (FRow.keep Y11.out.1 hU))) K12 ?_
  try simp only [Act.put, List.setIfInBounds_toArray, List.set_cons_zero, List.set_cons_succ]
  refine wpAnyH_ready (rs := [20]) (by kernel_rfl) (by simp) ?_
  refine AllReadyH.cons (o := { dst := some 47, op := _, type := _, pos := _, after := _, guard := _ }) rfl (fun K hK => ?_) AllReadyH.nil
  go_simp
  have hh := fchkC awZ (by decide) u12
  rw [awF_z] at hh
  refine Calls.mono hh ?_
  rintro e u20 ⟨rfl, hb⟩
  have K20 := K12
  have K20 := Below.trans K20 (hb.mono (Below.size K20))
  clear hh hb
  refine hK.out _ _ K20 (fun _ => ?_)
  clear hK K
  try simp only [Act.put, List.setIfInBounds_toArray, List.set_cons_zero, List.set_cons_succ]
  refine wpAnyH_take (i := 21) (oi := { dst := some 48, op := _, type := _, pos := _, after := _, guard := _ }) (v := ?v16) rfl (by kernel_rfl) (by kernel_rfl) (by kernel_rfl) (fun _ _ _ h => h) (Or.inl ⟨by rfl, ?hy16⟩) K20 ?rest16
  case hy16 => (intro w hSw; (try dsimp only at hSw); first | (go_simp; done) | (go_simp; with_reducible rfl))
  try simp only [Act.put, List.setIfInBounds_toArray, List.set_cons_zero, List.set_cons_succ]
  refine wpAnyH_take (i := 22) (oi := { dst := some 49, op := _, type := _, pos := _, after := _, guard := _ }) (v := ?v17) rfl (by kernel_rfl) (by kernel_rfl) (by kernel_rfl) (fun _ _ _ h => h) (Or.inl ⟨by rfl, ?hy17⟩) K20 ?rest17
  case hy17 => (intro w hSw; (try dsimp only at hSw); first | (go_simp; done) | (go_simp; with_reducible rfl))
  try simp only [Act.put, List.setIfInBounds_toArray, List.set_cons_zero, List.set_cons_succ]
  refine wpAnyH_take (i := 23) (oi := { dst := some 50, op := _, type := _, pos := _, after := _, guard := _ }) (v := ?v18) rfl (by kernel_rfl) (by kernel_rfl) (by kernel_rfl) (fun _ _ _ h => h) (Or.inl ⟨by rfl, ?hy18⟩) K20 ?rest18
  case hy18 => (intro w hSw; (try dsimp only at hSw); first | (go_simp; done) | (go_simp; with_reducible rfl))
  try simp only [Act.put, List.setIfInBounds_toArray, List.set_cons_zero, List.set_cons_succ]
  refine wpAnyH_take (i := 24) (oi := { dst := some 51, op := _, type := _, pos := _, after := _, guard := _ }) rfl (by kernel_rfl) (by kernel_rfl) (by kernel_rfl) (fun _ _ _ h => h) (fyield_F (by rfl) (.tmp 7) rfl (g0 + 1) 0 awE rfl (fun U hU => FRow.range (FRow.keep Y11.out.2 hU))) K20 ?_
  try simp only [Act.put, List.setIfInBounds_toArray, List.set_cons_zero, List.set_cons_succ]
  refine wpAnyH_ready (rs := [25]) (by kernel_rfl) (by simp) ?_
  refine AllReadyH.cons (o := { dst := some 52, op := _, type := _, pos := _, after := _, guard := _ }) rfl (fun K hK => ?_) AllReadyH.nil
  go_simp
  have hh := fchkC awE (by decide) u20
  rw [awF_e] at hh
  refine Calls.mono hh ?_
  rintro e u25 ⟨rfl, hb⟩
  have K25 := K20
  have K25 := Below.trans K25 (hb.mono (Below.size K25))
  clear hh hb
  refine hK.out _ _ K25 (fun _ => ?_)
  clear hK K
  try simp only [Act.put, List.setIfInBounds_toArray, List.set_cons_zero, List.set_cons_succ]
  refine wpAnyH_take (i := 26) (oi := { dst := some 53, op := _, type := _, pos := _, after := _, guard := _ }) (v := ?v20) rfl (by kernel_rfl) (by kernel_rfl) (by kernel_rfl) (fun _ _ _ h => h) (Or.inl ⟨by rfl, ?hy20⟩) K25 ?rest20
  case hy20 => (intro w hSw; (try dsimp only at hSw); first | (go_simp; done) | (go_simp; with_reducible rfl))
  try simp only [Act.put, List.setIfInBounds_toArray, List.set_cons_zero, List.set_cons_succ]
  refine wpAnyH_take (i := 27) (oi := { dst := some 54, op := _, type := _, pos := _, after := _, guard := _ }) (v := ?v21) rfl (by kernel_rfl) (by kernel_rfl) (by kernel_rfl) (fun _ _ _ h => h) (Or.inl ⟨by rfl, ?hy21⟩) K25 ?rest21
  case hy21 => (intro w hSw; (try dsimp only at hSw); first | (go_simp; done) | (go_simp; with_reducible rfl))
  try simp only [Act.put, List.setIfInBounds_toArray, List.set_cons_zero, List.set_cons_succ]
  refine wpAnyH_take (i := 28) (oi := { dst := some 55, op := _, type := _, pos := _, after := _, guard := _ }) (v := ?v22) rfl (by kernel_rfl) (by kernel_rfl) (by kernel_rfl) (fun _ _ _ h => h) (Or.inl ⟨by rfl, ?hy22⟩) K25 ?rest22
  case hy22 => (intro w hSw; (try dsimp only at hSw); first | (go_simp; done) | (go_simp; with_reducible rfl))
  try simp only [Act.put, List.setIfInBounds_toArray, List.set_cons_zero, List.set_cons_succ]
  refine wpAnyH_take (i := 29) (oi := { dst := some 56, op := _, type := _, pos := _, after := _, guard := _ }) (v := ?v23) rfl (by kernel_rfl) (by kernel_rfl) (by kernel_rfl) (fun _ _ _ h => h) (Or.inl ⟨by rfl, ?hy23⟩) K25 ?rest23
  case hy23 => (intro w hSw; (try dsimp only at hSw); first | (go_simp; done) | (go_simp; with_reducible rfl))
  try simp only [Act.put, List.setIfInBounds_toArray, List.set_cons_zero, List.set_cons_succ]
  refine wpAnyH_ready (rs := [30]) (by kernel_rfl) (by simp) ?_
  refine AllReadyH.cons (o := { dst := some 57, op := _, type := _, pos := _, after := _, guard := _ }) rfl (fun K hK => ?_) AllReadyH.nil
  go_simp
  have hh := fchkC awO (by decide) u25
  rw [awF_o] at hh
  refine Calls.mono hh ?_
  rintro e u30 ⟨rfl, hb⟩
  have K30 := K25
  have K30 := Below.trans K30 (hb.mono (Below.size K30))
  clear hh hb
  refine hK.out _ _ K30 (fun _ => ?_)
  clear hK K
  try simp only [Act.put, List.setIfInBounds_toArray, List.set_cons_zero, List.set_cons_succ]
  refine wpAnyH_take (i := 31) (oi := { dst := some 58, op := _, type := _, pos := _, after := _, guard := _ }) (v := ?v24) rfl (by kernel_rfl) (by kernel_rfl) (by kernel_rfl) (fun _ _ _ h => h) (Or.inl ⟨by rfl, ?hy24⟩) K30 ?rest24
  case hy24 => (intro w hSw; (try dsimp only at hSw); first | (go_simp; done) | (go_simp; with_reducible rfl))
  try simp only [Act.put, List.setIfInBounds_toArray, List.set_cons_zero, List.set_cons_succ]
  refine wpAnyH_take (i := 32) (oi := { dst := some 59, op := _, type := _, pos := _, after := _, guard := _ }) (v := ?v25) rfl (by kernel_rfl) (by kernel_rfl) (by kernel_rfl) (fun _ _ _ h => h) (Or.inl ⟨by rfl, ?hy25⟩) K30 ?rest25
  case hy25 => (intro w hSw; (try dsimp only at hSw); first | (go_simp; done) | (go_simp; with_reducible rfl))
  try simp only [Act.put, List.setIfInBounds_toArray, List.set_cons_zero, List.set_cons_succ]
  refine wpAnyH_take (i := 33) (oi := { dst := some 60, op := _, type := _, pos := _, after := _, guard := _ }) (v := ?v26) rfl (by kernel_rfl) (by kernel_rfl) (by kernel_rfl) (fun _ _ _ h => h) (Or.inl ⟨by rfl, ?hy26⟩) K30 ?rest26
  case hy26 => (intro w hSw; (try dsimp only at hSw); first | (go_simp; done) | (go_simp; with_reducible rfl))
  try simp only [Act.put, List.setIfInBounds_toArray, List.set_cons_zero, List.set_cons_succ]
  refine wpAnyH_take (i := 34) (oi := { dst := some 61, op := _, type := _, pos := _, after := _, guard := _ }) (v := ?v27) rfl (by kernel_rfl) (by kernel_rfl) (by kernel_rfl) (fun _ _ _ h => h) (Or.inl ⟨by rfl, ?hy27⟩) K30 ?rest27
  case hy27 => (intro w hSw; (try dsimp only at hSw); first | (go_simp; done) | (go_simp; with_reducible rfl))
  try simp only [Act.put, List.setIfInBounds_toArray, List.set_cons_zero, List.set_cons_succ]
  refine wpAnyH_take (i := 35) (oi := { dst := some 62, op := _, type := _, pos := _, after := _, guard := _ }) (v := ?v28) rfl (by kernel_rfl) (by kernel_rfl) (by kernel_rfl) (fun _ _ _ h => h) (Or.inl ⟨by rfl, ?hy28⟩) K30 ?rest28
  case hy28 => (intro w hSw; (try dsimp only at hSw); first | (go_simp; done) | (go_simp; with_reducible rfl))
  try simp only [Act.put, List.setIfInBounds_toArray, List.set_cons_zero, List.set_cons_succ]
  refine wpAnyH_take (i := 36) (oi := { dst := some 63, op := _, type := _, pos := _, after := _, guard := _ }) rfl (by kernel_rfl) (by kernel_rfl) (by kernel_rfl) (fun _ _ _ h => h) (fyield_F (by rfl) (.tmp 62) rfl b1 of1 awY rfl (fun U hU => by have h := range_below RR.out.2.1 hU RR.out.1; rwa [Nat.zero_mul, Nat.add_zero] at h)) K30 ?_
  try simp only [Act.put, List.setIfInBounds_toArray, List.set_cons_zero, List.set_cons_succ]
  refine wpAnyH_take (i := 37) (oi := { dst := some 64, op := _, type := _, pos := _, after := _, guard := _ }) (v := ?v30) rfl (by kernel_rfl) (by kernel_rfl) (by kernel_rfl) (fun _ _ _ h => h) (Or.inl ⟨by rfl, ?hy30⟩) K30 ?rest30
  case hy30 => (intro w hSw; (try dsimp only at hSw); first | (go_simp; done) | (go_simp; with_reducible rfl))
  try simp only [Act.put, List.setIfInBounds_toArray, List.set_cons_zero, List.set_cons_succ]
  refine wpAnyH_take (i := 38) (oi := { dst := some 65, op := _, type := _, pos := _, after := _, guard := _ }) (v := ?v31) rfl (by kernel_rfl) (by kernel_rfl) (by kernel_rfl) (fun _ _ _ h => h) (Or.inl ⟨by rfl, ?hy31⟩) K30 ?rest31
  case hy31 => (intro w hSw; (try dsimp only at hSw); first | (go_simp; done) | (go_simp; with_reducible rfl))
  try simp only [Act.put, List.setIfInBounds_toArray, List.set_cons_zero, List.set_cons_succ]
  refine wpAnyH_take (i := 39) (oi := { dst := some 66, op := _, type := _, pos := _, after := _, guard := _ }) rfl (by kernel_rfl) (by kernel_rfl) (by kernel_rfl) (fun _ _ _ h => h) (fyield_F (by rfl) (.tmp 65) rfl b1 (of1 + 8) awX rfl (fun U hU => by have h := range_below RR.out.2.2 hU RR.out.1; rwa [Nat.one_mul] at h)) K30 ?_
  try simp only [Act.put, List.setIfInBounds_toArray, List.set_cons_zero, List.set_cons_succ]
  refine wpAnyH_ready (rs := [40]) (by kernel_rfl) (by simp) ?_
  refine AllReadyH.cons (o := { dst := some 67, op := _, type := _, pos := _, after := _, guard := _ }) rfl (fun K hK => ?_) AllReadyH.nil
  go_simp
  have hh := lessFC awY awX u30
  rw [awF_lt] at hh
  refine Calls.mono hh ?_
  rintro e u40 ⟨rfl, hb⟩
  have K40 := K30
  have K40 := Below.trans K40 (hb.mono (Below.size K40))
  clear hh hb
  refine hK.out _ _ K40 (fun _ => ?_)
  clear hK K
  try simp only [Act.put, List.setIfInBounds_toArray, List.set_cons_zero, List.set_cons_succ]
  refine wpAnyH_take (i := 41) (oi := { dst := some 68, op := _, type := _, pos := _, after := _, guard := _ }) (v := ?v33) rfl (by kernel_rfl) (by kernel_rfl) (by kernel_rfl) (fun _ _ _ h => h) (Or.inl ⟨by rfl, ?hy33⟩) K40 ?rest33
  case hy33 => (intro w hSw; (try dsimp only at hSw); first | (go_simp; done) | (go_simp; with_reducible rfl))
  try simp only [Act.put, List.setIfInBounds_toArray, List.set_cons_zero, List.set_cons_succ]
  refine wpAnyH_take (i := 42) (oi := { dst := some 0, op := _, type := _, pos := _, after := _, guard := _ }) (v := ?v34) rfl (by kernel_rfl) (by kernel_rfl) (by kernel_rfl) (fun _ _ _ h => h) (Or.inl ⟨by rfl, ?hy34⟩) K40 ?rest34
  case hy34 => (intro w hSw; (try dsimp only at hSw); first | (go_simp; done) | (go_simp; with_reducible rfl))
  try simp only [Act.put, List.setIfInBounds_toArray, List.set_cons_zero, List.set_cons_succ]
  refine wpAnyH_done (by kernel_rfl) ?_ _
  try simp only [Act.put, List.setIfInBounds_toArray, List.set_cons_zero, List.set_cons_succ]
  have HK := Lib.hid (B11.out.trans (Below.mono K40 B11.out.size))
  clear K40
  go_wp2_with fail
  go_ret
  exact ⟨rfl, HK.out⟩
end Go.Proofs.YtlcjiodbdopcdabGreat
