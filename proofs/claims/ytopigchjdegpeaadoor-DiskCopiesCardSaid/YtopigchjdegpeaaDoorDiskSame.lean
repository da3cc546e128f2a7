/-
  almonrylaw06: Same.
-/
import Derived.Test.YtopigchjdegpeaaDoorDiskDo2
namespace Go.Proofs.YtopigchjdegpeaaDoor
open Go.RowKit

set_option maxHeartbeats 8000000 in
set_option maxRecDepth 100000 in
theorem same_any {a : Addr} {w0 : World} {D : Nat} {s : DS} {bl : List Nat} {w : World} (h : AW a w0 D s bl w) (p : Option Addr) (c : Nat) (hrow : RRow w p s.l) :
    Calls Tryd.prog 11 #[.pointer (some ⟨D, 0, none⟩), rv s p c] w fun e w' => e = .returned (.bool true) ∧ Below w.heap.size w w' := by
  have hfit := h.disk.fit
  have hrv : rv s p c = .agg #[.int .i64 (s.room : Int), .slice p s.l.length c, .bool s.off, .int .i64 (fz s)] := rfl
  have hb1 := Joins.below_alloc1 w (.cells #[.int .i64 (s.room : Int), .slice p s.l.length c, .bool s.off, .int .i64 (fz s)] 30)
  obtain ⟨W1, hW1⟩ : ∃ W1, w.alloc (.cells #[.int .i64 (s.room : Int), .slice p s.l.length c, .bool s.off, .int .i64 (fz s)] 30) = W1 := ⟨_, rfl⟩
  have hbox := heap_alloc_new w (.cells #[.int .i64 (s.room : Int), .slice p s.l.length c, .bool s.off, .int .i64 (fz s)] 30)
  rw [hW1] at hb1 hbox
  have HA := Lib.hid (h.keep hb1)
  have hrow1 := hrow.below hb1
  have HRU := Lib.hid (fun (V : World) (hb : Below W1.heap.size W1 V) => hrv ▸ refUsed_any s p c V (hrow1.below hb) hfit.len (Nat.le_trans hfit.total hfit.room))
  have HRL := Lib.hid (fun (V : World) (hb : Below W1.heap.size W1 V) => hrv ▸ refList_any s hfit ⟨#[]⟩ p c V (hrow1.below hb))
  have hlt : w.heap.size < W1.heap.size := lt_of_block hbox
  have HS := Lib.hid (fun (V : World) (hb : Below W1.heap.size W1 V) => (⟨by rw [hb.cell hlt, Joins.cell_of_block hbox]; rfl, by rw [hb.cell hlt, Joins.cell_of_block hbox]; rfl, by rw [hb.cell hlt, Joins.cell_of_block hbox]; rfl, by rw [hb.cell hlt, Joins.cell_of_block hbox]; rfl⟩ :
    V.cell? ⟨w.heap.size, 0, none⟩ = some (.int .i64 (s.room : Int)) ∧ V.cell? ⟨w.heap.size, 1, none⟩ = some (.slice p s.l.length c) ∧ V.cell? ⟨w.heap.size, 2, none⟩ = some (.bool s.off) ∧ V.cell? ⟨w.heap.size, 3, none⟩ = some (.int .i64 (fz s))))
  have HB1 := Lib.hid hb1
  have hml : (listD s ⟨#[]⟩).length ≤ maxLen := by
    unfold listD maxLen
    split
    · simp
    · have := List.length_filter_le (hasP ⟨#[]⟩) (s.l.map (·.name)); rw [List.length_map] at this; have := hfit.len; omega
  have HML := Lib.hid hml
  have e0 : (s.off == s.off) = true := by simp
  have e1 : ((stotal s.l : Int) == (stotal s.l : Int)) = true := by simp
  rw [hrv]
  clear h hrow hrow1 hb1 hbox hfit hrv hml
  go_enter Tryd.func11, Tryd.ntmps11
  go_wp2_with fail
  try rw [hW1]
  have hbc : Below W1.heap.size W1 W1.drew := (Below.refl _ _).drew
  obtain ⟨x0, x1, x2, x3⟩ := HS.out W1 (Below.refl _ _)
  go_region_held3 (fun V => V.cell? ⟨w.heap.size, 0, none⟩ = some (.int .i64 (s.room : Int)) ∧ V.cell? ⟨w.heap.size, 1, none⟩ = some (.slice p s.l.length c) ∧ V.cell? ⟨w.heap.size, 2, none⟩ = some (.bool s.off) ∧ V.cell? ⟨w.heap.size, 3, none⟩ = some (.int .i64 (fz s))) (first | exact HS.out _ hbc | go_keep)
    (first
     | ((with_reducible refine (aOff (HA.out.keep hbc) _ rfl).mono ?_); rintro e w6 ⟨rfl, rfl⟩)
     | ((with_reducible refine (aUsed (HA.out.keep hbc) _ rfl).mono ?_); rintro e w6 ⟨rfl, hb6⟩; have hbc := hbc.trans (hb6.mono hbc.size); clear hb6)
     | ((with_reducible refine (HRU.out _ hbc).mono ?_); rintro e w6 ⟨rfl, hb6⟩; have hbc := hbc.trans (hb6.mono hbc.size); clear hb6)
     | ((with_reducible refine (dList (HA.out.keep hbc).disk ⟨#[]⟩).mono ?_); rintro e w6 ⟨v6, rfl, ho6, hb6⟩; have hbc := hbc.trans (hb6.mono hbc.size); clear hb6; obtain ⟨p6, c6, rfl, hr6⟩ := ho6.row; clear ho6)
     | ((with_reducible refine (HRL.out _ hbc).mono ?_); rintro e w7 ⟨v7, rfl, ho7, hb7⟩; have hbc := hbc.trans (hb7.mono hbc.size); have hr6 := hr6.below hb7; clear hb7; obtain ⟨p7, c7, rfl, hr7⟩ := ho7.row; clear ho7)
     | ((with_reducible refine (texts_any _ _ _ _ (listD s ⟨#[]⟩) (listD s ⟨#[]⟩) _ hr6 hr7 HML.out HML.out).mono ?_); rintro e w8 ⟨rfl, nq, rfl⟩; rw [show decide (listD s ⟨#[]⟩ = listD s ⟨#[]⟩) = true by simp]; have hbc := hbc.trans (Joins.below_draws _ _ nq))
     | fail)
  all_goals
    have HBC := Lib.hid (HB1.out.trans (hbc.mono HB1.out.size))
    clear hbc hr6 hr7
    go_wp2_with fail
    go_ret
    exact ⟨rfl, HBC.out⟩
end Go.Proofs.YtopigchjdegpeaaDoor
