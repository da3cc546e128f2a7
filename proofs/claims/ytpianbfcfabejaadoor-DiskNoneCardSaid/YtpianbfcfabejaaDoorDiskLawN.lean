/-
  DiskNone's walk.
-/
import Derived.Test.YtpianbfcfabejaaDoorDiskKit
namespace Go.Proofs.YtpianbfcfabejaaDoor
open Go.RowKit

theorem used_nil (w : World) : Calls Tryd.prog 25 #[.pointer none] w fun e w' => e = .returned (.int .i64 0) ∧ w = w' := by
  go_enter Tryd.func25, Tryd.ntmps25
  go_wp2
  go_ret
  exact ⟨rfl, rfl⟩

set_option maxHeartbeats 4000000 in
set_option maxRecDepth 100000 in
theorem none_law (x : Dd) (a : Addr) (w : World) (hp : Pow a w) :
    Calls Tryd.prog 5 #[.agg #[.int .i64 x.kind, .string x.name, .string x.body, .string x.dest, .int .i64 x.n]] w fun e w' => e = .returned (.bool true) ∧ Below w.heap.size w w' := by
  obtain ⟨k, nm, bd, ds, n⟩ := x
  simp only
  have HP := Lib.hid hp
  clear hp
  go_enter Tryd.func5, Tryd.ntmps5
  go_wp2_with fail
  refine (read_nil _ _).mono ?_
  rintro e w1 ⟨rfl, rfl⟩
  go_wp2_with fail
  refine (fuse_nil _ _).mono ?_
  rintro e w1 ⟨rfl, rfl⟩
  go_wp2_with fail
  refine (crash_nil _ _).mono ?_
  rintro e w1 ⟨rfl, rfl⟩
  go_wp2_with fail
  have keep : ∀ w', Below (w.heap.size + 1) (w.alloc (.cells #[.int .i64 k, .string nm, .string bd, .string ds, .int .i64 n] 34)) w' → w'.cell? ⟨w.heap.size, 1, none⟩ = some (.string nm) ∧ w'.cell? ⟨w.heap.size, 2, none⟩ = some (.string bd) ∧ w'.cell? ⟨w.heap.size, 3, none⟩ = some (.string ds) := fun w' hb => by
    refine ⟨?_, ?_, ?_⟩
    all_goals rw [hb.cell (by simp)]; simp [go_sem]
  have KEEP := Lib.hid keep
  clear keep
  refine (append_nil nm bd _).mono ?_
  rintro e w1 ⟨rfl, hb⟩
  have B1 := Lib.hid (show Below (w.heap.size + 1) (w.alloc (.cells #[.int .i64 k, .string nm, .string bd, .string ds, .int .i64 n] 34)) w1 from by simpa using hb)
  obtain ⟨c1, c2, c3⟩ := KEEP.out w1 B1.out
  clear hb
  go_wp2_with fail
  refine (sync_nil nm _).mono ?_
  rintro e w2 ⟨rfl, hb⟩
  have B2 := Lib.hid (B1.out.trans (hb.mono (by have := B1.out.size; simp at this; omega)))
  clear hb c1 c2 c3
  obtain ⟨c1, c2, c3⟩ := KEEP.out w2 B2.out
  go_wp2_with fail
  refine (rename_nil nm ds _).mono ?_
  rintro e w3 ⟨rfl, hb⟩
  have B3 := Lib.hid (B2.out.trans (hb.mono (by have := B2.out.size; simp at this; omega)))
  clear hb c1 c2 c3
  obtain ⟨c1, c2, c3⟩ := KEEP.out w3 B3.out
  go_wp2_with fail
  refine (remove_nil nm _).mono ?_
  rintro e w4 ⟨rfl, hb⟩
  have B4 := Lib.hid (B3.out.trans (hb.mono (by have := B3.out.size; simp at this; omega)))
  clear hb c1 c2 c3
  go_wp2_with fail
  refine (list_nil _ _).mono ?_
  rintro e w5 ⟨rfl, rfl⟩
  go_wp2_with fail
  refine (off_nil _).mono ?_
  rintro e w5 ⟨rfl, rfl⟩
  go_wp2_with fail
  refine (used_nil _).mono ?_
  rintro e w5 ⟨rfl, rfl⟩
  go_wp2_with fail
  refine (copy_nil _).mono ?_
  rintro e w5 ⟨rfl, rfl⟩
  go_wp2_with fail
  refine (diskAwake a w4 ?_).mono ?_
  · exact (HP.out.below (Joins.below_alloc1 w _) HP.out.lt).below B4.out (by have := HP.out.lt; omega)
  rintro e w5 ⟨rfl, hb⟩
  have B5 := Lib.hid (B4.out.trans (hb.mono (by have := B4.out.size; simp at this; omega)))
  clear hb
  go_wp2_with fail
  go_ret
  exact ⟨rfl, (Joins.below_alloc1 w _).trans (B5.out.mono (by omega))⟩

theorem none_row (x : Dd) (w : World) (_h : x.ok) (hL : laidMetH Tryd.prog Rows.diskNoneRow.laid w) :
    Calls Tryd.prog 5 #[.agg #[.int .i64 x.kind, .string x.name, .string x.body, .string x.dest, .int .i64 x.n]] w fun e w' => e = .returned (.bool true) ∧ Below w.heap.size w w' := by
  obtain ⟨a, hp⟩ := pow_of hL (by kernel_rfl)
  exact none_law x a w hp
end Go.Proofs.YtpianbfcfabejaaDoor
