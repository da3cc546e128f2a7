/-
  almonrylaw14: awake.
-/
import Derived.Test.YtfmeoblbknhjpaaStampSeenR
import Derived.Deep.Cut
import Derived.Deep.DeepCutAuto
import Derived.Lib.QuietBelow
namespace Go.Proofs.Ytfmeoblbknhjpaa
open Go.RowKit
set_option maxRecDepth 100000

theorem SRow.three {w : World} {b : Nat} {d : St} (h : SRow w b d) : w.cell? ⟨b, 0, none⟩ = some (.int .i64 d.t) ∧ w.cell? ⟨b, 1, none⟩ = some (.int .i64 d.c) ∧ w.cell? ⟨b, 2, none⟩ = some (.int .i64 d.r) := ⟨h.cell 0 _ rfl, h.cell 1 _ rfl, h.cell 2 _ rfl⟩
theorem eqlSb {a b : St} {t : Bool} (h : decide (a = b) = t) (W : World) : (binOp .eql 23 (.agg #[.int .i64 a.t, .int .i64 a.c, .int .i64 a.r]) (.agg #[.int .i64 b.t, .int .i64 b.c, .int .i64 b.r])).run Try.prog W = .ok (.bool t) W := by rw [eqlS, h]
theorem nextAt {l : St} {now r : Int} {x : St} {e : Int} (h : nextS l now r = (x, e)) (W : World) : Calls Try.prog 6 #[.agg #[.int .i64 l.t, .int .i64 l.c, .int .i64 l.r], .int .i64 now, .int .i64 r] W fun z w' => z = .returned (.tuple #[.agg #[.int .i64 x.t, .int .i64 x.c, .int .i64 x.r], .int .i64 e]) ∧ Below W.heap.size W w' := by
  have k := nextC l now r W
  rw [h] at k
  exact k
theorem seenAt {l o : St} {now : Int} {x : St} {e : Int} (h : seenS l o now = (x, e)) (W : World) : Calls Try.prog 8 #[.agg #[.int .i64 l.t, .int .i64 l.c, .int .i64 l.r], .agg #[.int .i64 o.t, .int .i64 o.c, .int .i64 o.r], .int .i64 now] W fun z w' => z = .returned (.tuple #[.agg #[.int .i64 x.t, .int .i64 x.c, .int .i64 x.r], .int .i64 e]) ∧ Below W.heap.size W w' := by
  have k := seenC l o now W
  rw [h] at k
  exact k
theorem lessAt {a b : St} {t : Bool} (h : ltS a b = t) (W : World) : Calls Try.prog 12 #[.agg #[.int .i64 a.t, .int .i64 a.c, .int .i64 a.r], .agg #[.int .i64 b.t, .int .i64 b.c, .int .i64 b.r]] W fun z w' => z = .returned (.bool t) ∧ Below W.heap.size W w' := by
  have k := lessC a b W
  rw [h] at k
  exact k

set_option maxHeartbeats 4000000 in
theorem stampAwake (w : World) : Calls Try.prog 14 #[] w fun e w' => e = .returned (.bool true) ∧ Below w.heap.size w w' := by
  have q1 := fun W => eqlSb (a := ⟨5, 4, 2⟩) (b := ⟨5, 4, 2⟩) (t := true) (by decide) W
  have q2 := fun W => eqlSb (a := ⟨6, 0, 2⟩) (b := ⟨6, 0, 2⟩) (t := true) (by decide) W
  have q3 := fun W => eqlSb (a := ⟨7, 9, 2⟩) (b := ⟨7, 9, 2⟩) (t := true) (by decide) W
  simp only at q1 q2 q3
  go_enter Try.func14, Try.ntmps14
  go_upto_region 2 with fail
  have hb0 := boxS_below w ⟨5, 3, 2⟩
  have hr0 := SRow.new w ⟨5, 3, 2⟩
  change Code.wp _ _ _ _ (boxS w ⟨5, 3, 2⟩)
  generalize boxS w ⟨5, 3, 2⟩ = v0 at hb0 hr0 ⊢
  have HB0 := Lib.hid hb0
  have HR0 := Lib.hid hr0
  clear hb0 hr0
  obtain ⟨c00, c01, c02⟩ := (HR0.out).three
  simp only at c00 c01 c02
  go_wp2_with fail
  refine (nextAt (l := ⟨5, 3, 2⟩) (now := 4) (r := 2) (x := ⟨5, 4, 2⟩) (e := 0) (by decide +kernel) _).mono ?_
  rintro e w1 ⟨rfl, hb⟩
  clear c00 c01 c02
  go_upto_region 3 with fail
  have hb1 := belowMore (HB0.out.trans (hb.mono HB0.out.size)) (.cells #[.int .i64 (⟨5, 4, 2⟩ : St).t, .int .i64 (⟨5, 4, 2⟩ : St).c, .int .i64 (⟨5, 4, 2⟩ : St).r] 23)
  have hr1 : SRow (boxS w1 ⟨5, 4, 2⟩) w.heap.size ⟨5, 3, 2⟩ ∧ SRow (boxS w1 ⟨5, 4, 2⟩) w1.heap.size ⟨5, 4, 2⟩ := ⟨((HR0.out).keep hb).alloc _, SRow.new w1 ⟨5, 4, 2⟩⟩
  change Code.wp _ _ _ _ (boxS w1 ⟨5, 4, 2⟩)
  change Below w.heap.size w (boxS w1 ⟨5, 4, 2⟩) at hb1
  generalize boxS w1 ⟨5, 4, 2⟩ = v1 at hb1 hr1 ⊢
  generalize w1.heap.size = g1 at *
  have HB1 := Lib.hid hb1
  have HR1 := Lib.hid hr1
  clear hb hb1 hr1 HB0 HR0
  obtain ⟨c00, c01, c02⟩ := (HR1.out.1).three
  simp only at c00 c01 c02
  go_wp2_with fail
  refine (nextAt (l := ⟨5, 3, 2⟩) (now := 6) (r := 2) (x := ⟨6, 0, 2⟩) (e := 0) (by decide +kernel) _).mono ?_
  rintro e w1 ⟨rfl, hb⟩
  clear c00 c01 c02
  go_upto_region 4 with fail
  have hb1 := belowMore (HB1.out.trans (hb.mono HB1.out.size)) (.cells #[.int .i64 (⟨6, 0, 2⟩ : St).t, .int .i64 (⟨6, 0, 2⟩ : St).c, .int .i64 (⟨6, 0, 2⟩ : St).r] 23)
  have hr1 : SRow (boxS w1 ⟨6, 0, 2⟩) w.heap.size ⟨5, 3, 2⟩ ∧ SRow (boxS w1 ⟨6, 0, 2⟩) g1 ⟨5, 4, 2⟩ ∧ SRow (boxS w1 ⟨6, 0, 2⟩) w1.heap.size ⟨6, 0, 2⟩ := ⟨((HR1.out.1).keep hb).alloc _, ((HR1.out.2).keep hb).alloc _, SRow.new w1 ⟨6, 0, 2⟩⟩
  change Code.wp _ _ _ _ (boxS w1 ⟨6, 0, 2⟩)
  change Below w.heap.size w (boxS w1 ⟨6, 0, 2⟩) at hb1
  generalize boxS w1 ⟨6, 0, 2⟩ = v2 at hb1 hr1 ⊢
  generalize w1.heap.size = g2 at *
  have HB2 := Lib.hid hb1
  have HR2 := Lib.hid hr1
  clear hb hb1 hr1 HB1 HR1
  go_wp2_with fail
  refine (nextAt (l := ⟨5, 1099511627776, 0⟩) (now := 5) (r := 0) (x := ⟨0, 0, 0⟩) (e := 13) (by decide +kernel) _).mono ?_
  rintro e w1 ⟨rfl, hb⟩
  go_upto_region 5 with fail
  have hb1 := belowMore (HB2.out.trans (hb.mono HB2.out.size)) (.cells #[.int .i64 (⟨0, 0, 0⟩ : St).t, .int .i64 (⟨0, 0, 0⟩ : St).c, .int .i64 (⟨0, 0, 0⟩ : St).r] 23)
  have hr1 : SRow (boxS w1 ⟨0, 0, 0⟩) w.heap.size ⟨5, 3, 2⟩ ∧ SRow (boxS w1 ⟨0, 0, 0⟩) g1 ⟨5, 4, 2⟩ ∧ SRow (boxS w1 ⟨0, 0, 0⟩) g2 ⟨6, 0, 2⟩ ∧ SRow (boxS w1 ⟨0, 0, 0⟩) w1.heap.size ⟨0, 0, 0⟩ := ⟨((HR2.out.1).keep hb).alloc _, ((HR2.out.2.1).keep hb).alloc _, ((HR2.out.2.2).keep hb).alloc _, SRow.new w1 ⟨0, 0, 0⟩⟩
  change Code.wp _ _ _ _ (boxS w1 ⟨0, 0, 0⟩)
  change Below w.heap.size w (boxS w1 ⟨0, 0, 0⟩) at hb1
  generalize boxS w1 ⟨0, 0, 0⟩ = v3 at hb1 hr1 ⊢
  generalize w1.heap.size = g3 at *
  have HB3 := Lib.hid hb1
  have HR3 := Lib.hid hr1
  clear hb hb1 hr1 HB2 HR2
  obtain ⟨c00, c01, c02⟩ := (HR3.out.1).three
  simp only at c00 c01 c02
  go_wp2_with fail
  refine (seenAt (l := ⟨5, 3, 2⟩) (o := ⟨7, 9, 1⟩) (now := 6) (x := ⟨7, 9, 2⟩) (e := 0) (by decide +kernel) _).mono ?_
  rintro e w1 ⟨rfl, hb⟩
  clear c00 c01 c02
  go_upto_region 6 with fail
  have hb1 := belowMore (HB3.out.trans (hb.mono HB3.out.size)) (.cells #[.int .i64 (⟨7, 9, 2⟩ : St).t, .int .i64 (⟨7, 9, 2⟩ : St).c, .int .i64 (⟨7, 9, 2⟩ : St).r] 23)
  have hr1 : SRow (boxS w1 ⟨7, 9, 2⟩) w.heap.size ⟨5, 3, 2⟩ ∧ SRow (boxS w1 ⟨7, 9, 2⟩) g1 ⟨5, 4, 2⟩ ∧ SRow (boxS w1 ⟨7, 9, 2⟩) g2 ⟨6, 0, 2⟩ ∧ SRow (boxS w1 ⟨7, 9, 2⟩) g3 ⟨0, 0, 0⟩ ∧ SRow (boxS w1 ⟨7, 9, 2⟩) w1.heap.size ⟨7, 9, 2⟩ := ⟨((HR3.out.1).keep hb).alloc _, ((HR3.out.2.1).keep hb).alloc _, ((HR3.out.2.2.1).keep hb).alloc _, ((HR3.out.2.2.2).keep hb).alloc _, SRow.new w1 ⟨7, 9, 2⟩⟩
  change Code.wp _ _ _ _ (boxS w1 ⟨7, 9, 2⟩)
  change Below w.heap.size w (boxS w1 ⟨7, 9, 2⟩) at hb1
  generalize boxS w1 ⟨7, 9, 2⟩ = v4 at hb1 hr1 ⊢
  generalize w1.heap.size = g4 at *
  have HB4 := Lib.hid hb1
  have HR4 := Lib.hid hr1
  clear hb hb1 hr1 HB3 HR3
  obtain ⟨c00, c01, c02⟩ := (HR4.out.1).three
  simp only at c00 c01 c02
  go_wp2_with fail
  refine (nextAt (l := ⟨5, 3, 2⟩) (now := -1) (r := 0) (x := ⟨0, 0, 0⟩) (e := 2) (by decide +kernel) _).mono ?_
  rintro e w1 ⟨rfl, hb⟩
  clear c00 c01 c02
  go_upto_region 7 with fail
  have hb1 := belowMore (HB4.out.trans (hb.mono HB4.out.size)) (.cells #[.int .i64 (⟨0, 0, 0⟩ : St).t, .int .i64 (⟨0, 0, 0⟩ : St).c, .int .i64 (⟨0, 0, 0⟩ : St).r] 23)
  have hr1 : SRow (boxS w1 ⟨0, 0, 0⟩) w.heap.size ⟨5, 3, 2⟩ ∧ SRow (boxS w1 ⟨0, 0, 0⟩) g1 ⟨5, 4, 2⟩ ∧ SRow (boxS w1 ⟨0, 0, 0⟩) g2 ⟨6, 0, 2⟩ ∧ SRow (boxS w1 ⟨0, 0, 0⟩) g3 ⟨0, 0, 0⟩ ∧ SRow (boxS w1 ⟨0, 0, 0⟩) g4 ⟨7, 9, 2⟩ ∧ SRow (boxS w1 ⟨0, 0, 0⟩) w1.heap.size ⟨0, 0, 0⟩ := ⟨((HR4.out.1).keep hb).alloc _, ((HR4.out.2.1).keep hb).alloc _, ((HR4.out.2.2.1).keep hb).alloc _, ((HR4.out.2.2.2.1).keep hb).alloc _, ((HR4.out.2.2.2.2).keep hb).alloc _, SRow.new w1 ⟨0, 0, 0⟩⟩
  change Code.wp _ _ _ _ (boxS w1 ⟨0, 0, 0⟩)
  change Below w.heap.size w (boxS w1 ⟨0, 0, 0⟩) at hb1
  generalize boxS w1 ⟨0, 0, 0⟩ = v5 at hb1 hr1 ⊢
  generalize w1.heap.size = g5 at *
  have HB5 := Lib.hid hb1
  have HR5 := Lib.hid hr1
  clear hb hb1 hr1 HB4 HR4
  obtain ⟨c00, c01, c02⟩ := (HR5.out.1).three
  obtain ⟨c10, c11, c12⟩ := (HR5.out.2.1).three
  obtain ⟨c20, c21, c22⟩ := (HR5.out.2.2.1).three
  obtain ⟨c40, c41, c42⟩ := (HR5.out.2.2.2.2.1).three
  simp only at c00 c01 c02 c10 c11 c12 c20 c21 c22 c40 c41 c42
  go_wp2_with fail
  refine (lessAt (a := ⟨5, 3, 2⟩) (b := ⟨5, 4, 2⟩) (t := true) (by decide +kernel) _).mono ?_
  rintro e w1 ⟨rfl, hb⟩
  have HB6 := Lib.hid (HB5.out.trans (hb.mono HB5.out.size))
  clear hb
  go_wp2_with fail
  go_ret
  exact ⟨rfl, HB6.out⟩
end Go.Proofs.Ytfmeoblbknhjpaa