/-
  almonrylaw17: awake.
-/
import Derived.Test.YtpcelgmcbfjmbaaRegAt
namespace Go.Proofs.Ytpcelgmcbfjmbaa
set_option linter.unusedSimpArgs false
set_option linter.unusedVariables false
set_option maxRecDepth 100000
open Go.RowKit Go.Sort

set_option maxHeartbeats 8000000 in
theorem regAwake (w : World) : Calls Try.prog 7 #[] w fun e w' => e = .returned (.bool true) ∧ Go.RowKit.Below w.heap.size w w' := by
  have O1 := Lib.hid (show ∀ W, Calls Try.prog 19 #[.int .i64 3, .int .i64 3, .string ⟨#[98]⟩] W fun e w' => e = .returned (.agg (fcs wB3).toArray) ∧ Go.RowKit.Below W.heap.size W w' from fun W => atC 3 3 ⟨#[98]⟩ W)
  have O2 := Lib.hid (show ∀ W, Calls Try.prog 19 #[.int .i64 1, .int .i64 3, .string ⟨#[97]⟩] W fun e w' => e = .returned (.agg (fcs wA1).toArray) ∧ Go.RowKit.Below W.heap.size W w' from fun W => atC 1 3 ⟨#[97]⟩ W)
  have O3 := Lib.hid (show ∀ W, Calls Try.prog 19 #[.int .i64 2, .int .i64 3, .string ⟨#[98]⟩] W fun e w' => e = .returned (.agg (fcs wB2).toArray) ∧ Go.RowKit.Below W.heap.size W w' from fun W => atC 2 3 ⟨#[98]⟩ W)
  have O4 := Lib.hid (show ∀ W, Calls Try.prog 19 #[.int .i64 9, .int .i64 2, .string ⟨#[122]⟩] W fun e w' => e = .returned (.agg (fcs wZ9).toArray) ∧ Go.RowKit.Below W.heap.size W w' from fun W => atC 9 2 ⟨#[122]⟩ W)
  go_enter Try.func7, Try.ntmps7
  go_wp2_with fail
  refine (O1.out _).mono ?_
  rintro e w1 ⟨rfl, h1⟩
  have B1 := Lib.hid h1
  clear h1
  go_wp2_with fail
  refine (O2.out _).mono ?_
  rintro e w2 ⟨rfl, h2⟩
  have B2 := Lib.hid (B1.out.trans (h2.mono B1.out.size))
  clear h2 B1
  go_wp2_with fail
  refine (O3.out _).mono ?_
  rintro e w3 ⟨rfl, h3⟩
  have B3 := Lib.hid (B2.out.trans (h3.mono B2.out.size))
  clear h3 B2
  go_wp2_with fail
  refine (O4.out _).mono ?_
  rintro e w4 ⟨rfl, h4⟩
  have B4 := Lib.hid (B3.out.trans (h4.mono B3.out.size))
  have D4 := Lib.hid (show FIn (w4.alloc (.cells (rowF wL).toArray 39)) (some ⟨w4.heap.size, 0, none⟩) wL from fin_cells w4 wL)
  clear h4 B3
  go_wp2_with ((with_reducible refine wpList_build4F ?_ (.tmp 7) (.tmp 8) (.tmp 9) (.tmp 10) ?_ wB3 wA1 wB2 wZ9 ?_ ?_ ?_ ?_ ?_); rfl; rfl; rfl; rfl; rfl; rfl; simp only [Act.put, List.setIfInBounds_toArray, List.set_cons_zero, List.set_cons_succ])
  have B5 := Lib.hid (B4.out.alloc B4.out.size (.cells (rowF wL).toArray 39))
  clear B4 O1 O2 O3 O4
  generalize w4.alloc (.cells (rowF [wB3, wA1, wB2, wZ9]).toArray 39) = w5 at *
  generalize w4.heap.size = g4 at *
  refine (ofX wL wM 3 ⟨#[97]⟩ w_of3 4 3 rfl rfl _ _ w5 D4.out (by decide)).mono ?_
  rintro e w6 ⟨mb, mc, rfl, hin, hb⟩
  have B6 := Lib.hid (B5.out.trans (hb.mono B5.out.size))
  have D6 := Lib.hid (And.intro (D4.out.below hb) hin)
  clear hin hb B5 D4
  go_wp2_with fail
  refine (lastY wM _ ⟨#[98]⟩ true w_ord w_last 3 rfl _ _ w6 D6.out.2 (by decide)).mono ?_
  rintro e w7 ⟨rfl, hb⟩
  have B7 := Lib.hid (B6.out.trans (hb.mono B6.out.size))
  have D7 := Lib.hid (And.intro (D6.out.1.below hb) (D6.out.2.below hb))
  clear hb B6 D6
  go_wp2_with fail
  refine (lastY [] [] ⟨#[]⟩ false OrderR.nil rfl 0 rfl none 0 w7 (.inl rfl) (by decide)).mono ?_
  rintro e w8 ⟨rfl, hb⟩
  have B8 := Lib.hid (B7.out.trans (hb.mono B7.out.size))
  have D8 := Lib.hid (And.intro (D7.out.1.below hb) (D7.out.2.below hb))
  clear hb B7 D7
  have hbb : ((⟨#[98]⟩ : ByteArray).toList == (⟨#[98]⟩ : ByteArray).toList) = true := by simp
  go_wp2_with fail
  refine (elemY wM _ w_elem 3 2 rfl rfl _ _ w8 D8.out.2 (by decide)).mono ?_
  rintro e w9 ⟨ge, ce, rfl, hrow, hb⟩
  have hal : Go.RowKit.Below w9.heap.size w9 (w9.alloc (.cells (([⟨#[97]⟩, ⟨#[98]⟩] : List ByteArray).map Value.string).toArray 9)) := (Below.refl _ _).alloc (Nat.le_refl _) _
  have B9 := Lib.hid (B8.out.trans ((hb.trans (hal.mono hb.size)).mono B8.out.size))
  have D9 := Lib.hid (And.intro ((D8.out.1.below hb).below hal) ((D8.out.2.below hb).below hal))
  have R9 := Lib.hid (And.intro (hrow.below hal) (tblk_new w9 [⟨#[97]⟩, ⟨#[98]⟩]).row)
  clear hrow hb hal B8 D8
  go_wp2_with fail
  refine (textsY [⟨#[97]⟩, ⟨#[98]⟩] [⟨#[97]⟩, ⟨#[98]⟩] rfl 2 2 rfl rfl _ _ _ _ (w9.alloc (.cells (([⟨#[97]⟩, ⟨#[98]⟩] : List ByteArray).map Value.string).toArray 9)) R9.out.1 R9.out.2 (by decide)).mono ?_
  rintro e w10 ⟨rfl, hb⟩
  have B10 := Lib.hid (B9.out.trans (hb.mono B9.out.size))
  have D10 := Lib.hid (And.intro (D9.out.1.below hb) (D9.out.2.below hb))
  clear hb B9 D9 R9
  go_wp2_with fail
  refine (allY wM _ _ w_ord w_vals 3 rfl _ _ w10 D10.out.2 (by decide)).mono ?_
  rintro e w11 ⟨ga, rfl, htb, hb⟩
  have hal : Go.RowKit.Below w11.heap.size w11 (w11.alloc (.cells (([⟨#[97]⟩, ⟨#[98]⟩, ⟨#[98]⟩] : List ByteArray).map Value.string).toArray 9)) := (Below.refl _ _).alloc (Nat.le_refl _) _
  have B11 := Lib.hid (B10.out.trans ((hb.trans (hal.mono hb.size)).mono B10.out.size))
  have D11 := Lib.hid (And.intro ((D10.out.1.below hb).below hal) ((D10.out.2.below hb).below hal))
  have R11 := Lib.hid (And.intro (htb.row.below hal) (tblk_new w11 [⟨#[97]⟩, ⟨#[98]⟩, ⟨#[98]⟩]).row)
  clear htb hb hal B10 D10
  go_wp2_with fail
  refine (textsY [⟨#[97]⟩, ⟨#[98]⟩, ⟨#[98]⟩] [⟨#[97]⟩, ⟨#[98]⟩, ⟨#[98]⟩] rfl 3 3 rfl rfl _ _ _ _ (w11.alloc (.cells (([⟨#[97]⟩, ⟨#[98]⟩, ⟨#[98]⟩] : List ByteArray).map Value.string).toArray 9)) R11.out.1 R11.out.2 (by decide)).mono ?_
  rintro e w12 ⟨rfl, hb⟩
  have B12 := Lib.hid (B11.out.trans (hb.mono B11.out.size))
  have D12 := Lib.hid (And.intro (D11.out.1.below hb) (D11.out.2.below hb))
  clear hb B11 D11 R11
  go_wp2_with fail
  refine (ofX wL wL 0 ⟨#[97]⟩ w_of0 4 4 rfl rfl _ _ w12 D12.out.1 (by decide)).mono ?_
  rintro e w13 ⟨b13, c13, rfl, -, hb⟩
  have B13 := Lib.hid (B12.out.trans (hb.mono B12.out.size))
  have D13 := Lib.hid (D12.out.1.below hb)
  clear hb B12 D12
  go_wp2_with fail
  refine (ofX wL [] 0 ⟨#[98]⟩ w_ofn 4 0 rfl rfl _ _ w13 D13.out (by decide)).mono ?_
  rintro e w14 ⟨b14, c14, rfl, -, hb⟩
  have B14 := Lib.hid (B13.out.trans (hb.mono B13.out.size))
  clear hb B13 D13
  go_wp2_with fail
  go_ret
  exact ⟨rfl, B14.out⟩
end Go.Proofs.Ytpcelgmcbfjmbaa
