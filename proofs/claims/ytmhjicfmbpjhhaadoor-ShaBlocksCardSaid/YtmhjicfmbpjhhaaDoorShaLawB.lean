/-
  ShaBlocks: the walk.
-/
import Derived.Test.YtmhjicfmbpjhhaaDoorShaAwake
namespace Go.Proofs.YtmhjicfmbpjhhaaDoor
open Go.RowKit

set_option maxRecDepth 100000 in
theorem eql8 (a b c d e' f g h : Wd) (W : World) : (binOp .eql 26 (.agg #[V a, V b, V c, V d, V e', V f, V g, V h]) (.agg #[V a, V b, V c, V d, V e', V f, V g, V h])).run Tryd.prog W = .ok (.bool true) W := by
  rw [run_eql_struct]
  have hu := run_underlying (P := Tryd.prog) Tryd.underlying26 W
  have hu2 := run_underlying (P := Tryd.prog) Tryd.underlying25 W
  have e : Op.equalIn 10000 = Op.equalIn (9998 + 1 + 1) := rfl
  rw [e]
  unfold Op.equalIn
  have hs : (sizeOf 25).run Tryd.prog W = .ok 1 W := by kernel_rfl
  simp [Sem.run_bind, hu, hs, run_equalIn_int, Tryd.underlying25]
  have hp : ∀ (i : Nat) (x : Wd), [a, b, c, d, e', f, g, h][i]? = some x → (part 25 #[V a, V b, V c, V d, V e', V f, V g, V h] i).run Tryd.prog W = .ok (V x) W := by
    intro i x hx
    match i, hx with
    | 0, hx => obtain rfl := Option.some.inj hx; rfl
    | 1, hx => obtain rfl := Option.some.inj hx; rfl
    | 2, hx => obtain rfl := Option.some.inj hx; rfl
    | 3, hx => obtain rfl := Option.some.inj hx; rfl
    | 4, hx => obtain rfl := Option.some.inj hx; rfl
    | 5, hx => obtain rfl := Option.some.inj hx; rfl
    | 6, hx => obtain rfl := Option.some.inj hx; rfl
    | 7, hx => obtain rfl := Option.some.inj hx; rfl
    | n + 8, hx => simp at hx
  have r : List.range' 0 8 = [0, 1, 2, 3, 4, 5, 6, 7] := rfl
  have h0 := hp 0 a rfl
  have h1 := hp 1 b rfl
  have h2 := hp 2 c rfl
  have h3 := hp 3 d rfl
  have h4 := hp 4 e' rfl
  have h5 := hp 5 f rfl
  have h6 := hp 6 g rfl
  have h7 := hp 7 h rfl
  have hq : ∀ x : Wd, (Op.equalIn 9999 25 (V x) (V x)).run Tryd.prog W = .ok true W := fun x => by
    rw [show (9999 : Nat) = 9998 + 1 from rfl, run_equalIn_int (P := Tryd.prog) W 9998 25 .u32 .u32 (wv x) (wv x) Tryd.underlying25]
    simp
  simp [r, Sem.run_bind, h0, h1, h2, h3, h4, h5, h6, h7, hq]

/-- what both sides say of n bytes -/
def padI (n : Int) : ByteArray := if n < 0 then ByteArray.empty else padS n.toNat
theorem padI_C (n : Int) (w : World) (h1 : n ≤ 9223372036854775807) : Calls Tryd.prog 10 #[.int .i64 n] w fun e w' => e = .returned (.string (padI n)) ∧ Below w.heap.size w w' := by
  by_cases hn : n < 0
  · refine (padC_neg n hn w).mono ?_
    rintro e w' ⟨rfl, rfl⟩
    rw [padI, if_pos hn]
    exact ⟨rfl, Below.refl _ _⟩
  · rw [padI, if_neg hn]
    exact padC_str n (by omega) h1 w
theorem padI_R (n : Int) (w : World) (h1 : n ≤ 9223372036854775807) : Calls Tryd.prog 11 #[.int .i64 n] w fun e w' => e = .returned (.string (padI n)) ∧ Below w.heap.size w w' := by
  by_cases hn : n < 0
  · refine (padR_neg n hn w).mono ?_
    rintro e w' ⟨rfl, rfl⟩
    rw [padI, if_pos hn]
    exact ⟨rfl, Below.refl _ _⟩
  · rw [padI, if_neg hn]
    exact padR_str n (by omega) h1 w
attribute [irreducible] padI

set_option maxHeartbeats 4000000 in
set_option maxRecDepth 100000 in
theorem blocks_law (a b c d e f g h : Wd) (s : ByteArray) (n : Int) (w : World) (ws : s.size ≤ maxLen) (hn : n ≤ 9223372036854775807) (hT : Tab w) :
    Calls Tryd.prog 4 #[.agg #[V a, V b, V c, V d, V e, V f, V g, V h], .string s, .int .i64 n] w fun e w' => e = .returned (.bool true) ∧ Below w.heap.size w w' := by
  unfold maxLen at ws
  by_cases hs : s.size ≤ 200
  · have h1 : decide ((200 : Int) < (s.size : Int)) = false := by simp; omega
    obtain ⟨p0, p1, p2, p3, p4, p5, p6, p7, hl⟩ := len8 (blk_len (h := [a, b, c, d, e, f, g, h]) rfl s.data.toList)
    have c1 := fun W hW => blockC [a, b, c, d, e, f, g, h] s W rfl ws hW
    have c2 := fun W => blockR [a, b, c, d, e, f, g, h] s W rfl ws
    rw [hl, cs_eight, cs_eight] at c1 c2
    have C1 := Lib.hid c1
    have C2 := Lib.hid c2
    have HT := Lib.hid hT
    have heq := eql8 p0 p1 p2 p3 p4 p5 p6 p7
    have hrr : ((padI n).toList == (padI n).toList) = true := by simp
    clear c1 c2 hT hl
    have hbx : Below w.heap.size w (w.alloc (.cells #[V a, V b, V c, V d, V e, V f, V g, V h] 26)) := (Below.refl _ _).alloc (Nat.le_refl _) _
    have rbx : Row (w.alloc (.cells #[V a, V b, V c, V d, V e, V f, V g, V h] 26)) w.heap.size 26 [a, b, c, d, e, f, g, h] := by unfold Row; rw [cs_eight]; exact heap_alloc_new w _
    have tbx := HT.out.below hbx
    go_enter Tryd.func4, Tryd.ntmps4
    go_wp2_with fail
    generalize w.alloc (.cells #[V a, V b, V c, V d, V e, V f, V g, V h] 26) = wb at hbx rbx tbx ⊢
    have z0 := rbx.lt
    obtain ⟨c0, c1, c2, c3, c4, c5, c6, c7⟩ := rbx.cells8
    have TB := Lib.hid tbx
    have RB := Lib.hid rbx
    have HBX := Lib.hid hbx
    clear tbx rbx hbx
    go_region_with (first
      | (go_at_call 8; refine (C1.out _ TB.out.drew).mono ?_; rintro en w1 ⟨rfl, hb1⟩; have HR1 := Lib.hid (Row.below (Row.drew RB.out) hb1 z0); obtain ⟨⟨k0, k1, k2, k3, k4, k5, k6, k7⟩, kf⟩ := HR1.out.known; have HT1 := Lib.hid (Tab.below (Tab.drew TB.out) hb1); have HB1 := Lib.hid (HBX.out.trans ((undrew hb1).mono HBX.out.size)); clear hb1)
      | (go_at_call 9; refine (C2.out _).mono ?_; rintro en w2 ⟨rfl, hb2⟩; have HT2 := Lib.hid (Tab.below HT1.out hb2); have HB2 := Lib.hid (HB1.out.trans (hb2.mono HB1.out.size)); clear hb2)
      | (go_at_call 10; refine (padI_C n _ hn).mono ?_; rintro en w3 ⟨rfl, hb3⟩; have HT3 := Lib.hid (Tab.below HT2.out hb3); have HB3 := Lib.hid (HB2.out.trans (hb3.mono HB2.out.size)); clear hb3)
      | (go_at_call 11; refine (padI_R n _ hn).mono ?_; rintro en w4 ⟨rfl, hb4⟩; have HT4 := Lib.hid (Tab.below HT3.out hb4); have HB4 := Lib.hid (HB3.out.trans (hb4.mono HB3.out.size)); clear hb4)
      | (go_at_call 5; refine (awake_any _ HT4.out).mono ?_; rintro en w5 ⟨rfl, hb5⟩; have HB5 := Lib.hid (HB4.out.trans (hb5.mono HB4.out.size)); clear hb5))
    all_goals
      go_wp2
      go_ret
      exact ⟨rfl, HB5.out⟩
  · have h1 : decide ((200 : Int) < (s.size : Int)) = true := by simp; omega
    have hbx : Below w.heap.size w (w.alloc (.cells #[V a, V b, V c, V d, V e, V f, V g, V h] 26)) := (Below.refl _ _).alloc (Nat.le_refl _) _
    have HT := Lib.hid (hT.below hbx)
    have HBX := Lib.hid hbx
    clear hT hbx
    go_enter Tryd.func4, Tryd.ntmps4
    go_wp2_with fail
    refine (awake_any _ HT.out).mono ?_
    rintro e w3 ⟨rfl, hb3⟩
    have HB3 := Lib.hid (HBX.out.trans (hb3.mono HBX.out.size))
    clear hb3
    go_wp2
    go_ret
    exact ⟨rfl, HB3.out⟩
end Go.Proofs.YtmhjicfmbpjhhaaDoor
