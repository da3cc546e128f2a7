/-
  What is there, told by a closure: teller, its closure, Has.
  Has: the program's.
  Join, Meet: the program's, and the document's.
  Add, Join: the program's.
  The Reader's List: what it answers, and what becomes of the reader.
-/
import Derived.Test.YtcedliaeipabnaaGreatGKernH
import Derived.Test.YtcedliaeipabnaaGreatGKernJ
import Derived.Test.YtcedliaeipabnaaGreatGKernI
import Derived.Deep.RegionHeld3
import Derived.Test.YtcedliaeipabnaaGreatGKernG
import Derived.RegionTactic
import Derived.BigRegion
import Derived.Test.YtcedliaeipabnaaGreatGKernD
namespace Go.Proofs.YtcedliaeipabnaaGreat
set_option maxRecDepth 100000
open Go.RowKit Go.Sort Go.Shelf

theorem stands_rise {l : List Dt} (h : Rise l) : Stands l := List.Pairwise.imp (fun {_ _} h => ltD_asym h) h

/-- a closure that tells whether a context has a name -/
structure Tells (w : World) (c : Cx) (b1 b2 : Nat) (s : Value) (cl : List Dt) (p : Option Addr) (k : Nat) : Prop where
  row : CRow w b1 c.v s
  cell : w.cell? ⟨b2, 0, none⟩ = some (.slice p cl.length k)
  lt : b2 < w.heap.size
  din : DIn w p cl
  st : Stands cl
  mem : ∀ d, d ∈ cl ↔ d ∈ c.l
  len : cl.length ≤ 65536
  v16 : c.v.length = 16
theorem Tells.below {w w' : World} {c : Cx} {b1 b2 : Nat} {s : Value} {cl : List Dt} {p : Option Addr} {k : Nat} (h : Tells w c b1 b2 s cl p k) (hb : Go.RowKit.Below w.heap.size w w') : Tells w' c b1 b2 s cl p k :=
  ⟨h.row.keep hb, by rw [hb.cell (p := ⟨b2, 0, none⟩) h.lt]; exact h.cell, Nat.lt_of_lt_of_le h.lt hb.size, h.din.below hb, h.st, h.mem, h.len, h.v16⟩
def tellF (b1 b2 : Nat) : Value := .func (.func 123) #[] #[.pointer (some ⟨b1, 0, none⟩), .pointer (some ⟨b2, 0, none⟩)]

set_option maxHeartbeats 4000000 in
theorem tellC (c : Cx) (a : Option Addr) (cap : Nat) (w : World) (h : CIn w c a) :
    Calls Tryz.prog 96 #[.agg (ccs c.v (.slice a c.l.length cap))] w fun e w' => (∃ b1 b2 s cl p k, e = .returned (tellF b1 b2) ∧ Tells w' c b1 b2 s cl p k) ∧ Go.RowKit.Below w.heap.size w w' := by
  have hlen := h.len
  have hv := h.v16
  have hrow := CRow.new w c.v (.slice a c.l.length cap)
  have c16 := hrow.cloud hv
  have HV := Lib.hid hv
  have HT := Lib.hid (And.intro h.din (And.intro hrow (boxC_below w c.v (.slice a c.l.length cap))))
  unfold boxC at HT
  clear h hrow hv
  have hmf : ∀ (fn : Fn) (first cap : Array Value) (w : World), (Instr.makeFunc fn first cap).run Tryz.prog w = .ok (.func fn first cap) w := fun _ _ _ _ => rfl
  go_enter Tryz.func96, Tryz.ntmps96
  go_upto_region 2 with fail
  generalize hW : (w.alloc (.cells (ccs c.v (.slice a c.l.length cap)) 27)) = W at *
  have hs : W.heap.size = w.heap.size + 1 := by rw [← hW]; simp
  clear hW
  have HB2 := Lib.hid (HT.out.2.2.alloc HT.out.2.2.size (.cells #[.slice a c.l.length cap] 25))
  have hd2 : DIn (W.alloc (.cells #[.slice a c.l.length cap] 25)) a c.l := (HT.out.1.below HT.out.2.2).alloc _
  have hr2 : CRow (W.alloc (.cells #[.slice a c.l.length cap] 25)) w.heap.size c.v (.slice a c.l.length cap) := HT.out.2.1.alloc _
  have hcell2 : (W.alloc (.cells #[.slice a c.l.length cap] 25)).cell? ⟨w.heap.size + 1, 0, none⟩ = some (.slice a c.l.length cap) := by rw [← hs, Joins.cell_of_block (heap_alloc_new W _)]; rfl
  have hfree2 : (W.alloc (.cells #[.slice a c.l.length cap] 25)).frozen? ⟨w.heap.size + 1, 0, none⟩ = false := by rw [← hs]; exact Joins.unfrozen_of_block (heap_alloc_new W _) 0
  have H2 := Lib.hid (And.intro hd2 (And.intro hr2 (And.intro hcell2 hfree2)))
  have hz2 : w.heap.size + 1 < (W.alloc (.cells #[.slice a c.l.length cap] 25)).heap.size := by simp; omega
  clear hd2 hr2 c16 hfree2
  go_wp2_with fail
  generalize W.alloc (.cells #[.slice a c.l.length cap] 25) = W2 at *
  clear hcell2 HT
  refine (isSortedD c.l a cap W2 H2.out.1 (by omega)).mono ?_
  rintro e w3 ⟨⟨b, rfl, hst⟩, hb3⟩
  have H3 := Lib.hid (And.intro (H2.out.1.below hb3) (H2.out.2.1.keep hb3))
  have hc3 : w3.cell? ⟨w.heap.size + 1, 0, none⟩ = some (.slice a c.l.length cap) := by rw [hb3.cell (p := ⟨w.heap.size + 1, 0, none⟩) hz2]; exact H2.out.2.2.1
  have hf3 : w3.frozen? ⟨w.heap.size + 1, 0, none⟩ = false := by rw [hb3.frozen (p := ⟨w.heap.size + 1, 0, none⟩) hz2]; exact H2.out.2.2.2
  have hz3 : w.heap.size + 1 < w3.heap.size := Nat.lt_of_lt_of_le hz2 hb3.size
  have HB3 := Lib.hid (HB2.out.trans (hb3.mono HB2.out.size))
  have HC3 := Lib.hid (And.intro hc3 hf3)
  clear hb3 H2 HB2 hz2
  cases b with
  | true =>
    have HST := Lib.hid (hst rfl)
    clear hst hc3 hf3
    go_wp2_with fail
    go_ret
    exact ⟨⟨w.heap.size, w.heap.size + 1, .slice a c.l.length cap, c.l, a, cap, rfl, H3.out.2, HC3.out.1, hz3, H3.out.1, HST.out, fun _ => Iff.rfl, by omega, HV.out⟩, HB3.out⟩
  | false =>
    clear hst
    go_wp2_with fail
    refine (sortC c.l a cap w3 H3.out.1 (by omega)).mono ?_
    rintro e w4 ⟨v4, rfl, hown4, hb4⟩
    obtain ⟨a4, c4, rfl, hd4, hm4⟩ := hown4.din
    have hsl := sortD_len c.l
    have hc4 : w4.cell? ⟨w.heap.size + 1, 0, none⟩ = some (.slice a c.l.length cap) := by rw [hb4.cell (p := ⟨w.heap.size + 1, 0, none⟩) hz3]; exact HC3.out.1
    have hf4 : w4.frozen? ⟨w.heap.size + 1, 0, none⟩ = false := by rw [hb4.frozen (p := ⟨w.heap.size + 1, 0, none⟩) hz3]; exact HC3.out.2
    have hz4 : w.heap.size + 1 < w4.heap.size := Nat.lt_of_lt_of_le hz3 hb4.size
    have hd5 : DIn (w4.setCell ⟨w.heap.size + 1, 0, none⟩ (.slice a4 (sortD c.l).length c4)) a4 (sortD c.l) := by
      rcases hown4.2 with ⟨he, h0⟩ | ⟨g, cap', cur, he, hB, hg, hn, hm, hs, htk⟩
      · exact .inl (List.length_eq_zero_iff.1 h0)
      · rcases hd4 with h | ⟨b, off, ha4, hlt, hc⟩
        · exact .inl h
        · have hbg : b = g := by rw [ha4] at he; injection he with h1 h2 h3; injection h1 with h1; injection h1
          have hbne : b ≠ w.heap.size + 1 := by omega
          refine .inr ⟨b, off, ha4, by simpa using hlt, fun j d hj => ?_⟩
          obtain ⟨h1, h2⟩ := hc j d hj
          exact ⟨by rw [World.cell?_setCell_other _ _ _ _ (fun e => hbne (congrArg Addr.block e).symm)]; exact h1, by rw [World.cell?_setCell_other _ _ _ _ (fun e => hbne (congrArg Addr.block e).symm)]; exact h2⟩
    have H4 := Lib.hid (And.intro hd5 (And.intro ((H3.out.2.keep hb4).other (show w.heap.size ≠ w.heap.size + 1 by omega) 0 (.slice a4 (sortD c.l).length c4)) (World.cell?_setCell_same _ _ (.slice a4 (sortD c.l).length c4) hc4)))
    have HB4 := Lib.hid (show Go.RowKit.Below w.heap.size w (w4.setCell ⟨w.heap.size + 1, 0, none⟩ (.slice a4 (sortD c.l).length c4)) from (HB3.out.trans (hb4.mono HB3.out.size)).setCell (Nat.le_succ _) _)
    clear hown4 hb4 hd4 hd5 hc3 hf3 HC3 H3
    go_wp2_with fail
    go_ret
    exact ⟨⟨w.heap.size, w.heap.size + 1, .slice a c.l.length cap, sortD c.l, a4, c4, rfl, H4.out.2.1, H4.out.2.2, by simpa using hz4, H4.out.1, stands_rise (rise_sortD _), fun d => mem_sortD, by omega, HV.out⟩, HB4.out⟩

theorem chk_and (d : Dt) (u : Bool) : (u && decide (chkD d = 0)) = (decide (chkD d = 0) && u) := Bool.and_comm _ _

set_option maxHeartbeats 4000000 in
theorem tell1C {c : Cx} {b1 b2 : Nat} {s : Value} {cl : List Dt} {p : Option Addr} {k : Nat} (d : Dt) (w : World) (h : Tells w c b1 b2 s cl p k) :
    Calls Tryz.prog 123 #[.agg #[.int .i64 d.1, .int .i64 d.2], .pointer (some ⟨b1, 0, none⟩), .pointer (some ⟨b2, 0, none⟩)] w fun e w' => e = .returned (.bool (hasC c d)) ∧ Go.RowKit.Below w.heap.size w w' := by
  have hh : hasC c d = (hasV c.v d || (decide (d ∈ cl) && (chkD d == 0))) := by
    rw [hasC_or, Bool.and_comm (decide (d ∈ cl))]
    congr 2
    exact decide_eq_decide.2 (h.mem d).symm
  have hB0 := boxD_below w d
  have HT0 := h.below hB0
  have q0 : (boxD w d).cell? ⟨w.heap.size, 0, none⟩ = some (.int .i64 d.1) := by unfold boxD; rw [Joins.cell_of_block (heap_alloc_new w _)]; rfl
  have q1 : (boxD w d).cell? ⟨w.heap.size, 1, none⟩ = some (.int .i64 d.2) := by unfold boxD; rw [Joins.cell_of_block (heap_alloc_new w _)]; rfl
  have hz0 : w.heap.size < (boxD w d).heap.size := by rw [boxD_size]; omega
  have H0 := Lib.hid (And.intro HT0 (And.intro hB0 (And.intro q0 q1)))
  have HV := Lib.hid h.v16
  have hvh := fun W => vhasC c.v d HV.out W
  have hck := fun W => checkCb d W
  have hsd := fun W hin => lhasD cl d p k W hin h.len h.st
  have HS := Lib.hid hsd
  have HCK := Lib.hid hck
  have HVH := Lib.hid hvh
  have HH := Lib.hid hh
  clear h hB0 HT0 hsd hck hvh hh
  unfold boxD at H0 q0 q1 hz0
  obtain ⟨dr, dq⟩ := d
  simp only at H0 q0 q1 hz0 HS HCK HVH HH ⊢
  go_enter Tryz.func123, Tryz.ntmps123
  go_upto_region 1 with fail
  generalize w.alloc (.cells #[.int .i64 dr, .int .i64 dq] 50) = W0 at *
  go_wp2_with ((with_reducible refine cl_loadV ?_ (.tmp 5) ?_ b1 c.v s ?_ ?_ ?_ ?_); rfl; rfl; rfl; exact H0.out.1.row; exact HV.out)
  refine (HVH.out W0).mono ?_
  rintro e w1 ⟨rfl, hb1⟩
  have HT1 := Lib.hid (H0.out.1.below hb1)
  have HB1 := Lib.hid (H0.out.2.1.trans (hb1.mono H0.out.2.1.size))
  have k0 : w1.cell? ⟨w.heap.size, 0, none⟩ = some (.int .i64 dr) := by rw [hb1.cell (p := ⟨w.heap.size, 0, none⟩) hz0]; exact q0
  have k1 : w1.cell? ⟨w.heap.size, 1, none⟩ = some (.int .i64 dq) := by rw [hb1.cell (p := ⟨w.heap.size, 1, none⟩) hz0]; exact q1
  have c2 := HT1.out.cell
  have hz1 := HT1.out.lt
  have hz01 : w.heap.size < w1.heap.size := Nat.lt_of_lt_of_le hz0 hb1.size
  clear hb1 q0 q1 H0 HVH hz0
  have hho := HH.out
  generalize hasV c.v (dr, dq) = u1 at *
  cases u1 with
  | true =>
    have HO := Lib.hid hho
    clear hho c2 k0 k1
    go_wp2_with fail
    go_ret
    exact ⟨by rw [HO.out]; rfl, HB1.out⟩
  | false =>
    have HO := Lib.hid hho
    clear hho
    go_wp2_with fail
    refine (HS.out w1 HT1.out.din).mono ?_
    rintro e w2 ⟨rfl, hb2⟩
    have HB2 := Lib.hid (HB1.out.trans (hb2.mono HB1.out.size))
    have k0' : w2.cell? ⟨w.heap.size, 0, none⟩ = some (.int .i64 dr) := by rw [hb2.cell (p := ⟨w.heap.size, 0, none⟩) hz01]; exact k0
    have k1' : w2.cell? ⟨w.heap.size, 1, none⟩ = some (.int .i64 dq) := by rw [hb2.cell (p := ⟨w.heap.size, 1, none⟩) hz01]; exact k1
    have hho := HO.out
    clear hb2 k0 k1 c2 HS HB1 HT1
    generalize decide ((dr, dq) ∈ cl) = u2 at *
    cases u2 with
    | false =>
      have HO := Lib.hid hho
      clear hho k0' k1'
      go_wp2_with fail
      go_ret
      exact ⟨by rw [HO.out]; rfl, HB2.out⟩
    | true =>
      go_wp2_with fail
      refine (HCK.out w2).mono ?_
      rintro e w3 ⟨rfl, hb3⟩
      have HB3 := Lib.hid (HB2.out.trans (hb3.mono HB2.out.size))
      have HO := Lib.hid hho
      clear hb3 k0' k1' hho HCK
      generalize chkD (dr, dq) = c3 at *
      go_wp2_with fail
      go_ret
      exact ⟨by rw [HO.out]; rfl, HB3.out⟩
end Go.Proofs.YtcedliaeipabnaaGreat

namespace Go.Proofs.YtcedliaeipabnaaGreat
set_option maxRecDepth 100000
open Go.RowKit Go.Sort Go.Shelf

/-- in a region that draws: a whole context, its vector, may be taken first -/
theorem yield_C {ops : Array Oper} {S : World → Prop} {o : Oper} {a : Act} (hw : Region.wanted o (yielded ops a.tmps) = true) (x : Operand) (ho : o.op = .load 27 x) (g : Nat) (v : Vc) (s : Value) (hx : a.eval x = .pointer (some ⟨g, 0, none⟩))
    (hg : ∀ w, S w → CRow w g v s) (hl : v.length = 16) : YieldsIf Tryz.prog ops S o (.agg (ccs v s)) a := by
  refine .inl ⟨hw, fun w hS => ?_⟩
  unfold execOp
  simp only [ho, hx, Sem.run_bind, Sem.run_pure, Result.andThen_ok, (hg w hS).loadAt hl]
theorem yield_V {ops : Array Oper} {S : World → Prop} {o : Oper} {a : Act} (hw : Region.wanted o (yielded ops a.tmps) = true) (x : Operand) (ho : o.op = .load 24 x) (g : Nat) (v : Vc) (s : Value) (hx : a.eval x = .pointer (some ⟨g, 0, none⟩))
    (hg : ∀ w, S w → CRow w g v s) (hl : v.length = 16) : YieldsIf Tryz.prog ops S o (.agg (ics v)) a := by
  refine .inl ⟨hw, fun w hS => ?_⟩
  unfold execOp
  simp only [ho, hx, Sem.run_bind, Sem.run_pure, Result.andThen_ok, (hg w hS).loadV hl]
theorem yield_S {ops : Array Oper} {S : World → Prop} {o : Oper} {a : Act} (hw : Region.wanted o (yielded ops a.tmps) = true) (x : Operand) (ho : o.op = .load 25 x) (g : Nat) (v : Vc) (s : Value) (hx : a.eval x = .pointer (some ⟨g, 16, none⟩))
    (hg : ∀ w, S w → CRow w g v s) (hl : v.length = 16) : YieldsIf Tryz.prog ops S o s a := by
  refine .inl ⟨hw, fun w hS => ?_⟩
  have hc := (hg w hS).cloud hl
  unfold execOp
  simp only [ho, hx]
  go_simp
theorem yield_D {ops : Array Oper} {S : World → Prop} {o : Oper} {a : Act} (hw : Region.wanted o (yielded ops a.tmps) = true) (x : Operand) (ho : o.op = .load 50 x) (g off : Nat) (d : Dt) (hx : a.eval x = .pointer (some ⟨g, off, none⟩))
    (hg : ∀ w, S w → w.cell? ⟨g, off, none⟩ = some (.int .i64 d.1) ∧ w.cell? ⟨g, off + 1, none⟩ = some (.int .i64 d.2)) : YieldsIf Tryz.prog ops S o (.agg #[.int .i64 d.1, .int .i64 d.2]) a := by
  refine .inl ⟨hw, fun w hS => ?_⟩
  obtain ⟨h0, h1⟩ := hg w hS
  unfold execOp
  simp only [ho, hx]
  go_simp

theorem ent_tell : ∀ args w, (callFunc 123 args).run Tryz.prog w = .ok (.enter 123 args) w := enters_of Tryz.func123 (by kernel_rfl) rfl

set_option maxHeartbeats 4000000 in
theorem hasCC (c : Cx) (d : Dt) (a : Option Addr) (cap : Nat) (w : World) (h : CIn w c a) :
    Calls Tryz.prog 73 #[.agg (ccs c.v (.slice a c.l.length cap)), .agg #[.int .i64 d.1, .int .i64 d.2]] w fun e w' => e = .returned (.bool (hasC c d)) ∧ Go.RowKit.Below w.heap.size w w' := by
  have hent := ent_tell
  have hB0 : Go.RowKit.Below w.heap.size w (boxD (boxC w c.v (.slice a c.l.length cap)) d) := (boxC_below _ _ _).trans ((boxD_below _ d).mono (by rw [boxC_size]; omega))
  have hrow : CRow (boxD (boxC w c.v (.slice a c.l.length cap)) d) w.heap.size c.v (.slice a c.l.length cap) := (CRow.new w c.v (.slice a c.l.length cap)).alloc _
  have hn := heap_alloc_new (boxC w c.v (.slice a c.l.length cap)) (.cells #[.int .i64 d.1, .int .i64 d.2] 50)
  rw [boxC_size] at hn
  have q0 : (boxD (boxC w c.v (.slice a c.l.length cap)) d).cell? ⟨w.heap.size + 1, 0, none⟩ = some (.int .i64 d.1) := by unfold boxD; rw [Joins.cell_of_block hn]; rfl
  have q1 : (boxD (boxC w c.v (.slice a c.l.length cap)) d).cell? ⟨w.heap.size + 1, 1, none⟩ = some (.int .i64 d.2) := by unfold boxD; rw [Joins.cell_of_block hn]; rfl
  have hlt : w.heap.size + 1 < (boxD (boxC w c.v (.slice a c.l.length cap)) d).heap.size := by rw [boxD_size, boxC_size]; omega
  have hin := h.below hB0
  have H0 := Lib.hid (And.intro hB0 (And.intro hrow (And.intro q0 (And.intro q1 (And.intro hlt hin)))))
  have HV := Lib.hid h.v16
  clear h hB0 hrow hn hin q0 q1 hlt
  unfold boxD boxC at H0
  obtain ⟨dr, dq⟩ := d
  simp only at H0 ⊢
  go_enter Tryz.func73, Tryz.ntmps73
  go_upto_region 1 with fail
  generalize (w.alloc (.cells (ccs c.v (.slice a c.l.length cap)) 27)).alloc (.cells #[.int .i64 dr, .int .i64 dq] 50) = W at *
  refine wp_region_held (S := fun U => Go.RowKit.Below W.heap.size W U) (by kernel_rfl) ?_
  change wpAnyH _ _ _ _ _ _ _ _ W.drew
  have K0 : (fun U => Go.RowKit.Below W.heap.size W U) W.drew := (Below.refl _ _).drew
  refine wpAnyH_take (i := 0) (oi := { dst := some 5, op := _, type := _, pos := _, after := _, guard := _ }) rfl (by kernel_rfl) (by kernel_rfl) (by kernel_rfl) (fun _ _ _ h => h) (yield_C (by rfl) (.tmp 2) rfl w.heap.size c.v (.slice a c.l.length cap) rfl (fun U hU => H0.out.2.1.keep hU) HV.out) K0 ?_
  try simp only [Act.put, List.setIfInBounds_toArray, List.set_cons_zero, List.set_cons_succ]
  refine wpAnyH_take (i := 2) (oi := { dst := some 7, op := _, type := _, pos := _, after := _, guard := _ }) rfl (by kernel_rfl) (by kernel_rfl) (by kernel_rfl) (fun _ _ _ h => h) (yield_D (by rfl) (.tmp 3) rfl (w.heap.size + 1) 0 (dr, dq) rfl (fun U hU => ⟨by rw [hU.cell (p := ⟨w.heap.size + 1, 0, none⟩) H0.out.2.2.2.2.1]; exact H0.out.2.2.1, by rw [hU.cell (p := ⟨w.heap.size + 1, 0 + 1, none⟩) H0.out.2.2.2.2.1]; exact H0.out.2.2.2.1⟩)) K0 ?_
  try simp only [Act.put, List.setIfInBounds_toArray, List.set_cons_zero, List.set_cons_succ]
  refine wpAnyH_ready (rs := [1]) (by kernel_rfl) (by simp) ?_
  refine AllReadyH.cons (o := { dst := some 6, op := _, type := _, pos := _, after := _, guard := _ }) rfl (fun K hK => ?_) AllReadyH.nil
  go_simp
  refine (tellC c a cap _ (H0.out.2.2.2.2.2.below K0)).mono ?_
  rintro e w1 ⟨⟨b1, b2, s, cl, p, k, rfl, ht⟩, hb1⟩
  have K1 := K0.trans (hb1.mono K0.size)
  unfold tellF
  have HT1 := Lib.hid (tell1C (dr, dq) w1 ht)
  clear hb1 ht
  refine hK.out _ _ K1 (fun _ => ?_)
  clear hK K
  try simp only [Act.put, List.setIfInBounds_toArray, List.set_cons_zero, List.set_cons_succ]
  refine wpAnyH_ready (rs := [3]) (by kernel_rfl) (by simp) ?_
  refine AllReadyH.cons (o := { dst := some 8, op := _, type := _, pos := _, after := _, guard := _ }) rfl (fun K hK => ?_) AllReadyH.nil
  go_simp
  refine HT1.out.mono ?_
  rintro e w2 ⟨rfl, hb2⟩
  have K3 := K1.trans (hb2.mono K1.size)
  clear hb2
  refine hK.out _ _ K3 (fun _ => ?_)
  clear hK K
  try simp only [Act.put, List.setIfInBounds_toArray, List.set_cons_zero, List.set_cons_succ]
  refine wpAnyH_take (i := 4) (oi := { dst := some 4, op := _, type := _, pos := _, after := _, guard := _ }) (v := ?v3) rfl (by kernel_rfl) (by kernel_rfl) (by kernel_rfl) (fun _ _ _ h => h) (Or.inl ⟨by rfl, ?hy3⟩) K3 ?rest3
  case hy3 => (intro w hSw; (try dsimp only at hSw); first | (go_simp; done) | (go_simp; with_reducible rfl))
  try simp only [Act.put, List.setIfInBounds_toArray, List.set_cons_zero, List.set_cons_succ]
  refine wpAnyH_done (by kernel_rfl) ?_ _
  try simp only [Act.put, List.setIfInBounds_toArray, List.set_cons_zero, List.set_cons_succ]
  have HF := Lib.hid (H0.out.1.trans (K3.mono H0.out.1.size))
  clear K3 K1 K0 HT1
  go_wp2_with fail
  go_ret
  exact ⟨rfl, HF.out⟩
end Go.Proofs.YtcedliaeipabnaaGreat

namespace Go.Proofs.YtcedliaeipabnaaGreat
set_option maxRecDepth 100000
open Go.RowKit

theorem three_rows (w : World) (a b : Vc) : VRow (((w.alloc (.cells (ics a) 24)).alloc (.cells (ics b) 24)).alloc (.cells (ics zV) 24)) w.heap.size a ∧
    VRow (((w.alloc (.cells (ics a) 24)).alloc (.cells (ics b) 24)).alloc (.cells (ics zV) 24)) (w.heap.size + 1) b ∧
    VRow (((w.alloc (.cells (ics a) 24)).alloc (.cells (ics b) 24)).alloc (.cells (ics zV) 24)) (w.heap.size + 2) zV ∧
    Below w.heap.size w (((w.alloc (.cells (ics a) 24)).alloc (.cells (ics b) 24)).alloc (.cells (ics zV) 24)) := by
  have e1 : (w.alloc (.cells (ics a) 24)).heap.size = w.heap.size + 1 := by simp
  have e2 : ((w.alloc (.cells (ics a) 24)).alloc (.cells (ics b) 24)).heap.size = w.heap.size + 2 := by simp
  have h0 := VRow.new w a
  have h1 := VRow.new (w.alloc (.cells (ics a) 24)) b
  have h2 := VRow.new ((w.alloc (.cells (ics a) 24)).alloc (.cells (ics b) 24)) zV
  rw [e1] at h1
  rw [e2] at h2
  exact ⟨(h0.alloc _).alloc _, h1.alloc _, h2, (((Below.refl _ _).alloc (Nat.le_refl _) _).alloc (by simp) _).alloc (by simp; omega) _⟩

set_option maxHeartbeats 4000000 in
set_option maxRecDepth 100000 in
theorem vjoinC (a b : Vc) (ha : a.length = 16) (hb : b.length = 16) (w : World) : Calls Tryz.prog 52 #[.agg (ics a), .agg (ics b)] w fun e w' => e = .returned (.agg (ics (joinV a b))) ∧ Below w.heap.size w w' := by
  have HA := Lib.hid ha
  have HB := Lib.hid hb
  have HW := Lib.hid (three_rows w a b)
  clear ha hb
  go_enter Tryz.func52, Tryz.ntmps52
  go_wp2_with ((with_reducible refine vl_load ?_ (.tmp 3) ?_ (w.heap.size + 1) b ?_ ?_ ?_ ?_); rfl; rfl; rfl; exact HW.out.2.1; exact HB.out)
  go_loopw [8] (fun i wr => ∃ k : Nat, i = .int .i64 k ∧ k ≤ 16 ∧ VRow wr w.heap.size (mixJ a b k) ∧ VRow wr (w.heap.size + 2) zV ∧ Below w.heap.size w wr) (fun i _ => 16 - (intOf i).toNat)
  case atStart => exact ⟨0, rfl, by omega, by rw [mixJ_zero]; exact HW.out.1, HW.out.2.2.1, HW.out.2.2.2⟩
  case round =>
    rename_i wr
    obtain ⟨k, rfl, hk, r0, r2, rB⟩ := hrel
    by_cases hlt : k < 16
    · have hix := fun W => indexV HB.out k hlt W
      have hcell := r0.cell k (by rw [mixJ_len HA.out HB.out]; exact hlt)
      rw [mixJ_at HA.out HB.out hlt] at hcell
      have hfree := r0.free k
      have hz := r0.lt
      have HS := Lib.hid (mixJ_succ HA.out HB.out hlt)
      have R0 := Lib.hid r0
      have R2 := Lib.hid r2
      have RB := Lib.hid rB
      clear r0 r2 rB
      generalize a.getD k 0 = x at *
      generalize b.getD k 0 = y at *
      go_wp2_with fail
      go_roundw
      case rel => exact ⟨k + 1, by go_num, by omega, by rw [HS.out]; exact R0.out.set k _, R2.out.other (by omega) _ _, RB.out.setCell (Nat.le_refl _) _⟩
      case measure => simp [intOf]; omega
    · obtain rfl : k = 16 := by omega
      rw [mixJ_all HA.out HB.out] at r0
      have hj := joinV_len HA.out HB.out
      generalize hjj : joinV a b = j at *
      have HJJ := Lib.hid hjj
      have HJ := Lib.hid hj
      clear hjj
      have R0 := Lib.hid r0
      have R2 := Lib.hid r2
      have RB := Lib.hid rB
      clear r0 r2 rB hj
      go_wp2_with (first
        | ((with_reducible refine vl_load ?_ (.tmp 2) ?_ w.heap.size j ?_ ?_ ?_ ?_); rfl; rfl; rfl; exact R0.out; exact HJ.out)
        | ((with_reducible refine vl_store ?_ (.tmp 4) (.tmp 20) ?_ (w.heap.size + 2) j ?_ ?_ ?_ ?_ ?_); rfl; rfl; rfl; rfl; exact ⟨_, R2.out, by rw [HJ.out]; rfl⟩; exact HJ.out))
      exact bodyPost_ret (results_cell_row rfl _ _ _ _ _ (0, 0) (.array 16 3) rfl (setRow_heap _ _ _ _ _ _ R2.out) Tryz.underlying24 rfl (infoV HJ.out)) rfl ⟨by rw [HJJ.out], belowRow RB.out (by omega) _⟩

set_option maxHeartbeats 4000000 in
set_option maxRecDepth 100000 in
theorem vjoinR (a b : Vc) (ha : a.length = 16) (hb : b.length = 16) (w : World) : Calls Tryz.prog 55 #[.agg (ics a), .agg (ics b)] w fun e w' => e = .returned (.agg (ics (joinV a b))) ∧ Below w.heap.size w w' := by
  have HA := Lib.hid ha
  have HB := Lib.hid hb
  have HW := Lib.hid (three_rows w a b)
  clear ha hb
  go_enter Tryz.func55, Tryz.ntmps55
  go_wp2_with fail
  go_loopw [5] (fun i wr => ∃ k : Nat, i = .int .i64 k ∧ k ≤ 16 ∧ VRow wr w.heap.size (mixJ a b k) ∧ VRow wr (w.heap.size + 1) b ∧ VRow wr (w.heap.size + 2) zV ∧ Below w.heap.size w wr) (fun i _ => 16 - (intOf i).toNat)
  case atStart => exact ⟨0, rfl, by omega, by rw [mixJ_zero]; exact HW.out.1, HW.out.2.1, HW.out.2.2.1, HW.out.2.2.2⟩
  case round =>
    rename_i wr
    obtain ⟨k, rfl, hk, r0, r1, r2, rB⟩ := hrel
    by_cases hlt : k < 16
    · have hcell := r0.cell k (by rw [mixJ_len HA.out HB.out]; exact hlt)
      rw [mixJ_at HA.out HB.out hlt] at hcell
      have hcellb := r1.cell k (by rw [HB.out]; exact hlt)
      have hfree := r0.free k
      have hz := r0.lt
      have hz1 := r1.lt
      have HS := Lib.hid (mixJ_succ HA.out HB.out hlt)
      have R0 := Lib.hid r0
      have R1 := Lib.hid r1
      have R2 := Lib.hid r2
      have RB := Lib.hid rB
      clear r0 r1 r2 rB
      generalize a.getD k 0 = x at *
      generalize b.getD k 0 = y at *
      go_wp2_with fail
      go_region
      go_wp2_with fail
      go_roundw
      case rel => exact ⟨k + 1, by go_num, by omega, by rw [HS.out]; exact (R0.out.set k _).drew, (R1.out.other (by omega) _ _).drew, (R2.out.other (by omega) _ _).drew, (RB.out.setCell (Nat.le_refl _) _).drew⟩
      case measure => simp [intOf]; omega
    · obtain rfl : k = 16 := by omega
      rw [mixJ_all HA.out HB.out] at r0
      have hj := joinV_len HA.out HB.out
      generalize hjj : joinV a b = j at *
      have HJJ := Lib.hid hjj
      have HJ := Lib.hid hj
      clear hjj
      have R0 := Lib.hid r0
      have R2 := Lib.hid r2
      have RB := Lib.hid rB
      clear r0 r1 r2 rB hj
      go_wp2_with (first
        | ((with_reducible refine vl_load ?_ (.tmp 2) ?_ w.heap.size j ?_ ?_ ?_ ?_); rfl; rfl; rfl; exact R0.out; exact HJ.out)
        | ((with_reducible refine vl_store ?_ (.tmp 4) (.tmp 19) ?_ (w.heap.size + 2) j ?_ ?_ ?_ ?_ ?_); rfl; rfl; rfl; rfl; exact ⟨_, R2.out, by rw [HJ.out]; rfl⟩; exact HJ.out))
      exact bodyPost_ret (results_cell_row rfl _ _ _ _ _ (0, 0) (.array 16 3) rfl (setRow_heap _ _ _ _ _ _ R2.out) Tryz.underlying24 rfl (infoV HJ.out)) rfl ⟨by rw [HJJ.out], belowRow RB.out (by omega) _⟩

end Go.Proofs.YtcedliaeipabnaaGreat

namespace Go.Proofs.YtcedliaeipabnaaGreat
set_option linter.unusedSimpArgs false
set_option linter.unusedVariables false
set_option maxRecDepth 100000
open Go.RowKit Go.Sort

theorem yield_B {ops : Array Oper} {S : World → Prop} {o : Oper} {a : Act} (hw : Region.wanted o (yielded ops a.tmps) = true) (x y : Operand) (ho : o.op = .build 27 #[(0, x), (1, y)]) (v : Vc) (p : Option Addr) (n c : Nat)
    (hx : a.eval x = .agg (ics v)) (hy : a.eval y = .slice p n c) (hl : v.length = 16) : YieldsIf Tryz.prog ops S o (.agg (ccs v (.slice p n c))) a := by
  refine .inl ⟨hw, fun w _ => ?_⟩
  have h := buildC hl p n c w
  unfold execOp
  simp only [ho, List.map_toArray, List.map_cons, List.map_nil, hx, hy, Sem.run_bind, Sem.run_pure, Result.andThen_ok, h]
/-- a whole context stored, in a region that draws -/
theorem draw_storeC {ops : Array Oper} {o : Oper} {a : Act} {w : World} {K : Act → World → Prop} {Q : Exit → Act → World → Prop} (hgd : o.guard = none) (x y : Operand) (ho : o.op = .store 27 x y)
    (g : Nat) (hx : a.eval x = .pointer (some ⟨g, 0, none⟩)) (v : Vc) (p : Option Addr) (n c : Nat) (hy : a.eval y = .agg (ccs v (.slice p n c))) (hl : v.length = 16) (hg : ∃ (old : Vc) (so : Value), CRow w g old so ∧ old.length = 16) (h : K (a.put o.dst undef) (w.setRow g (ccs v (.slice p n c)))) :
    if Region.wanted o (yielded ops a.tmps) = true then Oper.wp Tryz.prog o a w K Q else K (a.put o.dst undef) w := by
  obtain ⟨old, so, hg, ho2⟩ := hg
  have hl' := run_storeVar_row (P := Tryz.prog) w g 27 27 (ccs old so) (ccs v (.slice p n c)) hg (infoC _ hl) (by rw [ccs_size, ccs_size, hl, ho2]) (ccs_one _ _ _ _)
  simp only [Region.wanted, hgd, if_true]
  unfold Oper.wp execOp
  simp only [ho, hx, hy, Instr.storeAt, Instr.sureAddr, Sem.run_bind, Sem.run_pure, Result.andThen_ok, hl']
  exact h

/-- what lies there while a context is made of others -/
structure Hold1 (w : World) (v : Vc) (s : Value) (U : World) : Prop where
  row : CRow U w.heap.size v s
  res : ∃ (old : Vc) (so : Value), CRow U (w.heap.size + 1) old so ∧ old.length = 16
  low : Go.RowKit.Below w.heap.size w U
theorem Hold1.below {w U U' : World} {v : Vc} {s : Value} (h : Hold1 w v s U) (hb : Go.RowKit.Below U.heap.size U U') : Hold1 w v s U' :=
  ⟨h.row.keep hb, by obtain ⟨o, so, h1, h2⟩ := h.res; exact ⟨o, so, h1.keep hb, h2⟩, h.low.trans (hb.mono h.low.size)⟩
theorem Hold1.alloc {w U : World} {v : Vc} {s : Value} (h : Hold1 w v s U) (o : Obj) : Hold1 w v s (U.alloc o) := h.below ((Below.refl _ _).alloc (Nat.le_refl _) o)
theorem Hold1.put {w U : World} {v x : Vc} {s t : Value} (h : Hold1 w v s U) (hx : x.length = 16) : Hold1 w v s (U.setRow (w.heap.size + 1) (ccs x t)) ∧ CRow (U.setRow (w.heap.size + 1) (ccs x t)) (w.heap.size + 1) x t := by
  obtain ⟨o, so, h1, h2⟩ := h.res
  have h3 := CRow.of_put h1 x t
  exact ⟨⟨h.row.of_set (by omega) _, ⟨x, t, h3, hx⟩, belowRow h.low (by omega) _⟩, h3⟩
structure Hold2 (w : World) (v : Vc) (s : Value) (v2 : Vc) (s2 : Value) (U : World) : Prop where
  row : CRow U w.heap.size v s
  row2 : CRow U (w.heap.size + 1) v2 s2
  res : ∃ (old : Vc) (so : Value), CRow U (w.heap.size + 2) old so ∧ old.length = 16
  low : Go.RowKit.Below w.heap.size w U
theorem Hold2.below {w U U' : World} {v v2 : Vc} {s s2 : Value} (h : Hold2 w v s v2 s2 U) (hb : Go.RowKit.Below U.heap.size U U') : Hold2 w v s v2 s2 U' :=
  ⟨h.row.keep hb, h.row2.keep hb, by obtain ⟨o, so, h1, h2⟩ := h.res; exact ⟨o, so, h1.keep hb, h2⟩, h.low.trans (hb.mono h.low.size)⟩
theorem Hold2.put {w U : World} {v v2 x : Vc} {s s2 t : Value} (h : Hold2 w v s v2 s2 U) (hx : x.length = 16) : Hold2 w v s v2 s2 (U.setRow (w.heap.size + 2) (ccs x t)) ∧ CRow (U.setRow (w.heap.size + 2) (ccs x t)) (w.heap.size + 2) x t := by
  obtain ⟨o, so, h1, h2⟩ := h.res
  have h3 := CRow.of_put h1 x t
  exact ⟨⟨h.row.of_set (by omega) _, h.row2.of_set (by omega) _, ⟨x, t, h3, hx⟩, belowRow h.low (by omega) _⟩, h3⟩
/-- a context's cloud stays where a block above it is written -/
theorem CIn.setRow {w : World} {o : Cx} {p : Option Addr} {lo g : Nat} (h : CIn w o p) (hf : DFrom w lo p o.l) (hg : g < lo) (C : Array Value) : CIn (w.setRow g C) o p := ⟨h.v16, (hf.setRow hg C).din, h.len⟩
theorem two_new (W : World) (x y : Value) : TwoS (W.alloc (.cells #[x, y] 25)) W.heap.size x y :=
  ⟨by rw [Joins.cell_of_block (heap_alloc_new W _)]; rfl, by rw [Joins.cell_of_block (heap_alloc_new W _)]; rfl, by simp⟩

theorem three_two (w : World) (v v2 : Vc) (s s2 : Value) : CRow (boxC (boxC (boxC w v s) v2 s2) zV nilS) w.heap.size v s ∧ CRow (boxC (boxC (boxC w v s) v2 s2) zV nilS) (w.heap.size + 1) v2 s2 ∧
    CRow (boxC (boxC (boxC w v s) v2 s2) zV nilS) (w.heap.size + 2) zV nilS ∧ Go.RowKit.Below w.heap.size w (boxC (boxC (boxC w v s) v2 s2) zV nilS) := by
  have e1 := boxC_size w v s
  have e2 := boxC_size (boxC w v s) v2 s2
  have h0 := CRow.new w v s
  have h1 := CRow.new (boxC w v s) v2 s2
  have h2 := CRow.new (boxC (boxC w v s) v2 s2) zV nilS
  rw [e1] at h1
  rw [e2, e1] at h2
  exact ⟨(h0.alloc _).alloc _, h1.alloc _, h2, ((boxC_below w v s).alloc (by rw [e1]; omega) _).alloc (by rw [World.size_alloc, e1]; omega) _⟩
set_option maxHeartbeats 4000000 in
theorem addCC (c : Cx) (m : List Dt) (a b : Option Addr) (cap capb : Nat) (w : World) (h : CIn w c a) (hm : DIn w b m) (hl : c.l.length + m.length ≤ 32768) :
    Calls Tryz.prog 42 #[.agg (ccs c.v (.slice a c.l.length cap)), .slice b m.length capb] w fun e w' => (∃ (o : Cx) (a' : Option Addr) (cap' : Nat), e = .returned (.agg (ccs o.v (.slice a' o.l.length cap'))) ∧ AddOf c m o ∧ Made w.heap.size w' o a' ∧ o.l.length ≤ c.l.length + m.length) ∧ Go.RowKit.Below w.heap.size w w' := by
  have HV := Lib.hid h.v16
  have HI := Lib.hid (And.intro h hm)
  obtain ⟨L, hL⟩ : ∃ L, L = c.l ++ m := ⟨_, rfl⟩
  have HL := Lib.hid hL
  clear hL
  have H0 : Hid (Hold1 w c.v (.slice a c.l.length cap) (boxC (boxC w c.v (.slice a c.l.length cap)) zV nilS)) := Lib.hid ⟨(CRow.new w _ _).alloc _, ⟨zV, nilS, by have := CRow.new (boxC w c.v (.slice a c.l.length cap)) zV nilS; rw [boxC_size] at this; exact this, rfl⟩, (boxC_below _ _ _).trans ((boxC_below _ _ _).mono (by rw [boxC_size]; omega))⟩
  unfold boxC at H0
  clear h hm
  go_enter Tryz.func42, Tryz.ntmps42
  go_upto_region 1 with fail
  change Code.wp _ _ _ _ ((w.alloc (.cells (ccs c.v (.slice a c.l.length cap)) 27)).alloc (.cells (ccs zV nilS) 27))
  generalize (w.alloc (.cells (ccs c.v (.slice a c.l.length cap)) 27)).alloc (.cells (ccs zV nilS) 27) = W at *
  refine wp_region_held (S := fun U => Hold1 w c.v (.slice a c.l.length cap) U) (by kernel_rfl) ?_
  change wpAnyH _ _ _ _ _ _ _ _ W.drew
  have K0 : (fun U => Hold1 w c.v (.slice a c.l.length cap) U) W.drew := H0.out.below (Below.refl _ _).drew
  refine wpAnyH_take (i := 0) (oi := { dst := some 5, op := _, type := _, pos := _, after := _, guard := _ }) (v := ?v1) rfl (by kernel_rfl) (by kernel_rfl) (by kernel_rfl) (fun _ _ _ h => h) (Or.inl ⟨by rfl, ?hy1⟩) K0 ?rest1
  case hy1 => (intro w hSw; (try dsimp only at hSw); first | (go_simp; done) | (go_simp; with_reducible rfl))
  try simp only [Act.put, List.setIfInBounds_toArray, List.set_cons_zero, List.set_cons_succ]
  refine wpAnyH_take (i := 1) (oi := { dst := some 6, op := _, type := _, pos := _, after := _, guard := _ }) rfl (by kernel_rfl) (by kernel_rfl) (by kernel_rfl) (fun _ _ _ h => h) (yield_V (by rfl) (.tmp 5) rfl w.heap.size c.v (.slice a c.l.length cap) rfl (fun U hU => hU.row) HV.out) K0 ?_
  try simp only [Act.put, List.setIfInBounds_toArray, List.set_cons_zero, List.set_cons_succ]
  refine wpAnyH_take (i := 2) (oi := { dst := some 7, op := _, type := _, pos := _, after := _, guard := _ }) (v := ?v3) rfl (by kernel_rfl) (by kernel_rfl) (by kernel_rfl) (fun _ _ _ h => h) (Or.inl ⟨by rfl, ?hy3⟩) K0 ?rest3
  case hy3 => (intro w hSw; (try dsimp only at hSw); first | (go_simp; done) | (go_simp; with_reducible rfl))
  try simp only [Act.put, List.setIfInBounds_toArray, List.set_cons_zero, List.set_cons_succ]
  refine wpAnyH_take (i := 3) (oi := { dst := some 8, op := _, type := _, pos := _, after := _, guard := _ }) rfl (by kernel_rfl) (by kernel_rfl) (by kernel_rfl) (fun _ _ _ h => h) (yield_S (by rfl) (.tmp 7) rfl w.heap.size c.v (.slice a c.l.length cap) rfl (fun U hU => hU.row) HV.out) K0 ?_
  try simp only [Act.put, List.setIfInBounds_toArray, List.set_cons_zero, List.set_cons_succ]
  refine wpAnyH_take (i := 4) (oi := { dst := some 9, op := _, type := _, pos := _, after := _, guard := _ }) (v := ?v5) rfl (by kernel_rfl) (by kernel_rfl) (by kernel_rfl) (fun _ _ _ h => h) (Or.inl ⟨by rfl, ?hy5⟩) K0 ?rest5
  case hy5 => (intro w hSw; (try dsimp only at hSw); first | (go_simp; done) | (go_simp; with_reducible rfl))
  try simp only [Act.put, List.setIfInBounds_toArray, List.set_cons_zero, List.set_cons_succ]
  refine wpAnyH_ready (rs := [5]) (by kernel_rfl) (by simp) ?_
  refine AllReadyH.cons (o := { dst := some 10, op := _, type := _, pos := _, after := _, guard := _ }) rfl (fun K hK => ?_) AllReadyH.nil
  go_simp
  have K5 := K0.alloc (.cells #[.slice a c.l.length cap, .slice b m.length capb] 25)
  have HT := Lib.hid (two_new W.drew (.slice a c.l.length cap) (.slice b m.length capb))
  refine hK.out _ _ K5 (fun _ => ?_)
  clear hK K
  try simp only [Act.put, List.setIfInBounds_toArray, List.set_cons_zero, List.set_cons_succ]
  refine wpAnyH_ready (rs := [6]) (by kernel_rfl) (by simp) ?_
  refine AllReadyH.cons (o := { dst := some 11, op := _, type := _, pos := _, after := _, guard := _ }) rfl (fun K hK => ?_) AllReadyH.nil
  go_simp
  refine (concatD c.l m a b cap capb W.drew.heap.size _ (HI.out.1.din.below K5.low) (HI.out.2.below K5.low) (by omega) HT.out).mono ?_
  rintro e w6 ⟨v6, rfl, hown6, hb6⟩
  rw [← HL.out] at hown6
  obtain ⟨pa, pc, rfl, hdi6, -⟩ := hown6.din
  have K6 := K5.below hb6
  have HD6 := Lib.hid hdi6
  have hs6 : w.heap.size + 2 ≤ w6.heap.size := by obtain ⟨_, _, h1, _⟩ := K6.res; have := h1.lt; omega
  clear hown6 hdi6 hb6
  refine hK.out _ _ K6 (fun _ => ?_)
  clear hK K
  try simp only [Act.put, List.setIfInBounds_toArray, List.set_cons_zero, List.set_cons_succ]
  refine wpAnyH_take (i := 7) (oi := { dst := some 12, op := _, type := _, pos := _, after := _, guard := _ }) rfl (by kernel_rfl) (by kernel_rfl) (by kernel_rfl) (fun _ _ _ h => h) (yield_B (by rfl) (.tmp 6) (.tmp 11) rfl c.v pa L.length pc rfl rfl HV.out) K6 ?_
  try simp only [Act.put, List.setIfInBounds_toArray, List.set_cons_zero, List.set_cons_succ]
  refine wpAnyH_ready (rs := [8]) (by kernel_rfl) (by simp) ?_
  refine AllReadyH.cons (o := { dst := some 13, op := _, type := _, pos := _, after := _, guard := _ }) rfl (fun K hK => ?_) AllReadyH.nil
  go_simp
  have hcl := cleanCC ⟨c.v, L⟩ pa pc w6 ⟨HV.out, HD6.out, by rw [HL.out, List.length_append]; exact hl⟩
  refine hcl.mono ?_
  rintro e w8 ⟨⟨o, oa, oc, rfl, hof, hoi, hol, -⟩, hb8⟩
  have K8 := K6.below hb8
  have HO := Lib.hid (And.intro (addOf_cloud (by rw [← HL.out]; exact hof)) (And.intro hoi (And.intro hb8 (show o.l.length ≤ c.l.length + m.length by have := hol; rw [HL.out] at this; simpa using this))))
  clear hcl hof hoi hol hb8
  refine hK.out _ _ K8 (fun _ => ?_)
  clear hK K
  try simp only [Act.put, List.setIfInBounds_toArray, List.set_cons_zero, List.set_cons_succ]
  refine wpAnyH_ready (rs := [9]) (by kernel_rfl) (by simp) ?_
  refine AllReadyH.cons (o := { dst := none, op := _, type := _, pos := _, after := _, guard := _ }) rfl (fun K hK => ?_) AllReadyH.nil
  refine draw_storeC rfl (.tmp 4) (.tmp 13) rfl (w.heap.size + 1) rfl o.v oa o.l.length oc rfl HO.out.2.1.v16 K8.res ?_
  have K9 := (K8.put (x := o.v) (t := .slice oa o.l.length oc) HO.out.2.1.v16).1
  have HR := Lib.hid (K8.put (x := o.v) (t := .slice oa o.l.length oc) HO.out.2.1.v16).2
  refine hK.out _ _ K9 (fun _ => ?_)
  clear hK K
  try simp only [Act.put, List.setIfInBounds_toArray, List.set_cons_zero, List.set_cons_succ]
  refine wpAnyH_done (by kernel_rfl) ?_ _
  try simp only [Act.put, List.setIfInBounds_toArray, List.set_cons_zero, List.set_cons_succ]
  have HF := Lib.hid (And.intro K9.low ((HO.out.2.1.mono (show w.heap.size + 2 ≤ w6.heap.size by omega)).setRow (show w.heap.size + 1 < w.heap.size + 2 by omega) (ccs o.v (.slice oa o.l.length oc))))
  clear K0 K5 K6 K8 K9
  go_wp2_with fail
  exact bodyPost_ret (retC rfl _ _ (w.heap.size + 1) o.v (.slice oa o.l.length oc) rfl HR.out HO.out.2.1.v16) rfl ⟨⟨o, oa, oc, rfl, HO.out.1, HF.out.2.mono (by omega), HO.out.2.2.2⟩, HF.out.1⟩

set_option maxHeartbeats 4000000 in
theorem joinCC (a b : Cx) (pa pb : Option Addr) (ca cb : Nat) (w : World) (h : CIn w a pa) (hm : CIn w b pb) (hl : a.l.length + b.l.length ≤ 32768) :
    Calls Tryz.prog 28 #[.agg (ccs a.v (.slice pa a.l.length ca)), .agg (ccs b.v (.slice pb b.l.length cb))] w fun e w' => (∃ (o : Cx) (a' : Option Addr) (cap' : Nat), e = .returned (.agg (ccs o.v (.slice a' o.l.length cap'))) ∧ JoinOf a b o ∧ Made w.heap.size w' o a' ∧ o.l.length ≤ a.l.length + b.l.length) ∧ Go.RowKit.Below w.heap.size w w' := by
  have HV := Lib.hid h.v16
  have HV2 := Lib.hid hm.v16
  have HI := Lib.hid (And.intro h hm)
  have HC := Lib.hid (three_two w a.v b.v (.slice pa a.l.length ca) (.slice pb b.l.length cb))
  have H0 : Hid (Hold2 w a.v (.slice pa a.l.length ca) b.v (.slice pb b.l.length cb) (boxC (boxC (boxC w a.v (.slice pa a.l.length ca)) b.v (.slice pb b.l.length cb)) zV nilS)) := Lib.hid ⟨HC.out.1, HC.out.2.1, ⟨zV, nilS, HC.out.2.2.1, rfl⟩, HC.out.2.2.2⟩
  have hvj := fun W => vjoinC a.v b.v HV.out HV2.out W
  have HJL := Lib.hid (joinV_len HV.out HV2.out)
  obtain ⟨J, hJ⟩ : ∃ J, J = joinV a.v b.v := ⟨_, rfl⟩
  rw [← hJ] at hvj HJL
  have HJ := Lib.hid hJ
  have HVJ := Lib.hid hvj
  unfold boxC at H0
  clear h hm HC hvj hJ
  go_enter Tryz.func28, Tryz.ntmps28
  go_upto_region 1 with fail
  change Code.wp _ _ _ _ (((w.alloc (.cells (ccs a.v (.slice pa a.l.length ca)) 27)).alloc (.cells (ccs b.v (.slice pb b.l.length cb)) 27)).alloc (.cells (ccs zV nilS) 27))
  generalize ((w.alloc (.cells (ccs a.v (.slice pa a.l.length ca)) 27)).alloc (.cells (ccs b.v (.slice pb b.l.length cb)) 27)).alloc (.cells (ccs zV nilS) 27) = W at *
  refine wp_region_held (S := fun U => Hold2 w a.v (.slice pa a.l.length ca) b.v (.slice pb b.l.length cb) U) (by kernel_rfl) ?_
  change wpAnyH _ _ _ _ _ _ _ _ W.drew
  have K0 : (fun U => Hold2 w a.v (.slice pa a.l.length ca) b.v (.slice pb b.l.length cb) U) W.drew := H0.out.below (Below.refl _ _).drew
  refine wpAnyH_take (i := 0) (oi := { dst := some 5, op := _, type := _, pos := _, after := _, guard := _ }) (v := ?v7) rfl (by kernel_rfl) (by kernel_rfl) (by kernel_rfl) (fun _ _ _ h => h) (Or.inl ⟨by rfl, ?hy7⟩) K0 ?rest7
  case hy7 => (intro w hSw; (try dsimp only at hSw); first | (go_simp; done) | (go_simp; with_reducible rfl))
  try simp only [Act.put, List.setIfInBounds_toArray, List.set_cons_zero, List.set_cons_succ]
  refine wpAnyH_take (i := 1) (oi := { dst := some 6, op := _, type := _, pos := _, after := _, guard := _ }) rfl (by kernel_rfl) (by kernel_rfl) (by kernel_rfl) (fun _ _ _ h => h) (yield_V (by rfl) (.tmp 5) rfl w.heap.size a.v (.slice pa a.l.length ca) rfl (fun U hU => hU.row) HV.out) K0 ?_
  try simp only [Act.put, List.setIfInBounds_toArray, List.set_cons_zero, List.set_cons_succ]
  refine wpAnyH_take (i := 2) (oi := { dst := some 7, op := _, type := _, pos := _, after := _, guard := _ }) (v := ?v9) rfl (by kernel_rfl) (by kernel_rfl) (by kernel_rfl) (fun _ _ _ h => h) (Or.inl ⟨by rfl, ?hy9⟩) K0 ?rest9
  case hy9 => (intro w hSw; (try dsimp only at hSw); first | (go_simp; done) | (go_simp; with_reducible rfl))
  try simp only [Act.put, List.setIfInBounds_toArray, List.set_cons_zero, List.set_cons_succ]
  refine wpAnyH_take (i := 3) (oi := { dst := some 8, op := _, type := _, pos := _, after := _, guard := _ }) rfl (by kernel_rfl) (by kernel_rfl) (by kernel_rfl) (fun _ _ _ h => h) (yield_V (by rfl) (.tmp 7) rfl (w.heap.size + 1) b.v (.slice pb b.l.length cb) rfl (fun U hU => hU.row2) HV2.out) K0 ?_
  try simp only [Act.put, List.setIfInBounds_toArray, List.set_cons_zero, List.set_cons_succ]
  refine wpAnyH_take (i := 5) (oi := { dst := some 10, op := _, type := _, pos := _, after := _, guard := _ }) (v := ?v11) rfl (by kernel_rfl) (by kernel_rfl) (by kernel_rfl) (fun _ _ _ h => h) (Or.inl ⟨by rfl, ?hy11⟩) K0 ?rest11
  case hy11 => (intro w hSw; (try dsimp only at hSw); first | (go_simp; done) | (go_simp; with_reducible rfl))
  try simp only [Act.put, List.setIfInBounds_toArray, List.set_cons_zero, List.set_cons_succ]
  refine wpAnyH_take (i := 6) (oi := { dst := some 11, op := _, type := _, pos := _, after := _, guard := _ }) rfl (by kernel_rfl) (by kernel_rfl) (by kernel_rfl) (fun _ _ _ h => h) (yield_S (by rfl) (.tmp 10) rfl w.heap.size a.v (.slice pa a.l.length ca) rfl (fun U hU => hU.row) HV.out) K0 ?_
  try simp only [Act.put, List.setIfInBounds_toArray, List.set_cons_zero, List.set_cons_succ]
  refine wpAnyH_take (i := 8) (oi := { dst := some 13, op := _, type := _, pos := _, after := _, guard := _ }) (v := ?v13) rfl (by kernel_rfl) (by kernel_rfl) (by kernel_rfl) (fun _ _ _ h => h) (Or.inl ⟨by rfl, ?hy13⟩) K0 ?rest13
  case hy13 => (intro w hSw; (try dsimp only at hSw); first | (go_simp; done) | (go_simp; with_reducible rfl))
  try simp only [Act.put, List.setIfInBounds_toArray, List.set_cons_zero, List.set_cons_succ]
  refine wpAnyH_take (i := 9) (oi := { dst := some 14, op := _, type := _, pos := _, after := _, guard := _ }) rfl (by kernel_rfl) (by kernel_rfl) (by kernel_rfl) (fun _ _ _ h => h) (yield_S (by rfl) (.tmp 13) rfl (w.heap.size + 1) b.v (.slice pb b.l.length cb) rfl (fun U hU => hU.row2) HV2.out) K0 ?_
  try simp only [Act.put, List.setIfInBounds_toArray, List.set_cons_zero, List.set_cons_succ]
  refine wpAnyH_ready (rs := [4]) (by kernel_rfl) (by simp) ?_
  refine AllReadyH.cons (o := { dst := some 9, op := _, type := _, pos := _, after := _, guard := _ }) rfl (fun K hK => ?_) AllReadyH.nil
  go_simp
  refine (HVJ.out _).mono ?_
  rintro e w4 ⟨rfl, hb4⟩
  have K4 := K0.below hb4
  clear hb4
  refine hK.out _ _ K4 (fun _ => ?_)
  clear hK K
  try simp only [Act.put, List.setIfInBounds_toArray, List.set_cons_zero, List.set_cons_succ]
  refine wpAnyH_take (i := 7) (oi := { dst := some 12, op := _, type := _, pos := _, after := _, guard := _ }) rfl (by kernel_rfl) (by kernel_rfl) (by kernel_rfl) (fun _ _ _ h => h) (yield_B (by rfl) (.tmp 9) (.tmp 11) rfl J pa a.l.length ca rfl rfl HJL.out) K4 ?_
  try simp only [Act.put, List.setIfInBounds_toArray, List.set_cons_zero, List.set_cons_succ]
  refine wpAnyH_ready (rs := [10]) (by kernel_rfl) (by simp) ?_
  refine AllReadyH.cons (o := { dst := some 15, op := _, type := _, pos := _, after := _, guard := _ }) rfl (fun K hK => ?_) AllReadyH.nil
  go_simp
  have hcl := addCC ⟨J, a.l⟩ b.l pa pb ca cb w4 ⟨HJL.out, HI.out.1.din.below K4.low, HI.out.1.len⟩ (HI.out.2.din.below K4.low) hl
  refine hcl.mono ?_
  rintro e w8 ⟨⟨o, oa, oc, rfl, hof, hoi, hol⟩, hb8⟩
  have K10 := K4.below hb8
  have HO := Lib.hid (And.intro (joinOf_add HV.out HV2.out (by rw [← HJ.out]; exact hof)) (And.intro hoi (And.intro hb8 (show o.l.length ≤ a.l.length + b.l.length from hol))))
  have hs4 : w.heap.size + 3 ≤ w4.heap.size := by obtain ⟨_, _, h1, _⟩ := K4.res; have := h1.lt; omega
  clear hcl hof hoi hol hb8
  refine hK.out _ _ K10 (fun _ => ?_)
  clear hK K
  try simp only [Act.put, List.setIfInBounds_toArray, List.set_cons_zero, List.set_cons_succ]
  refine wpAnyH_ready (rs := [11]) (by kernel_rfl) (by simp) ?_
  refine AllReadyH.cons (o := { dst := none, op := _, type := _, pos := _, after := _, guard := _ }) rfl (fun K hK => ?_) AllReadyH.nil
  refine draw_storeC rfl (.tmp 4) (.tmp 15) rfl (w.heap.size + 2) rfl o.v oa o.l.length oc rfl HO.out.2.1.v16 K10.res ?_
  have K11 := (K10.put (x := o.v) (t := .slice oa o.l.length oc) HO.out.2.1.v16).1
  have HR := Lib.hid (K10.put (x := o.v) (t := .slice oa o.l.length oc) HO.out.2.1.v16).2
  refine hK.out _ _ K11 (fun _ => ?_)
  clear hK K
  try simp only [Act.put, List.setIfInBounds_toArray, List.set_cons_zero, List.set_cons_succ]
  refine wpAnyH_done (by kernel_rfl) ?_ _
  try simp only [Act.put, List.setIfInBounds_toArray, List.set_cons_zero, List.set_cons_succ]
  have HF := Lib.hid (And.intro K11.low ((HO.out.2.1.mono hs4).setRow (show w.heap.size + 2 < w.heap.size + 3 by omega) (ccs o.v (.slice oa o.l.length oc))))
  clear K0 K4 K10 K11
  go_wp2_with fail
  exact bodyPost_ret (retC rfl _ _ (w.heap.size + 2) o.v (.slice oa o.l.length oc) rfl HR.out HO.out.2.1.v16) rfl ⟨⟨o, oa, oc, rfl, HO.out.1, HF.out.2.mono (by omega), HO.out.2.2.2⟩, HF.out.1⟩
end Go.Proofs.YtcedliaeipabnaaGreat

namespace Go.Proofs.YtcedliaeipabnaaGreat
open Go.RowKit

theorem strInfo : (Tryz.prog.info? 9).map (fun i => (i.zero, i.size, i.bytes)) = some (some (.string ByteArray.empty), 1, 16) := by kernel_rfl

/-- The slice v is the call's own, and holds the texts ss. -/
def OwnS (B : Nat) (v : Value) (ss : List ByteArray) (w : World) : Prop := w.ownsRow B 9 1 v ss.length (ss.map Value.string)

theorem ownS_nil (B : Nat) (w : World) : OwnS B (.slice none 0 0) [] w := World.ownsRow_nil _ _ _ _

theorem OwnS.keep {B b : Nat} {v : Value} {ss : List ByteArray} {w w' : World} (h : OwnS B v ss w) (hg : w.grownBy w' (some b)) (hb : b < B) : OwnS B v ss w' :=
  World.ownsRow.kept h hg (.inr fun e => by have := (World.ownsRow.lt h b e).1; omega)

set_option maxHeartbeats 2000000 in
set_option maxRecDepth 100000 in
theorem rlist_any (b : Nat) (st : ByteArray × Int) (w : World) (h : Rd b st w) (hsz : st.1.size ≤ 9223372036854775807) :
    Calls Tryz.prog 131 #[.pointer (some ⟨b, 0, none⟩)] w fun e w' => ∃ v, e = .returned v ∧ OwnS w.heap.size v (sList st).1 w' ∧ Rd b (sList st).2 w' ∧ w.grownBy w' (some b) := by
  obtain ⟨i0, hi, hz0, hz1, hz2⟩ := info_parts strInfo
  have hbw := h.lt
  have hsc := sCount_size 4096 st
  have H := Lib.hid h
  clear h
  go_enter Tryz.func131, Tryz.ntmps131
  go_wp2_with fail
  refine (count_any b st 4096 (by omega) w H.out hsz).mono ?_
  rintro e w1 ⟨rfl, h1, hg1⟩
  have her : (sCount 4096 st).2.1 = true → (sCount 4096 st).2.2.2 = 0 ∧ (sCount 4096 st).1 ≤ 4096 := by
    unfold sCount
    split
    · intro h; cases h
    · split
      · intro h; cases h
      · intro _; simp only; omega
  generalize hr : sCount 4096 st = r at h1 hsc her ⊢
  obtain ⟨n, ok, s1, er⟩ := r
  simp only at h1 hsc her ⊢
  have HR := Lib.hid hr
  clear hr
  have H1 := Lib.hid h1
  clear h1
  cases ok with
  | false =>
    clear her
    go_wp2
    go_ret
    have hS : sList st = ([], (s1, er)) := by simp [sList, HR.out]
    rw [hS]
    exact ⟨_, rfl, ownS_nil _ _, H1.out, hg1⟩
  | true =>
    obtain ⟨rfl, hn⟩ := her rfl
    clear her
    have hS : sList st = sTexts n (s1, 0) [] := by simp [sList, HR.out]
    have HS := Lib.hid hS
    clear hS
    go_wp2
    go_loopw [5, 15] (fun l i wr => ∃ (k : Nat) (acc : List ByteArray) (s : ByteArray), i = .int .i64 k ∧ k ≤ n ∧ acc.length = k ∧ s.size ≤ st.1.size ∧ sTexts (n - k) (s, 0) acc = sTexts n (s1, 0) [] ∧ OwnS w.heap.size l acc wr ∧ Rd b (s, 0) wr ∧ w.grownBy wr (some b)) (fun _ i _ => n - (intOf i).toNat)
    case atStart => exact ⟨0, [], s1, rfl, Nat.zero_le _, rfl, hsc, rfl, ownS_nil _ _, H1.out, hg1⟩
    case round =>
      obtain ⟨k, acc, s, rfl, hk, hacc, hss, heq, hown, hrd, hg⟩ := hrel
      have HQ := Lib.hid heq
      have HC := Lib.hid hacc
      have HRd := Lib.hid hrd
      have hBr := hg.size
      clear heq hacc hrd
      by_cases hlt : k < n
      · have hts := sText_size (s, 0)
        have hcut : n - k = (n - (k + 1)) + 1 := by omega
        have HU := Lib.hid hcut
        clear hcut
        go_wp2_with fail
        refine (rtext_any b (s, 0) wr HRd.out (by simp only; omega)).mono ?_
        rintro e w2 ⟨rfl, h2, hg2⟩
        generalize hq : sText (s, 0) = q at h2 hts ⊢
        obtain ⟨t, s2, e2⟩ := q
        simp only at h2 hts ⊢
        have HT := Lib.hid hq
        clear hq
        have hc1 := h2.err
        simp only at hc1
        have hown2 := OwnS.keep hown hg2 hbw
        have hB2 := hg2.size
        have H2 := Lib.hid h2
        clear h2 hown
        by_cases h0 : e2 = 0
        · subst h0
          go_wp2_with (at_builtin; refine wpList_append_own _ rfl _ _ 117 rfl w.heap.size 9 i0 (.string ByteArray.empty) 1 16 Tryz.underlying117 hi hz0 hz1 hz2 rfl (by decide) _ _ _ rfl (World.ownsRow.alloc hown2 _) ⟨w2.heap.size, 0, none⟩ 1 1 [Value.string t] rfl rfl ?c1 ?c2 ?c3 ?c4 ?c5 ?_)
          case c1 =>
            intro j u hj
            match j, hj with
            | 0, hj => simp at hj; subst hj; simp [Addr.add]
          case c2 => intro u hu; simp at hu; subst hu; rfl
          case c3 => have := HC.out; unfold maxLen; omega
          case c4 => have := HC.out; omega
          case c5 => simp; omega
          intro v' w3 hown3 hg3 _
          have hrd3 : Rd b (s2, 0) w3 := (H2.out.grown (World.grownBy_alloc _ _ none) (fun _ h => by cases h)).grown hg3 (fun j hj => by have := (World.ownsRow.lt hown2 j hj).1; omega)
          have hgg : w.grownBy w3 (some b) := ((hg.trans hg2).trans (World.grownBy_alloc _ _ _)).andThen hg3 (fun j hj => .inl ((World.ownsRow.lt hown2 j hj).1))
          have hown4 : OwnS w.heap.size v' (acc ++ [t]) w3 := by unfold OwnS; rw [List.length_append, List.map_append]; exact hown3
          have H3 := Lib.hid hrd3
          have H4 := Lib.hid hown4
          clear hown3 hown2 hrd3 hown4 hg3
          go_wp2
          go_roundw
          case rel =>
            refine ⟨k + 1, acc ++ [t], s2, by go_num, by omega, by rw [List.length_append, HC.out]; rfl, by omega, ?_, H4.out, H3.out, hgg⟩
            rw [← HQ.out, HU.out, sTexts, HT.out]
            rfl
          case measure => simp [intOf]; omega
        · have hb : (e2 != 0) = true := by simp [h0]
          go_wp2
          go_ret
          have hfin : sList st = ([], (s2, e2)) := by rw [HS.out, ← HQ.out, HU.out, sTexts, HT.out, if_pos h0]
          rw [hfin]
          exact ⟨_, rfl, ownS_nil _ _, H2.out, hg.trans hg2⟩
      · obtain rfl : k = n := by omega
        go_wp2
        go_ret
        have hfin : sList st = (acc, (s, 0)) := by rw [HS.out, ← HQ.out, Nat.sub_self]; rfl
        rw [hfin]
        exact ⟨_, rfl, hown, HRd.out, hg⟩
end Go.Proofs.YtcedliaeipabnaaGreat
