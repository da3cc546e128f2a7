/-
  Plain: what is put is read as it was (a manifest).
  almonrylaw20: fact, what awake speaks of.
  almonrylaw20: awake.
-/
import Derived.Test.YtchnklekeinhiaaGreatGV38
import Derived.Test.YtchnklekeinhiaaGreatGV37
import Derived.Test.YtchnklekeinhiaaGreatGV10
import Derived.Test.YtchnklekeinhiaaGreatGV01
import Derived.Test.YtchnklekeinhiaaGreatGV32
import Derived.Test.YtchnklekeinhiaaGreatGV34
import Derived.Test.YtchnklekeinhiaaGreatGV27
import Derived.Test.YtchnklekeinhiaaGreatGV33
import Derived.Test.YtchnklekeinhiaaGreatGV13
namespace Go.Proofs.YtchnklekeinhiaaGreat

theorem man_ok {s : ByteArray} {n : Int} (h : cutE s.size n = 0) : ∃ m : Nat, n = m ∧ 1 ≤ m ∧ m ≤ 4096 ∧ s.size ≤ 32768 ∧ nP s.size m ≤ 4096 ∧ cutL s n = parts s m ∧ manOf s n = ⟨s.size, m, (parts s m).map idS⟩ := by
  obtain ⟨m, rfl, h1, h2, h3, h4⟩ := cutE_ok h
  exact ⟨m, rfl, h1, h2, h3, h4, by unfold cutL; rw [if_pos h, Int.toNat_natCast], by unfold manOf; rw [if_pos h, Int.toNat_natCast]⟩

theorem manE_manOf {s : ByteArray} {n : Int} (h : cutE s.size n = 0) : manE (manOf s n) = 0 := by
  obtain ⟨m, rfl, h1, h2, h3, h4, _, hm⟩ := man_ok h
  rw [hm]
  unfold manE
  simp only [Int.toNat_natCast, List.length_map, parts_length]
  rw [if_neg (by omega), if_neg, if_neg (by omega)]
  rintro (h | h)
  · exact h rfl
  · apply h
    intro x hx
    obtain ⟨y, _, rfl⟩ := List.mem_map.1 hx
    exact ck_id y

theorem rMan_put {m : Man} (h : manE m = 0) : rMan (putM m).1 = m ∧ doneS (rSt (putM m).1) = 0 := by
  obtain ⟨hz0, hz1, hil, hc0, hc1, hids, -⟩ := manE_ok h
  have h64 : ∀ s ∈ m.ids, s.size ≤ 65536 := fun s hs => by have := ck_size (hids s hs); omega
  have hp : (putM m).1 = ⟨(Lib.uvarint m.size.toNat ++ (Lib.uvarint m.chunk.toNat ++ (Lib.uvarint m.ids.length ++ encTexts m.ids ++ []))).toArray⟩ := by
    unfold putM; rw [if_pos h]; unfold encL; simp
  have e1 := sNum_uv m.size.toNat (by omega) (Lib.uvarint m.chunk.toNat ++ (Lib.uvarint m.ids.length ++ encTexts m.ids ++ []))
  have e2 := sNum_uv m.chunk.toNat (by omega) (Lib.uvarint m.ids.length ++ encTexts m.ids ++ [])
  have e3 := sList_enc m.ids hil h64 []
  rw [hp]
  constructor
  · unfold rMan
    rw [e1, e2]
    simp only
    rw [e3]
    obtain ⟨z, c, ids⟩ := m
    simp only at *
    rw [Int.toNat_of_nonneg hz0, Int.toNat_of_nonneg (by omega)]
  · unfold rSt
    rw [e1, e2]
    simp only
    rw [e3]
    rfl

theorem manRead_put {m : Man} (h : manE m = 0) : readM (putM m).1 = (m, 0) := by
  obtain ⟨h1, h2⟩ := rMan_put h
  unfold readM
  rw [h1, h2, h]
  rfl
end Go.Proofs.YtchnklekeinhiaaGreat

namespace Go.Proofs.YtchnklekeinhiaaGreat
set_option linter.unusedSimpArgs false
set_option linter.unusedVariables false
set_option maxRecDepth 100000
open Go.RowKit Go.Sort

def atV (t k : Int) (v : ByteArray) : Ft := ⟨(0, t), ⟨t, 0, 0⟩, k, ⟨#[97]⟩, v⟩
set_option maxHeartbeats 1000000 in
theorem atVC (t k : Int) (v : ByteArray) (w : World) : Calls Tryz.prog 19 #[.int .i64 t, .int .i64 k, .string v] w fun e w' => e = .returned (.agg (fcs (atV t k v)).toArray) ∧ Below w.heap.size w w' := by
  have HB := Lib.hid (boxZ_below w (atV t k v))
  have HR := Lib.hid (boxZ_row w (atV t k v))
  go_enter Tryz.func19, Tryz.ntmps19
  go_wp2_with ((with_reducible refine fl_store ?_ (.tmp 6) (.tmp 13) ?_ w.heap.size (atV t k v) ?_ ?_ ?_ ?_); rfl; rfl; rfl; rfl; exact boxZ_old w)
  refine bodyPost_ret (results_cell_row rfl _ _ w.heap.size 48 (fcs (atV t k v)).toArray (0, 0) _ rfl HR.out Tryz.underlying48 rfl factSize) rfl ?_
  exact ⟨rfl, HB.out⟩
theorem build5F (a b c d e : Ft) (w : World) : (Instr.buildSlice 22 5 #[(0, .agg (fcs a).toArray), (1, .agg (fcs b).toArray), (2, .agg (fcs c).toArray), (3, .agg (fcs d).toArray), (4, .agg (fcs e).toArray)]).run Tryz.prog w = .ok (.slice (some ⟨w.heap.size, 0, none⟩) 5 5) (w.alloc (.cells (rowF [a, b, c, d, e]).toArray 48)) := by
  obtain ⟨i0, hi, hz0, hz1, hz2⟩ := info_parts factInfo
  refine run_buildSlice w 22 48 5 _ (rowF [a, b, c, d, e]).toArray i0 zeroF Tryz.underlying22 hi hz0 (by rw [hz1]; decide) (by rw [hz1]; decide) ?_
  rw [hz1]
  kernel_rfl
theorem wpList_build5F {ops : Array Oper} {rest : List Oper} {o : Oper} {a : Act} {w : World} {Q : Exit → Act → World → Prop} (hgd : o.guard = none) (x y z u v : Operand) (ho : o.op = .buildSlice 22 5 #[(0, x), (1, y), (2, z), (3, u), (4, v)]) (f g h i j : Ft)
    (hx : a.eval x = .agg (fcs f).toArray) (hy : a.eval y = .agg (fcs g).toArray) (hz : a.eval z = .agg (fcs h).toArray) (hu : a.eval u = .agg (fcs i).toArray) (hv : a.eval v = .agg (fcs j).toArray)
    (hk : wpList Tryz.prog ops Q rest (a.put o.dst (.slice (some ⟨w.heap.size, 0, none⟩) 5 5)) (w.alloc (.cells (rowF [f, g, h, i, j]).toArray 48))) : wpList Tryz.prog ops Q (o :: rest) a w := by
  refine wpList_plain hgd fun K hK => ?_
  have e : (#[(0, x), (1, y), (2, z), (3, u), (4, v)] : Array (Nat × Operand)).map (fun (i, x) => (i, a.eval x)) = #[(0, .agg (fcs f).toArray), (1, .agg (fcs g).toArray), (2, .agg (fcs h).toArray), (3, .agg (fcs i).toArray), (4, .agg (fcs j).toArray)] := by simp [hx, hy, hz, hu, hv]
  unfold Oper.wp execOp
  simp only [ho, Sem.run_bind]
  rw [e, build5F]
  exact hK _ _ hk

/-! the manifests -/
def vTwo : Man := manOf ⟨#[120, 121, 122]⟩ 2
def vOne : ByteArray := (putM ⟨0, 4, []⟩).1
def vS : ByteArray := (putM vTwo).1
theorem v_cut : cutE (⟨#[120, 121, 122]⟩ : ByteArray).size 2 = 0 := by decide +kernel
theorem v_ok : manE vTwo = 0 := manE_manOf v_cut
theorem v_readS : readM vS = (vTwo, 0) := manRead_put v_ok
theorem v_read1 : readM vOne = (⟨0, 4, []⟩, 0) := manRead_put (by decide +kernel)
theorem v_ids : vTwo.ids = [idS ⟨#[120, 121]⟩, idS ⟨#[122]⟩] := by decide +kernel
theorem v_unlike : idS ⟨#[120, 121]⟩ ≠ idS ⟨#[122]⟩ := by decide +kernel
theorem v_size : vS.size ≤ 5000 := by decide +kernel
theorem v_size1 : vOne.size ≤ 5000 := by decide +kernel
theorem v_short : ∀ s ∈ vTwo.ids, s.size ≤ 5000 := fun s hs => by
  have := ck_size ((manE_ok v_ok).2.2.2.2.2.1 s hs); omega
theorem v_len : vTwo.ids.length = 2 := by rw [v_ids]; rfl
def vK8 : ByteArray := ⟨#[64, 28, 0, 0, 0, 0, 0, 0]⟩
def v1 : Ft := atV 2 1 vS
def v2 : Ft := atV 1 1 vOne
def v3 : Ft := atV 3 2 ⟨#[122]⟩
def v4 : Ft := atV 4 3 ⟨#[116]⟩
def v5 : Ft := atV 5 4 vK8
attribute [irreducible] vTwo vOne vS vK8
abbrev vL : List Ft := [v1, v2, v3, v4, v5]
theorem v_of1 : ofR 1 ⟨#[97]⟩ vL = [v1, v2] := by simp [ofR, v1, v2, v3, v4, v5, atV]
theorem v_of2 : ofR 2 ⟨#[97]⟩ vL = [v3] := by simp [ofR, v1, v2, v3, v4, v5, atV]
theorem v_of3 : ofR 3 ⟨#[97]⟩ vL = [v4] := by simp [ofR, v1, v2, v3, v4, v5, atV]
theorem v_of4 : ofR 4 ⟨#[97]⟩ vL = [v5] := by simp [ofR, v1, v2, v3, v4, v5, atV]
theorem v_ofb : ofR 1 ⟨#[98]⟩ vL = [] := by simp [ofR, v1, v2, v3, v4, v5, atV]
theorem v_order : OrderR [v1, v2] [v2, v1] := by
  constructor
  · first
      | exact List.Perm.swap _ _ _
      | exact (List.Perm.swap _ _ _).symm
  · have h : ltR v1 v2 = false := by
      rw [ltR_if, if_pos (by simp [v1, v2, atV])]
      decide +kernel
    show List.Pairwise _ _
    simp [h]
theorem order_one (f : Ft) : OrderR [f] [f] := ⟨.refl _, by show List.Pairwise _ _; simp⟩
theorem elems_one (f : Ft) : ElemsR [f] [f.v] := ⟨by show List.Pairwise _ _; simp, fun x => by simp [eq_comm]⟩
theorem v_nums : numsV [vK8] = [4619567317775286272] := by
  unfold vK8
  decide +kernel
theorem v_isort : IsSort (numsV [vK8]) [4619567317775286272] := by
  rw [v_nums]
  refine ⟨?_, by show List.Pairwise _ _; simp⟩
  have h : cln 4619567317775286272 = 4619567317775286272 := by decide +kernel
  simp [h]
/-- the backup of awake -/
def vE : Ent := ⟨⟨#[97]⟩, vTwo, ⟨#[122]⟩, [⟨#[116]⟩], [4619567317775286272], [(0, 1), (0, 2)]⟩
theorem v_ent : EntA vL ⟨#[97]⟩ vE := by
  refine .inr ⟨by rw [v_of1]; simp, ⟨rfl, ?_, ?_, ?_, ?_, ?_⟩⟩
  · refine ⟨vS, ?_, ?_⟩
    · rw [v_of1]; exact ⟨[v2, v1], v_order, rfl⟩
    · rw [v_readS]; rfl
  · rw [v_of2]; exact ⟨[v3], order_one _, rfl⟩
  · rw [v_of3]; exact elems_one v4
  · rw [v_of4]; exact ⟨[vK8], elems_one v5, v_isort⟩
  · rw [v_of1]
    show [(0, 1), (0, 2)] = sortD [(0, 2), (0, 1)]
    decide +kernel
theorem v_entA {e : Ent} (h : EntA vL ⟨#[97]⟩ e) : e = vE := EntA.same (.refl _) h v_ent
theorem v_e0 : entE vL ⟨#[97]⟩ = 0 := by unfold entE; rw [if_neg (by rw [v_of1]; simp)]
theorem v_e7 : entE vL ⟨#[98]⟩ = 7 := by unfold entE; rw [if_pos v_ofb]
theorem v_val : ∀ f ∈ vL, f.v.size ≤ 5000 := by
  intro f hf
  simp only [List.mem_cons, List.not_mem_nil, or_false] at hf
  rcases hf with rfl | rfl | rfl | rfl | rfl
  · exact v_size
  · exact v_size1
  · decide +kernel
  · decide +kernel
  · unfold v5 vK8; decide +kernel
theorem v_names {out : List ByteArray} (h : SetX (namesS vL) out) : out = [⟨#[97]⟩] := by
  refine SetX.same (s := namesS vL) (t := [⟨#[97]⟩]) (fun x => ?_) h ⟨by show List.Pairwise _ _; simp, fun x => Iff.rfl⟩
  rw [mem_namesS]
  constructor
  · rintro ⟨f, hf, -, rfl⟩
    simp only [List.mem_cons, List.not_mem_nil, or_false] at hf
    rcases hf with rfl | rfl | rfl | rfl | rfl <;> simp [v1, v2, v3, v4, v5, atV]
  · intro hx
    obtain rfl := List.mem_singleton.1 hx
    exact ⟨v1, by simp, rfl, rfl⟩
theorem v_idsl {out : List ByteArray} (h : SetX (idsS vL) out) : out.length = 2 := by
  have he : idsS vL = [idS ⟨#[120, 121]⟩, idS ⟨#[122]⟩] := by
    have hf : vL.filter (fun f => decide (f.k = 1)) = [v1, v2] := by simp [v1, v2, v3, v4, v5, atV]
    unfold idsS
    rw [hf]
    have h1 : (readM v1.v).1.ids = [idS ⟨#[120, 121]⟩, idS ⟨#[122]⟩] := by
      have : v1.v = vS := rfl
      rw [this, v_readS, v_ids]
    have h2 : (readM v2.v).1.ids = [] := by
      have : v2.v = vOne := rfl
      rw [this, v_read1]
    simp [h1, h2]
  have h1 := h.len
  have h2 : [idS ⟨#[120, 121]⟩, idS ⟨#[122]⟩].length ≤ out.length := nodup_lenA (by simp [v_unlike]) (fun y hy => (h.mem y).2 (by rw [he]; exact hy))
  rw [he] at h1
  simp at h1 h2
  omega
theorem v_all {es : List Ent} (h : AllR vL es) : es.length = 1 := by
  obtain ⟨nms, hs, hl, -⟩ := h
  rw [hl, v_names hs]; rfl
end Go.Proofs.YtchnklekeinhiaaGreat

namespace Go.Proofs.YtchnklekeinhiaaGreat
set_option linter.unusedSimpArgs false
set_option linter.unusedVariables false
set_option maxRecDepth 100000
open Go.RowKit Go.Sort

theorem build1S (s : ByteArray) (w : World) : (Instr.buildSlice 25 1 #[(0, .string s)]).run Tryz.prog w = .ok (.slice (some ⟨w.heap.size, 0, none⟩) 1 1) (w.alloc (.cells #[.string s] 9)) := by
  obtain ⟨i0, hi, hz0, hz1, hz2⟩ := info_parts strInfo
  refine run_buildSlice w 25 9 1 _ #[.string s] i0 (.string ByteArray.empty) Tryz.underlying25 hi hz0 (by rw [hz1]; decide) (by rw [hz1]; decide) ?_
  rw [hz1]
  kernel_rfl
theorem textsOne (s : ByteArray) (a b : Option Addr) (ca cb : Nat) (w : World) (ha : StrRow w a [s]) (hb : StrRow w b [s]) :
    Calls Tryz.prog 12 #[.slice a 1 ca, .slice b 1 cb] w fun e w' => e = .returned (.bool true) ∧ Go.RowKit.Below w.heap.size w w' := by
  refine (texts_any a b ca cb [s] [s] w ha hb (by simp [maxLen]) (by simp [maxLen])).mono ?_
  rintro e w' ⟨he, n, rfl⟩
  rw [decide_eq_true rfl] at he
  exact ⟨he, belowN (Below.refl _ _) n⟩
theorem f7 : (FloatKind.f64.format.order 4619567317775286272 4619567317775286272 == some Ordering.eq) = true := by decide +kernel
theorem finV (w : World) (l : List Ft) : FIn (w.alloc (.cells (rowF l).toArray 48)) (some ⟨w.heap.size, 0, none⟩) l := by
  refine .inr ⟨w.heap.size, 0, rfl, by simp, fun j f hj i u hu => ?_⟩
  have h1 := rowF_at l j f hj i u hu
  rw [Nat.zero_add, Joins.cell_of_block (heap_alloc_new w _)]
  simpa using h1

set_option maxHeartbeats 32000000 in
theorem viewAwake (w : World) : Calls Tryz.prog 6 #[] w fun e w' => e = .returned (.bool true) ∧ Go.RowKit.Below w.heap.size w w' := by
  have O1 := Lib.hid (fun W => atVC 2 1 vS W)
  have O2 := Lib.hid (fun W => atVC 1 1 vOne W)
  have O3 := Lib.hid (fun W => atVC 3 2 ⟨#[122]⟩ W)
  have O4 := Lib.hid (fun W => atVC 4 3 ⟨#[116]⟩ W)
  have O5 := Lib.hid (show ∀ W, Calls Tryz.prog 19 #[.int .i64 5, .int .i64 4, .string ⟨#[64, 28, 0, 0, 0, 0, 0, 0]⟩] W fun e w' => e = .returned (.agg (fcs v5).toArray) ∧ Below W.heap.size W w' from fun W => by
    have h := atVC 5 4 vK8 W
    unfold vK8 at h
    refine h.mono ?_
    rintro e w' ⟨he, hb⟩
    refine ⟨?_, hb⟩
    rw [he]
    unfold v5 vK8
    rfl)
  have P1 := Lib.hid (fun W => (putMR ⟨0, 4, []⟩ none 0 W ⟨.inl rfl, by simp, by simp⟩))
  have E1 := Lib.hid (show (putM ⟨0, 4, []⟩).1 = vOne by unfold vOne; rfl)
  have P2 := Lib.hid (fun W => manR ⟨#[120, 121, 122]⟩ 2 W)
  have E2 := Lib.hid (show manOf ⟨#[120, 121, 122]⟩ 2 = vTwo by unfold vTwo; rfl)
  have P3 := Lib.hid (fun W a c (h : StrRow W a vTwo.ids) => putMR vTwo a c W ⟨h, by rw [v_len]; omega, v_short⟩)
  have E3 := Lib.hid (show (putM vTwo).1 = vS by unfold vS; rfl)
  have HTL := Lib.hid v_len
  have HVE := Lib.hid (show vE = ⟨⟨#[97]⟩, vTwo, ⟨#[122]⟩, [⟨#[116]⟩], [4619567317775286272], [(0, 1), (0, 2)]⟩ from rfl)
  have HEA := Lib.hid (fun e (h : EntA vL ⟨#[97]⟩ e) => v_entA h)
  have HVV := Lib.hid v_val
  have HE0 := Lib.hid v_e0
  have HE7 := Lib.hid v_e7
  have HNM := Lib.hid (fun out (h : SetX (namesS vL) out) => v_names h)
  have HID := Lib.hid (fun out (h : SetX (idsS vL) out) => v_idsl h)
  have HAL := Lib.hid (fun es (h : AllR vL es) => v_all h)
  have HSM := Lib.hid (fun W a b ca cb (ha : StrRow W a vTwo.ids) (hb : StrRow W b vTwo.ids) => manSameR vTwo a b ca cb W ha hb (by rw [v_len]; simp [maxLen]))
  have hL1 : v1 = atV 2 1 vS := rfl
  have hL2 : v2 = atV 1 1 vOne := rfl
  have hL3 : v3 = atV 3 2 ⟨#[122]⟩ := rfl
  have hL4 : v4 = atV 4 3 ⟨#[116]⟩ := rfl
  have HL1 := Lib.hid hL1
  have HL2 := Lib.hid hL2
  have HL3 := Lib.hid hL3
  have HL4 := Lib.hid hL4
  rw [← hL1] at O1
  rw [← hL2] at O2
  rw [← hL3] at O3
  rw [← hL4] at O4
  clear hL1 hL2 hL3 hL4 HL1 HL2 HL3 HL4
  rw [E2.out] at P2
  generalize hpz : putM ⟨0, 4, []⟩ = PZ at *
  obtain ⟨pz1, pz2⟩ := PZ
  simp only at E1
  obtain rfl : pz1 = vOne := E1.out
  clear hpz E1
  generalize hp2 : putM vTwo = PW at *
  obtain ⟨pw1, pw2⟩ := PW
  simp only at E3
  obtain rfl : pw1 = vS := E3.out
  clear hp2 E3 E2
  have HVL : ∃ F : List Ft, F = vL := ⟨_, rfl⟩
  go_enter Tryz.func6, Tryz.ntmps6
  go_wp2_with fail
  refine (P1.out _).mono ?_
  rintro e w1 ⟨rfl, hb1⟩
  have B1 := Lib.hid hb1
  clear hb1 P1
  go_wp2_with fail
  refine (P2.out _).mono ?_
  rintro e w2 ⟨v2', rfl, hown, hb2⟩
  obtain ⟨ia, ic, rfl, hrow, -, -⟩ := hown.fin2
  have hla := lowA w2 (.cells #[.int .i64 vTwo.size, .int .i64 vTwo.chunk, .slice ia vTwo.ids.length ic] 27)
  have B2 := Lib.hid ((B1.out.trans (hb2.mono B1.out.size)).trans (hla.mono (by have h1 := B1.out.size; have h2 := hb2.size; omega)))
  have HMB := Lib.hid (Blk.new w2 27 #[.int .i64 vTwo.size, .int .i64 vTwo.chunk, .slice ia vTwo.ids.length ic])
  have HR2 := Lib.hid (hrow.below hla)
  clear hown hrow hb2 hla B1 P2
  go_upto_region 3 with fail
  change Code.wp _ _ _ _ (w2.alloc (.cells #[.int .i64 vTwo.size, .int .i64 vTwo.chunk, .slice ia vTwo.ids.length ic] 27))
  generalize w2.alloc (.cells #[.int .i64 vTwo.size, .int .i64 vTwo.chunk, .slice ia vTwo.ids.length ic] 27) = W2 at *
  generalize w2.heap.size = mb at *
  have m0 : W2.cell? ⟨mb, 0, none⟩ = some (.int .i64 vTwo.size) := HMB.out.cell rfl
  have m1 : W2.cell? ⟨mb, 1, none⟩ = some (.int .i64 vTwo.chunk) := HMB.out.cell rfl
  have m2 : W2.cell? ⟨mb, 2, none⟩ = some (.slice ia vTwo.ids.length ic) := HMB.out.cell rfl
  go_wp2_with fail
  refine (P3.out W2 ia ic HR2.out).mono ?_
  rintro e w3 ⟨rfl, hb3⟩
  have B3 := Lib.hid (B2.out.trans (hb3.mono B2.out.size))
  have HMB3 := Lib.hid (HMB.out.keep hb3)
  have HR3 := Lib.hid (HR2.out.below hb3)
  clear hb3 B2 HMB HR2 P3 m0 m1 m2
  go_wp2_with fail
  refine (O1.out _).mono ?_
  rintro e wf1 ⟨rfl, hb⟩
  have B4 := Lib.hid (B3.out.trans (hb.mono B3.out.size))
  have HMB4 := Lib.hid (HMB3.out.keep hb)
  have HR4 := Lib.hid (HR3.out.below hb)
  clear hb B3 HMB3 HR3 O1
  go_wp2_with fail
  refine (O2.out _).mono ?_
  rintro e wf2 ⟨rfl, hb⟩
  have B5 := Lib.hid (B4.out.trans (hb.mono B4.out.size))
  have HMB5 := Lib.hid (HMB4.out.keep hb)
  have HR5 := Lib.hid (HR4.out.below hb)
  clear hb B4 HMB4 HR4 O2
  go_wp2_with fail
  refine (O3.out _).mono ?_
  rintro e wf3 ⟨rfl, hb⟩
  have B6 := Lib.hid (B5.out.trans (hb.mono B5.out.size))
  have HMB6 := Lib.hid (HMB5.out.keep hb)
  have HR6 := Lib.hid (HR5.out.below hb)
  clear hb B5 HMB5 HR5 O3
  go_wp2_with fail
  refine (O4.out _).mono ?_
  rintro e wf4 ⟨rfl, hb⟩
  have B7 := Lib.hid (B6.out.trans (hb.mono B6.out.size))
  have HMB7 := Lib.hid (HMB6.out.keep hb)
  have HR7 := Lib.hid (HR6.out.below hb)
  clear hb B6 HMB6 HR6 O4
  go_wp2_with fail
  refine (O5.out _).mono ?_
  rintro e wf5 ⟨rfl, hb⟩
  have B8 := Lib.hid (B7.out.trans (hb.mono B7.out.size))
  have HMB8 := Lib.hid (HMB7.out.keep hb)
  have HR8 := Lib.hid (HR7.out.below hb)
  clear hb B7 HMB7 HR7 O5
  have hlf := lowA wf5 (.cells (rowF [v1, v2, v3, v4, v5]).toArray 48)
  have B9 := Lib.hid (B8.out.trans (hlf.mono B8.out.size))
  have HMB9 := Lib.hid (HMB8.out.keep hlf)
  have HR9 := Lib.hid (HR8.out.below hlf)
  have HF9 := Lib.hid (finV wf5 [v1, v2, v3, v4, v5])
  clear hlf B8 HMB8 HR8 HVL
  go_upto_region 5 with ((with_reducible refine wpList_build5F ?_ (.tmp 27) (.tmp 29) (.tmp 30) (.tmp 31) (.tmp 32) ?_ v1 v2 v3 v4 v5 ?_ ?_ ?_ ?_ ?_ ?_); rfl; rfl; rfl; rfl; rfl; rfl; rfl; simp only [Act.put, List.setIfInBounds_toArray, List.set_cons_zero, List.set_cons_succ])
  change Code.wp _ _ _ _ (wf5.alloc (.cells (rowF [v1, v2, v3, v4, v5]).toArray 48))
  generalize wf5.alloc (.cells (rowF [v1, v2, v3, v4, v5]).toArray 48) = W9 at *
  generalize wf5.heap.size = fb at *
  have C1 := Lib.hid (fun nm W (h : FIn W (some ⟨fb, 0, none⟩) vL) => viewEntryC vL (some ⟨fb, 0, none⟩) 5 nm W h (by simp) HVV.out)
  have C2 := Lib.hid (fun W (h : FIn W (some ⟨fb, 0, none⟩) vL) => viewNamesC vL (some ⟨fb, 0, none⟩) 5 W h (by simp))
  have C3 := Lib.hid (fun W (h : FIn W (some ⟨fb, 0, none⟩) vL) => viewIDsC vL (some ⟨fb, 0, none⟩) 5 W h (by simp) HVV.out)
  have C4 := Lib.hid (fun W (h : FIn W (some ⟨fb, 0, none⟩) vL) => viewAllC vL (some ⟨fb, 0, none⟩) 5 W h (by simp) HVV.out)
  have hvl : (vL : List Ft).length = 5 := rfl
  rw [hvl] at C1 C2 C3 C4
  have C1a := Lib.hid (C1.out ⟨#[97]⟩ W9 HF9.out)
  have C1b := Lib.hid (fun W (h : FIn W (some ⟨fb, 0, none⟩) vL) => C1.out ⟨#[98]⟩ W h)
  rw [HE0.out] at C1a
  rw [HE7.out] at C1b
  clear C1 HE0 HE7 HVV hvl
  go_wp2_with fail
  refine C1a.out.mono ?_
  rintro v w10 ⟨⟨r, rfl, hm, hent⟩, hb⟩
  have hre := HEA.out _ hent
  have hz := lowA w10 (.cells (ecs zER).toArray 31)
  have hz2 := belowRow' hz (Nat.le_refl _) (ecs r).toArray
  have hbb := hb.trans (hz2.mono hb.size)
  have HZ := Lib.hid (Blk.new w10 31 (ecs zER).toArray)
  have R10 := Lib.hid (HZ.out.put (ecs r).toArray)
  have B10 := Lib.hid (B9.out.trans (hbb.mono B9.out.size))
  have HMB10 := Lib.hid (HMB9.out.keep hbb)
  have HR10 := Lib.hid (HR9.out.below hbb)
  have HF10 := Lib.hid (HF9.out.below hbb)
  have M10 := Lib.hid (hm.below hz2)
  have HRE := Lib.hid hre
  clear hent hre hz hz2 hm hb hbb B9 HMB9 HR9 HF9 C1a HEA
  go_upto_region 6 with ((with_reducible refine bl_store ?_ 31 (.tmp 8) (.tmp 37) ?_ w10.heap.size (ecs r).toArray ?_ ?_ ?_ ?_ ?_ ?_); rfl; rfl; rfl; rfl; exact ⟨_, HZ.out, rfl⟩; exact infoEn _; exact en_one _; simp only [Act.put, List.setIfInBounds_toArray, List.set_cons_zero, List.set_cons_succ])
  change Code.wp _ _ _ _ ((w10.alloc (.cells (ecs zER).toArray 31)).setRow w10.heap.size (ecs r).toArray)
  clear HZ
  generalize (w10.alloc (.cells (ecs zER).toArray 31)).setRow w10.heap.size (ecs r).toArray = W10 at *
  generalize w10.heap.size = eb at *
  go_wp2_with fail
  refine (C1b.out W10 HF10.out).mono ?_
  rintro v w11 ⟨⟨q, rfl, -, -⟩, hb⟩
  have hz := lowA w11 (.cells (ecs zER).toArray 31)
  have hz2 := belowRow' hz (Nat.le_refl _) (ecs q).toArray
  have hbb := hb.trans (hz2.mono hb.size)
  have HZ := Lib.hid (Blk.new w11 31 (ecs zER).toArray)
  have R11 := Lib.hid (R10.out.keep hbb)
  have B11 := Lib.hid (B10.out.trans (hbb.mono B10.out.size))
  have HMB11 := Lib.hid (HMB10.out.keep hbb)
  have HR11 := Lib.hid (HR10.out.below hbb)
  have HF11 := Lib.hid (HF10.out.below hbb)
  have M11 := Lib.hid (M10.out.below hbb)
  clear hz hz2 hb hbb R10 B10 HMB10 HR10 HF10 M10 C1b
  go_upto_region 7 with ((with_reducible refine bl_store ?_ 31 (.tmp 10) (.tmp 42) ?_ w11.heap.size (ecs q).toArray ?_ ?_ ?_ ?_ ?_ ?_); rfl; rfl; rfl; rfl; exact ⟨_, HZ.out, rfl⟩; exact infoEn _; exact en_one _; simp only [Act.put, List.setIfInBounds_toArray, List.set_cons_zero, List.set_cons_succ])
  change Code.wp _ _ _ _ ((w11.alloc (.cells (ecs zER).toArray 31)).setRow w11.heap.size (ecs q).toArray)
  clear HZ
  generalize (w11.alloc (.cells (ecs zER).toArray 31)).setRow w11.heap.size (ecs q).toArray = W11 at *
  generalize w11.heap.size = eb2 at *
  obtain ⟨e, ja, jc, ta, tc, ka, kc, da, dc⟩ := r
  obtain rfl : e = vE := HRE.out
  rw [HVE.out] at R11 M11
  clear HRE
  have a1 : W11.cell? ⟨eb, 1, none⟩ = some (.int .i64 vTwo.size) := R11.out.cell rfl
  have a6 : W11.cell? ⟨eb, 6, none⟩ = some (.slice ka 1 kc) := R11.out.cell rfl
  have a7 : W11.cell? ⟨eb, 7, none⟩ = some (.slice da 2 dc) := R11.out.cell rfl
  rw [HVE.out]
  go_wp2_with fail
  refine (C2.out W11 HF11.out).mono ?_
  rintro v w12 ⟨⟨xa, xc, xs, rfl, hrow, hset⟩, hb⟩
  obtain rfl := HNM.out _ hset
  have hla := lowA w12 (.cells #[.string ⟨#[97]⟩] 9)
  have hbb := hb.trans (hla.mono hb.size)
  have R12 := Lib.hid (R11.out.keep hbb)
  have B12 := Lib.hid (B11.out.trans (hbb.mono B11.out.size))
  have HMB12 := Lib.hid (HMB11.out.keep hbb)
  have HR12 := Lib.hid (HR11.out.below hbb)
  have HF12 := Lib.hid (HF11.out.below hbb)
  have M12 := Lib.hid (M11.out.below hbb)
  have HT := Lib.hid (textsOne ⟨#[97]⟩ xa (some ⟨w12.heap.size, 0, none⟩) xc 1 (w12.alloc (.cells #[.string ⟨#[97]⟩] 9)) (hrow.below hla) (strRow_one w12 ⟨#[97]⟩))
  have hsl := fun X => build1S ⟨#[97]⟩ X
  clear hrow hset hb hla hbb R11 B11 HMB11 HR11 HF11 M11 C2 HNM a1 a6 a7
  go_wp2_with fail
  refine HT.out.mono ?_
  rintro v w13 ⟨rfl, hb⟩
  have R13 := Lib.hid (R12.out.keep hb)
  have B13 := Lib.hid (B12.out.trans (hb.mono B12.out.size))
  have HMB13 := Lib.hid (HMB12.out.keep hb)
  have HR13 := Lib.hid (HR12.out.below hb)
  have HF13 := Lib.hid (HF12.out.below hb)
  have M13 := Lib.hid (M12.out.below hb)
  clear hb HT hsl R12 B12 HMB12 HR12 HF12 M12
  have a1 : w13.cell? ⟨eb, 1, none⟩ = some (.int .i64 vTwo.size) := R13.out.cell rfl
  have a2 : w13.cell? ⟨eb, 2, none⟩ = some (.int .i64 vTwo.chunk) := R13.out.cell rfl
  have a3 : w13.cell? ⟨eb, 3, none⟩ = some (.slice ja vTwo.ids.length jc) := R13.out.cell rfl
  have m0 : w13.cell? ⟨mb, 0, none⟩ = some (.int .i64 vTwo.size) := HMB13.out.cell rfl
  have m1 : w13.cell? ⟨mb, 1, none⟩ = some (.int .i64 vTwo.chunk) := HMB13.out.cell rfl
  have m2 : w13.cell? ⟨mb, 2, none⟩ = some (.slice ia vTwo.ids.length ic) := HMB13.out.cell rfl
  have HS := Lib.hid (HSM.out w13 ja ia jc ic M13.out.ids.row HR13.out)
  clear HSM
  go_wp2_with fail
  refine HS.out.mono ?_
  rintro v w14 ⟨rfl, hb⟩
  have hla := lowA w14 (.cells #[.string ⟨#[116]⟩] 9)
  have hbb := hb.trans (hla.mono hb.size)
  have R14 := Lib.hid (R13.out.keep hbb)
  have B14 := Lib.hid (B13.out.trans (hbb.mono B13.out.size))
  have HF14 := Lib.hid (HF13.out.below hbb)
  have M14 := Lib.hid (M13.out.below hbb)
  have HT := Lib.hid (textsOne ⟨#[116]⟩ ta (some ⟨w14.heap.size, 0, none⟩) tc 1 (w14.alloc (.cells #[.string ⟨#[116]⟩] 9)) (M14.out.tg.row) (strRow_one w14 ⟨#[116]⟩))
  have hsl := fun X => build1S ⟨#[116]⟩ X
  have R14a := Lib.hid (R13.out.keep hb)
  have a4 : w14.cell? ⟨eb, 4, none⟩ = some (.string ⟨#[122]⟩) := R14a.out.cell rfl
  have a5 : w14.cell? ⟨eb, 5, none⟩ = some (.slice ta 1 tc) := R14a.out.cell rfl
  have hxz := bytes_self ⟨#[122]⟩
  clear hb hla hbb HS R13 R14a B13 HMB13 HR13 HF13 M13 a1 a2 a3 m0 m1 m2
  go_wp2_with fail
  refine HT.out.mono ?_
  rintro v w15 ⟨rfl, hb⟩
  have R15 := Lib.hid (R14.out.keep hb)
  have B15 := Lib.hid (B14.out.trans (hb.mono B14.out.size))
  have HF15 := Lib.hid (HF14.out.below hb)
  have M15 := Lib.hid (M14.out.below hb)
  clear hb HT hsl R14 B14 HF14 M14 a4 a5 hxz
  obtain ⟨kg, rfl, kcell⟩ : ∃ g, ka = some ⟨g, 0, none⟩ ∧ w15.cell? ⟨g, 0, none⟩ = some (.float .f64 4619567317775286272) := by
    rcases M15.out.kp with ⟨h, -⟩ | ⟨g, c, h1, -, -, h3⟩
    · injection h with h1 h2; cases h2
    · injection h1 with h1
      exact ⟨g, h1, h3 0 (by simp)⟩
  have a6 : w15.cell? ⟨eb, 6, none⟩ = some (.slice (some ⟨kg, 0, none⟩) 1 kc) := R15.out.cell rfl
  have hf7 := f7
  have C5 := Lib.hid (C3.out w15 HF15.out)
  clear R15 M15 C3
  go_wp2_with fail
  refine C5.out.mono ?_
  rintro v w16 ⟨⟨xb, xd, ys, rfl, -, hset⟩, hb⟩
  have hyl := HID.out _ hset
  have B16 := Lib.hid (B15.out.trans (hb.mono B15.out.size))
  have HF16 := Lib.hid (HF15.out.below hb)
  clear hset hb B15 HF15 C5 HID kcell a6 hf7
  have C6 := Lib.hid (C4.out w16 HF16.out)
  clear C4
  rw [hyl]
  clear hyl
  go_wp2_with fail
  refine C6.out.mono ?_
  rintro v w17 ⟨⟨xe, xf, rs, rfl, -, hall⟩, hb⟩
  have hrl := HAL.out _ hall
  rw [List.length_map] at hrl
  rw [hrl]
  have B17 := Lib.hid (B16.out.trans (hb.mono B16.out.size))
  clear hall hb B16 HF16 C6 HAL hrl
  go_wp2_with fail
  go_ret
  exact ⟨rfl, B17.out⟩
end Go.Proofs.YtchnklekeinhiaaGreat
