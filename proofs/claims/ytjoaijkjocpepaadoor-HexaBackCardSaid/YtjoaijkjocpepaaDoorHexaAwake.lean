/-
  almonrylaw03.awake: what the call answers.
-/
import Derived.Test.YtjoaijkjocpepaaDoorHexaId
namespace Go.Proofs.YtjoaijkjocpepaaDoor
open Go.RowKit

theorem rd_a : rdS [48, 48, 102, 102] = ⟨#[0, 255]⟩ ∧ rdE [48, 48, 102, 102] = 0 := rd_some (by decide +kernel)
theorem rd_b : rdE [48] = 5 := (rd_none (by decide +kernel)).2
theorem rd_c : rdE [48, 70] = 5 := (rd_none (by decide +kernel)).2
theorem put_a : putL [0, 255] = [48, 48, 102, 102] := by decide +kernel
theorem ck_a : ckE ⟨#[48, 48]⟩ = 5 := by unfold ckE; rw [if_neg (by decide)]

set_option maxHeartbeats 2000000 in
set_option maxRecDepth 100000 in
theorem hexaAwake (w : World) (hT : Tab w) :
    Calls Tryd.prog 6 #[] w fun e w' => e = .returned (.bool true) ∧ Below w.heap.size w w' := by
  have a1 := fun W => readC ⟨#[48, 48, 102, 102]⟩ W (by decide)
  have a2 := fun W => readC ⟨#[48]⟩ W (by decide)
  have a3 := fun W => readC ⟨#[48, 70]⟩ W (by decide)
  have a4 := fun W => putC ⟨#[0, 255]⟩ W (by decide)
  have a5 := fun W hW => idC ⟨#[120]⟩ W (by decide) hW
  have a6 := fun W => checkC (idS ⟨#[120]⟩) W (by rw [idS_size]; decide)
  have a7 := fun W => checkC ⟨#[48, 48]⟩ W (by decide)
  rw [show (ByteArray.mk #[48, 48, 102, 102]).data.toList = [48, 48, 102, 102] from rfl, rd_a.1, rd_a.2] at a1
  rw [show (ByteArray.mk #[48]).data.toList = [48] from rfl, rd_b] at a2
  rw [show (ByteArray.mk #[48, 70]).data.toList = [48, 70] from rfl, rd_c] at a3
  rw [show (ByteArray.mk #[0, 255]).data.toList = [0, 255] from rfl, put_a] at a4
  rw [ck_id] at a6
  rw [ck_a] at a7
  generalize idS ⟨#[120]⟩ = i at a5 a6
  generalize rdS [48] = z2 at a2
  generalize rdS [48, 70] = z3 at a3
  have A1 := Lib.hid a1
  have A2 := Lib.hid a2
  have A3 := Lib.hid a3
  have A4 := Lib.hid a4
  have A5 := Lib.hid a5
  have A6 := Lib.hid a6
  have A7 := Lib.hid a7
  have HT := Lib.hid hT
  clear a1 a2 a3 a4 a5 a6 a7 hT
  go_enter Tryd.func6, Tryd.ntmps6
  go_wp2_with fail
  refine (A1.out _).mono ?_
  rintro e w1 ⟨rfl, hb1⟩
  have HB1 := Lib.hid hb1
  clear hb1
  go_wp2_with fail
  refine (A2.out _).mono ?_
  rintro e w2 ⟨rfl, hb⟩
  have HB2 := Lib.hid (HB1.out.trans (hb.mono HB1.out.size))
  clear hb
  go_wp2_with fail
  refine (A3.out _).mono ?_
  rintro e w3 ⟨rfl, hb⟩
  have HB3 := Lib.hid (HB2.out.trans (hb.mono HB2.out.size))
  clear hb
  go_wp2_with fail
  refine (A4.out _).mono ?_
  rintro e w4 ⟨rfl, hb⟩
  have HB4 := Lib.hid (HB3.out.trans (hb.mono HB3.out.size))
  clear hb
  go_wp2_with fail
  refine (A5.out _ (HT.out.below HB4.out)).mono ?_
  rintro e w5 ⟨rfl, hb⟩
  have HB5 := Lib.hid (HB4.out.trans (hb.mono HB4.out.size))
  clear hb
  go_wp2_with fail
  refine (A6.out _).mono ?_
  rintro e w6 ⟨rfl, hb⟩
  have HB6 := Lib.hid (HB5.out.trans (hb.mono HB5.out.size))
  clear hb
  go_wp2_with fail
  refine (A7.out _).mono ?_
  rintro e w7 ⟨rfl, hb⟩
  have HB7 := Lib.hid (HB6.out.trans (hb.mono HB6.out.size))
  clear hb
  go_wp2
  go_ret
  exact ⟨rfl, HB7.out⟩
end Go.Proofs.YtjoaijkjocpepaaDoor
