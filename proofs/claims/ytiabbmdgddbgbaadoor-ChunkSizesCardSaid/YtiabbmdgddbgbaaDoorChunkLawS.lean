/-
  ChunkSizes: the walk.
-/
import Derived.Test.YtiabbmdgddbgbaaDoorChunkAwake
import Derived.Test.YtiabbmdgddbgbaaDoorShaLaid
import Derived.Test.YtiabbmdgddbgbaaDoorKit
namespace Go.Proofs.YtiabbmdgddbgbaaDoor
open Go.RowKit Go.Sort

theorem piece_pos {s : ByteArray} {n : Nat} (hn : 1 ≤ n) {k : Nat} (hk : k < (parts s n).length) :
    1 ≤ ((parts s n).getD k ByteArray.empty).size ∧ ((parts s n).getD k ByteArray.empty).size ≤ n ∧ (k + 1 < (parts s n).length → ((parts s n).getD k ByteArray.empty).size = n) := by
  rw [parts_length] at hk
  have h1 := (lt_nP hn).1 hk
  have e : (parts s n).getD k ByteArray.empty = piece s n k := by
    unfold parts
    rw [List.getD_eq_getElem?_getD, List.getElem?_map, List.getElem?_range hk]
    rfl
  rw [e, piece_size h1, parts_length]
  refine ⟨by omega, by omega, fun h2 => ?_⟩
  have h3 := (lt_nP hn).1 h2
  rw [Nat.succ_mul] at h3
  omega

theorem ids_at {L : List ByteArray} {k : Nat} (hk : k < L.length) : (L.map idS).getD k ByteArray.empty = idS (L.getD k ByteArray.empty) := by
  rw [List.getD_eq_getElem?_getD, List.getD_eq_getElem?_getD, List.getElem?_map, List.getElem?_eq_getElem hk]
  rfl

set_option maxHeartbeats 4000000 in
set_option maxRecDepth 100000 in
theorem sizes_law (s : ByteArray) (b : Nat) (hb : b < 256) (w : World) (ws : s.size ≤ maxLen) (hT : Tab w) :
    Calls Tryd.prog 6 #[.string s, .int .u8 (b : Int)] w fun e w' => e = .returned (.bool true) ∧ Below w.heap.size w w' := by
  unfold maxLen at ws
  have HT := Lib.hid hT
  clear hT
  by_cases hs : 600 < s.size
  · have h1 : decide ((600 : Int) < (s.size : Int)) = true := by simp; omega
    clear hs
    go_enter Tryd.func6, Tryd.ntmps6
    go_wp2_with fail
    refine (chunkAwake w HT.out).mono ?_
    rintro e w1 ⟨rfl, hb1⟩
    have HB1 := Lib.hid hb1
    clear hb1
    go_wp2_with fail
    go_ret
    exact ⟨rfl, HB1.out⟩
  · have h1 : decide ((600 : Int) < (s.size : Int)) = false := by simp; omega
    have hmod : Int.tmod (b : Int) 64 = ((b % 64 : Nat) : Int) := by rw [Int.tmod_eq_emod_of_nonneg (by omega), Int.natCast_emod]; rfl
    have hm64 : b % 64 < 64 := Nat.mod_lt _ (by decide)
    have e1 : ((b % 64 : Nat) : Int) + 1 = ((b % 64 + 1 : Nat) : Int) := by simp
    have a1 := fun W => cutC s ((b % 64 : Nat) + 1 : Int) W
    have a2 := fun W hW => manC s ((b % 64 : Nat) + 1 : Int) W hW
    generalize b % 64 = q at *
    have hcut : cutE s.size ((q : Int) + 1) = 0 := by
      rw [e1]; unfold cutE
      have := nP_le (a := s.size) (n := q + 1) (by omega)
      rw [if_neg (by omega), if_neg (by rw [Int.toNat_natCast]; omega)]
    have hcl : cutL s ((q : Int) + 1) = parts s (q + 1) := by unfold cutL; rw [if_pos hcut, e1, Int.toNat_natCast]
    have hml : manOf s ((q : Int) + 1) = ⟨s.size, (q : Int) + 1, (parts s (q + 1)).map idS⟩ := by unfold manOf; rw [if_pos hcut, e1, Int.toNat_natCast]
    rw [hcut, hcl] at a1
    rw [hcut, hml] at a2
    have hpp := fun k (hk : k < (parts s (q + 1)).length) => piece_pos (s := s) (n := q + 1) (by omega) hk
    have hids := fun k (hk : k < (parts s (q + 1)).length) => ids_at (L := parts s (q + 1)) hk
    have hil : ((parts s (q + 1)).map idS).length = (parts s (q + 1)).length := by simp
    generalize (parts s (q + 1)).map idS = I at *
    generalize parts s (q + 1) = L at *
    have A1 := Lib.hid a1
    have A2 := Lib.hid a2
    have HPP := Lib.hid hpp
    have HID := Lib.hid hids
    clear a1 a2 hpp hids hcut hcl hml hs e1
    go_enter Tryd.func6, Tryd.ntmps6
    go_wp2_with fail
    refine (A1.out _).mono ?_
    rintro e w1 ⟨v1, rfl, hown1, hb1⟩
    obtain ⟨la, lc, rfl, hrow1, hlm, -⟩ := ownS_rowC hown1
    have HB1 := Lib.hid hb1
    have HR1 := Lib.hid hrow1
    clear hown1 hb1 hrow1
    unfold maxLen at hlm
    go_wp2_with fail
    refine (A2.out _ (HT.out.below HB1.out)).mono ?_
    rintro e w2 ⟨v2, rfl, hown2, hb2⟩
    obtain ⟨ma, mc, rfl, hrow2, -, -⟩ := ownS_rowC hown2
    have hbA := (Below.refl _ w2).alloc (Nat.le_refl _) (.cells #[.int .i64 (s.size : Int), .int .i64 ((q : Int) + 1), .slice ma I.length mc] 31)
    have hb2A := hb2.trans (hbA.mono hb2.size)
    have HG2 := Lib.hid (MBox.new w2 ⟨(s.size : Int), (q : Int) + 1, I⟩ (.slice ma I.length mc))
    have HM2 := Lib.hid (hrow2.below hbA)
    have HB2 := Lib.hid (HB1.out.trans (hb2A.mono HB1.out.size))
    have HR2 := Lib.hid (HR1.out.below hb2A)
    clear hown2 hb2 hrow2 hbA hb2A HB1 HR1
    have hil2 : ((L.length : Int) != (I.length : Int)) = false := by rw [hil]; simp
    have hlb : L.length ≤ 9223372036854775807 := hlm
    have HIL := Lib.hid hil
    clear hil hlm
    have g0 := HG2.out.c0
    have g1 := HG2.out.c1
    have g2 := HG2.out.c2
    simp only at g0 g1 g2
    go_wp2_with fail
    generalize w2.alloc (.cells #[.int .i64 (s.size : Int), .int .i64 ((q : Int) + 1), .slice ma I.length mc] 31) = wa at *
    go_loopw [10] (fun i wr => ∃ k n : Nat, i = .int .i64 k ∧ k ≤ L.length ∧ wr = wa.drewN n) (fun i _ => L.length - (intOf i).toNat)
    case atStart => exact ⟨0, 0, rfl, Nat.zero_le _, rfl⟩
    case round =>
      obtain ⟨k, n, rfl, hk, rfl⟩ := hrel
      by_cases hlt : k < L.length
      · obtain ⟨ba, oa, rfl, hba, hca⟩ := str_at HR2.out hlt
        obtain ⟨p1, p2, p3⟩ := HPP.out k hlt
        have hik := HID.out k hlt
        generalize hx : L.getD k ByteArray.empty = x at *
        obtain ⟨hx1, hx2⟩ := some_str (t := x) (by omega)
        have hd1 : decide ((q : Int) + 1 < (x.size : Int)) = false := by simp; omega
        have hcase : decide ((x.size : Int) < (q : Int) + 1) = false ∨ (decide ((x.size : Int) < (q : Int) + 1) = true ∧ decide ((k : Int) < (L.length : Int) - 1) = false) := by
          by_cases h : x.size < q + 1
          · right
            refine ⟨by simp; omega, ?_⟩
            have : ¬ (k + 1 < L.length) := fun h2 => by have := p3 h2; omega
            simp; omega
          · left; simp; omega
        clear p1 p2 p3
        have HCA := Lib.hid hca
        have HIK := Lib.hid hik
        clear hik
        rcases hcase with hd2 | ⟨hd2, hd3⟩
        all_goals
          go_wp2_with fail
          go_loopw [11] (fun j wr => ∃ i n : Nat, j = .int .i64 i ∧ i ≤ k ∧ wr = wa.drewN n) (fun j _ => k - (intOf j).toNat)
          case atStart => exact ⟨0, n, rfl, Nat.zero_le _, rfl⟩
          case round =>
            obtain ⟨j, n', rfl, hj, rfl⟩ := hrel
            by_cases hlj : j < k
            · have hjl : j < L.length := by omega
              have hjI : j < I.length := by have := HIL.out; omega
              have hkI : k < I.length := by have := HIL.out; omega
              obtain ⟨bb, ob, heq, -, hcb⟩ := str_at HR2.out hjl
              cases heq
              obtain ⟨bm, om, rfl, -, hcm⟩ := str_at HM2.out hjI
              obtain ⟨bm2, om2, heq, -, hcn⟩ := str_at HM2.out hkI
              cases heq
              have hij := HID.out j hjl
              rw [HIK.out] at hcn
              rw [hij] at hcm
              clear hij
              generalize L.getD j ByteArray.empty = y at *
              have hca' := HCA.out
              have hji : (j : Int) < (L.length : Int) := by omega
              have hjI' : (j : Int) < (I.length : Int) := by omega
              have hkI' : (k : Int) < (I.length : Int) := by omega
              by_cases hyx : y = x
              · subst hyx
                generalize idS y = z at hcm hcn
                clear HIK HID HPP hjI hkI
                go_wp2_with fail
                go_quiet (fail)
                go_wp2_with fail
                exact ⟨⟨j + 1, _, by go_num, by omega, rfl⟩, by simp [intOf]; omega⟩
              · have hne : (y.toList == x.toList) = false := by simpa using ne_bytes hyx
                generalize idS y = z at hcm hcn
                generalize idS x = z2 at hcm hcn
                clear HIK HID HPP hjI hkI hyx
                go_wp2_with fail
                go_quiet (fail)
                go_wp2_with fail
                exact ⟨⟨j + 1, _, by go_num, by omega, rfl⟩, by simp [intOf]; omega⟩
            · obtain rfl : j = k := by omega
              go_wp2_with fail
              exact ⟨⟨j + 1, n', by go_num, by omega, rfl⟩, by simp [intOf]; omega⟩
      · obtain rfl : k = L.length := by omega
        go_wp2_with fail
        refine (chunkAwake _ ((HT.out.below HB2.out).below (belowN (Below.refl _ _) n))).mono ?_
        rintro e w3 ⟨rfl, hb3⟩
        have HB3 := Lib.hid ((belowN HB2.out n).trans (hb3.mono (belowN HB2.out n).size))
        clear hb3
        go_wp2_with fail
        go_ret
        exact ⟨rfl, HB3.out⟩

theorem sizes_row (a0 : ByteArray) (a1 : Int) (w : World) (w0 : a0.size ≤ maxLen) (w1 : (Lit.int .u8 a1).wf = true) (hL : laidMetH Tryd.prog Rows.chunkSizesRow.laid w) :
    Calls Tryd.prog 6 #[.string a0, .int .u8 a1] w fun e w' => e = .returned (.bool true) ∧ Below w.heap.size w w' := by
  have h := Go.bounds_u8 w1
  obtain ⟨b, rfl⟩ := Int.eq_ofNat_of_zero_le h.1
  exact sizes_law a0 b (by omega) w w0 (tab_of hL (by kernel_rfl) (by kernel_rfl) (.head _))
end Go.Proofs.YtiabbmdgddbgbaaDoor
