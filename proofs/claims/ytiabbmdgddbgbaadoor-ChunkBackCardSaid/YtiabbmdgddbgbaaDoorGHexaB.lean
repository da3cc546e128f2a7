/-
  almonryref03.Put and Read: what each call answers.
  ID and Check, hexa's and almonryref03's: what each call answers.
-/
import Derived.Test.YtiabbmdgddbgbaaDoorGHexaA
import Derived.IntWalk
import Derived.Test.YtiabbmdgddbgbaaDoorGShaC
namespace Go.Proofs.YtiabbmdgddbgbaaDoor
open Go.RowKit

set_option maxHeartbeats 2000000 in
set_option maxRecDepth 100000 in
theorem putR (s : ByteArray) (w : World) (hs : s.size ≤ 5000) :
    Calls Tryd.prog 47 #[.string s] w fun e w' => e = .returned (.string ⟨(putL s.data.toList).toArray⟩) ∧ Below w.heap.size w w' := by
  obtain ⟨i0, hi, hz0, hz1, hz2⟩ := info_parts bytesInfo
  go_enter Tryd.func47, Tryd.ntmps47
  go_wp2
  go_loopw [3, 4] (fun v i wr => ∃ j : Nat, j ≤ s.size ∧ i = .int .i64 j ∧ OwnB w.heap.size v (putL (s.data.toList.take j)) wr ∧ Below w.heap.size w wr) (fun _ i _ => s.size - (intOf i).toNat)
  case atStart => exact ⟨0, by omega, rfl, ownB_nil _ _, Below.refl _ _⟩
  case round =>
    obtain ⟨j, hj, rfl, hown, hb⟩ := hrel
    by_cases hlt : j < s.size
    · have hix := fun W => run_index_at s j hlt W
      have hpt := putL_take s j hlt
      obtain ⟨c, hcc⟩ : ∃ c : Nat, c = s[j].toNat := ⟨_, rfl⟩
      have hc256 : c < 256 := by rw [hcc]; exact s[j].toNat_lt
      rw [← hcc] at hix hpt
      have hd1 := fun W => digit_any (c / 16) (by omega) W
      have hd2 := fun W => digit_any (c % 16) (by omega) W
      have ei1 : ((c / 16 : Nat) : Int) = (c : Int) / 16 := by omega
      have ei2 : ((c % 16 : Nat) : Int) = (c : Int) % 16 := by omega
      rw [ei1] at hd1
      rw [ei2] at hd2
      have q1 := dg_lt (c / 16) (by omega)
      have q2 := dg_lt (c % 16) (by omega)
      generalize hg1 : dg (c / 16) = d1 at hd1 hpt q1
      generalize hg2 : dg (c % 16) = d2 at hd2 hpt q2
      generalize hvv : u3 = v at hown
      have hol : (putL (s.data.toList.take j)).length ≤ 10000 := by rw [putL_len, List.length_take]; omega
      have hbs := hb.size
      have HB := Lib.hid hb
      have HPT := Lib.hid hpt
      have D1 := Lib.hid hd1
      have D2 := Lib.hid hd2
      have htm : (c : Int).tmod 16 = (c : Int) % 16 := Int.tmod_eq_emod_of_nonneg (by omega)
      have htd : (c : Int).tdiv 16 = (c : Int) / 16 := Int.tdiv_eq_ediv_of_nonneg (by omega)
      have hw1 : IntKind.u8.wrap ((c : Int) / 16) = (c : Int) / 16 := IntWalk.u8_in _ (by omega)
      have hw2 : IntKind.u8.wrap ((c : Int) % 16) = (c : Int) % 16 := IntWalk.u8_in _ (by omega)
      clear hb hpt ei1 ei2 hg1 hg2 hcc hd1 hd2
      generalize putL (s.data.toList.take j) = pre at hown hol HPT
      go_wp2_with fail
      go_region_held3 (fun _ => True) (first | go_keep | trivial)
            (first
             | ((with_reducible refine (D1.out _).mono ?_); rintro e w' ⟨rfl, rfl⟩)
             | ((with_reducible refine (D2.out _).mono ?_); rintro e w' ⟨rfl, rfl⟩)
             | (
                refine step_append_lies _ (by rfl) _ _ _ (by rfl) w.heap.size 5 i0 _ 1 1 Tryd.underlying78 hi hz0 hz1 hz2 rfl (by omega) v pre.length (Lib.byteCells pre) (by rfl) ((World.ownsRow.alloc hown _).drew)
                  ⟨wr.heap.size, 0, none⟩ 2 2 [.int .u8 d1, .int .u8 d2] (by rfl) (by rfl) (World.news_of_block (cs := #[.int .u8 d1, .int .u8 d2]) (t := 5) (fr := (0, 0)) (heap_alloc_new wr _)) (by simp [Value.oneCell'])
                  (by omega) (by unfold maxLen; omega) (by omega) (by simp; omega) (wr.heap.size + 1) (by simp) ?_; intro gg cap w1 hown1 hgrow hat hlt)
             | fail)
      all_goals
        have hb1 : Below w.heap.size w w1 := ((HB.out.alloc (by omega) _).drew).grown hgrow (by simp; omega) (fun i hi => (World.ownsRow.lt hown i hi).1)
        have hown2 := own_two (by omega) (by omega) hown1
        rw [← HPT.out] at hown2
        have HO2 := Lib.hid hown2
        have HB1 := Lib.hid hb1
        clear hown2 hb1 hown1 hgrow hat hown
        go_wp2
        exact ⟨⟨j + 1, by omega, by go_num, HO2.out, HB1.out⟩, by simp [intOf]; omega⟩
    · obtain rfl : j = s.size := by omega
      rw [List.take_of_length_le (by simp)] at hown
      have hconv := own_text hown
      have HB := Lib.hid hb
      clear hb
      go_wp2
      go_ret
      exact ⟨rfl, HB.out⟩

theorem readL_step {s : ByteArray} {j : Nat} {pre : List UInt8} (hj : j % 2 = 0) (h : j + 1 < s.size) (hr : readL (s.data.toList.take j) = some pre) (h1 : hv (s[j]'(by omega)).toNat < 16) (h2 : hv (s[j + 1]).toNat < 16) :
    readL (s.data.toList.take (j + 2)) = some (pre ++ [UInt8.ofNat (16 * hv (s[j]'(by omega)).toNat + hv (s[j + 1]).toNat)]) := by
  rw [show j + 2 = j + 1 + 1 from rfl, take_snoc s (j + 1) h, take_snoc s j (by omega), List.append_assoc, read_append _ _ (by rw [List.length_take]; simp; omega), hr]
  simp only [List.cons_append, List.nil_append, readL]
  rw [if_pos ⟨h1, h2⟩]
  rfl

set_option maxHeartbeats 2000000 in
set_option maxRecDepth 100000 in
theorem readR (s : ByteArray) (w : World) (hs : s.size ≤ 5000) :
    Calls Tryd.prog 61 #[.string s] w fun e w' => e = .returned (.tuple #[.string (rdS s.data.toList), .int .i64 (rdE s.data.toList)]) ∧ Below w.heap.size w w' := by
  obtain ⟨i0, hi, hz0, hz1, hz2⟩ := info_parts bytesInfo
  have hsl : s.data.toList.length = s.size := by simp
  by_cases hodd : s.size % 2 = 1
  · obtain ⟨e1, e2⟩ := rd_none (read_odd s.data.toList (by rw [hsl]; exact hodd))
    rw [e1, e2]
    have hne : ((s.size : Int) % 2 == 1) = true := by simp; omega
    clear e1 e2 hsl
    go_enter Tryd.func61, Tryd.ntmps61
    go_wp2
    go_ret2
    exact ⟨rfl, Below.refl _ _⟩
  · have hne : ((s.size : Int) % 2 == 1) = false := by simp; omega
    clear hsl
    go_enter Tryd.func61, Tryd.ntmps61
    go_wp2
    go_loopw [4, 5] (fun v i wr => ∃ (j : Nat) (pre : List UInt8), j ≤ s.size ∧ j % 2 = 0 ∧ i = .int .i64 j ∧ readL (s.data.toList.take j) = some pre ∧ OwnB w.heap.size v pre wr ∧ Below w.heap.size w wr) (fun _ i _ => s.size - (intOf i).toNat)
    case atStart => exact ⟨0, [], by omega, rfl, rfl, rfl, ownB_nil _ _, Below.refl _ _⟩
    case round =>
      obtain ⟨j, pre, hj, hj2, rfl, hrd, hown, hb⟩ := hrel
      by_cases hlt : j + 1 < s.size
      · have hix1 := fun W => run_index_at s j (by omega) W
        have hix2 := fun W => run_index_at s (j + 1) hlt W
        have ej : ((j + 1 : Nat) : Int) = (j : Int) + 1 := by omega
        rw [ej] at hix2
        have hst := readL_step (pre := pre) hj2 hlt hrd
        have hbad1 := read_bad s.data.toList j (by simp; omega)
        have hbad2 := read_bad s.data.toList (j + 1) (by simpa using hlt)
        rw [show s.data.toList[j]'(by simp; omega) = s[j] from rfl] at hbad1
        rw [show s.data.toList[j + 1]'(by simpa using hlt) = s[j + 1] from rfl] at hbad2
        generalize hc1 : s[j].toNat = c1 at hix1 hst hbad1
        generalize hc2 : s[j + 1].toNat = c2 at hix2 hst hbad2
        have hl1 : c1 < 256 := by rw [← hc1]; exact s[j].toNat_lt
        have hl2 : c2 < 256 := by rw [← hc2]; exact s[j + 1].toNat_lt
        have k1 := fun W => half_any c1 hl1 W
        have k2 := fun W => half_any c2 hl2 W
        have le1 := hv_le c1
        have le2 := hv_le c2
        generalize hv c1 = h1 at k1 hst hbad1 le1
        generalize hv c2 = h2 at k2 hst hbad2 le2
        clear hc1 hc2 ej
        have K1 := Lib.hid k1
        have K2 := Lib.hid k2
        have HB := Lib.hid hb
        clear k1 k2 hb
        by_cases g1 : h1 < 16
        · have t1 : ¬ (15 : Int) < (h1 : Int) := by omega
          by_cases g2 : h2 < 16
          · have t2 : ¬ (15 : Int) < (h2 : Int) := by omega
            have hst2 := hst g1 g2
            generalize hx : 16 * h1 + h2 = x at hst2
            have hx256 : x < 256 := by omega
            have hxi : (16 : Int) * (h1 : Int) + (h2 : Int) = (x : Int) := by omega
            have hw1 : IntKind.u8.wrap ((16 : Int) * (h1 : Int)) = (16 : Int) * (h1 : Int) := IntWalk.u8_in _ (by omega)
            have hw2 : IntKind.u8.wrap (x : Int) = (x : Int) := IntWalk.u8_in _ (by omega)
            have hw3 : IntKind.i64.wrap ((j : Int) + 1) = (j : Int) + 1 := IntWalk.i64_in _ (by omega)
            have hol : pre.length ≤ 10000 := by have := read_len _ _ hrd; rw [List.length_take] at this; simp at this; omega
            have hbs := HB.out.size
            generalize hvv : u4 = v at hown
            have HST := Lib.hid hst2
            have HRD := Lib.hid hrd
            clear hst hst2 hbad1 hbad2 hrd hx
            go_wp2_with fail
            refine (K1.out _).mono ?_
            rintro e w1 ⟨rfl, rfl⟩
            go_wp2_with fail
            refine (K2.out _).mono ?_
            rintro e w1 ⟨rfl, rfl⟩
            go_wp2_with fail
            go_region_held3 (fun _ => True) (first | go_keep | trivial)
              (first
               | ((with_reducible refine (K1.out _).mono ?_); rintro e w' ⟨rfl, rfl⟩)
               | ((with_reducible refine (K2.out _).mono ?_); rintro e w' ⟨rfl, rfl⟩)
               | (
                  refine step_append_lies _ (by rfl) _ _ _ (by rfl) w.heap.size 5 i0 _ 1 1 Tryd.underlying78 hi hz0 hz1 hz2 rfl (by omega) v pre.length (Lib.byteCells pre) (by rfl) ((World.ownsRow.alloc hown _).drew)
                    ⟨wr.heap.size, 0, none⟩ 1 1 [.int .u8 x] (by rfl) (by rfl) (World.news_of_block (cs := #[.int .u8 x]) (t := 5) (fr := (0, 0)) (heap_alloc_new wr _)) (by simp [Value.oneCell'])
                    (by omega) (by unfold maxLen; omega) (by omega) (by simp; omega) (wr.heap.size + 1) (by simp) ?_; intro gg cap w1 hown1 hgrow hat hlt)
               | fail)
            all_goals
              have hb1 : Below w.heap.size w w1 := ((HB.out.alloc (by omega) _).drew).grown hgrow (by simp; omega) (fun i hi => (World.ownsRow.lt hown i hi).1)
              have hown2 := ownB_more (l := pre) hx256 rfl hown1
              have HO2 := Lib.hid hown2
              have HB1 := Lib.hid hb1
              clear hown2 hb1 hown1 hgrow hat hown
              go_wp2
              exact ⟨⟨j + 2, _, by omega, by omega, by go_num, HST.out, HO2.out, HB1.out⟩, by simp [intOf]; omega⟩
          · have t2 : (15 : Int) < (h2 : Int) := by omega
            obtain ⟨e1, e2⟩ := rd_none (hbad2 g2)
            have E1 := Lib.hid e1
            have E2 := Lib.hid e2
            clear hst hbad1 hbad2 hrd e1 e2
            go_wp2_with fail
            refine (K1.out _).mono ?_
            rintro e w1 ⟨rfl, rfl⟩
            go_wp2_with fail
            refine (K2.out _).mono ?_
            rintro e w1 ⟨rfl, rfl⟩
            go_wp2
            go_ret2
            exact ⟨by rw [E1.out, E2.out]; rfl, HB.out⟩
        · have t1 : (15 : Int) < (h1 : Int) := by omega
          obtain ⟨e1, e2⟩ := rd_none (hbad1 g1)
          have E1 := Lib.hid e1
          have E2 := Lib.hid e2
          clear hst hbad1 hbad2 hrd e1 e2
          go_wp2_with fail
          refine (K1.out _).mono ?_
          rintro e w1 ⟨rfl, rfl⟩
          go_wp2
          go_ret2
          exact ⟨by rw [E1.out, E2.out]; rfl, HB.out⟩
      · obtain rfl : j = s.size := by omega
        rw [List.take_of_length_le (by simp)] at hrd
        obtain ⟨e1, e2⟩ := rd_some hrd
        have E1 := Lib.hid e1
        have E2 := Lib.hid e2
        have hconv := own_text hown
        have HB := Lib.hid hb
        clear hb e1 e2 hrd
        have hnl : ¬ (s.size : Int) + 1 < (s.size : Int) := by omega
        go_wp2
        go_ret2
        exact ⟨by rw [E1.out, E2.out]; rfl, HB.out⟩
end Go.Proofs.YtiabbmdgddbgbaaDoor

namespace Go.Proofs.YtiabbmdgddbgbaaDoor
open Go.RowKit

theorem sum_len (l : List UInt8) : (sSum l).length = 32 := by unfold sSum; rw [outB_len, blks_len H0_len]

def idL (l : List UInt8) : List UInt8 := putL (sSum l)
def idS (s : ByteArray) : ByteArray := ⟨(idL s.data.toList).toArray⟩
theorem idS_size (s : ByteArray) : (idS s).size = 64 := by
  show (idL s.data.toList).toArray.size = 64
  simp [idL, putL_len, sum_len]
theorem idS_read (s : ByteArray) : rdE (idS s).data.toList = 0 := by
  show rdE ((idL s.data.toList).toArray.toList) = 0
  exact (rd_some (by simp only; exact read_put _)).2

def ckE (s : ByteArray) : Int := if s.size = 64 then rdE s.data.toList else 5
theorem ck_id (s : ByteArray) : ckE (idS s) = 0 := by unfold ckE; rw [if_pos (idS_size s), idS_read]
theorem rdE_two (l : List UInt8) : rdE l = 0 ∨ rdE l = 5 := by unfold rdE; split <;> simp

set_option maxHeartbeats 1000000 in
set_option maxRecDepth 100000 in
theorem idC (s : ByteArray) (w : World) (hs : s.size ≤ 5000) (hT : Tab w) :
    Calls Tryd.prog 27 #[.string s] w fun e w' => e = .returned (.string (idS s)) ∧ Below w.heap.size w w' := by
  have c1 := sumC s w hs hT
  have c2 := fun W => putC ⟨(sSum s.data.toList).toArray⟩ W (by show (sSum s.data.toList).toArray.size ≤ 5000; simp [sum_len])
  have e : (⟨(putL (ByteArray.mk (sSum s.data.toList).toArray).data.toList).toArray⟩ : ByteArray) = idS s := rfl
  rw [e] at c2
  generalize (⟨(sSum s.data.toList).toArray⟩ : ByteArray) = m at c1 c2
  generalize idS s = r at c2 ⊢
  have C1 := Lib.hid c1
  have C2 := Lib.hid c2
  clear c1 c2 e hT
  go_enter Tryd.func27, Tryd.ntmps27
  go_wp2_with fail
  refine C1.out.mono ?_
  rintro e w1 ⟨rfl, hb1⟩
  go_wp2_with fail
  refine (C2.out w1).mono ?_
  rintro e w2 ⟨rfl, hb2⟩
  have HB := Lib.hid (hb1.trans (hb2.mono hb1.size))
  clear hb1 hb2
  go_wp2
  go_ret
  exact ⟨rfl, HB.out⟩

set_option maxHeartbeats 1000000 in
set_option maxRecDepth 100000 in
theorem idR (s : ByteArray) (w : World) (hs : s.size ≤ 5000) :
    Calls Tryd.prog 28 #[.string s] w fun e w' => e = .returned (.string (idS s)) ∧ Below w.heap.size w w' := by
  have c1 := sumR s w hs
  have c2 := fun W => putR ⟨(sSum s.data.toList).toArray⟩ W (by show (sSum s.data.toList).toArray.size ≤ 5000; simp [sum_len])
  have e : (⟨(putL (ByteArray.mk (sSum s.data.toList).toArray).data.toList).toArray⟩ : ByteArray) = idS s := rfl
  rw [e] at c2
  generalize (⟨(sSum s.data.toList).toArray⟩ : ByteArray) = m at c1 c2
  generalize idS s = r at c2 ⊢
  have C1 := Lib.hid c1
  have C2 := Lib.hid c2
  clear c1 c2 e
  go_enter Tryd.func28, Tryd.ntmps28
  go_wp2_with fail
  refine C1.out.mono ?_
  rintro e w1 ⟨rfl, hb1⟩
  go_wp2_with fail
  refine (C2.out w1).mono ?_
  rintro e w2 ⟨rfl, hb2⟩
  have HB := Lib.hid (hb1.trans (hb2.mono hb1.size))
  clear hb1 hb2
  go_wp2
  go_ret
  exact ⟨rfl, HB.out⟩

set_option maxHeartbeats 1000000 in
set_option maxRecDepth 100000 in
theorem checkC (s : ByteArray) (w : World) (hs : s.size ≤ 5000) :
    Calls Tryd.prog 60 #[.string s] w fun e w' => e = .returned (.int .i64 (ckE s)) ∧ Below w.heap.size w w' := by
  by_cases h : s.size = 64
  · have c1 := readC s w hs
    have e : ckE s = rdE s.data.toList := by unfold ckE; rw [if_pos h]
    rw [e]
    generalize rdS s.data.toList = a at c1
    generalize rdE s.data.toList = b at c1 ⊢
    have hne : ((s.size : Int) != 64) = false := by simp; omega
    have C1 := Lib.hid c1
    clear c1 e h
    go_enter Tryd.func60, Tryd.ntmps60
    go_wp2_with fail
    refine C1.out.mono ?_
    rintro e w1 ⟨rfl, hb1⟩
    have HB := Lib.hid hb1
    clear hb1
    go_wp2
    go_ret
    exact ⟨rfl, HB.out⟩
  · have e : ckE s = 5 := by unfold ckE; rw [if_neg h]
    rw [e]
    have hne : ((s.size : Int) != 64) = true := by simp; omega
    clear e h
    go_enter Tryd.func60, Tryd.ntmps60
    go_wp2
    go_ret
    exact ⟨rfl, Below.refl _ _⟩

set_option maxHeartbeats 1000000 in
set_option maxRecDepth 100000 in
theorem checkR (s : ByteArray) (w : World) (hs : s.size ≤ 5000) :
    Calls Tryd.prog 43 #[.string s] w fun e w' => e = .returned (.int .i64 (ckE s)) ∧ Below w.heap.size w w' := by
  have c1 := readR s w hs
  have htwo := rdE_two s.data.toList
  have hck : ckE s = if s.size = 64 then rdE s.data.toList else 5 := rfl
  rw [hck]
  generalize rdS s.data.toList = a at c1
  generalize rdE s.data.toList = b at c1 htwo
  have C1 := Lib.hid c1
  clear c1 hck
  rcases htwo with rfl | rfl
  · have h0 : ((0 : Int) != 0) = false := rfl
    by_cases h : s.size = 64
    · rw [if_pos h]
      have hne : ((s.size : Int) != 64) = false := by simp; omega
      clear h
      go_enter Tryd.func43, Tryd.ntmps43
      go_wp2_with fail
      refine C1.out.mono ?_
      rintro e w1 ⟨rfl, hb1⟩
      have HB := Lib.hid hb1
      clear hb1
      go_wp2
      go_ret
      exact ⟨rfl, HB.out⟩
    · rw [if_neg h]
      have hne : ((s.size : Int) != 64) = true := by simp; omega
      clear h
      go_enter Tryd.func43, Tryd.ntmps43
      go_wp2_with fail
      refine C1.out.mono ?_
      rintro e w1 ⟨rfl, hb1⟩
      have HB := Lib.hid hb1
      clear hb1
      go_wp2
      go_ret
      exact ⟨rfl, HB.out⟩
  · have h0 : ((5 : Int) != 0) = true := rfl
    rw [ite_self]
    go_enter Tryd.func43, Tryd.ntmps43
    go_wp2_with fail
    refine C1.out.mono ?_
    rintro e w1 ⟨rfl, hb1⟩
    have HB := Lib.hid hb1
    clear hb1
    go_wp2
    go_ret
    exact ⟨rfl, HB.out⟩
end Go.Proofs.YtiabbmdgddbgbaaDoor
