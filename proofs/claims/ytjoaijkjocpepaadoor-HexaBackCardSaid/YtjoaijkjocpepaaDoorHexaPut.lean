/-
  hexa.Put: what the call answers.
-/
import Derived.Test.YtjoaijkjocpepaaDoorHexaPlain
import Derived.Deep.AppendLies
import Derived.Deep.RegionHeld3
namespace Go.Proofs.YtjoaijkjocpepaaDoor
open Go.RowKit

def digitsS : ByteArray := ⟨#[48, 49, 50, 51, 52, 53, 54, 55, 56, 57, 97, 98, 99, 100, 101, 102]⟩
theorem digits_get : ∀ n : Fin 16, ((digitsS.data.toList.getD n.val 0).toNat) = dg n.val := by decide +kernel

theorem run_digit (n : Nat) (h : n < 16) (W : World) : (Instr.index 9 (.string ⟨#[48, 49, 50, 51, 52, 53, 54, 55, 56, 57, 97, 98, 99, 100, 101, 102]⟩) (.int .u8 (n : Int))).run Tryd.prog W = .ok (.int .u8 (dg n : Nat)) W := by
  have hs : digitsS.size = 16 := rfl
  have h1 := run_index_string (P := Tryd.prog) (w := W) 9 digitsS .u8 (n : Int) Tryd.underlying9
  rw [dif_pos ⟨by omega, by rw [hs]; omega⟩] at h1
  refine Eq.trans h1 ?_
  congr 2
  have h2 := digits_get ⟨n, h⟩
  rw [← h2]
  show _ = (((digitsS.data.toList.getD n 0).toNat : Nat) : Int)
  have h3 : n < digitsS.data.toList.length := h
  have h4 : digitsS.data.toList.getD n 0 = digitsS.data.toList[n] := by rw [List.getD_eq_getElem?_getD, List.getElem?_eq_getElem h3]; rfl
  rw [h4]
  rfl

theorem run_index_at (s : ByteArray) (j : Nat) (h : j < s.size) (W : World) : (Instr.index 9 (.string s) (.int .i64 (j : Int))).run Tryd.prog W = .ok (.int .u8 (s[j].toNat : Nat)) W := by
  have h1 := run_index_string (P := Tryd.prog) (w := W) 9 s .i64 (j : Int) Tryd.underlying9
  rw [dif_pos ⟨by omega, by omega⟩] at h1
  exact h1

theorem take_snoc (s : ByteArray) (k : Nat) (h : k < s.size) : s.data.toList.take (k + 1) = s.data.toList.take k ++ [s[k]] := by
  rw [List.take_succ_eq_append_getElem (by simpa using h)]; rfl

theorem putL_take (s : ByteArray) (j : Nat) (h : j < s.size) : putL (s.data.toList.take (j + 1)) = putL (s.data.toList.take j) ++ [UInt8.ofNat (dg (s[j].toNat / 16)), UInt8.ofNat (dg (s[j].toNat % 16))] := by
  rw [take_snoc s j h, putL_append]; rfl

theorem own_made0 (W : World) (c : Nat) (hc : c ≤ 65536) : OwnB W.heap.size (.slice (some ⟨W.heap.size, 0, none⟩) 0 c) [] (W.alloc (.cells (List.replicate c (Value.int .u8 0)).toArray 5)) :=
  ⟨by simp [Lib.byteCells], .inr ⟨_, c, _, by simp, Nat.le_refl _, heap_alloc_new W _, by simp, by unfold maxLen; omega, by simp, by simp [Lib.byteCells]⟩⟩

theorem own_two {w : World} {B a b : Nat} {v : Value} {l : List UInt8} (ha : a < 256) (hb : b < 256) (h : w.ownsRow B 5 1 v (l.length + 2) (Lib.byteCells l ++ [Value.int .u8 (a : Int), Value.int .u8 (b : Int)])) : OwnB B v (l ++ [UInt8.ofNat a, UInt8.ofNat b]) w := by
  have h2 : w.ownsRow B 5 1 v ((l ++ [UInt8.ofNat a]).length + 1) (Lib.byteCells (l ++ [UInt8.ofNat a]) ++ [Value.int .u8 (b : Int)]) := by
    have e : UInt8.ofNat a = a.toUInt8 := rfl
    rw [e, Lib.byteCells_snoc l ha, List.append_assoc, List.length_append]
    exact h
  have h3 := ownB_more hb rfl h2
  rwa [List.append_assoc] at h3

set_option maxHeartbeats 1000000 in
set_option maxRecDepth 100000 in
theorem putC (s : ByteArray) (w : World) (hs : s.size ≤ 5000) :
    Calls Tryd.prog 9 #[.string s] w fun e w' => e = .returned (.string ⟨(putL s.data.toList).toArray⟩) ∧ Below w.heap.size w w' := by
  obtain ⟨i0, hi, hz0, hz1, hz2⟩ := info_parts bytesInfo
  have hmk := make_bytes 0 (2 * s.size) 0 (2 * (s.size : Int)) rfl (by omega) (by omega) (by omega) w
  go_enter Tryd.func9, Tryd.ntmps9
  go_wp2
  go_loopw [3, 4, 11] (fun v _ i wr => ∃ j : Nat, j ≤ s.size ∧ i = .int .i64 j ∧ OwnB w.heap.size v (putL (s.data.toList.take j)) wr ∧ Below w.heap.size w wr) (fun _ _ i _ => s.size - (intOf i).toNat)
  case atStart => exact ⟨0, by omega, rfl, own_made0 w _ (by omega), (Below.refl _ _).alloc (Nat.le_refl _) _⟩
  case round =>
    obtain ⟨j, hj, rfl, hown, hb⟩ := hrel
    by_cases hlt : j < s.size
    · have hix := fun W => run_index_at s j hlt W
      have hpt := putL_take s j hlt
      obtain ⟨c, hcc⟩ : ∃ c : Nat, c = s[j].toNat := ⟨_, rfl⟩
      have hc256 : c < 256 := by rw [hcc]; exact s[j].toNat_lt
      rw [← hcc] at hix hpt
      have hd1 := fun W => run_digit (c / 16) (by omega) W
      have hd2 := fun W => run_digit (c % 16) (by omega) W
      have ei1 : ((c / 16 : Nat) : Int) = (c : Int) / 16 := by omega
      have ei2 : ((c % 16 : Nat) : Int) = (c : Int) % 16 := by omega
      rw [ei1] at hd1
      rw [ei2] at hd2
      have q1 := dg_lt (c / 16) (by omega)
      have q2 := dg_lt (c % 16) (by omega)
      generalize hg1 : dg (c / 16) = d1 at hd1 hpt q1
      generalize hg2 : dg (c % 16) = d2 at hd2 hpt q2
      generalize hvv : u3 = v at hown
      have hol : (putL (s.data.toList.take j)).length ≤ 10000 := by rw [putL_len, List.length_take]; omega
      have hbs := hb.size
      have HB := Lib.hid hb
      have HPT := Lib.hid hpt
      have htm : (c : Int).tmod 16 = (c : Int) % 16 := Int.tmod_eq_emod_of_nonneg (by omega)
      clear hb hpt ei1 ei2 hg1 hg2 hcc
      generalize putL (s.data.toList.take j) = pre at hown hol HPT
      go_wp2_with fail
      go_region_held3 (fun _ => True) (first | go_keep | trivial)
            ((refine step_append_lies _ (by rfl) _ _ _ (by rfl) w.heap.size 5 i0 _ 1 1 Tryd.underlying32 hi hz0 hz1 hz2 rfl (by omega) v pre.length (Lib.byteCells pre) (by rfl) ((World.ownsRow.alloc hown _).drew)
                ⟨wr.heap.size, 0, none⟩ 2 2 [.int .u8 d1, .int .u8 d2] (by rfl) (by rfl) (World.news_of_block (cs := #[.int .u8 d1, .int .u8 d2]) (t := 5) (fr := (0, 0)) (heap_alloc_new wr _)) (by simp [Value.oneCell'])
                (by omega) (by unfold maxLen; omega) (by omega) (by simp; omega) (wr.heap.size + 1) (by simp) ?_; intro gg cap w1 hown1 hgrow hat hlt))
      all_goals
        have hb1 : Below w.heap.size w w1 := ((HB.out.alloc (by omega) _).drew).grown hgrow (by simp; omega) (fun i hi => (World.ownsRow.lt hown i hi).1)
        have hown2 := own_two (by omega) (by omega) hown1
        rw [← HPT.out] at hown2
        have HO2 := Lib.hid hown2
        have HB1 := Lib.hid hb1
        clear hown2 hb1 hown1 hgrow hat hown
        go_wp2
        exact ⟨⟨j + 1, by omega, by go_num, HO2.out, HB1.out⟩, by simp [intOf]; omega⟩
    · obtain rfl : j = s.size := by omega
      rw [List.take_of_length_le (by simp)] at hown
      have hconv := own_text hown
      have HB := Lib.hid hb
      clear hb
      go_wp2
      go_ret
      exact ⟨rfl, HB.out⟩
end Go.Proofs.YtjoaijkjocpepaaDoor
