/-
  WireBack: the walk.
-/
import Derived.Test.YtkgjklcokjfhlaaWireAwake
import Derived.Test.YtkgjklcokjfhlaaWireInv
import Derived.Test.YtkgjklcokjfhlaaRefWire
import Derived.Test.YtkgjklcokjfhlaaLawKit
namespace Go.Proofs.Ytkgjklcokjfhlaa
open Go.RowKit

theorem new_two (s : ByteArray) (w : World) :
    Calls Try.prog 14 #[.string s] w fun e w' => ∃ b, e = .returned (.pointer (some ⟨b, 0, none⟩)) ∧ w.heap.size = b ∧ Rd b (s, 0) w' ∧ Below w.heap.size w w' ∧ b < w'.heap.size :=
  (new_any s w).mono fun e w' ⟨he, hw⟩ => ⟨w.heap.size, he, rfl, by rw [← hw]; exact Rd.made s w, by rw [← hw]; exact (Below.refl _ _).alloc (Nat.le_refl _) _, by rw [← hw]; simp⟩

theorem rlist_own {b : Nat} {st st' : ByteArray × Int} {l : List ByteArray} {w : World} (hq : sList st = (l, st')) (h : Rd b st w) (hsz : st.1.size ≤ 9223372036854775807) :
    Calls Try.prog 21 #[.pointer (some ⟨b, 0, none⟩)] w fun e w' => ∃ a cap, e = .returned (.slice a l.length cap) ∧ StrRow w' a l ∧ (∀ g off, a = some ⟨g, off, none⟩ → w.heap.size ≤ g) ∧ Rd b st' w' ∧ w.grownBy w' (some b) := by
  have h2 := rlist_any b st w h hsz; rw [hq] at h2
  exact h2.mono fun e w' ⟨v, he, ho, hr, hg⟩ => by
    obtain ⟨a, cap, rfl, hrow⟩ := OwnS.row ho
    exact ⟨a, cap, he, hrow, fun g off e => (World.ownsRow.lt ho g (by rw [e]; rfl)).1, hr, hg⟩

theorem list_back (a : Option Addr) (cap : Nat) (ss : List ByteArray) (hl : ss.length ≤ 40) (hs : ∀ s ∈ ss, s.size ≤ 300) (w : World) (hrow : StrRow w a ss) :
    Calls Try.prog 12 #[.slice a ss.length cap] w fun e w' => e = .returned (.tuple #[.string ⟨(Lib.uvarint ss.length ++ encTexts ss).toArray⟩, .int .i64 0]) ∧ Below w.heap.size w w' :=
  (list_any a cap ss (by omega) w hrow).mono fun e w' ⟨he, hb⟩ => by
    refine ⟨?_, hb⟩
    rcases he with ⟨⟨s, h1, h2⟩, _⟩ | ⟨_, he⟩
    · have := hs s h1; omega
    · exact he

/-- behind what z read: what is put again is how it began -/
theorem put_again (s : ByteArray) (k : Nat) (st : ByteArray × Int) (h : sNum (s, 0) = (k, st)) (h0 : st.2 = 0) :
    k ≤ 9007199254740992 ∧ (⟨(Lib.uvarint k).toArray⟩ : ByteArray).size ≤ s.size ∧ ((s.extract 0 (⟨(Lib.uvarint k).toArray⟩ : ByteArray).size).toList == (⟨(Lib.uvarint k).toArray⟩ : ByteArray).toList) = true := by
  unfold sNum at h
  rw [if_neg (by simp)] at h
  by_cases h1 : (numR s.data.toList).2.2 = 0
  · rw [if_pos h1] at h
    have h2 := numR_ok h1
    have h3 := numR_put h1
    have hk : (numR s.data.toList).1 = k := congrArg Prod.fst h
    rw [hk] at h2 h3
    have hl : s.data.toList.length = s.size := by simp
    have hz : (Lib.uvarint k).length = (numR s.data.toList).2.1 := by rw [h3, List.length_take]; omega
    have hsz : (⟨(Lib.uvarint k).toArray⟩ : ByteArray).size = (Lib.uvarint k).length := rfl
    refine ⟨h2.2.2, by omega, ?_⟩
    rw [ByteArray.toList_eq, ByteArray.toList_eq, Lib.extract_data, hsz, hz]
    show (((s.data.toList.drop 0).take _) == Lib.uvarint k) = true
    rw [h3]; simp
  · rw [if_neg h1] at h
    have h2 : (s, (numR s.data.toList).2.2) = st := congrArg Prod.snd h
    rw [← h2] at h0
    exact absurd h0 h1

set_option maxHeartbeats 4000000 in
set_option maxRecDepth 100000 in
theorem back_law (a0 : Int) (a1 : Option Addr) (len1 cap1 : Nat) (z1 : List ByteArray) (a2 : ByteArray) (w : World) (w0 : (Lit.int .u32 a0).wf = true) (w1 : StrArg w a1 len1 z1) (w2 : a2.size ≤ maxLen) :
    Calls Try.prog 5 #[.int .u32 a0, .slice a1 len1 cap1, .string a2] w fun e w' => e = .returned (.bool true) ∧ Below w.heap.size w w' := by
  obtain ⟨hlen, hm, hrow, hsz⟩ := w1
  have hm' := hm
  subst hlen
  unfold maxLen at w2 hm
  have hbd := bounds_u32 w0
  obtain ⟨n, rfl⟩ := Int.eq_ofNat_of_zero_le hbd.1
  have hn : n ≤ 4294967295 := by omega
  clear w0 hbd
  by_cases hbig : 40 < z1.length ∨ 1000 < a2.size
  · have hor : (40 < (z1.length : Int)) ∨ ¬ (40 < (z1.length : Int)) ∧ 1000 < (a2.size : Int) := by omega
    clear hbig
    rcases hor with hor | ⟨hor1, hor2⟩
    all_goals
      go_enter Try.func5, Try.ntmps5
      go_wp2_with fail
      refine (awake_any w).mono ?_
      rintro e w3 ⟨rfl, hb3⟩
      go_wp2
      go_ret
      exact ⟨rfl, hb3⟩
  · have hs1 : ¬ (40 < (z1.length : Int)) := by omega
    have hs2 : ¬ (1000 < (a2.size : Int)) := by omega
    clear hbig
    go_enter Try.func5, Try.ntmps5
    go_wp2
    go_loopw [7] (fun i wr => ∃ k : Nat, k ≤ z1.length ∧ i = .int .i64 k ∧ (∀ s ∈ z1.take k, s.size ≤ 300) ∧ wr = w) (fun i _ => z1.length - (intOf i).toNat)
    case atStart => exact ⟨0, Nat.zero_le _, rfl, by simp, rfl⟩
    case round =>
      obtain ⟨k, hk, rfl, hall, rfl⟩ := hrel
      by_cases hlt : k < z1.length
      · obtain ⟨b, off, rfl, hbl, hcells⟩ : ∃ b off, a1 = some ⟨b, off, none⟩ ∧ b < wr.heap.size ∧ ∀ j, j < z1.length → wr.cell? ⟨b, off + j, none⟩ = some (.string (z1.getD j ByteArray.empty)) := by
          rcases hrow with h0 | h1
          · subst h0; simp at hlt
          · exact h1
        have hck := hcells k hlt
        have hall' : (z1.getD k ByteArray.empty).size ≤ 300 → ∀ s ∈ z1.take (k + 1), s.size ≤ 300 := by
          intro h1 s hs
          rw [List.take_add_one, List.getElem?_eq_getElem hlt] at hs
          rcases List.mem_append.1 hs with hs | hs
          · exact hall s hs
          · simp at hs; subst hs; rw [List.getD_eq_getElem?_getD, List.getElem?_eq_getElem hlt] at h1; exact h1
        generalize z1.getD k ByteArray.empty = sk at hck hall'
        have hlti : (k : Int) < (z1.length : Int) := by omega
        have HALL := Lib.hid hall'
        clear hcells hall' hall
        by_cases h3 : (300 : Int) < (sk.size : Int)
        · go_wp2_with fail
          refine (awake_any wr).mono ?_
          rintro e w9 ⟨rfl, hb9⟩
          go_wp2
          go_ret
          exact ⟨rfl, hb9⟩
        · go_wp2
          go_roundw
          case rel => exact ⟨k + 1, by omega, by go_num, HALL.out (by omega), trivial⟩
          case measure => simp [intOf]; omega
      · obtain rfl : k = z1.length := by omega
        rw [List.take_length] at hall
        have hl40 : z1.length ≤ 40 := by omega
        have HALL := Lib.hid hall
        have het := encTexts_len z1 (fun s hs => by have := hall s hs; omega)
        have hu1 := uv_len8 n (by omega)
        have hu2 := uv_len8 z1.length (by omega)
        clear hall hsz
        have hst1 := sNum_uv n (by omega) (Lib.uvarint z1.length ++ encTexts z1)
        have hst2 := sList_enc z1 (by omega) (fun s hs => by have := HALL.out s hs; omega) []
        rw [List.append_nil] at hst2
        have hS1 : (⟨(Lib.uvarint z1.length ++ encTexts z1).toArray⟩ : ByteArray).size ≤ 9223372036854775807 := by
          show (Lib.uvarint z1.length ++ encTexts z1).length ≤ _
          rw [List.length_append]; omega
        have hadd := run_string_add_sum (P := Try.prog) (w := wr) ⟨(Lib.uvarint n).toArray⟩ ⟨(Lib.uvarint z1.length ++ encTexts z1).toArray⟩ (by
          show (Lib.uvarint n).length + (Lib.uvarint z1.length ++ encTexts z1).length ≤ _
          rw [List.length_append]; omega)
        clear hadd
        have hadd : ∀ wx : World, (Op.stringOp .add ⟨(Lib.uvarint n).toArray⟩ ⟨(Lib.uvarint z1.length ++ encTexts z1).toArray⟩).run Try.prog wx = .ok (.string ⟨(Lib.uvarint n ++ (Lib.uvarint z1.length ++ encTexts z1)).toArray⟩) wx := fun wx => by
          rw [run_string_add_sum (w := wx) _ _ (by
            show (Lib.uvarint n).length + (Lib.uvarint z1.length ++ encTexts z1).length ≤ _
            rw [List.length_append]; omega), append_str]
        have hS0 : (⟨(Lib.uvarint n ++ (Lib.uvarint z1.length ++ encTexts z1)).toArray⟩ : ByteArray).size ≤ 9223372036854775807 := by
          show (Lib.uvarint n ++ (Lib.uvarint z1.length ++ encTexts z1)).length ≤ _
          rw [List.length_append, List.length_append]; omega
        go_wp2_with fail
        refine (num_ok n (by omega) wr).mono ?_
        rintro e w1 ⟨rfl, hb1⟩
        have hz1 := hb1.size
        have hrow1 := hrow.below hb1
        go_wp2_with fail
        refine (list_back a1 cap1 z1 hl40 HALL.out w1 hrow1).mono ?_
        rintro e w2 ⟨rfl, hb2⟩
        have hrow2 := hrow1.below hb2
        have hB2 := hb1.trans (hb2.mono hz1)
        have hz2 := hB2.size
        clear hb1 hb2 hrow1
        generalize (⟨(Lib.uvarint n).toArray⟩ : ByteArray) = sa at hadd ⊢
        generalize (⟨(Lib.uvarint n ++ (Lib.uvarint z1.length ++ encTexts z1)).toArray⟩ : ByteArray) = S0 at hadd hst1 hS0 ⊢
        generalize (⟨(Lib.uvarint z1.length ++ encTexts z1).toArray⟩ : ByteArray) = S1 at hadd hst1 hst2 hS1 ⊢
        have HST1 := Lib.hid hst1
        have HST2 := Lib.hid hst2
        clear hst1 hst2
        have hadd2 := hadd w2
        clear hadd
        go_wp2_with fail
        refine (new_two S0 w2).mono ?_
        rintro e w3 ⟨b, rfl, hbe, hrd3, hb3, hlt3⟩
        have HBE := Lib.hid hbe
        have hble : w2.heap.size ≤ b := by omega
        clear hbe
        have hB3 := hB2.trans (hb3.mono (by omega))
        have hrow3 := hrow2.below hb3
        go_wp2_with fail
        refine (new_two a2 w3).mono ?_
        rintro e w4 ⟨c, rfl, hce, hrd4, hb4, hlt4⟩
        have hcle : w3.heap.size ≤ c := by omega
        clear hce
        have hbc : b ≠ c := by omega
        have hB4 := hB3.trans (hb4.mono (by have := hB3.size; omega))
        have hz4 := hB4.size
        have hrow4 := hrow3.below hb4
        have HR4 := Lib.hid (hrd3.below hb4 hlt3)
        have HZ4 := Lib.hid hrd4
        clear hrd3 hrd4 hb3 hb4 hrow3 hrow2
        go_wp2_with fail
        refine (rnum_at HST1.out HR4.out hS0).mono ?_
        rintro e w5 ⟨rfl, hrd5, hg5⟩
        have hB5 := Below.grown1 hB4 hg5 hz4 (by omega)
        have hz5 := hB5.size
        have HZ5 := Lib.hid (HZ4.out.other hg5 (Ne.symm hbc))
        have HR5 := Lib.hid hrd5
        have hrow5 : StrRow w5 a1 z1 := hrow.below (hB5)
        clear hrd5 hg5 hrow4
        go_wp2_with fail
        refine (rlist_own HST2.out HR5.out hS1).mono ?_
        rintro e w6 ⟨ax, capx, rfl, hrowx, hnew, hrd6, hg6⟩
        have hc5 := HZ5.out.lt
        have hB6 := Below.grown1 hB5 hg6 hz5 (by omega)
        have hz6 := hB6.size
        have HZ6 := Lib.hid (HZ5.out.other hg6 (Ne.symm hbc))
        have HR6 := Lib.hid hrd6
        have hclt := HZ6.out.lt
        clear hrd6 hg6 hrow5
        generalize hk : sNum (a2, 0) = r
        obtain ⟨k, s2, e2⟩ := r
        have HK := Lib.hid hk
        clear hk
        go_wp2_with fail
        refine (rnum_at HK.out HZ6.out (by simp only; omega)).mono ?_
        rintro e w7 ⟨rfl, hrd7, hg7⟩
        have hB7 := Below.grown1 hB6 hg7 hz6 (by omega)
        have hz7 := hB7.size
        have HR7 := Lib.hid (HR6.out.other hg7 hbc)
        have HZ7 := Lib.hid hrd7
        have hrowx7 := hrowx.grown hg7 (fun g off e => by have := hnew g off e; simp; omega)
        clear hrd7 hg7 hrowx
        have hrow7 := hrow.below hB7
        go_wp2_with fail
        refine (err_any c _ w7 HZ7.out).mono ?_
        rintro e w8 ⟨rfl, rfl⟩
        by_cases h0 : e2 = 0
        · obtain ⟨hk1, hk2, hk3⟩ := put_again a2 k (s2, e2) HK.out h0
          subst h0
          go_wp2_with fail
          refine (num_ok k hk1 w7).mono ?_
          rintro e w8 ⟨rfl, hb8⟩
          generalize (⟨(Lib.uvarint k).toArray⟩ : ByteArray) = t at hk2 hk3 ⊢
          have hrowx8 := hrowx7.below hb8
          have hrow8 := hrow7.below hb8
          have HR8 := Lib.hid (HR7.out.below hb8 HR7.out.lt)
          have hB8 := hB7.trans (hb8.mono hz7)
          have hz8 := hB8.size
          clear hb8 hrowx7 hrow7
          have hnn : ((n : Int) == (n : Int)) = true := by simp
          go_wp2_with fail
          refine (texts_at ax a1 capx cap1 z1 w8 hrowx8 hrow8 hm').mono ?_
          rintro e w9 ⟨rfl, nq, rfl⟩
          have HR9 := Lib.hid (Rd.drewN HR8.out nq)
          have hB9 := below_drewN hB8 nq
          have hz9 := hB9.size
          go_wp2_with fail
          refine (done_any b _ _ HR9.out (by decide)).mono ?_
          rintro e w10 ⟨rfl, rfl⟩
          go_wp2_with fail
          refine (awake_any _).mono ?_
          rintro e w11 ⟨rfl, hb11⟩
          go_wp2
          go_ret
          exact ⟨rfl, hB9.trans (hb11.mono hz9)⟩
        · have hb0 : (e2 == 0) = false := by simp [h0]
          have hnn : ((n : Int) == (n : Int)) = true := by simp
          go_wp2_with fail
          refine (texts_at ax a1 capx cap1 z1 w7 hrowx7 hrow7 hm').mono ?_
          rintro e w9 ⟨rfl, nq, rfl⟩
          have HR9 := Lib.hid (Rd.drewN HR7.out nq)
          have hB9 := below_drewN hB7 nq
          have hz9 := hB9.size
          go_wp2_with fail
          refine (done_any b _ _ HR9.out (by decide)).mono ?_
          rintro e w10 ⟨rfl, rfl⟩
          go_wp2_with fail
          refine (awake_any _).mono ?_
          rintro e w11 ⟨rfl, hb11⟩
          go_wp2
          go_ret
          exact ⟨rfl, hB9.trans (hb11.mono hz9)⟩
end Go.Proofs.Ytkgjklcokjfhlaa
