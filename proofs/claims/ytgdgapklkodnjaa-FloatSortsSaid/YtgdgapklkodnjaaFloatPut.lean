/-
  The document's Read; float.Put and the document's Put: what each call answers.
-/
import Derived.Test.YtgdgapklkodnjaaFloatRead
import Derived.Deep.AppendLies
import Derived.Laws.OwnMore
namespace Go.Proofs.Ytgdgapklkodnjaa
open Go.RowKit

attribute [local go_sem] fbits ffrom ffromN fneq feql

set_option maxHeartbeats 1000000 in
set_option maxRecDepth 100000 in
theorem readR (s : ByteArray) (w : World) (hs : s.size ≤ maxLen) :
    Calls Try.prog 9 #[.string s] w fun e w' => e = .returned (.tuple #[.float .f64 (rdB s.data.toList), .int .i64 (rdN s.data.toList)]) ∧ w = w' := by
  unfold maxLen at hs
  have hsl : s.data.toList.length = s.size := by simp
  by_cases h1 : s.size < 8
  · obtain ⟨e1, e2⟩ := rd_short (l := s.data.toList) (by omega)
    rw [e1, e2]
    clear e1 e2 hsl
    go_enter Try.func9, Try.ntmps9
    go_wp2
    go_ret2
    exact ⟨rfl, rfl⟩
  · obtain ⟨t, ht, htl⟩ : ∃ t : ByteArray, t.size = 8 ∧ t.data.toList = s.data.toList.take 8 :=
      ⟨⟨(s.data.toList.take 8).toArray⟩, by show (s.data.toList.take 8).toArray.size = 8; simp; omega, rfl⟩
    have hnr : ∀ k, k ≤ 8 → t.data.toList.take k = s.data.toList.take k := by
      intro k hk; rw [htl, List.take_take, Nat.min_eq_left hk]
    have h1' : 8 ≤ s.size := by omega
    go_enter Try.func9, Try.ntmps9
    go_wp2
    go_loop [4, 5] (fun r i => ∃ k : Nat, k ≤ 8 ∧ i = .int .i64 k ∧ r = .int .u64 (nrL (s.data.toList.take k) : Nat)) (fun _ i => 8 - (intOf i).toNat)
    case atStart => exact ⟨0, by omega, rfl, by rw [List.take_zero, nrL_nil]; rfl⟩
    case round =>
      obtain ⟨k, hk, rfl, rfl⟩ := hrel
      by_cases hlt : k < 8
      · have hst := nr_take s k (by omega)
        have hix := fun W => index_str s k (by omega) W
        have hlow : nrL (s.data.toList.take k) < 72057594037927936 := by
          rw [← hnr k (by omega)]; exact nr_low t k hlt ht
        generalize nrL (s.data.toList.take k) = r at hst hlow ⊢
        have hc := s[k].toNat_lt
        generalize s[k].toNat = c at hst hix hc
        have hwr : IntKind.u64.wrap ((r : Int) * 256) = (r : Int) * 256 := by simp [IntKind.wrap, IntKind.bits, IntKind.signed]; omega
        have hmd : IntKind.u64.wrap ((r : Int) * 256 + (c : Int)) = ((r * 256 + c : Nat) : Int) := by simp [IntKind.wrap, IntKind.bits, IntKind.signed]; omega
        have HS := Lib.hid hst
        have HL := Lib.hid hlow
        have HT := Lib.hid htl
        have HN := Lib.hid hnr
        clear hst hlow htl hnr hsl
        generalize r * 256 + c = r' at hmd HS
        go_wp2
        exact ⟨⟨k + 1, by omega, by go_num, by rw [HS.out]⟩, by simp [intOf]; omega⟩
      · obtain rfl : k = 8 := by omega
        have hlt : nrL (s.data.toList.take 8) < 18446744073709551616 := by
          rw [← htl]; exact nrL8_lt (by simp; omega)
        by_cases h2 : 8 < s.size
        · obtain ⟨e1, e2⟩ := rd_long (l := s.data.toList) (by omega)
          have E1 := Lib.hid e1
          have E2 := Lib.hid e2
          clear e1 e2 hlt hsl hnr htl
          generalize nrL (s.data.toList.take 8) = z
          go_wp2
          go_ret2
          exact ⟨by rw [E1.out, E2.out]; rfl, rfl⟩
        · have hl8 : s.data.toList.length = 8 := by omega
          rw [List.take_of_length_le (by omega)] at hlt ⊢
          have hbt := fun W => bitsR (nrL s.data.toList) W
          by_cases hg : cln (nrL s.data.toList) = nrL s.data.toList
          · obtain ⟨e1, e2⟩ := rd_good hl8 hg
            rw [hg] at hbt
            generalize nrL s.data.toList = z at hbt e1 ⊢
            have hne : ((z : Int) != (z : Int)) = false := by simp
            have E1 := Lib.hid e1
            have E2 := Lib.hid e2
            have hle : s.size ≤ 8 := by omega
            clear e1 e2 hlt hg hnr htl hl8 hsl h2
            go_wp2_with fail
            refine (hbt _).mono ?_
            rintro e w1 ⟨rfl, rfl⟩
            go_wp2
            go_ret2
            exact ⟨by rw [E1.out, E2.out]; rfl, rfl⟩
          · obtain ⟨e1, e2⟩ := rd_bad hl8 hg
            generalize cln (nrL s.data.toList) = q at hbt hg
            generalize nrL s.data.toList = z at hbt hg ⊢
            have hne : ((q : Int) != (z : Int)) = true := by simp; omega
            have E1 := Lib.hid e1
            have E2 := Lib.hid e2
            have hle : s.size ≤ 8 := by omega
            clear e1 e2 hlt hnr htl hl8 hsl h2 hg
            go_wp2_with fail
            refine (hbt _).mono ?_
            rintro e w1 ⟨rfl, rfl⟩
            go_wp2
            go_ret2
            exact ⟨by rw [E1.out, E2.out]; rfl, rfl⟩

theorem byteCells_at (l : List UInt8) (k a : Nat) (ha : a < 256) : (Lib.byteCells l).set k (.int .u8 (a : Int)) = Lib.byteCells (l.set k (UInt8.ofNat a)) := by
  unfold Lib.byteCells
  rw [List.map_set]
  congr 2
  have : (UInt8.ofNat a).toNat = a := by simp; omega
  rw [this]

set_option maxHeartbeats 1000000 in
set_option maxRecDepth 100000 in
theorem putR (b : Nat) (w : World) : Calls Try.prog 16 #[.float .f64 b] w fun e w' => e = .returned (.string (putS b)) ∧ Below w.heap.size w w' := by
  obtain ⟨i0, hi, hz0, hz1, hz2⟩ := info_parts bytesInfo
  have hp : putS b = ⟨(beL (cln b) 8).toArray⟩ := by unfold putS putF; rfl
  rw [hp]
  have hbt := fun W => bitsR b W
  clear hp
  generalize cln b = x at hbt ⊢
  go_enter Try.func16, Try.ntmps16
  go_wp2
  go_loopw [3, 4] (fun v i wr => ∃ (k : Nat) (pre : List UInt8), k ≤ 8 ∧ i = .int .i64 ((k : Int) - 1) ∧ pre ++ beL x k = beL x 8 ∧ pre.length + k ≤ 80 ∧ OwnB w.heap.size v pre wr ∧ Below w.heap.size w wr) (fun _ i _ => (intOf i + 1).toNat)
  case atStart => exact ⟨8, [], by omega, rfl, rfl, by simp, ownB_nil _ _, Below.refl _ _⟩
  case round =>
    obtain ⟨k, pre, hk, rfl, hpre, hlp, hown, hb⟩ := hrel
    have HPRE := Lib.hid hpre
    have HB := Lib.hid hb
    have hbs := hb.size
    clear hpre hb
    cases k with
    | zero =>
      have hconv := own_text hown
      go_wp2
      go_ret
      have h := HPRE.out
      rw [beL_zero, List.append_nil] at h
      rw [h]
      exact ⟨rfl, HB.out⟩
    | succ k =>
      have e8 : ((k + 1 : Nat) : Int) - 1 = (k : Int) := by omega
      rw [e8]
      clear e8
      go_wp2_with fail
      refine (hbt _).mono ?_
      rintro e w1 ⟨rfl, rfl⟩
      go_wp2_with (at_builtin; refine wpList_append_own _ rfl _ _ 45 rfl w.heap.size 5 i0 (.int .u8 0) 1 1 Try.underlying45 hi hz0 hz1 hz2 rfl (by decide) _ _ _ rfl (hown.alloc _) ⟨wr.heap.size, 0, none⟩ 1 1 [Value.int .u8 ((x : Int) / 2 ^ (8 * k) % 256)] rfl rfl ?c1 ?c2 ?c3 ?c4 ?c5 ?_)
      case c1 =>
        intro j u hj
        match j, hj with
        | 0, hj => simp at hj; subst hj; simp [Addr.add]
      case c2 => intro u hu; simp at hu; subst hu; rfl
      case c3 => unfold maxLen; omega
      case c4 => omega
      case c5 => simp; omega
      intro v' w1 hown' hgrow _
      have hb1 : Below w.heap.size w w1 := (HB.out.alloc (by omega) _).grown hgrow (by simp; omega) (fun j hj => (hown.lt j hj).1)
      have hown2 := ownB_more (a := x / 2 ^ (8 * k) % 256) (by omega) (by simp) hown'
      have hpre2 := HPRE.out
      rw [beL_succ, List.append_cons, ← ofNat_mod256] at hpre2
      have HP2 := Lib.hid hpre2
      have HO2 := Lib.hid hown2
      have HB1 := Lib.hid hb1
      clear hpre2 hown2 hb1 hown' hgrow
      go_wp2
      exact ⟨⟨k, _, by omega, by go_num, HP2.out, by simp; omega, HO2.out, HB1.out⟩, by simp [intOf]⟩

set_option maxHeartbeats 1000000 in
set_option maxRecDepth 100000 in
theorem putC (b : Nat) (w : World) : Calls Try.prog 15 #[.float .f64 b] w fun e w' => e = .returned (.string (putS b)) ∧ Below w.heap.size w w' := by
  obtain ⟨i0, hi, hz0, hz1, hz2⟩ := info_parts bytesInfo
  have hp : putS b = ⟨(beL (cln b) 8).toArray⟩ := by unfold putS putF; rfl
  rw [hp]
  have hbt := fun W => cleanC b W
  clear hp
  generalize cln b = x at hbt ⊢
  have hmk := make_bytes 8 8 8 8 (by omega) (by omega) (by omega) (by omega) w
  have hown0 : OwnB w.heap.size (.slice (some ⟨w.heap.size, 0, none⟩) 8 8) (putRowF x 0) (w.alloc (.cells (List.replicate 8 (Value.int .u8 0)).toArray 5)) := by
    unfold OwnB
    rw [putRowF_len, putRowF_zero]
    have h := World.ownsRow_lit (base := w.heap.size) (e := 5) (size := 1) w (List.replicate 8 (Value.int .u8 0)).toArray 8 (Nat.le_refl _) (by unfold maxLen; omega) (by simp)
    have e : Lib.byteCells (List.replicate 8 (0 : UInt8)) = (List.replicate 8 (Value.int .u8 0)) := by simp [Lib.byteCells]
    rw [e]
    simpa using h
  have HO := Lib.hid hown0
  clear hown0
  go_enter Try.func15, Try.ntmps15
  go_wp2_with fail
  refine (hbt _).mono ?_
  rintro e w1 ⟨rfl, rfl⟩
  go_wp2
  go_loopw [5, 12] (fun _ i wr => ∃ k : Nat, k ≤ 8 ∧ i = .int .i64 (k : Int) ∧ OwnB w.heap.size (.slice (some ⟨w.heap.size, 0, none⟩) 8 8) (putRowF x k) wr ∧ Below w.heap.size w wr) (fun _ i _ => 8 - (intOf i).toNat)
  case atStart => exact ⟨0, by omega, rfl, HO.out, (Below.refl _ _).alloc (Nat.le_refl _) _⟩
  case round =>
    obtain ⟨k, hk, rfl, hown, hb⟩ := hrel
    by_cases hlt : k < 8
    · obtain ⟨m, hm⟩ : ∃ m : Nat, (7 : Int) - (k : Int) = (m : Int) := ⟨7 - k, by omega⟩
      have hm7 : m = 7 - k := by omega
      have hset := putRowF_set x k hlt
      rw [← hm7, ← ofNat_mod256] at hset
      have hrow : wr.ownsRow w.heap.size 5 1 (.slice (some ⟨w.heap.size, 0, none⟩) 8 8) 8 (Lib.byteCells (putRowF x k)) := by
        have h := hown; unfold OwnB at h; rw [putRowF_len] at h; exact h
      have hfz : wr.frozen? ⟨w.heap.size, k, none⟩ = false := World.ownsRow.frozenAt hrow k
      have hcell := World.ownsRow.cellAt hrow k (by omega)
      have hst := (World.ownsRow.stored hrow k (.int .u8 ((x / 2 ^ (8 * m) % 256 : Nat) : Int))).1
      rw [byteCells_at _ _ _ (by omega), hset, show (((x / 2 ^ (8 * m) % 256 : Nat)) : Int) = (x : Int) / 2 ^ (8 * m) % 256 by simp] at hst
      have hcl : ∃ u : Int, (Lib.byteCells (putRowF x k))[k]? = some (.int .u8 u) := by
        have hl : k < (Lib.byteCells (putRowF x k)).length := by simp [Lib.byteCells, putRowF_len]; omega
        refine ⟨_, by rw [List.getElem?_eq_getElem hl]; simp [Lib.byteCells]; rfl⟩
      obtain ⟨u, hu⟩ := hcl
      rw [hu] at hcell
      have hge : (0 : Int) ≤ 8 * (m : Int) := by omega
      have hbs := hb.size
      have HST := Lib.hid hst
      have HB := Lib.hid hb
      clear hst hb hu hrow hset hown hm7 HO hmk
      go_wp2
      exact ⟨⟨k + 1, by omega, by go_num, by unfold OwnB; rw [putRowF_len]; exact HST.out, HB.out.setCell (Nat.le_refl _) _⟩, by simp [intOf]; omega⟩
    · obtain rfl : k = 8 := by omega
      have hconv := own_text (by have h := hown; unfold OwnB at h ⊢; rw [putRowF_len] at h ⊢; exact h)
      rw [putRowF_all] at hconv
      have HB := Lib.hid hb
      clear hb hown
      go_wp2
      go_ret
      exact ⟨rfl, HB.out⟩
end Go.Proofs.Ytgdgapklkodnjaa
