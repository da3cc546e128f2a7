/-
  frame.All and the document's: what each call answers.
-/
import Derived.Test.YtmcabkoabecnnaaFrameRead
import Derived.Test.YtmcabkoabecnnaaRefRead3
namespace Go.Proofs.Ytmcabkoabecnnaa
open Go.RowKit

def fallS (s : ByteArray) : List ByteArray × Nat := fall (s.size + 1) s

theorem frd_small {s : ByteArray} (h : (frd s).2.2 = 0) : 4 < (frd s).2.1 ∧ (frd s).2.1 ≤ s.size := by
  obtain ⟨r, hr, hn, _⟩ := frd_form h
  have h1 := recF_pos (frd s).1
  have h2 := congrArg List.length hr
  rw [List.length_append, ba_len] at h2
  omega

/-- what holds of the loop behind some rounds -/
def FRel (w : World) (s : ByteArray) (v i : Value) (wr : World) : Prop :=
  ∃ (p m : Nat) (acc : List ByteArray), i = .int .i64 p ∧ p ≤ s.size ∧ s.size - p < m ∧ acc.length ≤ p ∧ OwnS w.heap.size v acc wr ∧ Below w.heap.size w wr ∧
    fallS s = (acc ++ (fall m (s.extract p s.size)).1, p + (fall m (s.extract p s.size)).2)

theorem FRel.start (w : World) (s : ByteArray) : FRel w s (.slice none 0 0) (.int .i64 0) w :=
  ⟨0, s.size + 1, [], rfl, Nat.zero_le _, by omega, Nat.le_refl _, ownS_nil _ _, Below.refl _ _, by rw [ext_zero]; simp [fallS]⟩

set_option maxHeartbeats 2000000 in
set_option maxRecDepth 100000 in
theorem fallC (s : ByteArray) (w : World) (hs : s.size ≤ 1000000) :
    Calls Try.prog 10 #[.string s] w fun e w' => ∃ v, e = .returned (.tuple #[v, .int .i64 (fallS s).2]) ∧ OwnS w.heap.size v (fallS s).1 w' ∧ Below w.heap.size w w' := by
  obtain ⟨i0, hi, hz0, hz1, hz2⟩ := info_parts strInfo
  go_enter Try.func10, Try.ntmps10
  go_wp2
  go_step3
  go_wp2
  go_step3
  go_wp2_with fail
  go_loopw [4, 5] (fun v i wr => FRel w s v i wr) (fun _ i _ => s.size - (intOf i).toNat)
  case atStart => exact FRel.start w s
  case round =>
    obtain ⟨p, m, acc, rfl, hp, hm, hacc, hown, hb, heq⟩ := hrel
    have hes : (s.extract p s.size).size ≤ 1000000 := by rw [ext_size]; omega
    have hez := ext_size s p
    have hee := fun j => ext_ext s p j
    have hpI : (p : Int) ≤ (s.size : Int) := by omega
    have hpn : ((p : Int)).toNat = p := by omega
    obtain ⟨q, hq⟩ : ∃ q, s.extract p s.size = q := ⟨_, rfl⟩
    have hrd := fun W => freadC q W (by rw [← hq]; exact hes)
    rw [hq] at heq hez hee
    have hfs := @frd_small q
    have hfe := fun k => @fall_err k q
    have hfo := fun k => @fall_ok k q
    obtain ⟨t, n, er, hf⟩ : ∃ t, ∃ n : Nat, ∃ er : Int, frd q = (t, n, er) := ⟨_, _, _, rfl⟩
    rw [hf] at hrd hfs
    simp only [hf] at hfe hfo
    simp only at hrd hfs
    have HQ := Lib.hid heq
    have HE := Lib.hid hee
    have HB := Lib.hid hb
    have HF := Lib.hid (And.intro hfe hfo)
    have hbs := hb.size
    clear heq hee hb hes hf hfe hfo
    go_wp2_with fail
    refine (hrd _).mono ?_
    rintro e w2 ⟨rfl, hb2⟩
    have hbs2 := hb2.size
    have hown2 := hown.below hb2 (Nat.le_refl _)
    have hB2 := HB.out.trans (hb2.mono hbs)
    have HB2 := Lib.hid hB2
    clear hown hrd hb2 hB2
    by_cases he : er = 0
    · subst he
      obtain ⟨hn4, hns⟩ := hfs rfl
      clear hfs
      go_wp2_with (at_builtin; refine wpList_append_own _ rfl _ _ 32 rfl w.heap.size 9 i0 (.string ByteArray.empty) 1 16 Try.underlying32 hi hz0 hz1 hz2 rfl (by decide) _ _ _ rfl (World.ownsRow.alloc hown2 _) ⟨w2.heap.size, 0, none⟩ 1 1 [Value.string t] rfl rfl ?c1 ?c2 ?c3 ?c4 ?c5 ?_)
      case c1 =>
        intro j u hj
        match j, hj with
        | 0, hj => simp at hj; subst hj; simp [Addr.add]
      case c2 => intro u hu; simp at hu; subst hu; rfl
      case c3 => unfold maxLen; omega
      case c4 => omega
      case c5 => simp; omega
      intro v' w3 hown3 hg3 _
      have hown4 : OwnS w.heap.size v' (acc ++ [t]) w3 := by unfold OwnS; rw [List.length_append, List.map_append]; exact hown3
      have hB3 : Below w.heap.size w w3 := (HB2.out.alloc (by omega) _).grown hg3 (by simp; omega) (fun j hj => (World.ownsRow.lt hown2 j hj).1)
      have H4 := Lib.hid hown4
      have HB3 := Lib.hid hB3
      clear hown3 hown2 hown4 hg3 hB3
      go_wp2_with fail
      go_roundw
      case rel =>
        obtain ⟨m, rfl⟩ : ∃ m', m = m' + 1 := ⟨m - 1, by omega⟩
        refine ⟨p + n, m, acc ++ [t], by go_num, by omega, by omega, by rw [List.length_append]; simp; omega, H4.out, HB3.out, ?_⟩
        rw [HQ.out, HF.out.2 m trivial, HE.out n]
        simp [Nat.add_assoc]
      case measure => simp [intOf]; omega
    · have hb : (er == 0) = false := by simp [he]
      have hz : fall m q = ([], 0) := HF.out.1 m he
      have hfin : fallS s = (acc, p) := by rw [HQ.out, hz]; simp
      have HFIN := Lib.hid hfin
      clear hfin hz
      go_wp2_with fail
      rw [Exit.noGoto_ret]
      go_ret2
      rw [HFIN.out]
      exact ⟨_, rfl, hown2, HB2.out⟩

set_option maxHeartbeats 2000000 in
set_option maxRecDepth 100000 in
theorem fallR (s : ByteArray) (w : World) (hs : s.size ≤ 1000000) :
    Calls Try.prog 11 #[.string s] w fun e w' => ∃ v, e = .returned (.tuple #[v, .int .i64 (fallS s).2]) ∧ OwnS w.heap.size v (fallS s).1 w' ∧ Below w.heap.size w w' := by
  obtain ⟨i0, hi, hz0, hz1, hz2⟩ := info_parts strInfo
  go_enter Try.func11, Try.ntmps11
  go_wp2_with fail
  go_loopw [4, 5] (fun v i wr => FRel w s v i wr) (fun _ i _ => s.size - (intOf i).toNat)
  case atStart => exact FRel.start w s
  case round =>
    obtain ⟨p, m, acc, rfl, hp, hm, hacc, hown, hb, heq⟩ := hrel
    have hes : (s.extract p s.size).size ≤ 1000000 := by rw [ext_size]; omega
    have hez := ext_size s p
    have hee := fun j => ext_ext s p j
    have hpI : (p : Int) ≤ (s.size : Int) := by omega
    have hpn : ((p : Int)).toNat = p := by omega
    obtain ⟨q, hq⟩ : ∃ q, s.extract p s.size = q := ⟨_, rfl⟩
    have hrd := fun W => freadR q W (by rw [← hq]; exact hes)
    rw [hq] at heq hez hee
    have hfs := @frd_small q
    have hfe := fun k => @fall_err k q
    have hfo := fun k => @fall_ok k q
    obtain ⟨t, n, er, hf⟩ : ∃ t, ∃ n : Nat, ∃ er : Int, frd q = (t, n, er) := ⟨_, _, _, rfl⟩
    rw [hf] at hrd hfs
    simp only [hf] at hfe hfo
    simp only at hrd hfs
    have HQ := Lib.hid heq
    have HE := Lib.hid hee
    have HB := Lib.hid hb
    have HF := Lib.hid (And.intro hfe hfo)
    have hbs := hb.size
    clear heq hee hb hes hf hfe hfo
    go_wp2_with fail
    refine (hrd _).mono ?_
    rintro e w2 ⟨rfl, hb2⟩
    have hbs2 := hb2.size
    have hown2 := hown.below hb2 (Nat.le_refl _)
    have hB2 := HB.out.trans (hb2.mono hbs)
    have HB2 := Lib.hid hB2
    clear hown hrd hb2 hB2
    by_cases he : er = 0
    · subst he
      obtain ⟨hn4, hns⟩ := hfs rfl
      clear hfs
      go_wp2_with (at_builtin; refine wpList_append_own _ rfl _ _ 32 rfl w.heap.size 9 i0 (.string ByteArray.empty) 1 16 Try.underlying32 hi hz0 hz1 hz2 rfl (by decide) _ _ _ rfl (World.ownsRow.alloc hown2 _) ⟨w2.heap.size, 0, none⟩ 1 1 [Value.string t] rfl rfl ?c1 ?c2 ?c3 ?c4 ?c5 ?_)
      case c1 =>
        intro j u hj
        match j, hj with
        | 0, hj => simp at hj; subst hj; simp [Addr.add]
      case c2 => intro u hu; simp at hu; subst hu; rfl
      case c3 => unfold maxLen; omega
      case c4 => omega
      case c5 => simp; omega
      intro v' w3 hown3 hg3 _
      have hown4 : OwnS w.heap.size v' (acc ++ [t]) w3 := by unfold OwnS; rw [List.length_append, List.map_append]; exact hown3
      have hB3 : Below w.heap.size w w3 := (HB2.out.alloc (by omega) _).grown hg3 (by simp; omega) (fun j hj => (World.ownsRow.lt hown2 j hj).1)
      have H4 := Lib.hid hown4
      have HB3 := Lib.hid hB3
      clear hown3 hown2 hown4 hg3 hB3
      go_wp2_with fail
      go_roundw
      case rel =>
        obtain ⟨m, rfl⟩ : ∃ m', m = m' + 1 := ⟨m - 1, by omega⟩
        refine ⟨p + n, m, acc ++ [t], by go_num, by omega, by omega, by rw [List.length_append]; simp; omega, H4.out, HB3.out, ?_⟩
        rw [HQ.out, HF.out.2 m trivial, HE.out n]
        simp [Nat.add_assoc]
      case measure => simp [intOf]; omega
    · have hb : (er != 0) = true := by simp [he]
      have hz : fall m q = ([], 0) := HF.out.1 m he
      have hfin : fallS s = (acc, p) := by rw [HQ.out, hz]; simp
      have HFIN := Lib.hid hfin
      clear hfin hz
      go_wp2_with fail
      go_ret2
      rw [HFIN.out]
      exact ⟨_, rfl, hown2, HB2.out⟩
end Go.Proofs.Ytmcabkoabecnnaa
