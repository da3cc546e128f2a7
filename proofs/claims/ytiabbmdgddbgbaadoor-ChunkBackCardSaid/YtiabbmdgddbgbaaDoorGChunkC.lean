/-
  Put: the program's and the document's.
  Read: the program's and the document's.
  Read, the document's.
  Same (of a manifest and itself), few.
  Plain: what is cut is joined as it was; what is put is read as it was; what is read is what would be put.
-/
import Derived.Test.YtiabbmdgddbgbaaDoorGChunkB
import Derived.Test.YtiabbmdgddbgbaaDoorGWireA
import Derived.Test.YtiabbmdgddbgbaaDoorChunkManR
import Derived.Test.YtiabbmdgddbgbaaDoorGWireC
import Derived.Test.YtiabbmdgddbgbaaDoorGWireB
namespace Go.Proofs.YtiabbmdgddbgbaaDoor
open Go.RowKit Go.Sort

/-- a manifest's bytes -/
def encL (m : Man) : List UInt8 := Lib.uvarint m.size.toNat ++ Lib.uvarint m.chunk.toNat ++ (Lib.uvarint m.ids.length ++ encTexts m.ids)
def putM (m : Man) : ByteArray × Int := if manE m = 0 then (⟨(encL m).toArray⟩, 0) else (⟨#[]⟩, manE m)

theorem ck_size {s : ByteArray} (h : ckE s = 0) : s.size = 64 := by
  unfold ckE at h
  split at h
  · assumption
  · cases h

theorem mk_app (a b : List UInt8) : (⟨a.toArray⟩ : ByteArray) ++ ⟨b.toArray⟩ = ⟨(a ++ b).toArray⟩ := by
  apply tl_inj
  simp [tl]

theorem encTexts_size {l : List ByteArray} (h : ∀ s ∈ l, s.size ≤ 5000) : (encTexts l).length ≤ l.length * 5010 := by
  induction l with
  | nil => simp [encTexts]
  | cons x r ih =>
    have h1 := h x (by simp)
    have h2 := ih (fun s hs => h s (by simp [hs]))
    have h3 := Lib.uvarint_length64 (x := x.size) (by omega)
    have e : x.data.toList.length = x.size := by simp
    simp only [encTexts, List.length_append, List.length_cons]
    omega

set_option maxHeartbeats 4000000 in
set_option maxRecDepth 100000 in
theorem putMC (m : Man) (a : Option Addr) (cap : Nat) (w : World) (h : MArg w m a) :
    Calls Tryd.prog 15 #[mv m (.slice a m.ids.length cap)] w fun e w' => e = .returned (.tuple #[.string (putM m).1, .int .i64 (putM m).2]) ∧ Below w.heap.size w w' := by
  obtain ⟨hbx, hbw⟩ := box_man w m (.slice a m.ids.length cap)
  have ha := h.below hbw
  have hmlen := h.len
  have h0 := hbx.c0
  have h1 := hbx.c1
  have h2 := hbx.c2
  have hk := hbx.lt
  have hck := fun W (hW : MArg W m a) => checkMC m a cap W hW
  have hsh := h.short
  have HA := Lib.hid ha
  have HB := Lib.hid hbw
  have HBX := Lib.hid hbx
  clear h ha hbw hbx
  by_cases he : manE m = 0
  case neg =>
    have hj : putM m = (⟨#[]⟩, manE m) := by unfold putM; rw [if_neg he]
    rw [hj]
    have hne : (manE m != 0) = true := by simp [he]
    generalize manE m = E at hck hne
    clear hj he HBX
    go_enter Tryd.func15, Tryd.ntmps15
    go_wp2_with fail
    refine (hck _ HA.out).mono ?_
    rintro e w1 ⟨rfl, hb1⟩
    have HB1 := Lib.hid (HB.out.trans (hb1.mono HB.out.size))
    clear hb1
    go_wp2_with fail
    go_ret2
    exact ⟨rfl, HB1.out⟩
  case pos =>
    obtain ⟨hz0, hz1, hil, hc0, hc1, hids, -⟩ := manE_ok he
    have hj : putM m = (⟨(encL m).toArray⟩, 0) := by unfold putM; rw [if_pos he]
    have HJ := Lib.hid hj
    rw [he] at hck
    have h64 : ∀ s ∈ m.ids, s.size ≤ 65536 := fun s hs => by have := ck_size (hids s hs); omega
    have hes := encTexts_size hsh
    obtain ⟨z, c, ids⟩ := m
    simp only at *
    obtain ⟨zn, rfl⟩ : ∃ n : Nat, z = n := ⟨z.toNat, by omega⟩
    obtain ⟨cn, rfl⟩ : ∃ n : Nat, c = n := ⟨c.toNat, by omega⟩
    have HH := Lib.hid h64
    have hu1 := Lib.uvarint_length64 (x := zn) (by omega)
    have hu2 := Lib.uvarint_length64 (x := cn) (by omega)
    have hu3 := Lib.uvarint_length64 (x := ids.length) (by omega)
    clear hj he hids hsh h64
    go_enter Tryd.func15, Tryd.ntmps15
    go_wp2_with fail
    refine (hck _ HA.out).mono ?_
    rintro e w1 ⟨rfl, hb1⟩
    have hbx1 := HBX.out.below hb1 hk
    have k0 := hbx1.c0
    have hk1 := hbx1.lt
    have HB1 := Lib.hid (HB.out.trans (hb1.mono HB.out.size))
    have HA1 := Lib.hid (HA.out.below hb1)
    have HBX1 := Lib.hid hbx1
    clear hb1 hbx1 HA HBX HB h0 h1 h2 hck
    go_wp2_with fail
    refine (num_ok zn (by omega) _).mono ?_
    rintro e w2 ⟨rfl, hb2⟩
    have hbx2 := HBX1.out.below hb2 hk1
    have k1 := hbx2.c1
    have hk2 := hbx2.lt
    have HB2 := Lib.hid (HB1.out.trans (hb2.mono HB1.out.size))
    have HA2 := Lib.hid (HA1.out.below hb2)
    have HBX2 := Lib.hid hbx2
    clear hb2 hbx2 HA1 HBX1 HB1 k0
    go_wp2_with fail
    refine (num_ok cn (by omega) _).mono ?_
    rintro e w3 ⟨rfl, hb3⟩
    have hbx3 := HBX2.out.below hb3 hk2
    have k2 := hbx3.c2
    have HB3 := Lib.hid (HB2.out.trans (hb3.mono HB2.out.size))
    have HA3 := Lib.hid (HA2.out.below hb3)
    clear hb3 hbx3 HA2 HBX2 HB2 k1
    go_wp2_with fail
    refine (list_any a cap ids hil _ HA3.out.row).mono ?_
    rintro e w4 ⟨hle, hb4⟩
    obtain rfl : e = .returned (.tuple #[.string ⟨(Lib.uvarint ids.length ++ encTexts ids).toArray⟩, .int .i64 0]) := by
      rcases hle with ⟨⟨s, hs, hh⟩, _⟩ | ⟨_, he⟩
      · have := HH.out s hs; omega
      · exact he
    have HB4 := Lib.hid (HB3.out.trans (hb4.mono HB3.out.size))
    clear hb4 hle
    have hle1 : (⟨(Lib.uvarint zn).toArray⟩ : ByteArray).size ≤ 10 := by simpa [ByteArray.size] using hu1
    have hle2 : (⟨(Lib.uvarint cn).toArray⟩ : ByteArray).size ≤ 10 := by simpa [ByteArray.size] using hu2
    have hle3 : (⟨(Lib.uvarint ids.length ++ encTexts ids).toArray⟩ : ByteArray).size ≤ 20530000 := by simp only [ByteArray.size, List.size_toArray, List.length_append]; omega
    have hle4 : ((⟨(Lib.uvarint zn).toArray⟩ : ByteArray) ++ ⟨(Lib.uvarint cn).toArray⟩).size ≤ 20 := by rw [ByteArray.size_append]; omega
    have hfin : (⟨(Lib.uvarint zn).toArray⟩ : ByteArray) ++ ⟨(Lib.uvarint cn).toArray⟩ ++ ⟨(Lib.uvarint ids.length ++ encTexts ids).toArray⟩ = (putM ⟨(zn : Int), (cn : Int), ids⟩).1 := by
      rw [HJ.out, mk_app, mk_app]; unfold encL; simp only [Int.toNat_natCast]
    have HF := Lib.hid hfin
    clear hfin
    generalize (⟨(Lib.uvarint zn).toArray⟩ : ByteArray) = x1 at *
    generalize (⟨(Lib.uvarint cn).toArray⟩ : ByteArray) = x2 at *
    generalize (⟨(Lib.uvarint ids.length ++ encTexts ids).toArray⟩ : ByteArray) = x3 at *
    go_wp2_with fail
    go_ret2
    exact ⟨by rw [HF.out, HJ.out]; rfl, HB4.out⟩
set_option maxHeartbeats 4000000 in
set_option maxRecDepth 100000 in
theorem putMR (m : Man) (a : Option Addr) (cap : Nat) (w : World) (h : MArg w m a) :
    Calls Tryd.prog 16 #[mv m (.slice a m.ids.length cap)] w fun e w' => e = .returned (.tuple #[.string (putM m).1, .int .i64 (putM m).2]) ∧ Below w.heap.size w w' := by
  obtain ⟨hbx, hbw⟩ := box_man w m (.slice a m.ids.length cap)
  have ha := h.below hbw
  have hmlen := h.len
  have h0 := hbx.c0
  have h1 := hbx.c1
  have h2 := hbx.c2
  have hk := hbx.lt
  have hck := fun W (hW : MArg W m a) => checkMR m a cap W hW
  have hsh := h.short
  have HA := Lib.hid ha
  have HB := Lib.hid hbw
  have HBX := Lib.hid hbx
  clear h ha hbw hbx
  by_cases he : manE m = 0
  case neg =>
    have hj : putM m = (⟨#[]⟩, manE m) := by unfold putM; rw [if_neg he]
    rw [hj]
    have hne : (manE m != 0) = true := by simp [he]
    generalize manE m = E at hck hne
    clear hj he HBX
    go_enter Tryd.func16, Tryd.ntmps16
    go_wp2_with fail
    refine (hck _ HA.out).mono ?_
    rintro e w1 ⟨rfl, hb1⟩
    have HB1 := Lib.hid (HB.out.trans (hb1.mono HB.out.size))
    clear hb1
    go_wp2_with fail
    go_ret2
    exact ⟨rfl, HB1.out⟩
  case pos =>
    obtain ⟨hz0, hz1, hil, hc0, hc1, hids, -⟩ := manE_ok he
    have hj : putM m = (⟨(encL m).toArray⟩, 0) := by unfold putM; rw [if_pos he]
    have HJ := Lib.hid hj
    rw [he] at hck
    have h64 : ∀ s ∈ m.ids, s.size ≤ 65536 := fun s hs => by have := ck_size (hids s hs); omega
    have hes := encTexts_size hsh
    obtain ⟨z, c, ids⟩ := m
    simp only at *
    obtain ⟨zn, rfl⟩ : ∃ n : Nat, z = n := ⟨z.toNat, by omega⟩
    obtain ⟨cn, rfl⟩ : ∃ n : Nat, c = n := ⟨c.toNat, by omega⟩
    have HH := Lib.hid h64
    have hu1 := Lib.uvarint_length64 (x := zn) (by omega)
    have hu2 := Lib.uvarint_length64 (x := cn) (by omega)
    have hu3 := Lib.uvarint_length64 (x := ids.length) (by omega)
    clear hj he hids hsh h64
    go_enter Tryd.func16, Tryd.ntmps16
    go_wp2_with fail
    refine (hck _ HA.out).mono ?_
    rintro e w1 ⟨rfl, hb1⟩
    have hbx1 := HBX.out.below hb1 hk
    have k0 := hbx1.c0
    have hk1 := hbx1.lt
    have HB1 := Lib.hid (HB.out.trans (hb1.mono HB.out.size))
    have HA1 := Lib.hid (HA.out.below hb1)
    have HBX1 := Lib.hid hbx1
    clear hb1 hbx1 HA HBX HB h0 h1 h2 hck
    go_wp2_with fail
    refine (refnum_ok zn (by omega) _).mono ?_
    rintro e w2 ⟨rfl, hb2⟩
    have hbx2 := HBX1.out.below hb2 hk1
    have k1 := hbx2.c1
    have hk2 := hbx2.lt
    have HB2 := Lib.hid (HB1.out.trans (hb2.mono HB1.out.size))
    have HA2 := Lib.hid (HA1.out.below hb2)
    have HBX2 := Lib.hid hbx2
    clear hb2 hbx2 HA1 HBX1 HB1 k0
    go_wp2_with fail
    refine (refnum_ok cn (by omega) _).mono ?_
    rintro e w3 ⟨rfl, hb3⟩
    have hbx3 := HBX2.out.below hb3 hk2
    have k2 := hbx3.c2
    have HB3 := Lib.hid (HB2.out.trans (hb3.mono HB2.out.size))
    have HA3 := Lib.hid (HA2.out.below hb3)
    clear hb3 hbx3 HA2 HBX2 HB2 k1
    go_wp2_with fail
    refine (reflist_any a cap ids hil _ HA3.out.row).mono ?_
    rintro e w4 ⟨hle, hb4⟩
    obtain rfl : e = .returned (.tuple #[.string ⟨(Lib.uvarint ids.length ++ encTexts ids).toArray⟩, .int .i64 0]) := by
      rcases hle with ⟨⟨s, hs, hh⟩, _⟩ | ⟨_, he⟩
      · have := HH.out s hs; omega
      · exact he
    have HB4 := Lib.hid (HB3.out.trans (hb4.mono HB3.out.size))
    clear hb4 hle
    have hle1 : (⟨(Lib.uvarint zn).toArray⟩ : ByteArray).size ≤ 10 := by simpa [ByteArray.size] using hu1
    have hle2 : (⟨(Lib.uvarint cn).toArray⟩ : ByteArray).size ≤ 10 := by simpa [ByteArray.size] using hu2
    have hle3 : (⟨(Lib.uvarint ids.length ++ encTexts ids).toArray⟩ : ByteArray).size ≤ 20530000 := by simp only [ByteArray.size, List.size_toArray, List.length_append]; omega
    have hle4 : ((⟨(Lib.uvarint zn).toArray⟩ : ByteArray) ++ ⟨(Lib.uvarint cn).toArray⟩).size ≤ 20 := by rw [ByteArray.size_append]; omega
    have hfin : (⟨(Lib.uvarint zn).toArray⟩ : ByteArray) ++ ⟨(Lib.uvarint cn).toArray⟩ ++ ⟨(Lib.uvarint ids.length ++ encTexts ids).toArray⟩ = (putM ⟨(zn : Int), (cn : Int), ids⟩).1 := by
      rw [HJ.out, mk_app, mk_app]; unfold encL; simp only [Int.toNat_natCast]
    have HF := Lib.hid hfin
    clear hfin
    generalize (⟨(Lib.uvarint zn).toArray⟩ : ByteArray) = x1 at *
    generalize (⟨(Lib.uvarint cn).toArray⟩ : ByteArray) = x2 at *
    generalize (⟨(Lib.uvarint ids.length ++ encTexts ids).toArray⟩ : ByteArray) = x3 at *
    go_wp2_with fail
    go_ret2
    exact ⟨by rw [HF.out, HJ.out]; rfl, HB4.out⟩
end Go.Proofs.YtiabbmdgddbgbaaDoor

namespace Go.Proofs.YtiabbmdgddbgbaaDoor
open Go.RowKit Go.Sort

/-- what Done answers -/
def doneS (st : ByteArray × Int) : Int := if st.2 ≠ 0 then st.2 else if 0 < st.1.size then 5 else 0

theorem empty_iff (s : ByteArray) : s.toList.isEmpty = decide (s.size = 0) := by
  rw [ByteArray.toList_eq]
  have : s.data.toList.length = s.size := by simp
  cases h : s.data.toList with
  | nil => rw [h] at this; simp at this; simp [← this]
  | cons a r =>
    rw [h, List.length_cons] at this
    rw [decide_eq_false (by omega)]
    rfl

set_option maxHeartbeats 1000000 in
set_option maxRecDepth 100000 in
theorem refR_done (s : ByteArray) (er : Int) (w : World) :
    Calls Tryd.prog 39 #[.agg #[.string s, .int .i64 er]] w fun e w' => e = .returned (.int .i64 (doneS (s, er))) ∧ w.alloc (.cells #[.string s, .int .i64 er] 68) = w' := by
  by_cases he : er = 0
  · subst he
    by_cases hz : s.size = 0
    · have hes : s.toList.isEmpty = true := by rw [empty_iff]; simp [hz]
      have hes2 : s.toList = [] := by simpa using hes
      go_enter Tryd.func39, Tryd.ntmps39
      go_wp2
      go_ret
      exact ⟨by simp [doneS, hz], rfl⟩
    · have hes : s.toList.isEmpty = false := by rw [empty_iff]; simp [hz]
      go_enter Tryd.func39, Tryd.ntmps39
      go_wp2
      go_ret
      have hd : doneS (s, 0) = 5 := by
        unfold doneS
        simp only
        rw [if_neg (by simp), if_pos (by omega)]
      exact ⟨by rw [hd]; rfl, rfl⟩
  · have hb : (er == 0) = false := by simp [he]
    go_enter Tryd.func39, Tryd.ntmps39
    go_wp2
    go_ret
    exact ⟨by simp [doneS, he], rfl⟩

theorem sNum_bad {st : ByteArray × Int} (h : st.2 ≠ 0) : sNum st = (0, st) := by simp [sNum, h]

/-- what is read: the two numbers, the IDs, the reader's state behind them -/
def rSt (s : ByteArray) : ByteArray × Int := (sList (sNum (sNum (s, 0)).2).2).2
def rMan (s : ByteArray) : Man := ⟨(sNum (s, 0)).1, (sNum (sNum (s, 0)).2).1, (sList (sNum (sNum (s, 0)).2).2).1⟩
def readM (s : ByteArray) : Man × Int :=
  if doneS (rSt s) ≠ 0 then (⟨0, 0, []⟩, doneS (rSt s)) else if manE (rMan s) ≠ 0 then (⟨0, 0, []⟩, manE (rMan s)) else (rMan s, 0)

theorem sTexts_mem : ∀ (n : Nat) (st : ByteArray × Int) (acc : List ByteArray), ∀ x ∈ (sTexts n st acc).1, x ∈ acc ∨ x.size ≤ st.1.size := by
  intro n
  induction n with
  | zero => intro st acc x hx; exact .inl (by simpa [sTexts] using hx)
  | succ n ih =>
    intro st acc x hx
    have hz := sText_size st
    simp only [sTexts] at hx
    split at hx
    · simp at hx
    · rcases ih _ _ x hx with h | h
      · rcases List.mem_append.1 h with h | h
        · exact .inl h
        · right
          simp at h
          subst h
          unfold sText
          split
          · simp
          · split
            · simp
            · have h1 := sCount_size 65536 st
              have h2 := extract_size_le (sCount 65536 st).2.2.1 0 (sCount 65536 st).1
              simp only
              omega
      · exact .inr (by omega)

theorem sList_mem (st : ByteArray × Int) : ∀ x ∈ (sList st).1, x.size ≤ st.1.size := fun x hx => by
  have h := sCount_size 4096 st
  unfold sList at hx
  split at hx
  · simp at hx
  · rcases sTexts_mem _ _ _ x hx with h' | h'
    · simp at h'
    · omega

theorem rMan_short {s : ByteArray} (hs : s.size ≤ 5000) : ∀ x ∈ (rMan s).ids, x.size ≤ 5000 := fun x hx => by
  have h1 := sNum_size (s, 0)
  have h2 := sNum_size (sNum (s, 0)).2
  have h3 := sList_mem (sNum (sNum (s, 0)).2).2 x hx
  simp only at h1
  omega

set_option maxHeartbeats 4000000 in
set_option maxRecDepth 100000 in
theorem readMC (s : ByteArray) (hs : s.size ≤ 9223372036854775807) (hsh : ∀ x ∈ (rMan s).ids, x.size ≤ 5000) (w : World) :
    Calls Tryd.prog 17 #[.string s] w fun e w' => ∃ v, e = .returned (.tuple #[mv (readM s).1 v, .int .i64 (readM s).2]) ∧ OwnS w.heap.size v (readM s).1.ids w' ∧ Below w.heap.size w w' := by
  have r0 := MBox.new w ⟨0, 0, []⟩ (.slice none 0 0)
  have hb0 : Below w.heap.size w (w.alloc (.cells #[.int .i64 0, .int .i64 0, .slice none 0 0] 31)) := (Below.refl _ w).alloc (Nat.le_refl _) _
  have R0 := Lib.hid r0
  have HB0 := Lib.hid hb0
  have hlt0 := r0.lt
  clear r0 hb0
  go_enter Tryd.func17, Tryd.ntmps17
  go_wp2_with fail
  refine (new_any s _).mono ?_
  rintro e w1 ⟨rfl, hw1⟩
  have hrd : Rd (w.heap.size + 1) (s, 0) w1 := by
    rw [← hw1]
    have h := World.alloc_heap_new (w.alloc (.cells #[.int .i64 0, .int .i64 0, .slice none 0 0] 31)) (.cells #[.string s, .int .i64 0] 83)
    rw [World.size_alloc] at h
    exact h
  have r1 : MBox w1 w.heap.size ⟨0, 0, []⟩ (.slice none 0 0) := by rw [← hw1]; exact R0.out.alloc _
  have hB1 : Below w.heap.size w w1 := by rw [← hw1]; exact HB0.out.alloc HB0.out.size _
  have H1 := Lib.hid (And.intro r1 hB1)
  have HR1 := Lib.hid hrd
  clear hrd r1 hB1 R0 HB0 hw1
  simp only [World.size_alloc]
  go_wp2_with fail
  refine (rnum_any (w.heap.size + 1) (s, 0) w1 HR1.out hs).mono ?_
  rintro e w2 ⟨rfl, hrd2, hg2⟩
  have z1 : (sNum (s, 0)).2.1.size ≤ s.size := sNum_size (s, 0)
  have hsz1 := H1.out.2.size
  have H2 := Lib.hid (And.intro (H1.out.1.kept hg2 (fun e => by have : w.heap.size = w.heap.size + 1 := Option.some.inj e; omega)) (H1.out.2.grown hg2 hsz1 (fun k e => by have : w.heap.size + 1 = k := Option.some.inj e; omega)))
  have HR2 := Lib.hid hrd2
  clear hrd2 hg2 H1 HR1
  go_wp2_with fail
  refine (rnum_any (w.heap.size + 1) _ w2 HR2.out (by omega)).mono ?_
  rintro e w3 ⟨rfl, hrd3, hg3⟩
  have z2 := sNum_size (sNum (s, 0)).2
  have hsz2 := H2.out.2.size
  have H3 := Lib.hid (And.intro (H2.out.1.kept hg3 (fun e => by have : w.heap.size = w.heap.size + 1 := Option.some.inj e; omega)) (H2.out.2.grown hg3 hsz2 (fun k e => by have : w.heap.size + 1 = k := Option.some.inj e; omega)))
  have HR3 := Lib.hid hrd3
  clear hrd3 hg3 H2 HR2
  go_wp2_with fail
  refine (rlist_any (w.heap.size + 1) _ w3 HR3.out (by omega)).mono ?_
  rintro e w4 ⟨v, rfl, hown, hrd4, hg4⟩
  have hsz3 := H3.out.2.size
  have hlt3 := H3.out.1.lt
  have H4 := Lib.hid (And.intro (H3.out.1.kept hg4 (fun e => by have : w.heap.size = w.heap.size + 1 := Option.some.inj e; omega)) (H3.out.2.grown hg4 hsz3 (fun k e => by have : w.heap.size + 1 = k := Option.some.inj e; omega)))
  have HR4 := Lib.hid (show Rd (w.heap.size + 1) (rSt s) w4 from hrd4)
  have HO4 := Lib.hid (show OwnS w3.heap.size v (rMan s).ids w4 from hown)
  have hm0 : (((sNum (s, 0)).1 : Nat) : Int) = (rMan s).size := rfl
  have hm1 : (((sNum (sNum (s, 0)).2).1 : Nat) : Int) = (rMan s).chunk := rfl
  rw [hm0, hm1]
  have zR : (rSt s).1.size ≤ s.size := by
    have z3 := sList_size (sNum (sNum (s, 0)).2).2
    unfold rSt
    omega
  clear hrd4 hg4 H3 HR3 hown hm0 hm1
  have hRM : readM s = if doneS (rSt s) ≠ 0 then (⟨0, 0, []⟩, doneS (rSt s)) else if manE (rMan s) ≠ 0 then (⟨0, 0, []⟩, manE (rMan s)) else (rMan s, 0) := rfl
  have HRM := Lib.hid hRM
  clear hRM z1 z2
  generalize rMan s = M at *
  generalize rSt s = st at *
  obtain ⟨la, lc, rfl, hrow, hlm⟩ := ownS_row HO4.out
  have hdn := fun W (h : Rd (w.heap.size + 1) st W) => done_any (w.heap.size + 1) st W h (by omega)
  have hd2 : (if st.2 ≠ 0 then st.2 else if 0 < st.1.size then (5 : Int) else 0) = doneS st := rfl
  rw [hd2] at hdn
  generalize doneS st = D at *
  have hg := MBox.new w4 M (.slice la M.ids.length lc)
  have hg0 := hg.c0
  have hg1 := hg.c1
  have hg2 := hg.c2
  have hgl := hg.lt
  have hb5 : Below w4.heap.size w4 (w4.alloc (.cells #[.int .i64 M.size, .int .i64 M.chunk, .slice la M.ids.length lc] 31)) := (Below.refl _ w4).alloc (Nat.le_refl _) _
  have HR5 := Lib.hid (HR4.out.below hb5 HR4.out.lt)
  have hs4 := H4.out.2.size
  have r5 := H4.out.1.below hb5 H4.out.1.lt
  have hr5l := r5.lt
  have H5 := Lib.hid (And.intro r5 (H4.out.2.trans (hb5.mono hs4)))
  have HA5 := Lib.hid (show MArg _ M la from ⟨hrow.below hb5, by unfold maxLen at hlm; omega, hsh⟩)
  have HG5 := Lib.hid hg
  have HO5 := Lib.hid (row_below HO4.out hb5)
  clear hb5 hg r5 hrow HR4 HO4 H4 hd2
  go_wp2_with fail
  generalize w4.alloc (.cells #[.int .i64 M.size, .int .i64 M.chunk, .slice la M.ids.length lc] 31) = w5 at *
  refine (hdn w5 HR5.out).mono ?_
  rintro e w6 ⟨rfl, rfl⟩
  have f0 := H5.out.1.free 0
  have f1 := H5.out.1.free 1
  have f2 := H5.out.1.free 2
  have k0 := H5.out.1.c0
  have k1 := H5.out.1.c1
  have k2 := H5.out.1.c2
  by_cases hD : D = 0
  case neg =>
    have hj := HRM.out
    rw [if_pos hD] at hj
    have hne : (D != 0) = true := by simp [hD]
    have HJ := Lib.hid hj
    have hput := Lib.hid (H5.out.1.put ⟨0, 0, []⟩ (.slice none 0 0))
    clear hj hD
    go_wp2_with fail
    refine bodyPost_ret (results_man rfl _ _ w.heap.size 31 _ _ _ (0, 0) _ rfl hput.out Tryd.underlying31 rfl manInfo) rfl ?_
    rw [HJ.out]
    exact ⟨_, rfl, ownS_nil _ _, below_put3 H5.out.2 (Nat.le_refl _) _ _ _⟩
  case pos =>
    have hj := HRM.out
    rw [if_neg (fun hh => hh hD)] at hj
    have HJ := Lib.hid hj
    subst hD
    clear hj HRM
    have hck := fun W (hW : MArg W M la) => checkMC M la lc W hW
    go_wp2_with fail
    refine (hck _ HA5.out).mono ?_
    rintro e w6 ⟨rfl, hb6⟩
    have hs5 := H5.out.2.size
    have r6 := H5.out.1.below hb6 hr5l
    have g6 := HG5.out.below hb6 hgl
    have l0 := r6.c0
    have l1 := r6.c1
    have l2 := r6.c2
    have u0 := r6.free 0
    have u1 := r6.free 1
    have u2 := r6.free 2
    have n0 := g6.c0
    have n1 := g6.c1
    have n2 := g6.c2
    have HB6 := Lib.hid (H5.out.2.trans (hb6.mono hs5))
    by_cases hE : manE M = 0
    · have hj := HJ.out
      rw [if_neg (fun hh => hh hE)] at hj
      have HJ2 := Lib.hid hj
      have hput := Lib.hid (r6.put M (.slice la M.ids.length lc))
      have hO := Lib.hid (row_put3 (row_below HO5.out hb6) (G := w.heap.size) (by omega) (.int .i64 M.size) (.int .i64 M.chunk) (.slice la M.ids.length lc))
      clear hj HJ hb6 r6 g6 k0 k1 k2 f0 f1 f2 hg0 hg1 hg2
      go_wp2_with fail
      refine bodyPost_ret (results_man rfl _ _ w.heap.size 31 _ _ _ (0, 0) _ rfl hput.out Tryd.underlying31 rfl manInfo) rfl ?_
      rw [HJ2.out]
      exact ⟨_, rfl, row_mono hO.out (by omega), below_put3 HB6.out (Nat.le_refl _) _ _ _⟩
    · have hj := HJ.out
      rw [if_pos hE] at hj
      have hne : (manE M != 0) = true := by simp [hE]
      have HJ2 := Lib.hid hj
      have hput := Lib.hid (r6.put ⟨0, 0, []⟩ (.slice none 0 0))
      clear hj hE HJ hb6 r6 g6 k0 k1 k2 f0 f1 f2 hg0 hg1 hg2
      generalize manE M = E at *
      go_wp2_with fail
      refine bodyPost_ret (results_man rfl _ _ w.heap.size 31 _ _ _ (0, 0) _ rfl hput.out Tryd.underlying31 rfl manInfo) rfl ?_
      rw [HJ2.out]
      exact ⟨_, rfl, ownS_nil _ _, below_put3 HB6.out (Nat.le_refl _) _ _ _⟩
end Go.Proofs.YtiabbmdgddbgbaaDoor

namespace Go.Proofs.YtiabbmdgddbgbaaDoor
open Go.RowKit Go.Sort

theorem done_q (st : ByteArray × Int) : doneS (qListSt st) = doneS (sList st).2 := by
  unfold qListSt qSt doneS
  by_cases h : (sList st).2.2 = 0
  · rw [if_pos h]
  · rw [if_neg h]; simp only; rw [if_pos h, if_pos h]

set_option maxHeartbeats 4000000 in
set_option maxRecDepth 100000 in
theorem readMR (s : ByteArray) (hs : s.size ≤ 9223372036854775807) (hsh : ∀ x ∈ (rMan s).ids, x.size ≤ 5000) (w : World) :
    Calls Tryd.prog 18 #[.string s] w fun e w' => ∃ v, e = .returned (.tuple #[mv (readM s).1 v, .int .i64 (readM s).2]) ∧ OwnS w.heap.size v (readM s).1.ids w' ∧ Below w.heap.size w w' := by
  have r0 := MBox.new w ⟨0, 0, []⟩ (.slice none 0 0)
  have hb0 : Below w.heap.size w (w.alloc (.cells #[.int .i64 0, .int .i64 0, .slice none 0 0] 31)) := (Below.refl _ w).alloc (Nat.le_refl _) _
  have R0 := Lib.hid r0
  have HB0 := Lib.hid hb0
  have hlt0 := r0.lt
  clear r0 hb0
  go_enter Tryd.func18, Tryd.ntmps18
  go_wp2_with fail
  refine (refR_num s 0 hs _).mono ?_
  rintro e w1 ⟨rfl, hb1⟩
  have r1 := R0.out.below hb1 hlt0
  have hl1 := r1.lt
  have z1 : (sNum (s, 0)).2.1.size ≤ s.size := sNum_size (s, 0)
  have H1 := Lib.hid (And.intro r1 (HB0.out.trans (hb1.mono HB0.out.size)))
  clear r1 hb1 R0 HB0
  have hR : (rMan s).size = ((sNum (s, 0)).1 : Nat) ∧ (rMan s).chunk = ((sNum (sNum (s, 0)).2).1 : Nat) ∧ (rMan s).ids = (sList (sNum (sNum (s, 0)).2).2).1 ∧ doneS (rSt s) = doneS (qListSt (sNum (sNum (s, 0)).2).2) := ⟨rfl, rfl, rfl, (done_q _).symm⟩
  have HRM := Lib.hid (show readM s = if doneS (rSt s) ≠ 0 then (⟨0, 0, []⟩, doneS (rSt s)) else if manE (rMan s) ≠ 0 then (⟨0, 0, []⟩, manE (rMan s)) else (rMan s, 0) from rfl)
  generalize rMan s = M at *
  generalize doneS (rSt s) = D at *
  generalize hp1 : sNum (s, 0) = p1 at *
  obtain ⟨n1, s1, e1⟩ := p1
  clear hp1
  simp only at z1 hR ⊢
  have z2 : (sNum (s1, e1)).2.1.size ≤ s1.size := sNum_size (s1, e1)
  have hq1 := Qd.made (s1, e1) w1
  have hrA := H1.out.1.alloc (.cells #[.string s1, .int .i64 e1] 68)
  have hs1 := H1.out.2.size
  have hbA := H1.out.2.alloc hs1 (.cells #[.string s1, .int .i64 e1] 68)
  have HQ1 := Lib.hid hq1
  have HA1 := Lib.hid (And.intro hrA hbA)
  have hql1 := hq1.lt
  have hra1 := hrA.lt
  clear hq1 hrA hbA H1
  go_wp2_with fail
  generalize w1.alloc (.cells #[.string s1, .int .i64 e1] 68) = wa at *
  refine (refR_num s1 e1 (by omega) _).mono ?_
  rintro e w2 ⟨rfl, hb2⟩
  generalize hp2 : sNum (s1, e1) = p2 at *
  obtain ⟨n2, s2, e2⟩ := p2
  clear hp2
  simp only at z2 hR ⊢
  have hq2 := HQ1.out.below hb2 hql1
  have hr2 := HA1.out.1.below hb2 hra1
  have hsa := HA1.out.2.size
  have hb2' := HA1.out.2.trans (hb2.mono hsa)
  have c20 := hq2.left
  have c21 := hq2.err
  have f20 := hq2.free 0
  have f21 := hq2.free 1
  have hq3 := hq2.set s2 e2
  have hbS := (hb2'.setCell (p := ⟨w1.heap.size, 0, none⟩) hs1 (.string s2)).setCell (p := ⟨w1.heap.size, 1, none⟩) hs1 (.int .i64 e2)
  have hrS := (hr2.kept (grownBy_setCell w2 w1.heap.size 0 (.string s2)) (fun e => by have := Option.some.inj e; omega)).kept (grownBy_setCell _ w1.heap.size 1 (.int .i64 e2)) (fun e => by have := Option.some.inj e; omega)
  have HS := Lib.hid (And.intro hrS hbS)
  have HQ3 := Lib.hid hq3
  have c30 := hq3.left
  have c31 := hq3.err
  have hql3 := hq3.lt
  have hrl3 := hrS.lt
  clear hb2 hb2' hq2 hr2 hrS hbS hq3 HQ1 HA1
  simp only at c20 c21 c30 c31
  go_wp2_with fail
  generalize (w2.setCell ⟨w1.heap.size, 0, none⟩ (.string s2)).setCell ⟨w1.heap.size, 1, none⟩ (.int .i64 e2) = wb at *
  refine (refR_list s2 e2 (by omega) _).mono ?_
  rintro e w3 ⟨v, rfl, hown, hb3⟩
  generalize hp3 : (sList (s2, e2)).1 = l3 at *
  generalize hp4 : qListSt (s2, e2) = p4 at *
  obtain ⟨s3, e3⟩ := p4
  clear hp3 hp4
  simp only at hR ⊢
  have hq3 := HQ3.out.below hb3 hql3
  have hr3 := HS.out.1.below hb3 hrl3
  have hsb := HS.out.2.size
  have hb3' := HS.out.2.trans (hb3.mono hsb)
  have d20 := hq3.left
  have d21 := hq3.err
  have g20 := hq3.free 0
  have g21 := hq3.free 1
  have hq4 := hq3.set s3 e3
  have hbT := (hb3'.setCell (p := ⟨w1.heap.size, 0, none⟩) hs1 (.string s3)).setCell (p := ⟨w1.heap.size, 1, none⟩) hs1 (.int .i64 e3)
  have hrT := (hr3.kept (grownBy_setCell w3 w1.heap.size 0 (.string s3)) (fun e => by have := Option.some.inj e; omega)).kept (grownBy_setCell _ w1.heap.size 1 (.int .i64 e3)) (fun e => by have := Option.some.inj e; omega)
  have ho : some w1.heap.size ≠ v.ownBlock := fun e => by have := (World.ownsRow.lt hown _ e.symm).1; omega
  have hoT := (World.ownsRow.kept hown (grownBy_setCell w3 w1.heap.size 0 (.string s3)) (.inr ho.symm)).kept (grownBy_setCell _ w1.heap.size 1 (.int .i64 e3)) (.inr ho.symm)
  obtain ⟨hR1, hR2, hR3, hR4⟩ := hR
  obtain rfl : M = ⟨(n1 : Int), (n2 : Int), l3⟩ := by cases M; simp only at hR1 hR2 hR3; rw [hR1, hR2, hR3]
  obtain ⟨la, lc, rfl, hrow, hlm⟩ := ownS_row (show OwnS wb.heap.size v l3 _ from hoT)
  simp only at hsh
  have hg := MBox.new ((w3.setCell ⟨w1.heap.size, 0, none⟩ (.string s3)).setCell ⟨w1.heap.size, 1, none⟩ (.int .i64 e3)) ⟨(n1 : Int), (n2 : Int), l3⟩ (.slice la l3.length lc)
  have hbG := (Below.refl _ ((w3.setCell ⟨w1.heap.size, 0, none⟩ (.string s3)).setCell ⟨w1.heap.size, 1, none⟩ (.int .i64 e3))).alloc (Nat.le_refl _) (.cells #[.int .i64 (n1 : Int), .int .i64 (n2 : Int), .slice la l3.length lc] 31)
  have hq5 := hq4.alloc (.cells #[.int .i64 (n1 : Int), .int .i64 (n2 : Int), .slice la l3.length lc] 31)
  have c40 := hq5.left
  have c41 := hq5.err
  have hgl := hg.lt
  have hsT := hbT.size
  have r5 := hrT.below hbG hrT.lt
  have hrl5 := r5.lt
  have HG := Lib.hid hg
  have H5 := Lib.hid (And.intro r5 (hbT.trans (hbG.mono hsT)))
  have HA5 := Lib.hid (show MArg _ ⟨(n1 : Int), (n2 : Int), l3⟩ la from ⟨hrow.below hbG, by unfold maxLen at hlm; exact hlm, hsh⟩)
  have HO5 := Lib.hid (row_below hoT hbG)
  have hwb : w.heap.size < wb.heap.size := hrl3
  clear hb3 hb3' hq3 hr3 hrT hbT hq4 hq5 hg hbG r5 HQ3 HS hoT hrow hown ho c30 c31 c20 c21 f20 f21 hR1 hR2 hR3
  simp only at d20 d21 c40 c41
  have hdn := fun W => refR_done s3 e3 W
  rw [← hR4] at hdn
  clear hR4
  simp only [World.size_setCell] at c40 c41 hgl
  go_wp2_with fail
  have hgs : ((w3.setCell ⟨w1.heap.size, 0, none⟩ (.string s3)).setCell ⟨w1.heap.size, 1, none⟩ (.int .i64 e3)).heap.size = w3.heap.size := by simp
  rw [hgs] at HG
  clear hgs
  generalize ((w3.setCell ⟨w1.heap.size, 0, none⟩ (.string s3)).setCell ⟨w1.heap.size, 1, none⟩ (.int .i64 e3)).alloc (.cells #[.int .i64 (n1 : Int), .int .i64 (n2 : Int), .slice la l3.length lc] 31) = w5 at *
  refine (hdn w5).mono ?_
  rintro e w6 ⟨rfl, hw6⟩
  have hb6 : Below w5.heap.size w5 w6 := by rw [← hw6]; exact (Below.refl _ _).alloc (Nat.le_refl _) _
  have hs5 := H5.out.2.size
  have r6 := H5.out.1.below hb6 hrl5
  have g6 := HG.out.below hb6 HG.out.lt
  have HB6 := Lib.hid (H5.out.2.trans (hb6.mono hs5))
  have HA6 := Lib.hid (HA5.out.below hb6)
  have HO6 := Lib.hid (row_below HO5.out hb6)
  have l0 := r6.c0
  have l1 := r6.c1
  have l2 := r6.c2
  have u0 := r6.free 0
  have u1 := r6.free 1
  have u2 := r6.free 2
  have n0 := g6.c0
  have n1' := g6.c1
  have n2' := g6.c2
  have hrl6 := r6.lt
  have hgl6 := g6.lt
  have R6 := Lib.hid r6
  have G6 := Lib.hid g6
  clear hb6 hw6 HA5 HO5 H5 HG r6 g6 hdn
  by_cases hD : D = 0
  case neg =>
    have hj := HRM.out
    rw [if_pos hD] at hj
    have hne : (D == 0) = false := by simp [hD]
    have hne2 : (D != 0) = true := by simp [hD]
    have HJ := Lib.hid hj
    have hput := Lib.hid (R6.out.put ⟨0, 0, []⟩ (.slice none 0 0))
    clear hj hD
    go_wp2_with fail
    refine bodyPost_ret (results_man rfl _ _ w.heap.size 31 _ _ _ (0, 0) _ rfl hput.out Tryd.underlying31 rfl manInfo) rfl ?_
    rw [HJ.out]
    exact ⟨_, rfl, ownS_nil _ _, below_put3 HB6.out (Nat.le_refl _) _ _ _⟩
  case pos =>
    have hj := HRM.out
    rw [if_neg (fun hh => hh hD)] at hj
    have HJ := Lib.hid hj
    subst hD
    clear hj HRM
    have hck := fun W (hW : MArg W ⟨(n1 : Int), (n2 : Int), l3⟩ la) => checkMR ⟨(n1 : Int), (n2 : Int), l3⟩ la lc W hW
    go_wp2_with fail
    refine (hck _ HA6.out).mono ?_
    rintro e w7 ⟨rfl, hb7⟩
    have hs6 := HB6.out.size
    have r7 := R6.out.below hb7 hrl6
    have g7 := G6.out.below hb7 hgl6
    have m0 := r7.c0
    have m1 := r7.c1
    have m2 := r7.c2
    have v0 := r7.free 0
    have v1 := r7.free 1
    have v2 := r7.free 2
    have q0 := g7.c0
    have q1 := g7.c1
    have q2 := g7.c2
    have HB7 := Lib.hid (HB6.out.trans (hb7.mono hs6))
    by_cases hE : manE ⟨(n1 : Int), (n2 : Int), l3⟩ = 0
    · have hj := HJ.out
      rw [if_neg (fun hh => hh hE)] at hj
      have HJ2 := Lib.hid hj
      have hput := Lib.hid (r7.put ⟨(n1 : Int), (n2 : Int), l3⟩ (.slice la l3.length lc))
      have hO := Lib.hid (row_put3 (row_below HO6.out hb7) (G := w.heap.size) (by omega) (.int .i64 (n1 : Int)) (.int .i64 (n2 : Int)) (.slice la l3.length lc))
      clear hj HJ hb7 r7 g7 l0 l1 l2 u0 u1 u2 n0 n1' n2'
      go_wp2_with fail
      refine bodyPost_ret (results_man rfl _ _ w.heap.size 31 _ _ _ (0, 0) _ rfl hput.out Tryd.underlying31 rfl manInfo) rfl ?_
      rw [HJ2.out]
      exact ⟨_, rfl, row_mono hO.out (by omega), below_put3 HB7.out (Nat.le_refl _) _ _ _⟩
    · have hj := HJ.out
      rw [if_pos hE] at hj
      have hne : (manE ⟨(n1 : Int), (n2 : Int), l3⟩ != 0) = true := by simp [hE]
      have HJ2 := Lib.hid hj
      have hput := Lib.hid (r7.put ⟨0, 0, []⟩ (.slice none 0 0))
      clear hj hE HJ hb7 r7 g7 l0 l1 l2 u0 u1 u2 n0 n1' n2'
      generalize manE ⟨(n1 : Int), (n2 : Int), l3⟩ = E at *
      go_wp2_with fail
      refine bodyPost_ret (results_man rfl _ _ w.heap.size 31 _ _ _ (0, 0) _ rfl hput.out Tryd.underlying31 rfl manInfo) rfl ?_
      rw [HJ2.out]
      exact ⟨_, rfl, ownS_nil _ _, below_put3 HB7.out (Nat.le_refl _) _ _ _⟩
end Go.Proofs.YtiabbmdgddbgbaaDoor

namespace Go.Proofs.YtiabbmdgddbgbaaDoor
open Go.RowKit Go.Sort

set_option maxHeartbeats 2000000 in
set_option maxRecDepth 100000 in
theorem sameR (m : Man) (a b : Option Addr) (ca cb : Nat) (w : World) (ha : StrRow w a m.ids) (hb : StrRow w b m.ids) (hl : m.ids.length ≤ maxLen) :
    Calls Tryd.prog 13 #[mv m (.slice a m.ids.length ca), mv m (.slice b m.ids.length cb)] w fun e w' => e = .returned (.bool true) ∧ Below w.heap.size w w' := by
  obtain ⟨hx1, hw1⟩ := box_man w m (.slice a m.ids.length ca)
  obtain ⟨hx2, hw2⟩ := box_man (w.alloc (.cells #[.int .i64 m.size, .int .i64 m.chunk, .slice a m.ids.length ca] 31)) m (.slice b m.ids.length cb)
  rw [World.size_alloc] at hx2 hw2
  have hx3 := hx1.below hw2 (by simp)
  have a0 := hx3.c0
  have a1 := hx3.c1
  have a2 := hx3.c2
  have b0 := hx2.c0
  have b1 := hx2.c1
  have b2 := hx2.c2
  have hww := hw1.trans (hw2.mono (by simp))
  have HW := Lib.hid hww
  have cT := fun n => texts_same a b ca cb m.ids _ ((ha.below hww).below (belowN (Below.refl _ _) n)) ((hb.below hww).below (belowN (Below.refl _ _) n)) hl
  clear hx1 hx2 hx3 hw1 hw2 hww ha hb
  go_enter Tryd.func13, Tryd.ntmps13
  go_wp2_with fail
  refine (cT 0).mono ?_
  rintro e w1 ⟨rfl, n, rfl⟩
  have HB := Lib.hid (belowN HW.out n)
  go_wp2_with fail
  go_ret
  exact ⟨rfl, HB.out⟩

/-- is a manifest not too great? -/
def fewM (m : Man) : Prop := m.ids.length ≤ 40 ∧ ∀ s ∈ m.ids, s.size ≤ 100
instance (m : Man) : Decidable (fewM m) := by unfold fewM; exact inferInstance

set_option maxHeartbeats 2000000 in
set_option maxRecDepth 100000 in
theorem fewC (m : Man) (a : Option Addr) (cap : Nat) (w : World) (ha : StrRow w a m.ids) (hl : m.ids.length ≤ maxLen) :
    Calls Tryd.prog 14 #[mv m (.slice a m.ids.length cap)] w fun e w' => e = .returned (.bool (decide (fewM m))) ∧ Below w.heap.size w w' := by
  unfold maxLen at hl
  obtain ⟨hx, hw⟩ := box_man w m (.slice a m.ids.length cap)
  have a2 := hx.c2
  have hr := ha.below hw
  have HW := Lib.hid hw
  clear hx hw ha
  by_cases h40 : 40 < m.ids.length
  · have hd : decide ((40 : Int) < (m.ids.length : Int)) = true := by simp; omega
    have hf : decide (fewM m) = false := decide_eq_false (fun h => by have := h.1; omega)
    rw [hf]
    clear h40 hf
    go_enter Tryd.func14, Tryd.ntmps14
    go_wp2_with fail
    go_ret
    exact ⟨rfl, HW.out⟩
  · have hd : decide ((40 : Int) < (m.ids.length : Int)) = false := by simp; omega
    have HR := Lib.hid hr
    clear hr
    go_enter Tryd.func14, Tryd.ntmps14
    go_wp2_with fail
    go_loopw [3] (fun i wr => ∃ k : Nat, i = .int .i64 k ∧ k ≤ m.ids.length ∧ (∀ j, j < k → (m.ids.getD j ByteArray.empty).size ≤ 100) ∧ w.alloc (.cells #[.int .i64 m.size, .int .i64 m.chunk, .slice a m.ids.length cap] 31) = wr) (fun i _ => m.ids.length - (intOf i).toNat)
    case atStart => exact ⟨0, rfl, Nat.zero_le _, fun j hj => absurd hj (by omega), rfl⟩
    case round =>
      obtain ⟨k, rfl, hk, hz, rfl⟩ := hrel
      by_cases hlt : k < m.ids.length
      · obtain ⟨b, off, rfl, hbl, hcc⟩ := str_at HR.out hlt
        have hmem := getD_mem hlt
        have HZ := Lib.hid hz
        clear hz
        generalize hsk : m.ids.getD k ByteArray.empty = s at hcc hmem
        by_cases hs : 100 < s.size
        · have hd2 : decide ((100 : Int) < (s.size : Int)) = true := by simp; omega
          have hf : decide (fewM m) = false := decide_eq_false (fun h => by have := h.2 s hmem; omega)
          clear hs
          go_wp2_with fail
          go_ret
          rw [hf]; exact ⟨rfl, HW.out⟩
        · have hd2 : decide ((100 : Int) < (s.size : Int)) = false := by simp; omega
          go_wp2_with fail
          go_roundw
          case rel =>
            refine ⟨k + 1, by go_num, by omega, fun j hj => ?_, trivial⟩
            by_cases hjk : j < k
            · exact HZ.out j hjk
            · obtain rfl : j = k := by omega
              rw [hsk]; omega
          case measure => simp [intOf]; omega
      · obtain rfl : k = m.ids.length := by omega
        have hf : decide (fewM m) = true := decide_eq_true ⟨by omega, fun s hs' => by
          obtain ⟨j, hj, rfl⟩ := List.getElem_of_mem hs'
          have := hz j hj
          rw [List.getD_eq_getElem?_getD, List.getElem?_eq_getElem hj] at this
          exact this⟩
        clear hz
        go_wp2_with fail
        go_ret
        rw [hf]; exact ⟨rfl, HW.out⟩
end Go.Proofs.YtiabbmdgddbgbaaDoor

namespace Go.Proofs.YtiabbmdgddbgbaaDoor

theorem idS_ne : idS ⟨#[101]⟩ ≠ idS ⟨#[102]⟩ := by decide +kernel

theorem man_ok {s : ByteArray} {n : Int} (h : cutE s.size n = 0) : ∃ m : Nat, n = m ∧ 1 ≤ m ∧ m ≤ 4096 ∧ s.size ≤ 32768 ∧ nP s.size m ≤ 4096 ∧ cutL s n = parts s m ∧ manOf s n = ⟨s.size, m, (parts s m).map idS⟩ := by
  obtain ⟨m, rfl, h1, h2, h3, h4⟩ := cutE_ok h
  exact ⟨m, rfl, h1, h2, h3, h4, by unfold cutL; rw [if_pos h, Int.toNat_natCast], by unfold manOf; rw [if_pos h, Int.toNat_natCast]⟩

theorem manE_manOf {s : ByteArray} {n : Int} (h : cutE s.size n = 0) : manE (manOf s n) = 0 := by
  obtain ⟨m, rfl, h1, h2, h3, h4, _, hm⟩ := man_ok h
  rw [hm]
  unfold manE
  simp only [Int.toNat_natCast, List.length_map, parts_length]
  rw [if_neg (by omega), if_neg, if_neg (by omega)]
  rintro (h | h)
  · exact h rfl
  · apply h
    intro x hx
    obtain ⟨y, _, rfl⟩ := List.mem_map.1 hx
    exact ck_id y

theorem join_cut {s : ByteArray} {n : Int} (h : cutE s.size n = 0) : joinM (manOf s n) (cutL s n) = (s, 0) := by
  have hE := manE_manOf h
  obtain ⟨m, rfl, h1, h2, h3, h4, hc, hm⟩ := man_ok h
  unfold joinM
  rw [hE, hc, hm]
  simp only [List.length_map]
  rw [if_neg (fun h => h rfl), if_neg (fun h => h rfl), if_neg (fun h => h rfl), if_neg (by rw [total_parts h1]; exact fun h => h rfl), cat_parts h1]

theorem rMan_put {m : Man} (h : manE m = 0) : rMan (putM m).1 = m ∧ doneS (rSt (putM m).1) = 0 := by
  obtain ⟨hz0, hz1, hil, hc0, hc1, hids, -⟩ := manE_ok h
  have h64 : ∀ s ∈ m.ids, s.size ≤ 65536 := fun s hs => by have := ck_size (hids s hs); omega
  have hp : (putM m).1 = ⟨(Lib.uvarint m.size.toNat ++ (Lib.uvarint m.chunk.toNat ++ (Lib.uvarint m.ids.length ++ encTexts m.ids ++ []))).toArray⟩ := by
    unfold putM; rw [if_pos h]; unfold encL; simp
  have e1 := sNum_uv m.size.toNat (by omega) (Lib.uvarint m.chunk.toNat ++ (Lib.uvarint m.ids.length ++ encTexts m.ids ++ []))
  have e2 := sNum_uv m.chunk.toNat (by omega) (Lib.uvarint m.ids.length ++ encTexts m.ids ++ [])
  have e3 := sList_enc m.ids hil h64 []
  rw [hp]
  constructor
  · unfold rMan
    rw [e1, e2]
    simp only
    rw [e3]
    obtain ⟨z, c, ids⟩ := m
    simp only at *
    rw [Int.toNat_of_nonneg hz0, Int.toNat_of_nonneg (by omega)]
  · unfold rSt
    rw [e1, e2]
    simp only
    rw [e3]
    rfl

theorem manRead_put {m : Man} (h : manE m = 0) : readM (putM m).1 = (m, 0) := by
  obtain ⟨h1, h2⟩ := rMan_put h
  unfold readM
  rw [h1, h2, h]
  rfl

theorem tl_cut (s : ByteArray) (k : Nat) : tl (s.extract k s.size) = (tl s).drop k := by
  rw [tl_extract, List.take_of_length_le (by rw [List.length_drop, tl_length]; omega)]

theorem sNum_back {st : ByteArray × Int} (h : (sNum st).2.2 = 0) : st.2 = 0 ∧ tl st.1 = Lib.uvarint (sNum st).1 ++ tl (sNum st).2.1 := by
  unfold sNum at h ⊢
  split at h
  · rename_i h1; exact absurd h h1
  · rename_i h1
    rw [if_neg h1]
    refine ⟨Classical.byContradiction h1, ?_⟩
    split at h
    · rename_i h2
      rw [if_pos h2]
      simp only
      rw [tl_cut, numR_put h2]
      exact (List.take_append_drop _ _).symm
    · rename_i h2; exact absurd h h2

theorem sCount_back {l : Nat} {st : ByteArray × Int} (h : (sCount l st).2.1 = true) : (sCount l st).2.2 = (sNum st).2 ∧ (sCount l st).1 = (sNum st).1 ∧ (sNum st).2.2 = 0 := by
  unfold sCount at h ⊢
  split at h
  · cases h
  · rename_i h1
    split at h
    · cases h
    · rename_i h2
      rw [if_neg h1, if_neg h2]
      exact ⟨rfl, rfl, Classical.byContradiction h1⟩

theorem sCount_bad {l : Nat} {st : ByteArray × Int} (h : (sCount l st).2.1 = false) : (sCount l st).2.2.2 ≠ 0 := by
  unfold sCount at h ⊢
  split at h
  · rename_i h1; rw [if_pos h1]; exact h1
  · rename_i h1
    split at h
    · rename_i h2; rw [if_neg h1, if_pos h2]; exact (by decide : (3 : Int) ≠ 0)
    · cases h

theorem sText_back {st : ByteArray × Int} (h : (sText st).2.2 = 0) : st.2 = 0 ∧ tl st.1 = Lib.uvarint (sText st).1.size ++ tl (sText st).1 ++ tl (sText st).2.1 := by
  unfold sText at h ⊢
  split at h
  · rename_i h1; exact absurd h (sCount_bad h1)
  · rename_i h1
    obtain ⟨e1, e2, e3⟩ := sCount_back (by simpa using h1)
    rw [if_neg h1]
    split at h
    · cases h
    · rename_i h2
      rw [if_neg h2]
      obtain ⟨g1, g2⟩ := sNum_back e3
      refine ⟨g1, ?_⟩
      rw [e1, e2] at h2 ⊢
      simp only
      have hsz : ((sNum st).2.1.extract 0 (sNum st).1).size = (sNum st).1 := by rw [ByteArray.size_extract]; omega
      rw [hsz, tl_cut, tl_extract, g2]
      simp

theorem sTexts_back : ∀ (k : Nat) (st : ByteArray × Int) (acc : List ByteArray), (sTexts k st acc).2.2 = 0 → st.2 = 0 ∧ ∃ l, (sTexts k st acc).1 = acc ++ l ∧ l.length = k ∧ tl st.1 = encTexts l ++ tl (sTexts k st acc).2.1 := by
  intro k
  induction k with
  | zero => intro st acc h; exact ⟨h, [], by simp [sTexts], rfl, by simp [sTexts, encTexts]⟩
  | succ k ih =>
    intro st acc h
    simp only [sTexts] at h ⊢
    split at h
    · rename_i h1; exact absurd h h1
    · rename_i h1
      rw [if_neg h1]
      obtain ⟨g1, g2⟩ := sText_back (Classical.byContradiction h1)
      obtain ⟨_, l, h3, h4, h5⟩ := ih _ _ h
      refine ⟨g1, (sText st).1 :: l, by rw [h3]; simp, by simp [h4], ?_⟩
      rw [g2, h5]
      simp [encTexts, tl]

theorem sList_back {st : ByteArray × Int} (h : (sList st).2.2 = 0) : st.2 = 0 ∧ tl st.1 = Lib.uvarint (sList st).1.length ++ encTexts (sList st).1 ++ tl (sList st).2.1 := by
  unfold sList at h ⊢
  split at h
  · rename_i h1; exact absurd h (sCount_bad h1)
  · rename_i h1
    obtain ⟨e1, e2, e3⟩ := sCount_back (by simpa using h1)
    rw [if_neg h1]
    obtain ⟨g1, g2⟩ := sNum_back e3
    obtain ⟨_, l, h3, h4, h5⟩ := sTexts_back _ _ _ h
    refine ⟨g1, ?_⟩
    rw [h3, List.nil_append, h4, e2]
    rw [e1] at h5
    rw [g2, h5, e2, e1]
    simp

theorem manPut_read {t : ByteArray} (h : (readM t).2 = 0) : putM (readM t).1 = (t, 0) ∧ manE (readM t).1 = 0 := by
  unfold readM at h ⊢
  split at h
  · rename_i h1; exact absurd h h1
  · rename_i h1
    split at h
    · rename_i h2; exact absurd h h2
    · rename_i h2
      rw [if_neg h1, if_neg h2]
      have hE : manE (rMan t) = 0 := Classical.byContradiction h2
      have hD : doneS (rSt t) = 0 := Classical.byContradiction h1
      refine ⟨?_, hE⟩
      have h3 : (rSt t).2 = 0 ∧ (rSt t).1.size = 0 := by
        unfold doneS at hD
        split at hD
        · rename_i h; exact absurd hD h
        · rename_i h
          split at hD
          · cases hD
          · exact ⟨Classical.byContradiction h, by omega⟩
      unfold rSt at h3
      obtain ⟨g1, g2⟩ := sList_back h3.1
      obtain ⟨g3, g4⟩ := sNum_back g1
      obtain ⟨_, g5⟩ := sNum_back g3
      have h0 : tl (sList (sNum (sNum (t, 0)).2).2).2.1 = [] := List.length_eq_zero_iff.1 (by rw [tl_length]; exact h3.2)
      rw [h0, List.append_nil] at g2
      unfold putM
      rw [if_pos hE]
      simp only [Prod.mk.injEq, and_true]
      apply tl_inj
      show encL (rMan t) = tl t
      simp only at g5
      rw [g5, g4, g2]
      unfold encL rMan
      simp
end Go.Proofs.YtiabbmdgddbgbaaDoor
