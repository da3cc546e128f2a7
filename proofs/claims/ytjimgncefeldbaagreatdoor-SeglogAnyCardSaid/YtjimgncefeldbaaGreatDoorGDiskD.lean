/-
  disk: the functions of Sync and Remove.
  disk: the function of Append: its errors.
-/
import Derived.Test.YtjimgncefeldbaaGreatDoorGDiskC
import Derived.Test.YtjimgncefeldbaaGreatDoorGDiskA
import Derived.Deep.RegionWith
import Derived.Deep.DeepCutAuto
import Derived.Lib.QuietBelow
namespace Go.Proofs.YtjimgncefeldbaaGreatDoor
open Go.RowKit

/-- the disk behind an act of its fuse -/
def MS.pay (m : MS) : MS := { m with left := if m.fused then m.left - 1 else m.left }
/-- is there an act left? -/
def MS.may (m : MS) : Prop := m.fused = true → 1 ≤ m.left

theorem spend_ok {B : Nat} (m : MS) (w : World) (h : Lies B m w) (hm : m.left < 9223372036854775808) (hy : m.may) : Calls Tryz.prog 38 #[.pointer (some ⟨m.D, 0, none⟩)] w fun e w' => e = .returned (.tuple #[]) ∧ Lies B m.pay w' ∧ Chg m m.pay w w' := by
  cases hf : m.fused
  · have e : m.pay = m := by cases m; simp_all [MS.pay]
    rw [e]
    refine (spend_free m w h hf).mono ?_
    rintro e w' ⟨rfl, rfl⟩
    exact ⟨rfl, h, Chg.refl _ _⟩
  · have e : m.pay = m.spent := by simp [MS.pay, MS.spent, hf]
    rw [e]
    exact spend_one m w h hf (hy hf) hm

theorem Lies.drew {B : Nat} {m : MS} {w : World} (h : Lies B m w) : Lies B m w.drew := ⟨h.head, h.base, h.row, h.body, h.apart⟩
theorem Chg.drew {m m' : MS} {w w' : World} (h : Chg m m' w w') : Chg m m' w w'.drew := ⟨h.os, h.tape, h.output, h.size, h.block, h.fresh⟩

/-- a variable of the call's own that an act's function has captured -/
def Box (m : MS) (b : Nat) (v : Value) (w : World) : Prop := w.cell? ⟨b, 0, none⟩ = some v ∧ b < w.heap.size ∧ b ∉ m.blks

theorem Box.below {m : MS} {b : Nat} {v : Value} {w w' : World} (h : Box m b v w) (hb : Below w.heap.size w w') : Box m b v w' :=
  ⟨by rw [hb.cell (p := ⟨b, 0, none⟩) h.2.1]; exact h.1, Nat.lt_of_lt_of_le h.2.1 hb.size, h.2.2⟩

theorem Box.chg {m m' : MS} {b : Nat} {v : Value} {w w' : World} (h : Box m b v w) (hc : Chg m m' w w') : Box m' b v w' :=
  ⟨by rw [World.cell?_of_block (w := w) (a := ⟨b, 0, none⟩) (hc.block b h.2.1 h.2.2)]; exact h.1, Nat.lt_of_lt_of_le h.2.1 hc.size,
    fun hk => by rcases hc.fresh b hk with h1 | h1; exact h.2.2 h1; have := h.2.1; omega⟩

set_option maxHeartbeats 2000000 in
set_option maxRecDepth 100000 in
theorem syncC_none {B : Nat} (m : MS) (n : ByteArray) (b0 b1 : Nat) (w : World) (h : Lies B m w) (hlen : m.l.length ≤ 1024) (hr : Rises m.l n) (h0 : Box m b0 (.pointer (some ⟨m.D, 0, none⟩)) w) (h1 : Box m b1 (.string n) w) (ht : fthere m.l n = false) :
    Calls Tryz.prog 108 #[.pointer (some ⟨b0, 0, none⟩), .pointer (some ⟨b1, 0, none⟩)] w fun e w' => e = .returned (.int .i64 7) ∧ Below w.heap.size w w' := by
  have hfd := find_any m n w h hlen hr
  rw [ht] at hfd
  have c0 := h0.1
  have c1 := h1.1
  clear h hlen hr h0 h1 ht
  go_enter Tryz.func108, Tryz.ntmps108
  go_wp2_with fail
  refine hfd.mono ?_
  rintro e w1 ⟨rfl, hb⟩
  have HB := Lib.hid hb; clear hb
  go_wp2_with fail
  go_ret
  exact ⟨rfl, HB.out⟩

set_option maxHeartbeats 2000000 in
set_option maxRecDepth 100000 in
theorem syncC_out {B : Nat} (m : MS) (n : ByteArray) (b0 b1 : Nat) (a : Addr) (w : World) (h : Lies B m w) (hlen : m.l.length ≤ 1024) (hr : Rises m.l n) (h0 : Box m b0 (.pointer (some ⟨m.D, 0, none⟩)) w) (h1 : Box m b1 (.string n) w) (ht : fthere m.l n = true)
    (hp : Pow a w) (hf : m.fused = true) (hl : m.left = 0) :
    Calls Tryz.prog 108 #[.pointer (some ⟨b0, 0, none⟩), .pointer (some ⟨b1, 0, none⟩)] w fun e w' => e = .panicked [{ v := powV a, recovered := false }] ∧ Below w.heap.size w w' := by
  have hfd := find_any m n w h hlen hr
  rw [ht] at hfd
  have c0 := h0.1
  have c1 := h1.1
  have HH := Lib.hid (And.intro h (And.intro h0 (And.intro hp (And.intro hf hl))))
  clear h hlen hr h0 h1 ht hp hf hl
  go_enter Tryz.func108, Tryz.ntmps108
  go_wp2_with fail
  refine hfd.mono ?_
  rintro e w1 ⟨rfl, hb⟩
  obtain ⟨h, h0, hp, hf, hl⟩ := HH.out
  have hs := spend_out m w1 (h.below hb) a (hp.below hb hp.lt) hf hl
  have c0' := (h0.below hb).1
  have HB := Lib.hid hb; clear hb h h0 hp hf hl c0 c1 hfd HH
  go_wp2_with fail
  refine hs.mono ?_
  rintro e w2 ⟨rfl, rfl⟩
  go_wp2_with fail
  exact ⟨rfl, rfl, HB.out⟩

/-- the disk behind Sync of its file i -/
def MS.syncAt (m : MS) (i : Nat) (f : FV) : MS := { m with l := m.l.set i { f with sure := f.body.length } }

set_option maxHeartbeats 4000000 in
set_option maxRecDepth 100000 in
theorem syncC_ok {B : Nat} (m : MS) (n : ByteArray) (b0 b1 : Nat) (w : World) (f : FV) (h : Lies B m w) (hlen : m.l.length ≤ 1024) (hr : Rises m.l n) (h0 : Box m b0 (.pointer (some ⟨m.D, 0, none⟩)) w) (h1 : Box m b1 (.string n) w)
    (hf : m.l[fpos m.l n]? = some f) (hc : cmpF n f = 0) (hm : m.left < 9223372036854775808) (hy : m.may) :
    Calls Tryz.prog 108 #[.pointer (some ⟨b0, 0, none⟩), .pointer (some ⟨b1, 0, none⟩)] w fun e w' => e = .returned (.int .i64 0) ∧ Lies B (m.pay.syncAt (fpos m.l n) f) w' ∧ Chg m (m.pay.syncAt (fpos m.l n) f) w w' := by
  have hfd := find_any m n w h hlen hr
  have ht : fthere m.l n = true := by unfold fthere; rw [hf]; simp [hc]
  rw [ht] at hfd
  have hil : fpos m.l n < m.l.length := (List.getElem?_eq_some_iff.1 hf).1
  obtain ⟨F, cap, hv⟩ : ∃ F cap, m.fv = .slice (some ⟨F, 0, none⟩) m.l.length cap := by
    rcases Joins.ownsRow_forms h.row with ⟨_, hl0⟩ | hv
    · omega
    · exact hv
  have c0 := h0.1
  have c1 := h1.1
  have HH := Lib.hid (And.intro h (And.intro h0 (And.intro hf (And.intro hm (And.intro hy hv)))))
  clear h hr h0 h1 ht hm hy hc hf hv
  generalize fpos m.l n = i at *
  go_enter Tryz.func108, Tryz.ntmps108
  go_wp2_with fail
  refine hfd.mono ?_
  rintro e w1 ⟨rfl, hb⟩
  obtain ⟨h, h0, hf, hm, hy, hv⟩ := HH.out
  have hs := spend_ok m w1 (h.below hb) hm hy
  have c0' := (h0.below hb).1
  have HB := Lib.hid hb; clear hb h h0 hm hf hy hv c0 c1 hfd
  go_wp2_with fail
  refine hs.mono ?_
  rintro e w2 ⟨rfl, hl2, hc2⟩
  obtain ⟨h, h0, hf, hm, hy, hv⟩ := HH.out
  have k0 := ((h0.below HB.out).chg hc2).1
  have kD := hl2.cell 1
  have hv2 : m.pay.fv = .slice (some ⟨F, 0, none⟩) m.l.length cap := hv
  simp only [MS.head, List.getElem?_toArray, List.getElem?_cons_succ, List.getElem?_cons_zero, hv2] at kD
  obtain ⟨_, hF, _, hrow⟩ := hl2.frow hv2
  obtain ⟨kn, kb, ks⟩ := hrow i f hf
  obtain ⟨p, c, hbv⟩ := hl2.forms (i := i) (f := f) hf
  rw [hbv] at kb
  have kf := World.ownsRow.frozenAt (by have := hl2.row; rw [hv2] at this; exact this) (i * 3 + 2)
  obtain ⟨hL, hC⟩ := hl2.setFile (i := i) (j := 2) (f := f) (f' := { f with sure := f.body.length }) hv2 hf (by omega) (.int .i64 (f.body.length : Int)) rfl rfl (fun _ h => h)
  have HL := Lib.hid (And.intro hL ((Chg.of_below (m := m) HB.out).trans (hc2.trans hC)))
  have hDe : m.pay.D = m.D := rfl
  rw [hDe] at kD
  clear hL hC hl2 hc2 hs hv2 hrow hbv h h0 hf hm hy hv hF HH hDe c0'
  have hi0 : (0 : Int) ≤ (i : Int) := by omega
  have hi1 : (i : Int) < (m.l.length : Int) := by omega
  generalize hn : m.l.length = N at *
  clear hn
  go_wp2_with fail
  go_region
  go_wp2_with fail
  go_ret
  exact ⟨rfl, HL.out.1.drew, HL.out.2.drew⟩

set_option maxHeartbeats 2000000 in
set_option maxRecDepth 100000 in
theorem removeC_none {B : Nat} (m : MS) (n : ByteArray) (b0 b1 : Nat) (w : World) (h : Lies B m w) (hlen : m.l.length ≤ 1024) (hr : Rises m.l n) (h0 : Box m b0 (.pointer (some ⟨m.D, 0, none⟩)) w) (h1 : Box m b1 (.string n) w) (ht : fthere m.l n = false) :
    Calls Tryz.prog 119 #[.pointer (some ⟨b0, 0, none⟩), .pointer (some ⟨b1, 0, none⟩)] w fun e w' => e = .returned (.int .i64 7) ∧ Below w.heap.size w w' := by
  have hfd := find_any m n w h hlen hr
  rw [ht] at hfd
  have c0 := h0.1
  have c1 := h1.1
  clear h hlen hr h0 h1 ht
  go_enter Tryz.func119, Tryz.ntmps119
  go_wp2_with fail
  refine hfd.mono ?_
  rintro e w1 ⟨rfl, hb⟩
  have HB := Lib.hid hb; clear hb
  go_wp2_with fail
  go_ret
  exact ⟨rfl, HB.out⟩

set_option maxHeartbeats 2000000 in
set_option maxRecDepth 100000 in
theorem removeC_out {B : Nat} (m : MS) (n : ByteArray) (b0 b1 : Nat) (a : Addr) (w : World) (h : Lies B m w) (hlen : m.l.length ≤ 1024) (hr : Rises m.l n) (h0 : Box m b0 (.pointer (some ⟨m.D, 0, none⟩)) w) (h1 : Box m b1 (.string n) w) (ht : fthere m.l n = true)
    (hp : Pow a w) (hf : m.fused = true) (hl : m.left = 0) :
    Calls Tryz.prog 119 #[.pointer (some ⟨b0, 0, none⟩), .pointer (some ⟨b1, 0, none⟩)] w fun e w' => e = .panicked [{ v := powV a, recovered := false }] ∧ Below w.heap.size w w' := by
  have hfd := find_any m n w h hlen hr
  rw [ht] at hfd
  have c0 := h0.1
  have c1 := h1.1
  have HH := Lib.hid (And.intro h (And.intro h0 (And.intro hp (And.intro hf hl))))
  clear h hlen hr h0 h1 ht hp hf hl
  go_enter Tryz.func119, Tryz.ntmps119
  go_wp2_with fail
  refine hfd.mono ?_
  rintro e w1 ⟨rfl, hb⟩
  obtain ⟨h, h0, hp, hf, hl⟩ := HH.out
  have hs := spend_out m w1 (h.below hb) a (hp.below hb hp.lt) hf hl
  have c0' := (h0.below hb).1
  have HB := Lib.hid hb; clear hb h h0 hp hf hl c0 c1 hfd HH
  go_wp2_with fail
  refine hs.mono ?_
  rintro e w2 ⟨rfl, rfl⟩
  go_wp2_with fail
  exact ⟨rfl, rfl, HB.out⟩

/-- what a call leaves that has dropped the disk's file i -/
def DropPost (B : Nat) (m : MS) (i : Nat) (w : World) (e : Ending) (w' : World) : Prop :=
  ∃ v, e = .returned (.int .i64 0) ∧ Lies B { m with fv := v, l := m.l.take i ++ m.l.drop (i + 1) } w' ∧ Chg m { m with fv := v, l := m.l.take i ++ m.l.drop (i + 1) } w w'

set_option maxHeartbeats 4000000 in
set_option maxRecDepth 100000 in
theorem removeC_ok {B : Nat} (m : MS) (n : ByteArray) (b0 b1 : Nat) (w : World) (f : FV) (h : Lies B m w) (hlen : m.l.length ≤ 1024) (hr : Rises m.l n) (h0 : Box m b0 (.pointer (some ⟨m.D, 0, none⟩)) w) (h1 : Box m b1 (.string n) w)
    (hf : m.l[fpos m.l n]? = some f) (hc : cmpF n f = 0) (hm : m.left < 9223372036854775808) (hy : m.may) :
    Calls Tryz.prog 119 #[.pointer (some ⟨b0, 0, none⟩), .pointer (some ⟨b1, 0, none⟩)] w fun e w' => ∃ v, e = .returned (.int .i64 0) ∧ Lies B { m.pay with fv := v, l := m.l.take (fpos m.l n) ++ m.l.drop (fpos m.l n + 1) } w' ∧ Chg m { m.pay with fv := v, l := m.l.take (fpos m.l n) ++ m.l.drop (fpos m.l n + 1) } w w' := by
  have hfd := find_any m n w h hlen hr
  have ht : fthere m.l n = true := by unfold fthere; rw [hf]; simp [hc]
  rw [ht] at hfd
  have hil : fpos m.l n < m.l.length := (List.getElem?_eq_some_iff.1 hf).1
  obtain ⟨k, hk⟩ : ∃ k, m.l.length = k + 1 := ⟨m.l.length - 1, by omega⟩
  obtain ⟨F, cap, hv⟩ : ∃ F cap, m.fv = .slice (some ⟨F, 0, none⟩) (k + 1) cap := by
    rcases Joins.ownsRow_forms h.row with ⟨_, hl0⟩ | hv
    · omega
    · rw [hk] at hv; exact hv
  have c0 := h0.1
  have c1 := h1.1
  have HH := Lib.hid (And.intro h (And.intro h0 (And.intro hf (And.intro hm (And.intro hy (And.intro hv hk))))))
  clear h hr h0 h1 ht hm hy hc hf hv
  generalize fpos m.l n = i at *
  rw [hk] at hil hlen
  clear hk
  suffices hsuf : Calls Tryz.prog 119 #[.pointer (some ⟨b0, 0, none⟩), .pointer (some ⟨b1, 0, none⟩)] w fun e w' => e = .returned (.int .i64 0) ∧ Lies B { m.pay with fv := .slice (some ⟨F, 0, none⟩) k cap, l := m.l.take i ++ m.l.drop (i + 1) } w' ∧ Chg m { m.pay with fv := .slice (some ⟨F, 0, none⟩) k cap, l := m.l.take i ++ m.l.drop (i + 1) } w w' from
    hsuf.mono fun e w' hh => ⟨_, hh⟩
  go_enter Tryz.func119, Tryz.ntmps119
  go_wp2_with fail
  refine hfd.mono ?_
  rintro e w1 ⟨rfl, hb⟩
  obtain ⟨h, h0, hf, hm, hy, hv, hk⟩ := HH.out
  have hs := spend_ok m w1 (h.below hb) hm hy
  have c0' := (h0.below hb).1
  have HB := Lib.hid hb; clear hb h h0 hm hf hy hv hk c0 c1 hfd
  go_wp2_with fail
  refine hs.mono ?_
  rintro e w2 ⟨rfl, hl2, hc2⟩
  obtain ⟨h, h0, hf, hm, hy, hv, hk⟩ := HH.out
  have K0 := (h0.below HB.out).chg hc2
  have k0 := K0.1
  have kD := hl2.cell 1
  have hv2 : m.pay.fv = .slice (some ⟨F, 0, none⟩) (k + 1) cap := hv
  simp only [MS.head, List.getElem?_toArray, List.getElem?_cons_succ, List.getElem?_cons_zero, hv2] at kD
  have hrow : OwnF B (.slice (some ⟨F, 0, none⟩) (k + 1) cap) (k + 1) (fcells m.l) w2 := by have := hl2.row; rw [hv2, show m.pay.l.length = k + 1 from hk] at this; exact this
  have hdel := delete_any B F cap k i (fcells m.l) w2.drew hrow.drew (by omega) (by omega) (one_cells (m := m.pay) hl2)
  have hDe : m.pay.D = m.D := rfl
  rw [hDe] at kD
  obtain ⟨n1, n2, n3, n4⟩ := hl2.nodup
  have hFD : F ≠ m.D := n1 F (by rw [hv2]; rfl)
  have hDlt := (hl2.lt m.D (by simp [MS.blks, MS.pay])).2
  have hFb0 : F ≠ b0 := fun e => K0.2.2 (by rw [← e]; simp [MS.blks, hv2, Value.ownBlock])
  have hpost : ∀ w3, DelPost B F cap k ((fcells m.l).take (i * 3) ++ (fcells m.l).drop ((i + 1) * 3)) w2.drew (.returned (.slice (some ⟨F, 0, none⟩) k cap)) w3 →
      Lies B { m.pay with fv := .slice (some ⟨F, 0, none⟩) k cap, l := m.l.take i ++ m.l.drop (i + 1) } (w3.setCell ⟨m.D, 1, none⟩ (.slice (some ⟨F, 0, none⟩) k cap)) ∧ Chg m { m.pay with fv := .slice (some ⟨F, 0, none⟩) k cap, l := m.l.take i ++ m.l.drop (i + 1) } w (w3.setCell ⟨m.D, 1, none⟩ (.slice (some ⟨F, 0, none⟩) k cap)) := by
    rintro w3 ⟨_, ho, hg⟩
    have hsl := bblks_del (l := m.l) i
    have hlen' : (m.l.take i ++ m.l.drop (i + 1)).length = k := by simp [hk]; omega
    rw [← fcells_del, ← hlen'] at ho
    have hr := hl2.drew.refile (.slice (some ⟨F, 0, none⟩) k cap) (m.l.take i ++ m.l.drop (i + 1)) (by rw [hv2]; exact hg) (by rw [hlen'] at ho ⊢; exact ho) (.inl (by rw [hv2]; rfl))
      (fun f hf => ⟨hl2.drew.body f (by have := List.mem_append.1 hf; rcases this with h | h; exact List.mem_of_mem_take h; exact List.mem_of_mem_drop h), fun k hk => by
        have hm : k ∈ bblks m.l := hsl.subset (mem_bblks.2 ⟨f, hf, hk⟩)
        exact ⟨n2 k hm, n4 k hm⟩⟩) (n3.sublist hsl)
    refine ⟨hr.1, ((Chg.of_below (m := m) HB.out).trans hc2).trans ⟨hg.os, hg.tape, hg.output, by simpa using hg.size, fun k hk hn => ?_, ?_⟩⟩
    · simp only [MS.blks, List.mem_cons, List.mem_append, Option.mem_toList, not_or] at hn
      exact hr.2 k hk hn.1 hn.2.1
    · exact blks_fresh (w := w2) rfl (.inl (by rw [hv2]; rfl)) (fun k hk => .inl (hsl.subset hk))
  have HP := Lib.hid hpost
  clear hpost hc2 hs hv2 hrow h h0 hf hm hy hv hk n1 n2 n3 n4 c0'
  have hi0 : (0 : Int) ≤ (i : Int) := by omega
  have hw1 : IntKind.i64.wrap ((i : Int) + 1) = (i : Int) + 1 := by rw [IntKind.wrap_i64]; omega
  have HKK := Lib.hid (And.intro hFD (And.intro hFb0 (And.intro hDlt (And.intro K0.2.1 (hl2.free 1)))))
  clear hl2 K0 hFD hFb0 HH
  have HDL := Lib.hid hdel; clear hdel
  go_wp2_with fail
  go_region_with (go_at_call 120; refine HDL.out.mono ?_; rintro e w3 ⟨rfl, ho, hg⟩; have k0' : w3.cell? ⟨b0, 0, none⟩ = some (.pointer (some ⟨m.D, 0, none⟩)) := (World.cell?_of_block (w := w2) (a := ⟨b0, 0, none⟩) (hg.block b0 HKK.out.2.2.2.1 (by simp; exact fun e => HKK.out.2.1 e.symm))).trans k0; have kD' : w3.cell? ⟨m.D, 1, none⟩ = some (.slice (some ⟨F, 0, none⟩) (k + 1) cap) := (World.cell?_of_block (w := w2) (a := ⟨m.D, 1, none⟩) (hg.block m.D hDlt (by simp; exact fun e => HKK.out.1 e.symm))).trans kD; have kz' : w3.frozen? ⟨m.D, 1, none⟩ = false := (World.frozen?_of_block (w := w2) (a := ⟨m.D, 1, none⟩) (hg.block m.D hDlt (by simp; exact fun e => HKK.out.1 e.symm))).trans HKK.out.2.2.2.2; have HL := Lib.hid (HP.out w3 ⟨rfl, ho, hg⟩); clear ho hg)
  all_goals
    go_wp2_with fail
    go_ret
    exact ⟨rfl, HL.out⟩
end Go.Proofs.YtjimgncefeldbaaGreatDoor

namespace Go.Proofs.YtjimgncefeldbaaGreatDoor
open Go.RowKit Go.Sort

/-- is there no room for so many bytes more, or no room for a file more? -/
def fullB (m : MS) (n : ByteArray) (k : Nat) : Bool := decide ((m.room : Int) - (total m.l : Int) < (k : Int)) || (!fthere m.l n && (m.l.length == 1024))

set_option maxHeartbeats 2000000 in
set_option maxRecDepth 100000 in
theorem appendC_name (m : MS) (n _s : ByteArray) (b0 b1 b2 : Nat) (w : World) (h0 : Box m b0 (.string n) w) (hn : isNm n = false) (hb : ∀ w, Calls Tryz.prog 35 #[.string n] w fun e w' => e = .returned (.bool (isNm n)) ∧ w = w') :
    Calls Tryz.prog 34 #[.pointer (some ⟨b0, 0, none⟩), .pointer (some ⟨b1, 0, none⟩), .pointer (some ⟨b2, 0, none⟩)] w fun e w' => e = .returned (.int .i64 14) ∧ w = w' := by
  rw [hn] at hb
  have c0 := h0.1
  clear h0 hn
  go_enter Tryz.func34, Tryz.ntmps34
  go_wp2_with fail
  refine (hb _).mono ?_
  rintro e w1 ⟨rfl, rfl⟩
  go_wp2_with fail
  go_ret
  exact ⟨rfl, rfl⟩

set_option maxHeartbeats 4000000 in
set_option maxRecDepth 100000 in
theorem appendC_full {B : Nat} (m : MS) (n s : ByteArray) (b0 b1 b2 : Nat) (w : World) (h : Lies B m w) (hlen : m.l.length ≤ 1024) (hr : Rises m.l n) (ht : total m.l ≤ m.room) (hroom : m.room ≤ 4194304) (_hss : s.size ≤ 9223372036854775807)
    (h0 : Box m b0 (.string n) w) (h1 : Box m b1 (.pointer (some ⟨m.D, 0, none⟩)) w) (h2 : Box m b2 (.string s) w) (hn : isNm n = true) (hfull : fullB m n s.size = true) :
    Calls Tryz.prog 34 #[.pointer (some ⟨b0, 0, none⟩), .pointer (some ⟨b1, 0, none⟩), .pointer (some ⟨b2, 0, none⟩)] w fun e w' => e = .returned (.int .i64 9) ∧ Below w.heap.size w w' := by
  have hisn := fun w => isName_yes n w hn
  have hfd := find_any m n w h hlen hr
  have c0 := h0.1
  have c1 := h1.1
  have HH := Lib.hid (And.intro h (And.intro h0 (And.intro h1 (And.intro h2 hfull))))
  clear h hr h0 h1 h2 hfull hn
  obtain ⟨there, hth⟩ : ∃ t, fthere m.l n = t := ⟨_, rfl⟩
  rw [hth] at hfd
  have HTH := Lib.hid hth; clear hth
  obtain ⟨i, hi⟩ : ∃ i, fpos m.l n = i := ⟨_, rfl⟩
  rw [hi] at hfd
  clear hi
  go_enter Tryz.func34, Tryz.ntmps34
  go_wp2_with fail
  refine (hisn _).mono ?_
  rintro e w1 ⟨rfl, rfl⟩
  clear hisn
  go_wp2_with fail
  refine hfd.mono ?_
  rintro e w1 ⟨rfl, hb⟩
  obtain ⟨h, h0, h1, h2, hfull⟩ := HH.out
  have k1 := (h1.below hb).1
  have k2 := (h2.below hb).1
  have kR := (h.below hb).cell 0
  have kF := (h.below hb).cell 1
  simp only [MS.head, List.getElem?_toArray, List.getElem?_cons_succ, List.getElem?_cons_zero] at kR kF
  have hu := used_any m w1.drew (h.below hb).drew hlen (by omega)
  have HB := Lib.hid hb
  clear hfd c0 c1 h h0 h1 h2 hfull hb
  go_wp2_with fail
  have hw1 : IntKind.i64.wrap ((m.room : Int) - (total m.l : Int)) = (m.room : Int) - (total m.l : Int) := by rw [IntKind.wrap_i64]; omega
  obtain ⟨p, c, hfv⟩ : ∃ p c, m.fv = .slice p m.l.length c := by
    rcases Joins.ownsRow_forms HH.out.1.row with ⟨hv, h0⟩ | ⟨F, cap, hv⟩
    · exact ⟨none, 0, by rw [h0]; exact hv⟩
    · exact ⟨_, _, hv⟩
  rw [hfv] at kF
  clear hfv hu
  have cU := fun d os => Calls.regrown_of (used_any m (grow (redrawn w1 d) os) ((HH.out.1.below HB.out).below (below_regrown w1 d os)) hlen (by omega))
  have HCU := Lib.hid cU; clear cU
  have r1 := fun d os => cell_regrown k1 d os
  have r2 := fun d os => cell_regrown k2 d os
  have rR := fun d os => cell_regrown kR d os
  have rF := fun d os => cell_regrown kF d os
  have hfull := HH.out.2.2.2.2
  rw [fullB, HTH.out] at hfull
  generalize total m.l = T at *
  generalize hn : m.l.length = N at *
  clear hn
  go_cut [36] (fun v wc => v = .bool true ∧ Below w1.heap.size w1 wc)
  case first =>
    clear hlen hroom k1 k2 kR kF
    by_cases hA : (m.room : Int) - (T : Int) < (s.size : Int)
    · have hd : decide ((m.room : Int) - (T : Int) < (s.size : Int)) = true := by simpa using hA
      clear hfull hA
      refine wp_region_quiet_below (by kernel_rfl) (by kernel_rfl) ?_
      repeat (first | go_big_quiet_step ((go_at_call 37; with_reducible exact HCU.out _ _)) | quiet_step ((go_at_call 37; with_reducible exact HCU.out _ _)))
      refine wpQuiet_nil ?_
      intro _ hw'
      obtain ⟨⟨dq, osq⟩, hw''⟩ := hw'
      subst hw''
      clear HCU r1 r2 rR rF
      go_wp2_with fail
      go_meet
      exact ⟨rfl, below_regrown w1 dq osq⟩
    · have hd : decide ((m.room : Int) - (T : Int) < (s.size : Int)) = false := by simpa using hA
      rw [hd] at hfull
      simp at hfull
      obtain ⟨rfl, hl⟩ := hfull
      clear hA
      have hl2 : ((N : Int) == 1024) = true := by simp; omega
      clear hl
      refine wp_region_quiet_below (by kernel_rfl) (by kernel_rfl) ?_
      repeat (first | go_big_quiet_step ((go_at_call 37; with_reducible exact HCU.out _ _)) | quiet_step ((go_at_call 37; with_reducible exact HCU.out _ _)))
      refine wpQuiet_nil ?_
      intro _ hw'
      obtain ⟨⟨dq, osq⟩, hw''⟩ := hw'
      subst hw''
      clear HCU r1 r2 rR rF
      go_wp2_with fail
      go_meet
      exact ⟨rfl, below_regrown w1 dq osq⟩
  case rest =>
    obtain ⟨rfl, hb⟩ := hcut
    have HB2 := Lib.hid (HB.out.trans (hb.mono HB.out.size)); clear hb
    go_wp2_with fail
    go_ret
    exact ⟨rfl, HB2.out⟩
end Go.Proofs.YtjimgncefeldbaaGreatDoor
