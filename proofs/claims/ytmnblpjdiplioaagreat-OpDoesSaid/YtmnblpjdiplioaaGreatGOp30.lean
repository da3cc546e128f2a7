/-
  What a manifest without fault is like.
  almonryref01's Num, Text and List: what each call answers.
  A manifest as bytes; the document's Put.
  almonrylaw19: Few, manifest.
  Chapter 19's example, in plain words.
  Names new in memory; the document's Same of any two rows.
-/
import Derived.Test.YtmnblpjdiplioaaGreatGOp23
import Derived.Test.YtmnblpjdiplioaaGreatGOp01
import Derived.Test.YtmnblpjdiplioaaGreatGOp16
import Derived.Test.YtmnblpjdiplioaaGreatGOp21
namespace Go.Proofs.YtmnblpjdiplioaaGreat
open Go.RowKit Go.Sort

theorem manE_ok {m : Man} (h : manE m = 0) : 0 ≤ m.size ∧ m.size ≤ 32768 ∧ m.ids.length ≤ 4096 ∧ 1 ≤ m.chunk ∧ m.chunk ≤ 4096 ∧ (∀ s ∈ m.ids, ckE s = 0) ∧ m.ids.length = nP m.size.toNat m.chunk.toNat := by
  unfold manE at h
  split at h
  · cases h
  · rename_i h1
    split at h
    · cases h
    · rename_i h2
      split at h
      · cases h
      · rename_i h3
        have hc : 1 ≤ m.chunk ∧ m.chunk ≤ 4096 := Classical.byContradiction fun hc => h1 (.inl hc)
        exact ⟨by omega, by omega, by omega, hc.1, hc.2, Classical.byContradiction fun hc => h2 (.inr hc), Classical.byContradiction fun hc => h2 (.inl hc)⟩
end Go.Proofs.YtmnblpjdiplioaaGreat

namespace Go.Proofs.YtmnblpjdiplioaaGreat
open Go.RowKit

/-- 'string([]byte{c})' of a row that has just been made. -/
theorem one_string {w : World} {c : Nat} (hc : c < 256) : (convert 111 9 (.slice (some ⟨w.heap.size, 0, none⟩) 1 1)).run Tryz.prog (w.alloc (.cells #[.int .u8 (c : Int)] 5)) = .ok (.string ⟨#[c.toUInt8]⟩) (w.alloc (.cells #[.int .u8 (c : Int)] 5)) := by
  have h : (w.alloc (.cells #[.int .u8 (c : Int)] 5)).ownsRow 0 5 1 (.slice (some ⟨w.heap.size, 0, none⟩) 1 1) [c.toUInt8].length (Lib.byteCells [c.toUInt8]) := by
    refine ⟨rfl, .inr ⟨w.heap.size, 1, #[.int .u8 (c : Int)], rfl, Nat.zero_le _, ?_, Nat.le_refl _, by simp [maxLen], rfl, ?_⟩⟩
    · simp [World.alloc, -World.alloc_eq]
    · simp [Lib.byteCells, Lib.toUInt8_toNat hc]
  exact own_string (l := [c.toUInt8]) Tryz.underlying111 Tryz.underlying5 Tryz.underlying9 h

theorem append_str (a b : List UInt8) : (⟨a.toArray⟩ : ByteArray) ++ ⟨b.toArray⟩ = ⟨(a ++ b).toArray⟩ := by
  rw [ByteArray.mk_append_mk]

set_option maxHeartbeats 1000000 in
set_option maxRecDepth 100000 in
theorem refnum_ok (x : Nat) (hx : x ≤ 9007199254740992) (w : World) :
    Calls Tryz.prog 73 #[.int .i64 x] w fun e w' => e = .returned (.tuple #[.string ⟨(Lib.uvarint x).toArray⟩, .int .i64 0]) ∧ Below w.heap.size w w' := by
  have hlen := Lib.uvarint_length64 (x := x) (by omega)
  go_enter Tryz.func73, Tryz.ntmps73
  go_wp2
  go_loopw [0, 4] (fun n s wr => ∃ (y : Nat) (pre : List UInt8), n = .int .i64 y ∧ s = .string ⟨pre.toArray⟩ ∧ y ≤ x ∧ Lib.uvarint x = pre ++ Lib.uvarint y ∧ Below w.heap.size w wr) (fun n _ _ => (intOf n).toNat)
  case atStart => exact ⟨x, [], rfl, rfl, Nat.le_refl _, rfl, Below.refl _ _⟩
  case round =>
    obtain ⟨y, pre, rfl, rfl, hy, hsplit, hb⟩ := hrel
    have hsum : pre.length + (Lib.uvarint y).length ≤ 10 := by have h2 := congrArg List.length hsplit; rw [List.length_append] at h2; omega
    have hpos := Lib.uvarint_pos y
    have hB := hb.size
    have HS := Lib.hid hsplit
    clear hsplit
    by_cases h128 : 128 ≤ y
    · have hadd := run_string_add_sum (P := Tryz.prog) (w := wr.alloc (.cells #[.int .u8 ((y : Int) % 128 + 128)] 5)) ⟨pre.toArray⟩ ⟨[(y % 128 + 128).toUInt8].toArray⟩ (by have h1 : (ByteArray.mk pre.toArray).size = pre.length := rfl; have h2 : (ByteArray.mk [(y % 128 + 128).toUInt8].toArray).size = 1 := rfl; omega)
      rw [append_str] at hadd
      have hcv := one_string (w := wr) (c := y % 128 + 128) (by omega)
      have hcast : (((y % 128 + 128 : Nat)) : Int) = (y : Int) % 128 + 128 := by omega
      rw [hcast] at hcv
      have hcl : (⟨#[(y % 128 + 128).toUInt8]⟩ : ByteArray) = ⟨[(y % 128 + 128).toUInt8].toArray⟩ := rfl
      rw [hcl] at hcv
      clear hcast hcl
      generalize (⟨[(y % 128 + 128).toUInt8].toArray⟩ : ByteArray) = piece at hadd hcv
      generalize hnx : (⟨(pre ++ [(y % 128 + 128).toUInt8]).toArray⟩ : ByteArray) = nx at hadd
      have HN := Lib.hid hnx
      clear hnx
      go_wp2
      go_roundw
      case rel => exact ⟨y / 128, pre ++ [(y % 128 + 128).toUInt8], by go_num, by rw [HN.out], by omega, by rw [HS.out, Lib.uvarint_big h128]; simp, hb.alloc hB _⟩
      case measure => simp [intOf]; omega
    · have hadd := run_string_add_sum (P := Tryz.prog) (w := wr.alloc (.cells #[.int .u8 (y : Int)] 5)) ⟨pre.toArray⟩ ⟨[y.toUInt8].toArray⟩ (by have h1 : (ByteArray.mk pre.toArray).size = pre.length := rfl; have h2 : (ByteArray.mk [y.toUInt8].toArray).size = 1 := rfl; omega)
      rw [append_str] at hadd
      have hcv := one_string (w := wr) (c := y) (by omega)
      have hcl : (⟨#[y.toUInt8]⟩ : ByteArray) = ⟨[y.toUInt8].toArray⟩ := rfl
      rw [hcl] at hcv
      clear hcl
      generalize (⟨[y.toUInt8].toArray⟩ : ByteArray) = piece at hadd hcv
      generalize hnx : (⟨(pre ++ [y.toUInt8]).toArray⟩ : ByteArray) = nx at hadd
      have HN := Lib.hid hnx
      clear hnx
      go_wp2
      go_ret2
      refine ⟨?_, hb.alloc hB _⟩
      rw [HS.out, Lib.uvarint_small (x := y) (by omega), HN.out]; rfl

set_option maxHeartbeats 1000000 in
set_option maxRecDepth 100000 in
theorem reftext_ok (s : ByteArray) (hs : s.size ≤ 65536) (w : World) :
    Calls Tryz.prog 100 #[.string s] w fun e w' => e = .returned (.tuple #[.string ⟨(Lib.uvarint s.size ++ s.data.toList).toArray⟩, .int .i64 0]) ∧ Below w.heap.size w w' := by
  have hlen := Lib.uvarint_length64 (x := s.size) (by omega)
  go_enter Tryz.func100, Tryz.ntmps100
  go_wp2_with fail
  refine (refnum_ok s.size (by omega) w).mono ?_
  rintro e w1 ⟨rfl, hb1⟩
  have hadd := run_string_add_sum (P := Tryz.prog) (w := w1) ⟨(Lib.uvarint s.size).toArray⟩ s (by have h1 : (ByteArray.mk (Lib.uvarint s.size).toArray).size = (Lib.uvarint s.size).length := rfl; omega)
  have hj : (⟨(Lib.uvarint s.size).toArray⟩ : ByteArray) ++ s = ⟨(Lib.uvarint s.size ++ s.data.toList).toArray⟩ := append_str _ s.data.toList
  rw [hj] at hadd
  clear hj
  go_wp2
  go_ret2
  exact ⟨rfl, hb1⟩

set_option maxHeartbeats 1000000 in
set_option maxRecDepth 100000 in
theorem reftext_err (s : ByteArray) (hs : 65536 < s.size) (w : World) :
    Calls Tryz.prog 100 #[.string s] w fun e w' => e = .returned (.tuple #[.string ⟨#[]⟩, .int .i64 3]) ∧ w = w' := by
  go_enter Tryz.func100, Tryz.ntmps100
  go_wp2
  go_ret2
  exact ⟨rfl, rfl⟩

set_option maxHeartbeats 1000000 in
set_option maxRecDepth 100000 in
theorem reflist_any (a : Option Addr) (cap : Nat) (ss : List ByteArray) (h : ss.length ≤ 4096) (w : World) (hrow : StrRow w a ss) :
    Calls Tryz.prog 74 #[.slice a ss.length cap] w fun e w' => ListEnd ss e ∧ Below w.heap.size w w' := by
  have hlen := Lib.uvarint_length64 (x := ss.length) (by omega)
  go_enter Tryz.func74, Tryz.ntmps74
  go_wp2_with fail
  refine (refnum_ok ss.length (by omega) w).mono ?_
  rintro e w1 ⟨rfl, hb1⟩
  go_wp2
  go_loopw [4, 6] (fun o i wr => ∃ k : Nat, k ≤ ss.length ∧ i = .int .i64 k ∧ (∀ s ∈ ss.take k, s.size ≤ 65536) ∧ o = .string ⟨(Lib.uvarint ss.length ++ encTexts (ss.take k)).toArray⟩ ∧ Below w.heap.size w wr) (fun _ i _ => ss.length - (intOf i).toNat)
  case atStart => exact ⟨0, Nat.zero_le _, rfl, by simp, by simp [encTexts], hb1⟩
  case round =>
    obtain ⟨k, hk, rfl, hall, rfl, hb⟩ := hrel
    have hsz := hb.size
    by_cases hlt : k < ss.length
    · obtain ⟨b, off, rfl, hbl, hcells⟩ : ∃ b off, a = some ⟨b, off, none⟩ ∧ b < w.heap.size ∧ ∀ j, j < ss.length → w.cell? ⟨b, off + j, none⟩ = some (.string (ss.getD j ByteArray.empty)) := by
        rcases hrow with h0 | h1
        · subst h0; simp at hlt
        · exact h1
      have hck := (hb.cell (p := ⟨b, off + k, none⟩) hbl).trans (hcells k hlt)
      have hmem : ss.getD k ByteArray.empty ∈ ss := by rw [List.getD_eq_getElem?_getD, List.getElem?_eq_getElem hlt]; exact List.getElem_mem hlt
      have htk := encTexts_take ss k hlt
      have htl := encTexts_len (ss.take k) hall
      have hkl : (ss.take k).length = k := by simp; omega
      rw [hkl] at htl
      have hall' : (ss.getD k ByteArray.empty).size ≤ 65536 → ∀ s ∈ ss.take (k + 1), s.size ≤ 65536 := by
        intro h1 s hs
        rw [List.take_add_one, List.getElem?_eq_getElem hlt] at hs
        rcases List.mem_append.1 hs with hs | hs
        · exact hall s hs
        · simp at hs; subst hs; rw [List.getD_eq_getElem?_getD, List.getElem?_eq_getElem hlt] at h1; exact h1
      generalize ss.getD k ByteArray.empty = sk at hck hmem htk hall'
      have HTK := Lib.hid htk
      clear htk hkl
      have hsum : (ByteArray.mk (Lib.uvarint ss.length ++ encTexts (ss.take k)).toArray).size = (Lib.uvarint ss.length).length + (encTexts (ss.take k)).length := by
        show (Lib.uvarint ss.length ++ encTexts (ss.take k)).length = _
        rw [List.length_append]
      have hj : (⟨(Lib.uvarint ss.length ++ encTexts (ss.take k)).toArray⟩ : ByteArray) ++ ⟨(Lib.uvarint sk.size ++ sk.data.toList).toArray⟩ = ⟨(Lib.uvarint ss.length ++ encTexts (ss.take (k + 1))).toArray⟩ := by
        rw [append_str, List.append_assoc, ← HTK.out]
      generalize (⟨(Lib.uvarint ss.length ++ encTexts (ss.take k)).toArray⟩ : ByteArray) = o at hsum hj ⊢
      have HJ := Lib.hid hj
      have hos : o.size ≤ 500000000 := by omega
      clear hsum hj
      by_cases hbig : 65536 < sk.size
      · go_wp2_with fail
        refine (reftext_err sk hbig wr).mono ?_
        rintro e w2 ⟨rfl, rfl⟩
        go_wp2
        go_ret2
        exact ⟨.inl ⟨⟨sk, hmem, hbig⟩, rfl⟩, hb⟩
      · have hul := Lib.uvarint_length64 (x := sk.size) (by omega)
        go_wp2_with fail
        refine (reftext_ok sk (by omega) wr).mono ?_
        rintro e w2 ⟨rfl, hb2⟩
        have hps : (ByteArray.mk (Lib.uvarint sk.size ++ sk.data.toList).toArray).size ≤ 70000 := by
          show (Lib.uvarint sk.size ++ sk.data.toList).length ≤ _
          have h4 : sk.data.toList.length = sk.size := by simp
          rw [List.length_append, h4]; omega
        have HJ2 := HJ.out
        generalize (⟨(Lib.uvarint sk.size ++ sk.data.toList).toArray⟩ : ByteArray) = piece at hps HJ2 ⊢
        have HJ3 := Lib.hid HJ2
        clear HJ2
        have hadd := run_string_add_sum (P := Tryz.prog) (w := w2) o piece (by omega)
        go_wp2
        go_roundw
        case rel => exact ⟨k + 1, by omega, by go_num, hall' (by omega), by rw [HJ3.out], hb.trans (hb2.mono (by omega))⟩
        case measure => simp [intOf]; omega
    · obtain rfl : k = ss.length := by omega
      rw [List.take_length] at hall ⊢
      go_wp2
      go_ret2
      exact ⟨.inr ⟨hall, rfl⟩, hb⟩
end Go.Proofs.YtmnblpjdiplioaaGreat

namespace Go.Proofs.YtmnblpjdiplioaaGreat
open Go.RowKit Go.Sort

/-- a manifest's bytes -/
def encL (m : Man) : List UInt8 := Lib.uvarint m.size.toNat ++ Lib.uvarint m.chunk.toNat ++ (Lib.uvarint m.ids.length ++ encTexts m.ids)
def putM (m : Man) : ByteArray × Int := if manE m = 0 then (⟨(encL m).toArray⟩, 0) else (⟨#[]⟩, manE m)

theorem ck_size {s : ByteArray} (h : ckE s = 0) : s.size = 64 := by
  unfold ckE at h
  split at h
  · assumption
  · cases h

theorem mk_app (a b : List UInt8) : (⟨a.toArray⟩ : ByteArray) ++ ⟨b.toArray⟩ = ⟨(a ++ b).toArray⟩ := by
  apply tl_inj
  simp [tl]

theorem encTexts_size {l : List ByteArray} (h : ∀ s ∈ l, s.size ≤ 5000) : (encTexts l).length ≤ l.length * 5010 := by
  induction l with
  | nil => simp [encTexts]
  | cons x r ih =>
    have h1 := h x (by simp)
    have h2 := ih (fun s hs => h s (by simp [hs]))
    have h3 := Lib.uvarint_length64 (x := x.size) (by omega)
    have e : x.data.toList.length = x.size := by simp
    simp only [encTexts, List.length_append, List.length_cons]
    omega

set_option maxHeartbeats 4000000 in
set_option maxRecDepth 100000 in
theorem putMR (m : Man) (a : Option Addr) (cap : Nat) (w : World) (h : MArg w m a) :
    Calls Tryz.prog 48 #[mv m (.slice a m.ids.length cap)] w fun e w' => e = .returned (.tuple #[.string (putM m).1, .int .i64 (putM m).2]) ∧ Below w.heap.size w w' := by
  obtain ⟨hbx, hbw⟩ := box_man w m (.slice a m.ids.length cap)
  have ha := h.below hbw
  have hmlen := h.len
  have h0 := hbx.c0
  have h1 := hbx.c1
  have h2 := hbx.c2
  have hk := hbx.lt
  have hck := fun W (hW : MArg W m a) => checkMR m a cap W hW
  have hsh := h.short
  have HA := Lib.hid ha
  have HB := Lib.hid hbw
  have HBX := Lib.hid hbx
  clear h ha hbw hbx
  by_cases he : manE m = 0
  case neg =>
    have hj : putM m = (⟨#[]⟩, manE m) := by unfold putM; rw [if_neg he]
    rw [hj]
    have hne : (manE m != 0) = true := by simp [he]
    generalize manE m = E at hck hne
    clear hj he HBX
    go_enter Tryz.func48, Tryz.ntmps48
    go_wp2_with fail
    refine (hck _ HA.out).mono ?_
    rintro e w1 ⟨rfl, hb1⟩
    have HB1 := Lib.hid (HB.out.trans (hb1.mono HB.out.size))
    clear hb1
    go_wp2_with fail
    go_ret2
    exact ⟨rfl, HB1.out⟩
  case pos =>
    obtain ⟨hz0, hz1, hil, hc0, hc1, hids, -⟩ := manE_ok he
    have hj : putM m = (⟨(encL m).toArray⟩, 0) := by unfold putM; rw [if_pos he]
    have HJ := Lib.hid hj
    rw [he] at hck
    have h64 : ∀ s ∈ m.ids, s.size ≤ 65536 := fun s hs => by have := ck_size (hids s hs); omega
    have hes := encTexts_size hsh
    obtain ⟨z, c, ids⟩ := m
    simp only at *
    obtain ⟨zn, rfl⟩ : ∃ n : Nat, z = n := ⟨z.toNat, by omega⟩
    obtain ⟨cn, rfl⟩ : ∃ n : Nat, c = n := ⟨c.toNat, by omega⟩
    have HH := Lib.hid h64
    have hu1 := Lib.uvarint_length64 (x := zn) (by omega)
    have hu2 := Lib.uvarint_length64 (x := cn) (by omega)
    have hu3 := Lib.uvarint_length64 (x := ids.length) (by omega)
    clear hj he hids hsh h64
    go_enter Tryz.func48, Tryz.ntmps48
    go_wp2_with fail
    refine (hck _ HA.out).mono ?_
    rintro e w1 ⟨rfl, hb1⟩
    have hbx1 := HBX.out.below hb1 hk
    have k0 := hbx1.c0
    have hk1 := hbx1.lt
    have HB1 := Lib.hid (HB.out.trans (hb1.mono HB.out.size))
    have HA1 := Lib.hid (HA.out.below hb1)
    have HBX1 := Lib.hid hbx1
    clear hb1 hbx1 HA HBX HB h0 h1 h2 hck
    go_wp2_with fail
    refine (refnum_ok zn (by omega) _).mono ?_
    rintro e w2 ⟨rfl, hb2⟩
    have hbx2 := HBX1.out.below hb2 hk1
    have k1 := hbx2.c1
    have hk2 := hbx2.lt
    have HB2 := Lib.hid (HB1.out.trans (hb2.mono HB1.out.size))
    have HA2 := Lib.hid (HA1.out.below hb2)
    have HBX2 := Lib.hid hbx2
    clear hb2 hbx2 HA1 HBX1 HB1 k0
    go_wp2_with fail
    refine (refnum_ok cn (by omega) _).mono ?_
    rintro e w3 ⟨rfl, hb3⟩
    have hbx3 := HBX2.out.below hb3 hk2
    have k2 := hbx3.c2
    have HB3 := Lib.hid (HB2.out.trans (hb3.mono HB2.out.size))
    have HA3 := Lib.hid (HA2.out.below hb3)
    clear hb3 hbx3 HA2 HBX2 HB2 k1
    go_wp2_with fail
    refine (reflist_any a cap ids hil _ HA3.out.row).mono ?_
    rintro e w4 ⟨hle, hb4⟩
    obtain rfl : e = .returned (.tuple #[.string ⟨(Lib.uvarint ids.length ++ encTexts ids).toArray⟩, .int .i64 0]) := by
      rcases hle with ⟨⟨s, hs, hh⟩, _⟩ | ⟨_, he⟩
      · have := HH.out s hs; omega
      · exact he
    have HB4 := Lib.hid (HB3.out.trans (hb4.mono HB3.out.size))
    clear hb4 hle
    have hle1 : (⟨(Lib.uvarint zn).toArray⟩ : ByteArray).size ≤ 10 := by simpa [ByteArray.size] using hu1
    have hle2 : (⟨(Lib.uvarint cn).toArray⟩ : ByteArray).size ≤ 10 := by simpa [ByteArray.size] using hu2
    have hle3 : (⟨(Lib.uvarint ids.length ++ encTexts ids).toArray⟩ : ByteArray).size ≤ 20530000 := by simp only [ByteArray.size, List.size_toArray, List.length_append]; omega
    have hle4 : ((⟨(Lib.uvarint zn).toArray⟩ : ByteArray) ++ ⟨(Lib.uvarint cn).toArray⟩).size ≤ 20 := by rw [ByteArray.size_append]; omega
    have hfin : (⟨(Lib.uvarint zn).toArray⟩ : ByteArray) ++ ⟨(Lib.uvarint cn).toArray⟩ ++ ⟨(Lib.uvarint ids.length ++ encTexts ids).toArray⟩ = (putM ⟨(zn : Int), (cn : Int), ids⟩).1 := by
      rw [HJ.out, mk_app, mk_app]; unfold encL; simp only [Int.toNat_natCast]
    have HF := Lib.hid hfin
    clear hfin
    generalize (⟨(Lib.uvarint zn).toArray⟩ : ByteArray) = x1 at *
    generalize (⟨(Lib.uvarint cn).toArray⟩ : ByteArray) = x2 at *
    generalize (⟨(Lib.uvarint ids.length ++ encTexts ids).toArray⟩ : ByteArray) = x3 at *
    go_wp2_with fail
    go_ret2
    exact ⟨by rw [HF.out, HJ.out]; rfl, HB4.out⟩
end Go.Proofs.YtmnblpjdiplioaaGreat

namespace Go.Proofs.YtmnblpjdiplioaaGreat
set_option linter.unusedSimpArgs false
set_option linter.unusedVariables false
set_option maxRecDepth 100000
open Go.RowKit Go.Sort

/-- is what is asked for not too great? -/
def fewO (o : Opp) : Bool := (decide (o.n.size ≤ 100) && decide (o.v.size ≤ 300)) && (decide (o.b.size ≤ 300) || (decide (32768 < o.b.size) && decide (o.b.size < 40000)))
set_option maxHeartbeats 8000000 in
theorem fewOC (o : Opp) (hn : o.n.size ≤ maxLen) (hv : o.v.size ≤ maxLen) (hb : o.b.size ≤ maxLen) (w : World) :
    Calls Tryz.prog 8 #[.agg (opc o)] w fun v w' => v = .returned (.bool (fewO o)) ∧ Go.RowKit.Below w.heap.size w w' := by
  have hb0 := lowA w (.cells (opc o) 25)
  have HO := Lib.hid (Blk.new w 25 (opc o))
  have HB := Lib.hid hb0
  have HV := Lib.hid (show fewO o = ((decide (o.n.size ≤ 100) && decide (o.v.size ≤ 300)) && (decide (o.b.size ≤ 300) || (decide (32768 < o.b.size) && decide (o.b.size < 40000)))) from rfl)
  unfold maxLen at hn hv hb
  clear hb0
  generalize fewO o = V at *
  go_enter Tryz.func8, Tryz.ntmps8
  go_upto_region 1 with fail
  change Code.wp _ _ _ _ (w.alloc (.cells (opc o) 25))
  generalize w.alloc (.cells (opc o) 25) = W at *
  have c1 : W.cell? ⟨w.heap.size, 1, none⟩ = some (.string o.n) := HO.out.cell rfl
  have c2 : W.cell? ⟨w.heap.size, 2, none⟩ = some (.string o.v) := HO.out.cell rfl
  have c4 : W.cell? ⟨w.heap.size, 4, none⟩ = some (.string o.b) := HO.out.cell rfl
  generalize o.n = n at *
  generalize o.v = v at *
  generalize o.b = b at *
  by_cases h1 : n.size ≤ 100
  case neg =>
    have d1 : decide ((n.size : Int) ≤ 100) = false := decide_eq_false (by omega)
    have d1' : decide (n.size ≤ 100) = false := decide_eq_false h1
    rw [d1'] at HV
    have HV2 := Lib.hid (show V = false from HV.out)
    clear HV h1
    go_wp2_with fail
    go_ret
    exact ⟨by rw [HV2.out]; rfl, HB.out⟩
  case pos =>
  have d1 : decide ((n.size : Int) ≤ 100) = true := decide_eq_true (by omega)
  rw [decide_eq_true h1] at HV
  by_cases h2 : v.size ≤ 300
  case neg =>
    have d2 : decide ((v.size : Int) ≤ 300) = false := decide_eq_false (by omega)
    have d2' : decide (v.size ≤ 300) = false := decide_eq_false h2
    rw [d2'] at HV
    have HV2 := Lib.hid (show V = false from HV.out)
    clear HV h1 h2
    go_wp2_with fail
    go_ret
    exact ⟨by rw [HV2.out]; rfl, HB.out⟩
  case pos =>
  have d2 : decide ((v.size : Int) ≤ 300) = true := decide_eq_true (by omega)
  rw [decide_eq_true h2] at HV
  by_cases h3 : b.size ≤ 300
  case pos =>
    have d3 : decide ((b.size : Int) ≤ 300) = true := decide_eq_true (by omega)
    rw [decide_eq_true h3] at HV
    have HV2 := Lib.hid (show V = true from HV.out)
    clear HV h1 h2 h3
    go_wp2_with fail
    go_ret
    exact ⟨by rw [HV2.out]; rfl, HB.out⟩
  case neg =>
  have d3 : decide ((b.size : Int) ≤ 300) = false := decide_eq_false (by omega)
  have d3' : decide (b.size ≤ 300) = false := decide_eq_false h3
  rw [d3'] at HV
  by_cases h4 : 32768 < b.size
  case neg =>
    have d4 : decide ((b.size : Int) > 32768) = false := decide_eq_false (by omega)
    have d4' : decide (32768 < b.size) = false := decide_eq_false h4
    rw [d4'] at HV
    have HV2 := Lib.hid (show V = false from HV.out)
    clear HV h1 h2 h3 h4
    go_wp2_with fail
    go_ret
    exact ⟨by rw [HV2.out]; rfl, HB.out⟩
  case pos =>
  have d4 : decide ((b.size : Int) > 32768) = true := decide_eq_true (by omega)
  rw [decide_eq_true h4] at HV
  have d5 : decide ((b.size : Int) < 40000) = decide (b.size < 40000) := by
    by_cases h : b.size < 40000
    · rw [decide_eq_true h, decide_eq_true (by omega)]
    · rw [decide_eq_false h, decide_eq_false (by omega)]
  have HV2 := Lib.hid (show V = decide (b.size < 40000) from HV.out)
  clear HV h1 h2 h3 h4
  go_wp2_with fail
  go_ret
  exact ⟨by rw [HV2.out]; rfl, HB.out⟩

/-- the bytes of a manifest of none -/
def manS : ByteArray := (putM ⟨0, 4, []⟩).1
set_option maxHeartbeats 8000000 in
theorem manOC (w : World) : Calls Tryz.prog 24 #[] w fun v w' => v = .returned (.string manS) ∧ Go.RowKit.Below w.heap.size w w' := by
  have HP := Lib.hid (putMR ⟨0, 4, []⟩ none 0 w ⟨.inl rfl, by simp [maxLen], by simp⟩)
  have HS := Lib.hid (show (putM ⟨0, 4, []⟩).1 = manS from rfl)
  generalize putM ⟨0, 4, []⟩ = P at *
  obtain ⟨P1, P2⟩ := P
  generalize manS = M at *
  go_enter Tryz.func24, Tryz.ntmps24
  go_wp2_with fail
  refine HP.out.mono ?_
  rintro v w1 ⟨rfl, hb1⟩
  have HB := Lib.hid hb1
  clear hb1 HP
  go_wp2_with fail
  go_ret
  exact ⟨by rw [← HS.out]; rfl, HB.out⟩
end Go.Proofs.YtmnblpjdiplioaaGreat

namespace Go.Proofs.YtmnblpjdiplioaaGreat
set_option linter.unusedSimpArgs false
set_option linter.unusedVariables false
set_option maxRecDepth 100000

def byA : ByteArray := ⟨#[97]⟩
def byX : ByteArray := ⟨#[120]⟩
def byY : ByteArray := ⟨#[121]⟩
def by0 : ByteArray := ⟨#[]⟩
def awO1 : Opp := ⟨1, byA, by0, 0, byX⟩
def awO2 : Opp := ⟨2, byA, byX, 0, by0⟩
def awO3 : Opp := ⟨6, byA, by0, 0, by0⟩
def awO4 : Opp := ⟨0, by0, by0, 0, by0⟩
def awO5 : Opp := ⟨2, byA, byX, 0, byY⟩
def awS1 : St := ⟨1, 0, 0⟩
def awS2 : St := ⟨2, 0, 0⟩
def awF1 : Ft := ⟨(0, 1), awS1, 1, byA, manS⟩
def awE1o : Dl := ⟨(0, 1), awS1, [awF1], []⟩
def awE2o : Dl := ⟨(0, 2), awS2, [⟨(0, 2), awS2, 3, byA, byX⟩], []⟩
def awE3o : Dl := ⟨(0, 2), awS2, [], [(0, 1)]⟩
theorem awO_1 : makeO [] awO1 0 (0, 1) awS1 manS = (awE1o, 0) := by decide +kernel
theorem awO_2 : makeO [awF1] awO2 0 (0, 2) awS2 by0 = (awE2o, 0) := by decide +kernel
theorem awO_3 : makeO [awF1] awO3 0 (0, 2) awS2 by0 = (awE3o, 0) := by decide +kernel
theorem awO_4 : makeO [] awO3 0 (0, 2) awS2 by0 = (zDl, 7) := by decide +kernel
theorem awO_5 : mayO [awF1] awO1 0 = 8 := by decide +kernel
theorem awO_6 : chkO awO4 = 1 := by decide +kernel
theorem awO_7 : chkO awO5 = 5 := by decide +kernel
theorem awO_v1 : ∀ f ∈ saysO awO1 (0, 1) awS1 manS, f.v.size ≤ 5000 := by decide +kernel
theorem awO_v2 : ∀ f ∈ saysO awO2 (0, 2) awS2 by0, f.v.size ≤ 5000 := by decide +kernel
theorem awO_v3 : ∀ f ∈ saysO awO3 (0, 2) awS2 by0, f.v.size ≤ 5000 := by decide +kernel
theorem awO_a1 : OpArg awO1 := ⟨by decide, by decide, by decide, by decide⟩
theorem awO_a2 : OpArg awO2 := ⟨by decide, by decide, by decide, by decide⟩
theorem awO_a3 : OpArg awO3 := ⟨by decide, by decide, by decide, by decide⟩
theorem awO_a4 : OpArg awO4 := ⟨by decide, by decide, by decide, by decide⟩
theorem awO_a5 : OpArg awO5 := ⟨by decide, by decide, by decide, by decide⟩
end Go.Proofs.YtmnblpjdiplioaaGreat

namespace Go.Proofs.YtmnblpjdiplioaaGreat
open Go.RowKit Go.Sort

theorem din_cells (w : World) (l : List Dt) : DIn (w.alloc (.cells (rowD l).toArray 36)) (some ⟨w.heap.size, 0, none⟩) l := by
  refine .inr ⟨w.heap.size, 0, rfl, by simp, fun j d hj => ?_⟩
  obtain ⟨h1, h2⟩ := rowD_at l j d hj
  refine ⟨?_, ?_⟩
  · rw [Joins.cell_of_block (heap_alloc_new w _)]; simpa using h1
  · rw [Joins.cell_of_block (heap_alloc_new w _)]; simpa using h2

/-- two rows of one's own, told apart, or the same -/
theorem same_any (x y : List Dt) (n m : Nat) (hn : x.length = n) (hm : y.length = m) (a b : Option Addr) (ca cb : Nat) (w : World) (hx : DIn w a x) (hy : DIn w b y) (hlx : n ≤ maxLen) (hly : m ≤ maxLen) (t : Bool) (ht : decide (x = y) = t) :
    Calls Tryz.prog 25 #[.slice a n ca, .slice b m cb] w fun e w' => e = .returned (.bool t) ∧ Below w.heap.size w w' := by
  subst hn hm ht
  exact (sameR x y a b ca cb w hx hy hlx hly).mono fun e w' ⟨h1, k, h2⟩ => ⟨h1, by rw [h2]; exact belowN (Below.refl _ _) k⟩
end Go.Proofs.YtmnblpjdiplioaaGreat
