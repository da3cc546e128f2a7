/-
  seglog: a log and its disk; drop, each.
-/
import Derived.Test.YtjimgncefeldbaaGreatDoorSegThose
namespace Go.Proofs.YtjimgncefeldbaaGreatDoor
open Go.RowKit Go.Sort

/-- A log, and its disk. -/
structure LW (a : Addr) (B D : Nat) (s : DS) (bl : List Nat) (L g : Nat) (base : ByteArray) (rv : Value) (en : Bool) (w : World) : Prop where
  sw : SW a B D s bl w
  log : LogC L D g base rv en w
  out : L ∉ bl
  lb : B ≤ L

theorem LW.keep {a : Addr} {B D L g : Nat} {s : DS} {bl : List Nat} {base : ByteArray} {rv : Value} {en : Bool} {w w' : World} (h : LW a B D s bl L g base rv en w) (hb : Below w.heap.size w w') : LW a B D s bl L g base rv en w' :=
  ⟨h.sw.keep hb, h.log.keep hb, h.out, h.lb⟩
theorem LW.step {a : Addr} {B D L g : Nat} {s s' : DS} {bl bl' : List Nat} {base : ByteArray} {rv : Value} {en : Bool} {w w' : World} (h : LW a B D s bl L g base rv en w) (hd : Disk B D s' bl' w') (hf : Fr bl bl' w w') : LW a B D s' bl' L g base rv en w' :=
  ⟨h.sw.step hd hf, h.log.fr hf h.out, hf.out h.log.lt h.out, h.lb⟩
theorem LW.set {a : Addr} {B D L g g' : Nat} {s : DS} {bl : List Nat} {base base' : ByteArray} {rv rv' : Value} {en en' : Bool} {w : World} (h : LW a B D s bl L g base rv en w) (i : Nat) (v : Value)
    (hl : LogC L D g' base' rv' en' (w.setCell ⟨L, i, none⟩ v)) : LW a B D s bl L g' base' rv' en' (w.setCell ⟨L, i, none⟩ v) :=
  ⟨h.sw.other (Fr.set L i v w) (fun k hk => by simp at hk; subst hk; exact h.lb) (fun k hk e => by simp at e; subst e; exact h.out hk), hl, h.out, h.lb⟩
/-- what a method leaves that does not turn its log -/
def Stays (a : Addr) (B D L g : Nat) (base : ByteArray) (rv : Value) (en : Bool) (n : Int) (s' : DS) (bl : List Nat) (w : World) (e : Ending) (w' : World) : Prop :=
  ∃ bl', e = .returned (.int .i64 n) ∧ LW a B D s' bl' L g base rv en w' ∧ Fr bl bl' w w'

theorem segDrop {a : Addr} {B D L g : Nat} {s : DS} {bl : List Nat} {base : ByteArray} {rv : Value} {en : Bool} (w : World) (h : LW a B D s bl L g base rv en w) (n : ByteArray) (s' : DS) (hr : dropS s n = (0, s')) :
    Calls Tryz.prog 51 #[sv D logB, .string n] w (Stays a B D L g base rv en 0 s' bl w) := by
  have hd := drop_any logB w h.sw n
  rw [hr] at hd
  refine hd.mono ?_
  rintro e w1 ⟨bl1, rfl, hd, hf⟩
  exact ⟨bl1, rfl, h.step hd hf, hf⟩

set_option maxHeartbeats 2000000 in
set_option maxRecDepth 100000 in
theorem each_any {a : Addr} {B D L g : Nat} {s : DS} {bl : List Nat} {base : ByteArray} {rv : Value} {en : Bool} (w : World) (h : LW a B D s bl L g base rv en w) (ra : Option Addr) (cap : Nat) (names : List ByteArray)
    (hrow : StrRow w ra names) (hout : ∀ b off, ra = some ⟨b, off, none⟩ → b ∉ bl) (hlen : names.length ≤ 100000) (s' : DS) (he : eachS s names = (0, s')) :
    Calls Tryz.prog 82 #[.slice ra names.length cap, .func (.func 51) #[sv D logB] #[]] w (Stays a B D L g base rv en 0 s' bl w) := by
  have HROW := Lib.hid (And.intro hrow hout)
  have H := Lib.hid h
  have HE := Lib.hid he
  have hent : ∀ args w, (callFunc 51 args).run Tryz.prog w = .ok (.enter 51 args) w := enters_of Tryz.func51 (by kernel_rfl) rfl
  clear h hrow he hout
  go_enter Tryz.func82, Tryz.ntmps82
  go_wp2_with fail
  go_loopw [10] (fun i wr => ∃ (k : Nat) (sk : DS) (bk : List Nat), k ≤ names.length ∧ i = .int .i64 k ∧ Hid (LW a B D sk bk L g base rv en wr ∧ Fr bl bk w wr ∧ eachS sk (names.drop k) = (0, s'))) (fun i _ => names.length - (intOf i).toNat)
  case atStart => exact ⟨0, s, bl, Nat.zero_le _, rfl, ⟨H.out, Fr.of_below (Below.refl _ _), by rw [List.drop_zero]; exact HE.out⟩⟩
  case round =>
    obtain ⟨k, sk, bk, hk, rfl, hh⟩ := hrel
    by_cases hlt : k < names.length
    · obtain ⟨b, off, rfl, hlt', hc⟩ : ∃ b off, ra = some ⟨b, off, none⟩ ∧ b < _ ∧ ∀ j, j < names.length → World.cell? _ ⟨b, off + j, none⟩ = some (.string (names.getD j ByteArray.empty)) := by
        rcases strRow_fr HROW.out.1 hh.out.2.1 HROW.out.2 with h | h
        · rw [h] at hlt; simp at hlt
        · exact h
      have hck := hc k hlt
      clear hc
      have hd : names.drop k = names.getD k ByteArray.empty :: names.drop (k + 1) := by rw [List.drop_eq_getElem_cons hlt, List.getD_eq_getElem?_getD, List.getElem?_eq_getElem hlt]; rfl
      generalize names.getD k ByteArray.empty = x at *
      obtain ⟨s1, h1, h2⟩ : ∃ s1, dropS sk x = (0, s1) ∧ eachS s1 (names.drop (k + 1)) = (0, s') := by
        have h0 := hh.out.2.2
        rw [hd] at h0
        unfold eachS at h0
        by_cases hz : (dropS sk x).1 = 0
        · rw [if_pos hz] at h0; exact ⟨_, Prod.ext hz rfl, h0⟩
        · rw [if_neg hz] at h0; exact absurd (by rw [h0]) hz
      have HC := Lib.hid (segDrop _ hh.out.1 x s1 h1)
      have H2 := Lib.hid h2
      clear h1 h2 hd
      go_wp2_with fail
      refine HC.out.mono ?_
      rintro e w1 ⟨bl1, rfl, hl1, hf1⟩
      have H3 := Lib.hid (show LW a B D s1 bl1 L g base rv en w1 ∧ Fr bl bl1 w w1 ∧ eachS s1 (names.drop (k + 1)) = (0, s') from ⟨hl1, hh.out.2.1.tr hf1, H2.out⟩)
      clear hl1 hf1 hck HC
      go_wp2_with fail
      go_roundw
      case rel => exact ⟨k + 1, s1, bl1, by omega, by go_num, H3⟩
      case measure => simp [intOf]; omega
    · obtain rfl : k = names.length := by omega
      have hz : sk = s' := by have := hh.out.2.2; rw [List.drop_length] at this; exact (Prod.mk.inj this).2
      have HZ := Lib.hid hz
      clear hz
      go_wp2_with fail
      go_ret
      exact ⟨bk, rfl, by rw [← HZ.out]; exact hh.out.1, hh.out.2.1⟩
end Go.Proofs.YtjimgncefeldbaaGreatDoor
