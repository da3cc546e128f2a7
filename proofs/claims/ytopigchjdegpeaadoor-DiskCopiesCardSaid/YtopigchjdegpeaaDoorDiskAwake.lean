/-
  almonrylaw06.awake returns true.
-/
import Derived.Test.YtopigchjdegpeaaDoorDiskApi
import Derived.Test.YtopigchjdegpeaaDoorDiskTexts
namespace Go.Proofs.YtopigchjdegpeaaDoor
open Go.RowKit

/-- A disk of the call's own, in the midst of a call that began at w0. -/
structure AW (a : Addr) (w0 : World) (D : Nat) (s : DS) (bl : List Nat) (w : World) : Prop where
  below : Below w0.heap.size w0 w
  pow : Pow a w
  disk : Disk w0.heap.size D s bl w
  glob : 0 < w0.heap.size

def AWActs (a : Addr) (w0 : World) (D : Nat) (bl : List Nat) (r : Int × DS) (w : World) (e : Ending) (w' : World) : Prop := ∃ bl', e = .returned (.int .i64 r.1) ∧ AW a w0 D r.2 bl' w' ∧ Fr bl bl' w w'
def AWTurns (a : Addr) (w0 : World) (D : Nat) (bl : List Nat) (s : DS) (w : World) (e : Ending) (w' : World) : Prop := ∃ bl', e = .returned (.tuple #[]) ∧ AW a w0 D s bl' w' ∧ Fr bl bl' w w'

theorem AW.step {a : Addr} {w0 : World} {D : Nat} {s s' : DS} {bl bl' : List Nat} {w w' : World} (h : AW a w0 D s bl w) (hd : Disk w0.heap.size D s' bl' w') (hf : Fr bl bl' w w') : AW a w0 D s' bl' w' :=
  have hb : Below w0.heap.size w w' := hf.below (fun k hk => (h.disk.lt k hk).1) h.below.size
  ⟨h.below.trans hb, h.pow.below hb h.glob, hd, h.glob⟩
theorem AW.keep {a : Addr} {w0 : World} {D : Nat} {s : DS} {bl : List Nat} {w w' : World} (h : AW a w0 D s bl w) (hb : Below w.heap.size w w') : AW a w0 D s bl w' :=
  ⟨h.below.trans (hb.mono h.below.size), h.pow.below hb h.pow.lt, h.disk.keep hb, h.glob⟩
theorem AW.acts {a : Addr} {w0 : World} {D : Nat} {s : DS} {bl : List Nat} {w w' : World} {r : Int × DS} {e : Ending} (h : AW a w0 D s bl w) (hp : Acts w0.heap.size D bl r w e w') : AWActs a w0 D bl r w e w' := by
  obtain ⟨bl', he, hd, hf⟩ := hp
  exact ⟨bl', he, h.step hd hf, hf⟩
theorem AW.turns {a : Addr} {w0 : World} {D : Nat} {s s' : DS} {bl : List Nat} {w w' : World} {e : Ending} (h : AW a w0 D s bl w) (hp : Turns w0.heap.size D bl s' w e w') : AWTurns a w0 D bl s' w e w' := by
  obtain ⟨bl', he, hd, hf⟩ := hp
  exact ⟨bl', he, h.step hd hf, hf⟩
theorem aAppend {a : Addr} {w0 : World} {D : Nat} {s : DS} {bl : List Nat} {w : World} (h : AW a w0 D s bl w) (n t : ByteArray) (r : Int × DS) (hr : appendS s n t = r) (hsn : n.size ≤ 9223372036854775807) (hst : t.size ≤ 9223372036854775807) :
    Calls Tryd.prog 15 #[.pointer (some ⟨D, 0, none⟩), .string n, .string t] w (AWActs a w0 D bl r w) := by
  subst hr; exact (dAppend h.disk n t a h.pow h.glob hsn hst).mono fun e w' => h.acts
theorem aSync {a : Addr} {w0 : World} {D : Nat} {s : DS} {bl : List Nat} {w : World} (h : AW a w0 D s bl w) (n : ByteArray) (r : Int × DS) (hr : syncS s n = r) :
    Calls Tryd.prog 16 #[.pointer (some ⟨D, 0, none⟩), .string n] w (AWActs a w0 D bl r w) := by
  subst hr; exact (dSync h.disk n a h.pow h.glob).mono fun e w' => h.acts
theorem aRemove {a : Addr} {w0 : World} {D : Nat} {s : DS} {bl : List Nat} {w : World} (h : AW a w0 D s bl w) (n : ByteArray) (r : Int × DS) (hr : removeS s n = r) :
    Calls Tryd.prog 23 #[.pointer (some ⟨D, 0, none⟩), .string n] w (AWActs a w0 D bl r w) := by
  subst hr; exact (dRemove h.disk n a h.pow h.glob).mono fun e w' => h.acts
theorem aRename {a : Addr} {w0 : World} {D : Nat} {s : DS} {bl : List Nat} {w : World} (h : AW a w0 D s bl w) (n t : ByteArray) (r : Int × DS) (hr : renameS s n t = r) (hst : t.size ≤ 9223372036854775807) :
    Calls Tryd.prog 20 #[.pointer (some ⟨D, 0, none⟩), .string n, .string t] w (AWActs a w0 D bl r w) := by
  subst hr; exact (dRename h.disk n t a h.pow h.glob hst).mono fun e w' => h.acts
theorem aFuse {a : Addr} {w0 : World} {D : Nat} {s : DS} {bl : List Nat} {w : World} (h : AW a w0 D s bl w) (n : Int) (r : DS) (hr : fuseS s n = r) (hn : n ≤ 9223372036854775807) :
    Calls Tryd.prog 19 #[.pointer (some ⟨D, 0, none⟩), .int .i64 n] w (AWTurns a w0 D bl r w) := by
  subst hr; exact (dFuse h.disk n hn).mono fun e w' => h.turns
theorem aCrash {a : Addr} {w0 : World} {D : Nat} {s : DS} {bl : List Nat} {w : World} (h : AW a w0 D s bl w) (n : Int) (r : DS) (hr : crashS s n = r) :
    Calls Tryd.prog 17 #[.pointer (some ⟨D, 0, none⟩), .int .i64 n] w (AWTurns a w0 D bl r w) := by
  subst hr; exact (dCrash h.disk n).mono fun e w' => h.turns
theorem aRead {a : Addr} {w0 : World} {D : Nat} {s : DS} {bl : List Nat} {w : World} (h : AW a w0 D s bl w) (n : ByteArray) (r : ByteArray × Int) (hr : readD s n = r) :
    Calls Tryd.prog 18 #[.pointer (some ⟨D, 0, none⟩), .string n] w fun e w' => e = .returned (.tuple #[.string r.1, .int .i64 r.2]) ∧ Below w.heap.size w w' := by
  subst hr; exact dRead h.disk n
theorem aOff {a : Addr} {w0 : World} {D : Nat} {s : DS} {bl : List Nat} {w : World} (h : AW a w0 D s bl w) (r : Bool) (hr : s.off = r) :
    Calls Tryd.prog 21 #[.pointer (some ⟨D, 0, none⟩)] w fun e w' => e = .returned (.bool r) ∧ w = w' := by
  subst hr; exact dOff h.disk
theorem aUsed {a : Addr} {w0 : World} {D : Nat} {s : DS} {bl : List Nat} {w : World} (h : AW a w0 D s bl w) (r : Int) (hr : (stotal s.l : Int) = r) :
    Calls Tryd.prog 22 #[.pointer (some ⟨D, 0, none⟩)] w fun e w' => e = .returned (.int .i64 r) ∧ Below w.heap.size w w' := by
  subst hr; exact dUsed h.disk

theorem AW.other {a : Addr} {w0 : World} {D D2 : Nat} {s2 s3 : DS} {bl bl' b2 : List Nat} {w w' : World} (h : AW a w0 D2 s2 b2 w) (hd : AW a w0 D s3 bl w) (hf : Fr bl bl' w w') (hn : ∀ k ∈ b2, k ∉ bl) : AW a w0 D2 s2 b2 w' ∧ ∀ k ∈ b2, k ∉ bl' := by
  have hb : Below w0.heap.size w w' := hf.below (fun k hk => (hd.disk.lt k hk).1) h.below.size
  obtain ⟨h1, h2⟩ := h.disk.other hf hn
  exact ⟨⟨h.below.trans hb, h.pow.below hb h.glob, h1, h.glob⟩, h2⟩

theorem AW.copied {a : Addr} {w0 : World} {D D2 : Nat} {s : DS} {bl b2 : List Nat} {w w' : World} (h : AW a w0 D s bl w) (hm : Made s w D2 b2 w') : AW a w0 D s bl w' ∧ AW a w0 D2 s b2 w' ∧ ∀ k ∈ b2, k ∉ bl := by
  have h1 := h.keep hm.2
  exact ⟨h1, ⟨h1.below, h1.pow, hm.1.le h.below.size, h.glob⟩, fun k hk hk2 => by have := (hm.1.lt k hk).1; have := (h.disk.lt k hk2).2; omega⟩

theorem OwnT.row {B : Nat} {v : Value} {l : List ByteArray} {w : World} (h : OwnT B v l w) : ∃ p c, v = .slice p l.length c ∧ StrRow w p l := by
  rcases h.2 with ⟨hv, h0⟩ | ⟨g, cap, cur, rfl, hb, hg, hnc, hcm, hcs, htake⟩
  · exact ⟨none, 0, by rw [h0]; exact hv, .inl (List.length_eq_zero_iff.1 h0)⟩
  · refine ⟨_, _, rfl, .inr ⟨g, 0, rfl, (Array.getElem?_eq_some_iff.1 hg).1, fun j hj => ?_⟩⟩
    rw [Nat.zero_add, World.ownsRow.cellAt h j (by omega), List.getElem?_map, List.getElem?_eq_getElem hj]
    simp [List.getD, List.getElem?_eq_getElem hj]

def sA (body : List UInt8) (sure : Nat) : DS := ⟨100, [⟨⟨#[97]⟩, body, sure⟩], false, false, 0⟩
def sB (off fused : Bool) : DS := ⟨100, [⟨⟨#[98]⟩, [120, 121, 122], 3⟩], off, fused, 0⟩

set_option maxHeartbeats 4000000 in
set_option maxRecDepth 100000 in
theorem diskAwake (a : Addr) (w : World) (hp : Pow a w) : Calls Tryd.prog 5 #[] w fun e w' => e = .returned (.bool true) ∧ Below w.heap.size w w' := by
  have HP := Lib.hid hp
  clear hp
  go_enter Tryd.func5, Tryd.ntmps5
  go_wp2_with fail
  refine (dNew 100 w (by omega)).mono ?_
  rintro e w1 ⟨bl, rfl, hm⟩
  have HW := Lib.hid (show AW a w w.heap.size (newS 100) bl w1 from ⟨hm.2, HP.out.below hm.2 HP.out.lt, hm.1, HP.out.lt⟩)
  clear hm
  go_wp2_with fail
  refine (new_no (-1) w1 (.inl (by omega))).mono ?_
  rintro e w2 ⟨rfl, rfl⟩
  go_wp2_with fail
  refine (aAppend HW.out ⟨#[97]⟩ ⟨#[120, 121]⟩ (0, sA [120, 121] 0) (by decide +kernel) (by decide) (by decide)).mono ?_
  rintro e w2 ⟨bl2, rfl, h2, -⟩
  have H2 := Lib.hid h2; clear h2
  go_wp2_with fail
  refine (aSync H2.out ⟨#[97]⟩ (0, sA [120, 121] 2) (by decide +kernel)).mono ?_
  rintro e w3 ⟨bl3, rfl, h3, -⟩
  have H3 := Lib.hid h3; clear h3
  go_wp2_with fail
  refine (aAppend H3.out ⟨#[97]⟩ ⟨#[122, 119]⟩ (0, sA [120, 121, 122, 119] 2) (by decide +kernel) (by decide) (by decide)).mono ?_
  rintro e w4 ⟨bl4, rfl, h4, -⟩
  have H4 := Lib.hid h4; clear h4
  go_wp2_with fail
  refine (aAppend H4.out ⟨#[65]⟩ ⟨#[120]⟩ (14, sA [120, 121, 122, 119] 2) (by decide +kernel) (by decide) (by decide)).mono ?_
  rintro e w5 ⟨bl5, rfl, h5, -⟩
  have H5 := Lib.hid h5; clear h5
  go_wp2_with fail
  refine (dCopy H5.out.disk).mono ?_
  rintro e w6 ⟨D2, b2, rfl, hm⟩
  have H6 := Lib.hid (H5.out.copied hm)
  clear hm
  go_wp2_with fail
  refine (aCrash H6.out.1 1 (sA [120, 121, 122] 3) (by decide +kernel)).mono ?_
  rintro e w7 ⟨bl7, rfl, h7, f7⟩
  have H7 := Lib.hid (And.intro h7 (H6.out.2.1.other H6.out.1 f7 H6.out.2.2))
  clear h7 f7
  go_wp2_with fail
  refine (aRead H7.out.1 ⟨#[97]⟩ (⟨#[120, 121, 122]⟩, 0) (by decide +kernel)).mono ?_
  rintro e w8 ⟨rfl, hb8⟩
  have H8 := Lib.hid (And.intro (H7.out.1.keep hb8) (And.intro (H7.out.2.1.keep hb8) H7.out.2.2))
  clear hb8
  go_wp2_with fail
  refine (aFuse H8.out.1 1 ⟨100, [⟨⟨#[97]⟩, [120, 121, 122], 3⟩], false, true, 1⟩ (by decide +kernel) (by omega)).mono ?_
  rintro e w9 ⟨bl9, rfl, h9, f9⟩
  have H9 := Lib.hid (And.intro h9 (H8.out.2.1.other H8.out.1 f9 H8.out.2.2))
  clear h9 f9
  go_wp2_with fail
  refine (aRename H9.out.1 ⟨#[97]⟩ ⟨#[98]⟩ (0, sB false true) (by decide +kernel) (by decide)).mono ?_
  rintro e w10 ⟨bl10, rfl, h10, f10⟩
  have H10 := Lib.hid (And.intro h10 (H9.out.2.1.other H9.out.1 f10 H9.out.2.2))
  clear h10 f10
  go_wp2_with fail
  refine (aSync H10.out.1 ⟨#[98]⟩ (10, sB true true) (by decide +kernel)).mono ?_
  rintro e w11 ⟨bl11, rfl, h11, f11⟩
  have H11 := Lib.hid (And.intro h11 (H10.out.2.1.other H10.out.1 f11 H10.out.2.2))
  clear h11 f11
  go_wp2_with fail
  refine (aOff H11.out.1 true rfl).mono ?_
  rintro e w12 ⟨rfl, rfl⟩
  go_wp2_with fail
  refine (aRead H11.out.1 ⟨#[98]⟩ (⟨#[]⟩, 10) (by decide +kernel)).mono ?_
  rintro e w12 ⟨rfl, hb12⟩
  have H12 := Lib.hid (And.intro (H11.out.1.keep hb12) (And.intro (H11.out.2.1.keep hb12) H11.out.2.2))
  clear hb12
  go_wp2_with fail
  refine (aCrash H12.out.1 0 (sB false false) (by decide +kernel)).mono ?_
  rintro e w13 ⟨bl13, rfl, h13, f13⟩
  have H13 := Lib.hid (And.intro h13 (H12.out.2.1.other H12.out.1 f13 H12.out.2.2))
  clear h13 f13
  go_wp2_with fail
  refine (aRead H13.out.2.1 ⟨#[97]⟩ (⟨#[120, 121, 122, 119]⟩, 0) (by decide +kernel)).mono ?_
  rintro e w14 ⟨rfl, hb14⟩
  have H14 := Lib.hid (H13.out.1.keep hb14)
  clear hb14
  go_wp2_with fail
  refine (aOff H14.out false rfl).mono ?_
  rintro e w15 ⟨rfl, rfl⟩
  go_wp2_with fail
  refine (aUsed H14.out 3 (by decide +kernel)).mono ?_
  rintro e w15 ⟨rfl, hb15⟩
  have H15 := Lib.hid (H14.out.keep hb15)
  clear hb15
  go_wp2_with fail
  refine (dList H15.out.disk ⟨#[98]⟩).mono ?_
  rintro e w16 ⟨v, rfl, ho, hb16⟩
  rw [show listD (sB false false) ⟨#[98]⟩ = [⟨#[98]⟩] by decide +kernel] at ho
  obtain ⟨p, c, rfl, hrow⟩ := ho.row
  have H16 := Lib.hid (H15.out.keep hb16)
  have HR := Lib.hid hrow
  clear ho hb16 hrow
  go_wp2_with fail
  have h17 := H16.out.keep (Joins.below_alloc1 w16 (.cells #[.string ⟨#[98]⟩] 9))
  have hrow2 : StrRow (w16.alloc (.cells #[.string ⟨#[98]⟩] 9)) (some ⟨w16.heap.size, 0, none⟩) [⟨#[98]⟩] := by
    refine .inr ⟨w16.heap.size, 0, rfl, by simp, fun j hj => ?_⟩
    have : j = 0 := by simp at hj; omega
    subst this
    simp [go_sem]
  have hrow1 := StrRow.below HR.out (Joins.below_alloc1 w16 (.cells #[.string ⟨#[98]⟩] 9))
  have ht := texts_any p (some ⟨w16.heap.size, 0, none⟩) c 1 [⟨#[98]⟩] [⟨#[98]⟩] _ hrow1 hrow2 (by simp [maxLen]) (by simp [maxLen])
  have H17 := Lib.hid h17
  clear h17 hrow1 hrow2
  refine ht.mono ?_
  rintro e w18 ⟨rfl, nq, rfl⟩
  rw [show decide (([⟨#[98]⟩] : List ByteArray) = [⟨#[98]⟩]) = true by decide]
  have H18 := Lib.hid (H17.out.keep (Joins.below_draws _ _ nq))
  clear ht
  go_wp2_with fail
  refine (aRemove H18.out ⟨#[97]⟩ (7, sB false false) (by decide +kernel)).mono ?_
  rintro e w19 ⟨bl19, rfl, h19, -⟩
  have H19 := Lib.hid h19
  clear h19
  go_wp2_with fail
  go_ret
  exact ⟨rfl, H19.out.below⟩
end Go.Proofs.YtopigchjdegpeaaDoor
