/-
  almonrylaw15: Few; a fact loaded where a guard stands.
  chunk: whether bytes may be cut, both sides.
  Cut: the program's and the document's.
-/
import Derived.Test.YtchnklekeinhiaaGreatGV33
import Derived.Test.YtchnklekeinhiaaGreatGV11
import Derived.Deep.Cut
import Derived.Deep.DeepCutAuto
import Derived.BigQuiet
import Derived.Great.BuildSlice
import Derived.Test.YtchnklekeinhiaaGreatGV05
import Derived.RangeFuncNested
import Derived.RangeFuncBound
import Derived.RangeFuncCalls
import Derived.RangeFuncLeaves
import Derived.RangeFuncBox
import Derived.Shelf.Abstract
import Derived.Shelf.RegionOpen
import Derived.WalkKit
import Derived.OwnWalkIn
import Derived.TacticsInMore
import Derived.LoopNIn
import Derived.LoopIn
import Derived.Maps.AppendAt
import Derived.Test.YtchnklekeinhiaaGreatGV04
namespace Go.Proofs.YtchnklekeinhiaaGreat
open Go.RowKit Go.Sort
set_option maxRecDepth 100000

def fewOk (f : Ft) : Prop := f.n.size ≤ 100 ∧ f.v.size ≤ 1000
instance (f : Ft) : Decidable (fewOk f) := inferInstanceAs (Decidable (_ ∧ _))
def fewP (l : List Ft) : Bool := decide (l.length ≤ 30 ∧ ∀ f ∈ l, fewOk f)
theorem fewP_ok {l : List Ft} (h : fewP l = true) : l.length ≤ 30 ∧ ∀ f ∈ l, fewOk f := of_decide_eq_true h
theorem fewP_v {l : List Ft} (h : fewP l = true) : ∀ f ∈ l, f.v.size ≤ 5000 := fun f hf => by have := ((fewP_ok h).2 f hf).2; omega

set_option maxHeartbeats 2000000 in
theorem ffewC (l : List Ft) (a : Option Addr) (cap : Nat) (w : World) (h : FIn w a l) (hl : l.length ≤ maxLen) (hs : ∀ f ∈ l, f.n.size ≤ maxLen ∧ f.v.size ≤ maxLen) :
    Calls Tryz.prog 5 #[.slice a l.length cap] w fun e w' => e = .returned (.bool (fewP l)) ∧ w = w' := by
  unfold maxLen at hl
  by_cases hbig : 30 < l.length
  · have hbi : (30 : Int) < (l.length : Int) := by omega
    rw [show fewP l = false from decide_eq_false (fun k => by omega)]
    clear h hs hbig
    go_enter Tryz.func5, Tryz.ntmps5
    go_wp2_with fail
    go_ret
    exact ⟨rfl, rfl⟩
  · have hbi : ¬ (30 : Int) < (l.length : Int) := by omega
    have H := Lib.hid h
    have HS := Lib.hid hs
    clear h hs
    go_enter Tryz.func5, Tryz.ntmps5
    go_wp2_with fail
    go_loopw [3] (fun i wr => ∃ k : Nat, k ≤ l.length ∧ i = .int .i64 k ∧ Hid (∀ j d, j < k → l[j]? = some d → fewOk d) ∧ w = wr) (fun i _ => l.length - (intOf i).toNat)
    case atStart => exact ⟨0, Nat.zero_le _, rfl, Lib.hid (fun j d hj => by omega), rfl⟩
    case round =>
      obtain ⟨k, hk, rfl, HK, rfl⟩ := hrel
      by_cases hlt : k < l.length
      · obtain ⟨d, hd⟩ : ∃ d, l[k]? = some d := ⟨_, List.getElem?_eq_getElem hlt⟩
        obtain ⟨b, off, rfl, hbl, c0⟩ := H.out.at hd
        have hi1 : (k : Int) < (l.length : Int) := by omega
        have hm : d ∈ l := List.mem_of_getElem? hd
        have c6 := c0 6 _ rfl
        have c7 := c0 7 _ rfl
        have hz := HS.out d hm
        unfold maxLen at hz
        have HD := Lib.hid hd
        have HM := Lib.hid hm
        clear c0 hd hm
        by_cases hn : 100 < d.n.size
        · have g1 : decide ((100 : Int) < (d.n.size : Int)) = true := by simp; omega
          have HF := Lib.hid (show fewP l = false from decide_eq_false (fun k => by have := (k.2 d HM.out).1; omega))
          clear hn
          go_wp2_with fail
          go_ret
          exact ⟨by rw [HF.out]; rfl, rfl⟩
        · have g1 : decide ((100 : Int) < (d.n.size : Int)) = false := by simp; omega
          by_cases hv : 1000 < d.v.size
          · have g2 : decide ((1000 : Int) < (d.v.size : Int)) = true := by simp; omega
            have HF := Lib.hid (show fewP l = false from decide_eq_false (fun k => by have := (k.2 d HM.out).2; omega))
            clear hn hv
            go_wp2_with fail
            go_ret
            exact ⟨by rw [HF.out]; rfl, rfl⟩
          · have g2 : decide ((1000 : Int) < (d.v.size : Int)) = false := by simp; omega
            have HK2 := Lib.hid (show ∀ j x, j < k + 1 → l[j]? = some x → fewOk x from fun j x hj hx => by
              rcases Nat.lt_or_ge j k with h1 | h1
              · exact HK.out j x h1 hx
              · obtain rfl : j = k := by omega
                rw [HD.out] at hx
                obtain rfl := Option.some.inj hx
                exact ⟨by omega, by omega⟩)
            clear hn hv HK
            go_wp2_with fail
            exact ⟨⟨k + 1, by omega, by go_num, HK2, trivial⟩, by simp [intOf]; omega⟩
      · have hi1 : ¬ (k : Int) < (l.length : Int) := by omega
        have HF := Lib.hid (show fewP l = true from decide_eq_true ⟨by omega, fun f hf => by
          obtain ⟨j, hj, hjf⟩ := List.mem_iff_getElem.1 hf
          exact HK.out j f (by omega) (by rw [List.getElem?_eq_getElem hj, hjf])⟩)
        go_wp2_with fail
        go_ret
        exact ⟨by rw [HF.out]; rfl, rfl⟩
end Go.Proofs.YtchnklekeinhiaaGreat

namespace Go.Proofs.YtchnklekeinhiaaGreat
open Go.RowKit Go.Shelf

/-- the error of so many bytes in pieces of this size -/
def cutE (a : Nat) (n : Int) : Int := if n < 1 ∨ 4096 < n then 1 else if 32768 < a ∨ 4096 < nP a n.toNat then 3 else 0

end Go.Proofs.YtchnklekeinhiaaGreat

namespace Go.Proofs.YtchnklekeinhiaaGreat
open Go.RowKit Go.Shelf

attribute [local go_sem] Oper.semAt_some

/-- the pieces, where there is no error -/
def cutL (s : ByteArray) (n : Int) : List ByteArray := if cutE s.size n = 0 then parts s n.toNat else []

theorem cutE_ok {a : Nat} {n : Int} (h : cutE a n = 0) : ∃ m : Nat, n = m ∧ 1 ≤ m ∧ m ≤ 4096 ∧ a ≤ 32768 ∧ nP a m ≤ 4096 := by
  unfold cutE at h
  split at h
  · cases h
  · split at h
    · cases h
    · obtain ⟨m, rfl⟩ : ∃ m : Nat, n = m := ⟨n.toNat, by omega⟩
      rw [Int.toNat_natCast] at *
      exact ⟨m, rfl, by omega, by omega, by omega, by omega⟩

/-- the texts of the pieces that have come -/
def vals (pre : List Pc) : List ByteArray := pre.map Subtype.val
theorem upto_append (s : ByteArray) (n k : Nat) : ((List.range (k + 1)).map (piece s n)).map Value.string = ((List.range k).map (piece s n)).map Value.string ++ [Value.string (piece s n k)] := by
  rw [List.range_succ, List.map_append, List.map_append]; rfl

set_option maxHeartbeats 2000000 in
set_option maxRecDepth 100000 in
/-- Cut, the document's -/
theorem cutR (s : ByteArray) (n : Int) (w : World) :
    Calls Tryz.prog 46 #[.string s, .int .i64 n] w fun e w' => ∃ v, e = .returned (.tuple #[v, .int .i64 (cutE s.size n)]) ∧ OwnS w.heap.size v (cutL s n) w' ∧ Below w.heap.size w w' := by
  obtain ⟨i0, hi, hz0, hz1, hz2⟩ := info_parts strInfo
  by_cases h1 : n < 1
  · have e : cutE s.size n = 1 := by unfold cutE; rw [if_pos (.inl h1)]
    have hl : cutL s n = [] := by unfold cutL; rw [if_neg (by rw [e]; decide)]
    rw [e, hl]
    have hd : decide (n < 1) = true := decide_eq_true h1
    clear h1 e hl
    go_enter Tryz.func46, Tryz.ntmps46
    go_wp2
    go_ret2
    exact ⟨_, rfl, ownS_nil _ _, Below.refl _ _⟩
  have hd1 : decide (n < 1) = false := decide_eq_false h1
  by_cases h2 : 4096 < n
  · have e : cutE s.size n = 1 := by unfold cutE; rw [if_pos (.inr h2)]
    have hl : cutL s n = [] := by unfold cutL; rw [if_neg (by rw [e]; decide)]
    rw [e, hl]
    have hd : decide (4096 < n) = true := decide_eq_true h2
    clear h1 h2 e hl
    go_enter Tryz.func46, Tryz.ntmps46
    go_wp2
    go_ret2
    exact ⟨_, rfl, ownS_nil _ _, Below.refl _ _⟩
  have hd2 : decide (4096 < n) = false := decide_eq_false h2
  obtain ⟨m, rfl⟩ : ∃ m : Nat, n = m := ⟨n.toNat, by omega⟩
  have e0 : cutE s.size (m : Int) = if 32768 < s.size ∨ 4096 < nP s.size m then 3 else 0 := by unfold cutE; rw [if_neg (by omega), Int.toNat_natCast]
  by_cases h3 : 32768 < s.size
  · have e : cutE s.size (m : Int) = 3 := by rw [e0, if_pos (.inl h3)]
    have hl : cutL s (m : Int) = [] := by unfold cutL; rw [if_neg (by rw [e]; decide)]
    rw [e, hl]
    have hd : decide ((32768 : Int) < (s.size : Int)) = true := by simp; omega
    clear h1 h2 h3 e hl e0
    go_enter Tryz.func46, Tryz.ntmps46
    go_wp2
    go_ret2
    exact ⟨_, rfl, ownS_nil _ _, Below.refl _ _⟩
  have hd3 : decide ((32768 : Int) < (s.size : Int)) = false := by simp; omega
  have hm := fun W => manyR s.size m (by omega) (by omega) (by omega) W
  by_cases h4 : 4096 < nP s.size m
  · have e : cutE s.size (m : Int) = 3 := by rw [e0, if_pos (.inr h4)]
    have hl : cutL s (m : Int) = [] := by unfold cutL; rw [if_neg (by rw [e]; decide)]
    rw [e, hl]
    have hd : decide ((4096 : Int) < ((nP s.size m : Nat) : Int)) = true := by simp; omega
    clear h1 h2 h3 e hl e0
    go_enter Tryz.func46, Tryz.ntmps46
    go_wp2_with (go_at_call 73; refine (hm _).mono ?_; rintro e w1 ⟨rfl, rfl⟩)
    go_ret2
    exact ⟨_, rfl, ownS_nil _ _, Below.refl _ _⟩
  have hd4 : decide ((4096 : Int) < ((nP s.size m : Nat) : Int)) = false := by simp; omega
  have e : cutE s.size (m : Int) = 0 := by rw [e0, if_neg (by omega)]
  have hl : cutL s (m : Int) = parts s m := by unfold cutL; rw [if_pos e, Int.toNat_natCast]
  rw [e, hl]
  have hN := Lib.hid (Nat.le_of_not_lt h4)
  have hm1 : 1 ≤ m := by omega
  have hm2 : m ≤ 4096 := by omega
  clear h1 h2 h4 e hl e0
  go_enter Tryz.func46, Tryz.ntmps46
  go_wp2_with (go_at_call 73; refine (hm _).mono ?_; rintro e w1 ⟨rfl, rfl⟩)
  go_loopw [6, 7] (fun o i wr => ∃ k : Nat, k ≤ nP s.size m ∧ i = .int .i64 ((k * m : Nat) : Int) ∧ wr.ownsRow w.heap.size 9 1 o k (((List.range k).map (piece s m)).map Value.string) ∧ Below w.heap.size w wr) (fun _ i _ => s.size - (intOf i).toNat)
  case atStart => exact ⟨0, Nat.zero_le _, by simp, World.ownsRow_nil _ _ _ _, Below.refl _ _⟩
  case round =>
    obtain ⟨k, hk, rfl, hown, hb⟩ := hrel
    have hbs := hb.size
    by_cases hlt : k * m < s.size
    · have hk' : k < nP s.size m := (lt_nP hm1).2 hlt
      have he : piece s m k = s.extract (k * m) (min (s.size : Int) ((k : Int) * (m : Int) + (m : Int))).toNat := by
        have e1 : (k : Int) * (m : Int) = ((k * m : Nat) : Int) := by simp
        rw [e1]
        show s.extract (k * m) _ = _
        congr 1
        omega
      go_wp2_with (at_builtin; refine wpList_append_own _ rfl _ _ 25 rfl w.heap.size 9 i0 (.string ByteArray.empty) 1 16 Tryz.underlying25 hi hz0 hz1 hz2 rfl (by decide) _ _ _ rfl (World.ownsRow.alloc hown _) ⟨wr.heap.size, 0, none⟩ 1 1 [Value.string (piece s m k)] rfl rfl ?c1 ?c2 ?c3 ?c4 ?c5 ?_)
      case c1 =>
        intro j u hj
        match j, hj with
        | 0, hj => simp at hj; subst hj; rw [he]; simp [Addr.add]
      case c2 => intro u hu; simp at hu; subst hu; rfl
      case c3 => have := hN.out; unfold maxLen; omega
      case c4 => have := hN.out; omega
      case c5 => simp; omega
      intro v' w3 hown3 hg3 _
      have hb3 : Below w.heap.size w w3 := (hb.alloc hbs _).grown hg3 (by simp; omega) (fun j hj => (World.ownsRow.lt hown j hj).1)
      have hown4 : w3.ownsRow w.heap.size 9 1 v' (k + 1) (((List.range (k + 1)).map (piece s m)).map Value.string) := by rw [upto_append, he, List.map_map]; exact hown3
      clear hown3 hg3 he
      go_wp2
      go_roundw
      case rel => exact ⟨k + 1, by omega, by simp [Nat.succ_mul], hown4, hb3⟩
      case measure => simp [intOf]; omega
    · obtain rfl : k = nP s.size m := by
        have := (lt_nP (a := s.size) (k := k) hm1)
        omega
      go_wp2
      go_ret2
      exact ⟨_, rfl, by unfold OwnS; rw [parts_length]; exact hown, hb⟩
end Go.Proofs.YtchnklekeinhiaaGreat
