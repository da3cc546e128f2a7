/-
  almonryref01.Texts: are two lists of texts the same?
-/
import Derived.Test.YtpcelgmcbfjmbaaWireText
import Derived.Deep.QuietTactic
import Derived.BigQuiet
namespace Go.Proofs.Ytpcelgmcbfjmbaa
open Go.RowKit

theorem StrRow.drewN {w : World} {a : Option Addr} {ss : List ByteArray} (h : StrRow w a ss) (n : Nat) : StrRow (w.drewN n) a ss := by
  rcases h with h | ⟨b, off, rfl, hlt, hc⟩
  · exact .inl h
  · exact .inr ⟨b, off, rfl, hlt, fun j hj => hc j hj⟩

theorem bytes_inj {x y : ByteArray} (h : x.toList = y.toList) : x = y := by
  rw [ByteArray.toList_eq, ByteArray.toList_eq] at h
  exact ByteArray.ext (Array.toList_inj.1 h)
theorem bytes_eq {x y : ByteArray} (h : (!x.toList == y.toList) = false) : x = y := bytes_inj (by simpa using h)
theorem bytes_ne {x y : ByteArray} (h : (!x.toList == y.toList) = true) : x ≠ y := fun e => by subst e; simp at h

/-- what Texts answers -/
def TextsEnd (xs ys : List ByteArray) (w : World) (e : Ending) (w' : World) : Prop := e = .returned (.bool (decide (xs = ys))) ∧ ∃ n, w' = w.drewN n

theorem drewN_drewN (w : World) (a b : Nat) : (w.drewN a).drewN b = w.drewN (a + b) := by simp [World.drewN, Nat.add_assoc]

set_option maxHeartbeats 1000000 in
set_option maxRecDepth 100000 in
theorem texts_any (a b : Option Addr) (ca cb : Nat) (xs ys : List ByteArray) (w : World) (ha : StrRow w a xs) (hb : StrRow w b ys) (hla : xs.length ≤ maxLen) (hlb : ys.length ≤ maxLen) :
    Calls Try.prog 13 #[.slice a xs.length ca, .slice b ys.length cb] w (TextsEnd xs ys w) := by
  unfold maxLen at hla hlb
  by_cases hl : xs.length = ys.length
  · have hne : ((xs.length : Int) != (ys.length : Int)) = false := by simp [hl]
    have HL := Lib.hid hl
    clear hl
    go_enter Try.func13, Try.ntmps13
    go_wp2
    go_loopw [5] (fun i wr => ∃ k n : Nat, i = .int .i64 k ∧ k ≤ xs.length ∧ xs.take k = ys.take k ∧ wr = w.drewN n) (fun i _ => xs.length - (intOf i).toNat)
    case atStart => exact ⟨0, 0, rfl, Nat.zero_le _, rfl, rfl⟩
    case round =>
      obtain ⟨k, n, rfl, hk, heq, rfl⟩ := hrel
      have HQ := Lib.hid heq
      clear heq
      by_cases hlt : k < xs.length
      · have hlt2 : k < ys.length := by have := HL.out; omega
        obtain ⟨ba, oa, rfl, hla1, hca⟩ : ∃ b off, a = some ⟨b, off, none⟩ ∧ b < w.heap.size ∧ ∀ j, j < xs.length → w.cell? ⟨b, off + j, none⟩ = some (.string (xs.getD j ByteArray.empty)) := by
          rcases ha with h0 | h1
          · subst h0; simp at hlt
          · exact h1
        obtain ⟨bb, ob, rfl, hlb1, hcb⟩ : ∃ b' off, b = some ⟨b', off, none⟩ ∧ b' < w.heap.size ∧ ∀ j, j < ys.length → w.cell? ⟨b', off + j, none⟩ = some (.string (ys.getD j ByteArray.empty)) := by
          rcases hb with h0 | h1
          · subst h0; simp at hlt2
          · exact h1
        have h1 := hca k hlt
        have h2 := hcb k hlt2
        have e1 : xs.take (k + 1) = xs.take k ++ [xs.getD k ByteArray.empty] := by rw [List.take_add_one, List.getElem?_eq_getElem hlt, List.getD_eq_getElem?_getD, List.getElem?_eq_getElem hlt]; rfl
        have e2 : ys.take (k + 1) = ys.take k ++ [ys.getD k ByteArray.empty] := by rw [List.take_add_one, List.getElem?_eq_getElem hlt2, List.getD_eq_getElem?_getD, List.getElem?_eq_getElem hlt2]; rfl
        clear hca hcb ha hb
        generalize xs.getD k ByteArray.empty = x at h1 e1
        generalize ys.getD k ByteArray.empty = y at h2 e2
        have E1 := Lib.hid e1
        have E2 := Lib.hid e2
        clear e1 e2
        have hi1 : (k : Int) < (xs.length : Int) := by omega
        have hi2 : (k : Int) < (ys.length : Int) := by omega
        go_wp2
        go_quiet (fail)
        go_wp2
        · have hd : (!x.toList == y.toList) = true := by assumption
          go_ret
          refine ⟨?_, _, drewN_drewN _ _ _⟩
          have hne : xs ≠ ys := fun e => by
            have h3 := E1.out
            rw [e, E2.out, ← e, HQ.out] at h3
            exact bytes_ne hd (by simpa using h3.symm)
          rw [decide_eq_false hne]; rfl
        · have hd : (!x.toList == y.toList) = false := by assumption
          have hxy := bytes_eq hd
          go_roundw
          case rel => exact ⟨k + 1, _, by go_num, by omega, by rw [E1.out, E2.out, HQ.out, hxy], rfl⟩
          case measure => simp [intOf]; omega
      · go_wp2
        go_ret
        refine ⟨?_, _, rfl⟩
        have h3 := HQ.out
        have hk2 : k = xs.length := by omega
        rw [hk2, List.take_length, HL.out, List.take_length] at h3
        rw [decide_eq_true h3]; rfl
  · have hne : ((xs.length : Int) != (ys.length : Int)) = true := by simp; omega
    have HL := Lib.hid hl
    clear hl
    go_enter Try.func13, Try.ntmps13
    go_wp2
    go_ret
    refine ⟨?_, 0, rfl⟩
    rw [decide_eq_false fun e => HL.out (by rw [e])]; rfl
end Go.Proofs.Ytpcelgmcbfjmbaa
