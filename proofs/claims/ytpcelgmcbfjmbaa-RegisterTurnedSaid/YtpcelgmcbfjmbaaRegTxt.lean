/-
  Rows of texts: appended to, and parts of them.
-/
import Derived.Test.YtpcelgmcbfjmbaaTextRow
import Derived.Test.YtpcelgmcbfjmbaaOwnS
import Derived.Test.YtpcelgmcbfjmbaaDiskRows
namespace Go.Proofs.Ytpcelgmcbfjmbaa
set_option linter.unusedSimpArgs false
set_option linter.unusedVariables false
set_option maxRecDepth 100000
open Go.RowKit Go.Sort

theorem str_eq (x y : ByteArray) : (x.toList == y.toList) = decide (x = y) := by
  by_cases h : x = y
  · simp [h]
  · have : x.toList ≠ y.toList := fun e => h (bytes_inj e)
    simp [h, this]
theorem OwnS.fin2 {B : Nat} {v : Value} {l : List ByteArray} {w : World} (h : OwnS B v l w) : ∃ a cap, v = .slice a l.length cap ∧ StrRow w a l ∧ l.length ≤ cap ∧ cap ≤ maxLen := by
  obtain ⟨a, cap, hv, hd, -⟩ := ownS_row h
  refine ⟨a, cap, hv, hd, ?_⟩
  rcases h.2 with ⟨rfl, h0⟩ | ⟨g, cap', cur, rfl, hB, hg, hn, hm, hs, htk⟩
  · injection hv with h1 h2 h3; subst h3; exact ⟨by omega, by simp [maxLen]⟩
  · injection hv with h1 h2 h3; subst h3; exact ⟨hn, hm⟩
theorem getD_at {l : List ByteArray} {j : Nat} (h : j < l.length) (d : ByteArray) : l.getD j d = l[j] := by simp [List.getD_eq_getElem?_getD, h]
theorem StrRow.take {w : World} {a : Option Addr} {l : List ByteArray} (h : StrRow w a l) (k : Nat) : StrRow w a (l.take k) := by
  rcases h with rfl | ⟨b, off, rfl, hlt, hc⟩
  · exact .inl (by simp)
  · refine .inr ⟨b, off, rfl, hlt, fun j hj => ?_⟩
    rw [List.length_take] at hj
    rw [hc j (by omega), getD_at (by omega), getD_at (by rw [List.length_take]; omega), List.getElem_take]
theorem StrRow.drop {w : World} {b off : Nat} {l : List ByteArray} (h : StrRow w (some ⟨b, off, none⟩) l) (k : Nat) : StrRow w (some ⟨b, off + k, none⟩) (l.drop k) := by
  rcases h with rfl | ⟨b', off', he, hlt, hc⟩
  · exact .inl (by simp)
  · injection he with he; injection he with h1 h2; subst h1 h2
    refine .inr ⟨b, off + k, rfl, hlt, fun j hj => ?_⟩
    rw [List.length_drop] at hj
    have := hc (k + j) (by omega)
    rw [show off + k + j = off + (k + j) by omega, this, getD_at (by omega), getD_at (by rw [List.length_drop]; omega), List.getElem_drop]
theorem StrRow.at {w : World} {a : Option Addr} {l : List ByteArray} (h : StrRow w a l) {j : Nat} {x : ByteArray} (hj : l[j]? = some x) : ∃ b off, a = some ⟨b, off, none⟩ ∧ b < w.heap.size ∧ w.cell? ⟨b, off + j, none⟩ = some (.string x) := by
  obtain ⟨hl, rfl⟩ := List.getElem?_eq_some_iff.1 hj
  rcases h with rfl | ⟨b, off, rfl, hlt, hc⟩
  · simp at hl
  · exact ⟨b, off, rfl, hlt, by rw [hc j hl, getD_at hl]⟩

theorem appX {w : World} {B c : Nat} {v : Value} {xs ys : List ByteArray} {p : Option Addr} (h : OwnS B v xs w) (hp : StrRow w p ys) (hb : B ≤ w.heap.size) (n : Nat) (hn : xs.length + ys.length = n) (hl : n ≤ 200000) :
    ∃ p' c' w', (Builtin.append_ #[30, 30] 30 #[v, .slice p ys.length c]).run Try.prog w = .ok (.slice p' n c') w' ∧ OwnS B (.slice p' n c') (xs ++ ys) w' ∧ Go.RowKit.Below B w w' := by
  obtain ⟨i0, hi, hz0, hz1, hz2⟩ := info_parts strInfo
  have hsrc : Src Try.prog 1 30 (.slice p ys.length c) ys.length (ys.map Value.string) w := by
    cases p with
    | none =>
      have : ys = [] := by
        rcases hp with h | ⟨_, _, h, _⟩
        · exact h
        · cases h
      subst this
      exact Src.ofNil _ Try.underlying30 c
    | some x =>
      refine Src.ofSlice _ Try.underlying30 x ys.length c _ (by simp) (fun j u hj => ?_) (fun u hu => by obtain ⟨s, _, rfl⟩ := List.mem_map.1 hu; rfl)
      rw [List.getElem?_map] at hj
      obtain ⟨s, hs, rfl⟩ := Option.map_eq_some_iff.1 hj
      obtain ⟨b, off, hbe, hlt, hc⟩ := hp.at hs
      obtain rfl := Option.some.inj hbe
      have e1 : (⟨b, off, none⟩ : Addr).add j = ⟨b, off + j, none⟩ := by cases j <;> simp [Addr.add]
      rw [e1]; exact hc
  obtain ⟨v', w', hr, ho, hg, -, -⟩ := run_append_sf (P := Try.prog) w B 30 30 30 9 i0 _ 1 16 Try.underlying30 hi hz0 hz1 hz2 rfl v xs.length (xs.map Value.string) h _ ys.length (ys.map Value.string) hsrc (by unfold maxLen; omega) (by omega) hb
  have ho' : OwnS B v' (xs ++ ys) w' := by
    unfold OwnS
    rw [List.length_append, List.map_append]
    exact ho
  obtain ⟨p', c', rfl, -, -⟩ := ho'.fin2
  rw [List.length_append, hn] at ho' hr
  exact ⟨p', c', w', hr, ho', (Below.refl _ _).grown hg hb (fun j hj => (World.ownsRow.lt h j hj).1)⟩

/-- a part of a row of texts, from its beginning -/
theorem takeX (a : Option Addr) (n cap k : Nat) (hk : k ≤ n) (hn : n ≤ cap) (_hc : cap ≤ maxLen) :
    ∃ p : Option Addr, (∀ W, (Instr.slice 30 (.slice a n cap) none (some (.int .i64 (k : Int))) none).run Try.prog W = .ok (.slice p k cap) W) ∧ ∀ W (l : List ByteArray), l.length = n → StrRow W a l → StrRow W p (l.take k) := by
  have ht := Try.underlying30
  have ht' : Try.prog.underlying 30 = some (.slice (Try.prog.elem 30)) := by simp [Program.elem, ht]
  have he : Try.prog.elem 30 = 9 := by simp [Program.elem, ht]
  refine ⟨a, fun W => ?_, fun W l hl h => h.take k⟩
  rw [run_slice_h W _ _ _ _ ht' .i64 _ (by omega) (by omega), he, Try.sizeOf9]
  by_cases h0 : cap = 0
  · simp [Result.andThen, sliced, h0]
  · cases a <;> simp [Result.andThen, sliced, h0, Addr.add]
/-- .. to its end -/
theorem dropX (a : Option Addr) (n cap k : Nat) (hk : k ≤ n) (hn : n ≤ cap) (_hc : cap ≤ maxLen) :
    ∃ p : Option Addr, (∀ W, (Instr.slice 30 (.slice a n cap) (some (.int .i64 (k : Int))) none none).run Try.prog W = .ok (.slice p (n - k) (cap - k)) W) ∧ ∀ W (l : List ByteArray), l.length = n → StrRow W a l → StrRow W p (l.drop k) := by
  have ht := Try.underlying30
  have ht' : Try.prog.underlying 30 = some (.slice (Try.prog.elem 30)) := by simp [Program.elem, ht]
  have he : Try.prog.elem 30 = 9 := by simp [Program.elem, ht]
  refine ⟨if cap = k then a else a.map (·.add (k * 1)), fun W => ?_, fun W l hl h => ?_⟩
  · rw [run_slice_l W _ _ _ _ ht' .i64 _ (by omega) (by omega), he, Try.sizeOf9]
    simp [Result.andThen, sliced]
  · by_cases h0 : cap = k
    · exact .inl (List.drop_of_length_le (by omega))
    · rw [if_neg h0]
      rcases id h with rfl | ⟨b, off, rfl, hlt, hc⟩
      · exact .inl (by simp)
      · have h2 := h.drop k
        have e1 : (⟨b, off, none⟩ : Addr).add (k * 1) = ⟨b, off + k, none⟩ := by simp only [Addr.add, Nat.mul_one]; split <;> simp_all
        rw [Option.map_some, e1]
        exact h2
end Go.Proofs.Ytpcelgmcbfjmbaa
