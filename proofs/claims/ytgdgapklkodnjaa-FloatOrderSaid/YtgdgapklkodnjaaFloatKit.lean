/-
  How a float, and three numbers by value, that came in are opened.
-/
import Derived.Test.YtgdgapklkodnjaaFloatLaws
import Derived.Test.YtgdgapklkodnjaaKit
namespace Go.Proofs.Ytgdgapklkodnjaa
open Go.ChangeShapes Go.WideShapes Go.ChangeAt Go.RowKit

theorem open_float {H : Type} {enc : TypeId × Value → H} {P : Program} {w : World} {base b0 : Nat} {sp : Nat → Bool} {held : Bool} {r : Reach} {t : TypeId} {k : FloatKind} {v : Value} {d : DataW H} {ps : List MemPlace}
    (ht : P.underlying t = some (.float k)) (hval : Value.okWide P w r b0 t v) (hd : DataW.Trod enc P w base sp held t v d ps) :
    ∃ n, v = .float k n ∧ d = .lit (.float k n) ∧ ps = [] ∧ (Lit.float k n).wf = true := by
  have h1 : ∃ k' n, v = .float k' n := by
    simp only [Value.okWide, ht, Cell.okWide] at hval
    cases v <;> simp_all [Cell.ok]
  obtain ⟨k', n, rfl⟩ := h1
  obtain ⟨fuel, hf⟩ := hd
  cases fuel with
  | zero => simp [DataW.trod] at hf
  | succ m =>
    unfold DataW.trod at hf
    rw [ht] at hf
    simp [Value.cells] at hf
    obtain ⟨⟨rfl, hw⟩, rfl, rfl⟩ := hf
    exact ⟨n, rfl, rfl, rfl, hw⟩

theorem arr3 {cs : Array Value} (hs : cs.size = 3) (h : ∀ i, i < 3 → ∃ n : Nat, n < 18446744073709551616 ∧ cs[i]? = some (.int .u64 (n : Int))) :
    ∃ a b c : Nat, a < 18446744073709551616 ∧ b < 18446744073709551616 ∧ c < 18446744073709551616 ∧ cs = #[.int .u64 (a : Int), .int .u64 (b : Int), .int .u64 (c : Int)] := by
  obtain ⟨a, ha, h0⟩ := h 0 (by omega)
  obtain ⟨b, hb, h1⟩ := h 1 (by omega)
  obtain ⟨c, hc, h2⟩ := h 2 (by omega)
  refine ⟨a, b, c, ha, hb, hc, ?_⟩
  apply Array.ext_getElem?
  intro i
  have hi : i = 0 ∨ i = 1 ∨ i = 2 ∨ 3 ≤ i := by omega
  rcases hi with rfl | rfl | rfl | hi
  · rw [h0]; rfl
  · rw [h1]; rfl
  · rw [h2]; rfl
  · rw [Array.getElem?_eq_none (by omega), Array.getElem?_eq_none (by simpa using hi)]

theorem open_u64s3 {H : Type} {enc : TypeId × Value → H} {W : World} {base b0 : Nat} {sp : Nat → Bool} {held : Bool} {v : Value} {d : DataW H} {p : List MemPlace}
    (hv : Value.okWide Try.prog W .any base 36 v) (h : DataW.Trod enc Try.prog W b0 sp held 36 v d p) :
    ∃ a b c : Nat, a < 18446744073709551616 ∧ b < 18446744073709551616 ∧ c < 18446744073709551616 ∧ v = .agg #[.int .u64 (a : Int), .int .u64 (b : Int), .int .u64 (c : Int)] := by
  simp only [Value.okWide, Try.underlying36] at hv
  obtain ⟨cs, rfl, hsz, _⟩ := hv
  have hc3 : Try.prog.cellsOf 36 = 3 := by kernel_rfl
  have hc1 : Try.prog.cellsOf 23 = 1 := by kernel_rfl
  rw [hc3] at hsz
  obtain ⟨fuel, hf⟩ := h
  obtain ⟨xs, m, rfl, _, hl, hn, hel⟩ := DataW.trod_array Try.underlying36 hf
  have hcs : (Value.agg cs).cells.toList = cs.toList := rfl
  rw [hcs] at hel
  obtain ⟨a, b, c, ha, hb, hc, rfl⟩ := arr3 hsz (fun i hi => by
    have h1 := hel i hi
    rw [hc1, Nat.mul_one] at h1
    obtain ⟨y, hy⟩ : ∃ y, xs[i]? = some y := ⟨_, List.getElem?_eq_getElem (by omega)⟩
    rw [hy] at h1
    obtain ⟨z, hz, _, hwf⟩ := DataW.trod_int Try.underlying23 h1
    obtain ⟨x, hx, hlt⟩ := u64_nat hwf
    refine ⟨x, hlt, ?_⟩
    rw [← hx]
    have := congrArg (·[0]?) hz
    simpa [List.getElem?_take, List.getElem?_drop] using this)
  exact ⟨a, b, c, ha, hb, hc, rfl⟩
end Go.Proofs.Ytgdgapklkodnjaa
