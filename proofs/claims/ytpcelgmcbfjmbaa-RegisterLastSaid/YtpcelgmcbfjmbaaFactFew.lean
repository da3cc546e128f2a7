/-
  almonrylaw15: Few; a fact loaded where a guard stands.
-/
import Derived.Test.YtpcelgmcbfjmbaaFactKit
import Derived.Test.YtpcelgmcbfjmbaaFactSame
namespace Go.Proofs.Ytpcelgmcbfjmbaa
open Go.RowKit Go.Sort
set_option maxRecDepth 100000

theorem fl_loadg {ops : Array Oper} {rest : List Oper} {o : Oper} {a : Act} {w : World} {Q : Exit → Act → World → Prop} (hw : Region.wanted o (yielded ops a.tmps) = true) (x : Operand) (ho : o.op = .load 39 x) (g off : Nat) (f : Ft)
    (hx : a.eval x = .pointer (some ⟨g, off, none⟩)) (hg : w.rangeAt g off (fcs f)) (h : wpList Try.prog ops Q rest (a.put o.dst (.agg (fcs f).toArray)) w) : wpList Try.prog ops Q (o :: rest) a w := by
  unfold wpList
  rw [if_pos hw]
  exact .inl (wp_load_mid 39 x ho g off hx (fcs f) _ hg Try.underlying39 rfl factSize h)

/-- three facts laid into a slice, in a walk -/
theorem wpList_build3F {ops : Array Oper} {rest : List Oper} {o : Oper} {a : Act} {w : World} {Q : Exit → Act → World → Prop} (hgd : o.guard = none) (x y z : Operand) (ho : o.op = .buildSlice 22 3 #[(0, x), (1, y), (2, z)]) (f g h : Ft)
    (hx : a.eval x = .agg (fcs f).toArray) (hy : a.eval y = .agg (fcs g).toArray) (hz : a.eval z = .agg (fcs h).toArray)
    (hk : wpList Try.prog ops Q rest (a.put o.dst (.slice (some ⟨w.heap.size, 0, none⟩) 3 3)) (w.alloc (.cells (rowF [f, g, h]).toArray 39))) : wpList Try.prog ops Q (o :: rest) a w := by
  refine wpList_plain hgd fun K hK => ?_
  have e : (#[(0, x), (1, y), (2, z)] : Array (Nat × Operand)).map (fun (i, x) => (i, a.eval x)) = #[(0, .agg (fcs f).toArray), (1, .agg (fcs g).toArray), (2, .agg (fcs h).toArray)] := by simp [hx, hy, hz]
  unfold Oper.wp execOp
  simp only [ho, Sem.run_bind]
  rw [e, build3F]
  exact hK _ _ hk

def fewOk (f : Ft) : Prop := f.n.size ≤ 100 ∧ f.v.size ≤ 1000
instance (f : Ft) : Decidable (fewOk f) := inferInstanceAs (Decidable (_ ∧ _))
def fewP (l : List Ft) : Bool := decide (l.length ≤ 30 ∧ ∀ f ∈ l, fewOk f)
theorem fewP_ok {l : List Ft} (h : fewP l = true) : l.length ≤ 30 ∧ ∀ f ∈ l, fewOk f := of_decide_eq_true h
theorem fewP_v {l : List Ft} (h : fewP l = true) : ∀ f ∈ l, f.v.size ≤ 5000 := fun f hf => by have := ((fewP_ok h).2 f hf).2; omega

set_option maxHeartbeats 2000000 in
theorem ffewC (l : List Ft) (a : Option Addr) (cap : Nat) (w : World) (h : FIn w a l) (hl : l.length ≤ maxLen) (hs : ∀ f ∈ l, f.n.size ≤ maxLen ∧ f.v.size ≤ maxLen) :
    Calls Try.prog 6 #[.slice a l.length cap] w fun e w' => e = .returned (.bool (fewP l)) ∧ w = w' := by
  unfold maxLen at hl
  by_cases hbig : 30 < l.length
  · have hbi : (30 : Int) < (l.length : Int) := by omega
    rw [show fewP l = false from decide_eq_false (fun k => by omega)]
    clear h hs hbig
    go_enter Try.func6, Try.ntmps6
    go_wp2_with fail
    go_ret
    exact ⟨rfl, rfl⟩
  · have hbi : ¬ (30 : Int) < (l.length : Int) := by omega
    have H := Lib.hid h
    have HS := Lib.hid hs
    clear h hs
    go_enter Try.func6, Try.ntmps6
    go_wp2_with fail
    go_loopw [3] (fun i wr => ∃ k : Nat, k ≤ l.length ∧ i = .int .i64 k ∧ Hid (∀ j d, j < k → l[j]? = some d → fewOk d) ∧ w = wr) (fun i _ => l.length - (intOf i).toNat)
    case atStart => exact ⟨0, Nat.zero_le _, rfl, Lib.hid (fun j d hj => by omega), rfl⟩
    case round =>
      obtain ⟨k, hk, rfl, HK, rfl⟩ := hrel
      by_cases hlt : k < l.length
      · obtain ⟨d, hd⟩ : ∃ d, l[k]? = some d := ⟨_, List.getElem?_eq_getElem hlt⟩
        obtain ⟨b, off, rfl, hbl, c0⟩ := H.out.at hd
        have hi1 : (k : Int) < (l.length : Int) := by omega
        have hm : d ∈ l := List.mem_of_getElem? hd
        have c6 := c0 6 _ rfl
        have c7 := c0 7 _ rfl
        have hz := HS.out d hm
        unfold maxLen at hz
        have HD := Lib.hid hd
        have HM := Lib.hid hm
        clear c0 hd hm
        by_cases hn : 100 < d.n.size
        · have g1 : decide ((100 : Int) < (d.n.size : Int)) = true := by simp; omega
          have HF := Lib.hid (show fewP l = false from decide_eq_false (fun k => by have := (k.2 d HM.out).1; omega))
          clear hn
          go_wp2_with fail
          go_ret
          exact ⟨by rw [HF.out]; rfl, rfl⟩
        · have g1 : decide ((100 : Int) < (d.n.size : Int)) = false := by simp; omega
          by_cases hv : 1000 < d.v.size
          · have g2 : decide ((1000 : Int) < (d.v.size : Int)) = true := by simp; omega
            have HF := Lib.hid (show fewP l = false from decide_eq_false (fun k => by have := (k.2 d HM.out).2; omega))
            clear hn hv
            go_wp2_with fail
            go_ret
            exact ⟨by rw [HF.out]; rfl, rfl⟩
          · have g2 : decide ((1000 : Int) < (d.v.size : Int)) = false := by simp; omega
            have HK2 := Lib.hid (show ∀ j x, j < k + 1 → l[j]? = some x → fewOk x from fun j x hj hx => by
              rcases Nat.lt_or_ge j k with h1 | h1
              · exact HK.out j x h1 hx
              · obtain rfl : j = k := by omega
                rw [HD.out] at hx
                obtain rfl := Option.some.inj hx
                exact ⟨by omega, by omega⟩)
            clear hn hv HK
            go_wp2_with fail
            exact ⟨⟨k + 1, by omega, by go_num, HK2, trivial⟩, by simp [intOf]; omega⟩
      · have hi1 : ¬ (k : Int) < (l.length : Int) := by omega
        have HF := Lib.hid (show fewP l = true from decide_eq_true ⟨by omega, fun f hf => by
          obtain ⟨j, hj, hjf⟩ := List.mem_iff_getElem.1 hf
          exact HK.out j f (by omega) (by rw [List.getElem?_eq_getElem hj, hjf])⟩)
        go_wp2_with fail
        go_ret
        exact ⟨by rw [HF.out]; rfl, rfl⟩
end Go.Proofs.Ytpcelgmcbfjmbaa
