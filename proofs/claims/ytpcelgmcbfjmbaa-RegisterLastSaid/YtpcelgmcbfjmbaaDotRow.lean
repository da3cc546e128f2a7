/-
  Rows of names: how they lie, are read, and are appended to; names compared.
-/
import Derived.Test.YtpcelgmcbfjmbaaDotOne
import Derived.Test.YtpcelgmcbfjmbaaDiskRows
import Derived.Laws.StructEq
namespace Go.Proofs.Ytpcelgmcbfjmbaa
set_option maxRecDepth 100000
open Go.RowKit

theorem dotInfo : (Try.prog.info? 35).map (fun i => (i.zero, i.size, i.bytes)) = some (some (.agg #[.int .i64 0, .int .i64 0]), 2, 16) := by kernel_rfl

def rowD (l : List Dt) : List Value := l.flatMap dcs
theorem rowD_len (l : List Dt) : (rowD l).length = l.length * 2 := by
  induction l with
  | nil => rfl
  | cons d r ih => simp only [rowD, List.flatMap_cons, List.length_append, List.length_cons] at ih ⊢; rw [ih]; simp [dcs]; omega
theorem rowD_append (a b : List Dt) : rowD (a ++ b) = rowD a ++ rowD b := by simp [rowD]
theorem rowD_one (d : Dt) : rowD [d] = dcs d := by simp [rowD]
theorem rowD_at : ∀ (l : List Dt) (j : Nat) (d : Dt), l[j]? = some d → (rowD l)[j * 2]? = some (.int .i64 d.1) ∧ (rowD l)[j * 2 + 1]? = some (.int .i64 d.2) := by
  intro l
  induction l with
  | nil => intro j d h; simp at h
  | cons x r ih =>
    intro j d h
    cases j with
    | zero => simp at h; subst h; exact ⟨rfl, rfl⟩
    | succ j =>
      obtain ⟨h1, h2⟩ := ih j d (by simpa using h)
      have e : rowD (x :: r) = .int .i64 x.1 :: .int .i64 x.2 :: rowD r := rfl
      rw [e, show (j + 1) * 2 = j * 2 + 1 + 1 from by omega]
      exact ⟨by simpa using h1, by simpa using h2⟩
theorem rowD_cell (l : List Dt) : ∀ u ∈ rowD l, u.oneCell' = true := by
  intro u hu
  simp only [rowD, List.mem_flatMap] at hu
  obtain ⟨d, _, hd⟩ := hu
  simp [dcs] at hd
  rcases hd with rfl | rfl <;> rfl

/-- The slice v is the call's own, and holds the names l. -/
def OwnD (B : Nat) (v : Value) (l : List Dt) (w : World) : Prop := w.ownsRow B 35 2 v l.length (rowD l)
/-- At a stand the names l, to be read. -/
def DIn (w : World) (a : Option Addr) (l : List Dt) : Prop :=
  l = [] ∨ ∃ b off, a = some ⟨b, off, none⟩ ∧ b < w.heap.size ∧ ∀ j d, l[j]? = some d → w.cell? ⟨b, off + j * 2, none⟩ = some (.int .i64 d.1) ∧ w.cell? ⟨b, off + j * 2 + 1, none⟩ = some (.int .i64 d.2)

theorem DIn.below {w w' : World} {a : Option Addr} {l : List Dt} (h : DIn w a l) (hb : Below w.heap.size w w') : DIn w' a l := by
  rcases h with h | ⟨b, off, rfl, hlt, hc⟩
  · exact .inl h
  · refine .inr ⟨b, off, rfl, Nat.lt_of_lt_of_le hlt hb.size, fun j d hj => ?_⟩
    obtain ⟨h0, h1⟩ := hc j d hj
    exact ⟨by rw [hb.cell (p := ⟨b, off + j * 2, none⟩) hlt]; exact h0, by rw [hb.cell (p := ⟨b, off + j * 2 + 1, none⟩) hlt]; exact h1⟩
theorem DIn.alloc {w : World} {a : Option Addr} {l : List Dt} (h : DIn w a l) (o : Obj) : DIn (w.alloc o) a l := h.below ((Below.refl _ _).alloc (Nat.le_refl _) o)
/-- one of them, at its place -/
theorem DIn.at {w : World} {a : Option Addr} {l : List Dt} (h : DIn w a l) {j : Nat} {d : Dt} (hj : l[j]? = some d) :
    ∃ b off, a = some ⟨b, off, none⟩ ∧ b < w.heap.size ∧ w.cell? ⟨b, off + j * 2, none⟩ = some (.int .i64 d.1) ∧ w.cell? ⟨b, off + j * 2 + 1, none⟩ = some (.int .i64 d.2) := by
  rcases h with rfl | ⟨b, off, rfl, hlt, hc⟩
  · simp at hj
  · exact ⟨b, off, rfl, hlt, hc j d hj⟩

theorem ownD_nil (B : Nat) (w : World) : OwnD B (.slice none 0 0) [] w := World.ownsRow_nil _ _ _ _
theorem OwnD.din {B : Nat} {v : Value} {l : List Dt} {w : World} (h : OwnD B v l w) : ∃ a cap, v = .slice a l.length cap ∧ DIn w a l ∧ l.length ≤ maxLen := by
  obtain ⟨hl, hv⟩ := h
  rcases hv with ⟨rfl, h0⟩ | ⟨g, cap, cur, rfl, hB, hg, hn, hm, hs, htk⟩
  · exact ⟨none, 0, by rw [h0], .inl (List.length_eq_zero_iff.1 h0), by rw [h0]; simp [maxLen]⟩
  · refine ⟨_, cap, rfl, .inr ⟨g, 0, rfl, lt_of_block hg, fun j d hj => ?_⟩, by omega⟩
    obtain ⟨h1, h2⟩ := rowD_at l j d hj
    have hjl : j < l.length := (List.getElem?_eq_some_iff.1 hj).1
    have c1 := Lib.cells_of_row hg (l.length * 2) (j * 2) _ (by rw [htk]; exact h1)
    have c2 := Lib.cells_of_row hg (l.length * 2) (j * 2 + 1) _ (by rw [htk]; exact h2)
    have e1 : ∀ k, (⟨g, 0, none⟩ : Addr).add k = ⟨g, 0 + k, none⟩ := fun k => by cases k <;> simp [Addr.add]
    rw [e1] at c1 c2
    exact ⟨c1, by rw [← Nat.add_assoc] at c2; exact c2⟩
theorem OwnD.below {B C : Nat} {v : Value} {l : List Dt} {w w' : World} (h : OwnD B v l w) (hb : Below C w w') (hC : w.heap.size ≤ C) : OwnD B v l w' := by
  unfold OwnD at *
  refine ⟨h.1, ?_⟩
  rcases h.2 with hn | ⟨g, cap, cur, hv, hB, hg, rest⟩
  · exact .inl hn
  · exact .inr ⟨g, cap, cur, hv, hB, by rw [hb.block g (Nat.lt_of_lt_of_le (lt_of_block hg) hC)]; exact hg, rest⟩
theorem OwnD.mono {B C : Nat} {v : Value} {l : List Dt} {w : World} (h : OwnD B v l w) (hC : C ≤ B) : OwnD C v l w := by
  unfold OwnD at *
  refine ⟨h.1, ?_⟩
  rcases h.2 with hn | ⟨g, cap, cur, hv, hB, rest⟩
  · exact .inl hn
  · exact .inr ⟨g, cap, cur, hv, by omega, rest⟩
theorem OwnD.alloc {B : Nat} {v : Value} {l : List Dt} {w : World} (h : OwnD B v l w) (o : Obj) : OwnD B v l (w.alloc o) := World.ownsRow.alloc h o

/-! names compared -/
theorem eqD_in (d : Nat) (a b : Dt) (W : World) : (Op.equalIn (d + 2) 35 (.agg #[.int .i64 a.1, .int .i64 a.2]) (.agg #[.int .i64 b.1, .int .i64 b.2])).run Try.prog W = .ok (decide (a = b)) W := by
  rw [run_equalIn_agg (P := Try.prog) W (d + 1) _ _ _ (by kernel_rfl) (by kernel_rfl)]
  have hf : (Try.prog.fieldsOf 35).toList.map (fun f => (f.name != "_", f.type, f.offset)) = [(true, 3, 0), (true, 3, 1)] := by kernel_rfl
  generalize (Try.prog.fieldsOf 35).toList = fs at hf
  have hfl : fs.length = 2 := by have := congrArg List.length hf; simpa using this
  match fs, hfl with
  | [f0, f1], _ =>
    simp only [List.map_cons, List.map_nil, List.cons.injEq, Prod.mk.injEq, and_true] at hf
    obtain ⟨⟨n0, t0, o0⟩, n1, t1, o1⟩ := hf
    have m0 : f0.name ≠ "_" := by simpa using n0
    have m1 : f1.name ≠ "_" := by simpa using n1
    have p0 : ∀ (x y : Value) (W : World), (part 3 #[x, y] 0).run Try.prog W = .ok x W := fun x y W => by rfl
    have p1 : ∀ (x y : Value) (W : World), (part 3 #[x, y] 1).run Try.prog W = .ok y W := fun x y W => by rfl
    have q : ∀ (x y : Int) (W : World), (Op.equalIn (d + 1) 3 (.int .i64 x) (.int .i64 y)).run Try.prog W = .ok (x == y) W := fun x y W => run_equalIn_int (P := Try.prog) W d 3 .i64 .i64 _ _ Try.underlying3
    simp only [Op.eqFields, m0, m1, ne_eq, not_false_eq_true, if_true, t0, t1, o0, o1, Sem.run_bind, p0, q, Result.andThen_ok]
    by_cases h1 : a.1 = b.1
    · by_cases h2 : a.2 = b.2
      · have e : a = b := Prod.ext h1 h2
        simp [e, p1, q]
      · have e : a ≠ b := fun e => h2 (by rw [e])
        simp [h1, h2, e, p1, q]
    · have e : a ≠ b := fun e => h1 (by rw [e])
      simp [h1, e]
theorem eqD (a b : Dt) (W : World) : (Op.equalIn 10000 35 (.agg #[.int .i64 a.1, .int .i64 a.2]) (.agg #[.int .i64 b.1, .int .i64 b.2])).run Try.prog W = .ok (decide (a = b)) W := eqD_in 9998 a b W
theorem eqlD (a b : Dt) (W : World) : (binOp .eql 35 (.agg #[.int .i64 a.1, .int .i64 a.2]) (.agg #[.int .i64 b.1, .int .i64 b.2])).run Try.prog W = .ok (.bool (decide (a = b))) W := by
  rw [run_eql_struct, eqD]; rfl
theorem neqD (a b : Dt) (W : World) : (binOp .neq 35 (.agg #[.int .i64 a.1, .int .i64 a.2]) (.agg #[.int .i64 b.1, .int .i64 b.2])).run Try.prog W = .ok (.bool (!decide (a = b))) W := by
  rw [run_neq_struct, eqD]; rfl
end Go.Proofs.Ytpcelgmcbfjmbaa
