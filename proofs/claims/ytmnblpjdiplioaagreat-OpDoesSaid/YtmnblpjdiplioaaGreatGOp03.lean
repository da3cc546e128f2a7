/-
  A stamp by value: Check, of the program and of the document; the document's Less; stamps compared, two of them by '=='.
  What updates say, as plain values: their order, whether they may be, lists that rise, their bytes, and what is read of bytes. What a list of chunks' bytes tell (9.2's Read) is a word that is handed in (rd): its error.
-/
import Derived.Test.YtmnblpjdiplioaaGreatGOp02
import Derived.Laws.StructEq
import Derived.Test.YtmnblpjdiplioaaGreatGOp01
namespace Go.Proofs.YtmnblpjdiplioaaGreat
open Go.RowKit
set_option maxRecDepth 100000

def scs (d : St) : List Value := [.int .i64 d.t, .int .i64 d.c, .int .i64 d.r]
def boxS (w : World) (d : St) : World := w.alloc (.cells #[.int .i64 d.t, .int .i64 d.c, .int .i64 d.r] 38)
theorem boxS_below (w : World) (d : St) : Below w.heap.size w (boxS w d) := (Below.refl _ _).alloc (Nat.le_refl _) _
theorem boxS_size (w : World) (d : St) : (boxS w d).heap.size = w.heap.size + 1 := by simp [boxS]
theorem boxS2_below (w : World) (a b : St) : Below w.heap.size w (boxS (boxS w a) b) := (boxS_below w a).trans ((boxS_below _ b).mono (by rw [boxS_size]; omega))

def isT (n : Int) : Bool := decide (0 ≤ n) && decide (n ≤ 1099511627776)

set_option maxHeartbeats 1000000 in
theorem isTimeC (n : Int) (w : World) : Calls Tryz.prog 105 #[.int .i64 n] w fun e w' => e = .returned (.bool (isT n)) ∧ w = w' := by
  unfold isT
  by_cases h : 0 ≤ n
  · have h1 : decide (0 ≤ n) = true := by simp [h]
    rw [h1]
    go_enter Tryz.func105, Tryz.ntmps105
    go_wp2
    go_ret
    exact ⟨by simp, rfl⟩
  · have h1 : decide (0 ≤ n) = false := by simp; omega
    rw [h1]
    go_enter Tryz.func105, Tryz.ntmps105
    go_wp2
    go_ret
    exact ⟨by simp, rfl⟩

theorem chkS_isT (d : St) : chkS d = if isT d.t = true ∧ isT d.c = true ∧ 0 ≤ d.r ∧ d.r < 16 then 0 else 2 := by
  unfold chkS isT
  by_cases h : d.t < 0 ∨ 1099511627776 < d.t ∨ d.c < 0 ∨ 1099511627776 < d.c ∨ d.r < 0 ∨ 15 < d.r
  · rw [if_pos h, if_neg]
    simp only [Bool.and_eq_true, decide_eq_true_eq]
    omega
  · rw [if_neg h, if_pos]
    simp only [Bool.and_eq_true, decide_eq_true_eq]
    omega

set_option maxHeartbeats 1000000 in
theorem tchkC (d : St) (w : World) : Calls Tryz.prog 86 #[.agg #[.int .i64 d.t, .int .i64 d.c, .int .i64 d.r]] w fun e w' => e = .returned (.int .i64 (chkS d)) ∧ boxS w d = w' := by
  have hd := chkS_isT d
  obtain ⟨t, c, r⟩ := d
  unfold boxS
  simp only at *
  have ct := fun W => isTimeC t W
  have cc := fun W => isTimeC c W
  generalize isT t = bt at hd ct
  generalize isT c = bc at hd cc
  cases bt with
  | false =>
    rw [if_neg (by simp)] at hd
    rw [hd]; clear hd
    go_enter Tryz.func86, Tryz.ntmps86
    go_wp2_with fail
    refine (ct _).mono ?_
    rintro e w1 ⟨rfl, rfl⟩
    go_wp2
    go_ret
    exact ⟨rfl, rfl⟩
  | true =>
    cases bc with
    | false =>
      rw [if_neg (by simp)] at hd
      rw [hd]; clear hd
      go_enter Tryz.func86, Tryz.ntmps86
      go_wp2_with fail
      refine (ct _).mono ?_
      rintro e w1 ⟨rfl, rfl⟩
      go_wp2_with fail
      refine (cc _).mono ?_
      rintro e w1 ⟨rfl, rfl⟩
      go_wp2
      go_ret
      exact ⟨rfl, rfl⟩
    | true =>
      by_cases h0 : r < 0
      · rw [if_neg (by omega)] at hd
        rw [hd]; clear hd
        go_enter Tryz.func86, Tryz.ntmps86
        go_wp2_with fail
        refine (ct _).mono ?_
        rintro e w1 ⟨rfl, rfl⟩
        go_wp2_with fail
        refine (cc _).mono ?_
        rintro e w1 ⟨rfl, rfl⟩
        go_wp2
        go_ret
        exact ⟨rfl, rfl⟩
      · have g0 : decide (r < 0) = false := by simp; omega
        by_cases h1 : 15 < r
        · have g1 : decide ((16 : Int) ≤ r) = true := by simp; omega
          rw [if_neg (by omega)] at hd
          rw [hd]; clear hd
          go_enter Tryz.func86, Tryz.ntmps86
          go_wp2_with fail
          refine (ct _).mono ?_
          rintro e w1 ⟨rfl, rfl⟩
          go_wp2_with fail
          refine (cc _).mono ?_
          rintro e w1 ⟨rfl, rfl⟩
          go_wp2
          go_ret
          exact ⟨rfl, rfl⟩
        · have g1 : decide ((16 : Int) ≤ r) = false := by simp; omega
          rw [if_pos (by simp; omega)] at hd
          rw [hd]; clear hd
          go_enter Tryz.func86, Tryz.ntmps86
          go_wp2_with fail
          refine (ct _).mono ?_
          rintro e w1 ⟨rfl, rfl⟩
          go_wp2_with fail
          refine (cc _).mono ?_
          rintro e w1 ⟨rfl, rfl⟩
          go_wp2
          go_ret
          exact ⟨rfl, rfl⟩

set_option maxHeartbeats 2000000 in
theorem tchkR (d : St) (w : World) : Calls Tryz.prog 62 #[.agg #[.int .i64 d.t, .int .i64 d.c, .int .i64 d.r]] w fun e w' => e = .returned (.int .i64 (chkS d)) ∧ boxS w d = w' := by
  obtain ⟨t, c, r⟩ := d
  have hd : chkS ⟨t, c, r⟩ = if t < 0 ∨ 1099511627776 < t ∨ c < 0 ∨ 1099511627776 < c ∨ r < 0 ∨ 15 < r then 2 else 0 := rfl
  unfold boxS
  simp only at *
  have hb : ∃ b0 b1 b2 b3 b4 b5 : Bool, decide (t < 0) = b0 ∧ decide ((1099511627776 : Int) < t) = b1 ∧ decide (c < 0) = b2 ∧ decide ((1099511627776 : Int) < c) = b3 ∧ decide (r < 0) = b4 ∧ decide ((15 : Int) < r) = b5 ∧
      chkS ⟨t, c, r⟩ = if (b0 || b1 || b2 || b3 || b4 || b5) = true then 2 else 0 := by
    refine ⟨_, _, _, _, _, _, rfl, rfl, rfl, rfl, rfl, rfl, ?_⟩
    rw [hd]
    congr 1
    simp only [Bool.or_eq_true, decide_eq_true_eq]
    exact propext ⟨by omega, by omega⟩
  obtain ⟨b0, b1, b2, b3, b4, b5, e0, e1, e2, e3, e4, e5, hd'⟩ := hb
  rw [hd']
  clear hd hd'
  cases b0
  rotate_left
  · go_enter Tryz.func62, Tryz.ntmps62
    go_wp2
    go_ret
    exact ⟨rfl, rfl⟩
  cases b1
  rotate_left
  · go_enter Tryz.func62, Tryz.ntmps62
    go_wp2
    go_ret
    exact ⟨rfl, rfl⟩
  cases b2
  rotate_left
  · go_enter Tryz.func62, Tryz.ntmps62
    go_wp2
    go_ret
    exact ⟨rfl, rfl⟩
  cases b3
  rotate_left
  · go_enter Tryz.func62, Tryz.ntmps62
    go_wp2
    go_ret
    exact ⟨rfl, rfl⟩
  cases b4
  rotate_left
  · go_enter Tryz.func62, Tryz.ntmps62
    go_wp2
    go_ret
    exact ⟨rfl, rfl⟩
  cases b5
  rotate_left
  · go_enter Tryz.func62, Tryz.ntmps62
    go_wp2
    go_ret
    exact ⟨rfl, rfl⟩
  · go_enter Tryz.func62, Tryz.ntmps62
    go_wp2
    go_ret
    exact ⟨rfl, rfl⟩

set_option maxHeartbeats 1000000 in
theorem tlessR (a b : St) (w : World) : Calls Tryz.prog 67 #[.agg #[.int .i64 a.t, .int .i64 a.c, .int .i64 a.r], .agg #[.int .i64 b.t, .int .i64 b.c, .int .i64 b.r]] w fun e w' => e = .returned (.bool (ltS a b)) ∧ boxS (boxS w a) b = w' := by
  obtain ⟨at', ac, ar⟩ := a
  obtain ⟨bt, bc, br⟩ := b
  have hl : ltS ⟨at', ac, ar⟩ ⟨bt, bc, br⟩ = if at' ≠ bt then decide (at' < bt) else if ac ≠ bc then decide (ac < bc) else decide (ar < br) := rfl
  unfold boxS
  simp only at *
  by_cases h : at' = bt
  · rw [if_neg (by omega)] at hl
    have g : (at' != bt) = false := by simp [h]
    by_cases k : ac = bc
    · rw [if_neg (by omega)] at hl
      have g1 : (ac != bc) = false := by simp [k]
      rw [hl]
      clear hl h k
      go_enter Tryz.func67, Tryz.ntmps67
      go_wp2
      go_ret
      exact ⟨rfl, rfl⟩
    · rw [if_pos k] at hl
      have g1 : (ac != bc) = true := by simp [k]
      rw [hl]
      clear hl h k
      go_enter Tryz.func67, Tryz.ntmps67
      go_wp2
      go_ret
      exact ⟨rfl, rfl⟩
  · rw [if_pos h] at hl
    have g : (at' != bt) = true := by simp [h]
    rw [hl]
    clear hl h
    go_enter Tryz.func67, Tryz.ntmps67
    go_wp2
    go_ret
    exact ⟨rfl, rfl⟩

theorem eqS_in (d : Nat) (a b : St) (W : World) : (Op.equalIn (d + 2) 38 (.agg #[.int .i64 a.t, .int .i64 a.c, .int .i64 a.r]) (.agg #[.int .i64 b.t, .int .i64 b.c, .int .i64 b.r])).run Tryz.prog W = .ok (decide (a = b)) W := by
  rw [run_equalIn_agg (P := Tryz.prog) W (d + 1) _ _ _ (by kernel_rfl) (by kernel_rfl)]
  have hf : (Tryz.prog.fieldsOf 38).toList.map (fun f => (f.name != "_", f.type, f.offset)) = [(true, 3, 0), (true, 3, 1), (true, 3, 2)] := by kernel_rfl
  generalize (Tryz.prog.fieldsOf 38).toList = fs at hf
  have hfl : fs.length = 3 := by have := congrArg List.length hf; simpa using this
  match fs, hfl with
  | [f0, f1, f2], _ =>
    simp only [List.map_cons, List.map_nil, List.cons.injEq, Prod.mk.injEq, and_true] at hf
    obtain ⟨⟨n0, t0, o0⟩, ⟨n1, t1, o1⟩, n2, t2, o2⟩ := hf
    have m0 : f0.name ≠ "_" := by simpa using n0
    have m1 : f1.name ≠ "_" := by simpa using n1
    have m2 : f2.name ≠ "_" := by simpa using n2
    have p0 : ∀ (x y z : Value) (W : World), (part 3 #[x, y, z] 0).run Tryz.prog W = .ok x W := fun x y z W => by rfl
    have p1 : ∀ (x y z : Value) (W : World), (part 3 #[x, y, z] 1).run Tryz.prog W = .ok y W := fun x y z W => by rfl
    have p2 : ∀ (x y z : Value) (W : World), (part 3 #[x, y, z] 2).run Tryz.prog W = .ok z W := fun x y z W => by rfl
    have q : ∀ (x y : Int) (W : World), (Op.equalIn (d + 1) 3 (.int .i64 x) (.int .i64 y)).run Tryz.prog W = .ok (x == y) W := fun x y W => run_equalIn_int (P := Tryz.prog) W d 3 .i64 .i64 _ _ Tryz.underlying3
    simp only [Op.eqFields, m0, m1, m2, ne_eq, not_false_eq_true, if_true, t0, t1, t2, o0, o1, o2, Sem.run_bind, p0, q, Result.andThen_ok]
    by_cases h1 : a.t = b.t
    · by_cases h2 : a.c = b.c
      · by_cases h3 : a.r = b.r
        · have e : a = b := by cases a; cases b; simp_all
          simp [e, p1, p2, q]
        · have e : a ≠ b := fun e => h3 (by rw [e])
          simp [h1, h2, h3, e, p1, p2, q]
      · have e : a ≠ b := fun e => h2 (by rw [e])
        simp [h1, h2, e, p1, q]
    · have e : a ≠ b := fun e => h1 (by rw [e])
      simp [h1, e]
theorem eqS (a b : St) (W : World) : (Op.equalIn 10000 38 (.agg #[.int .i64 a.t, .int .i64 a.c, .int .i64 a.r]) (.agg #[.int .i64 b.t, .int .i64 b.c, .int .i64 b.r])).run Tryz.prog W = .ok (decide (a = b)) W := eqS_in 9998 a b W
theorem eqlS (a b : St) (W : World) : (binOp .eql 38 (.agg #[.int .i64 a.t, .int .i64 a.c, .int .i64 a.r]) (.agg #[.int .i64 b.t, .int .i64 b.c, .int .i64 b.r])).run Tryz.prog W = .ok (.bool (decide (a = b))) W := by
  rw [run_eql_struct, eqS]; rfl

/-- a block of a stamp -/
def SRow (w : World) (b : Nat) (d : St) : Prop := w.heap[b]? = some (.cells #[.int .i64 d.t, .int .i64 d.c, .int .i64 d.r] 38 (0, 0))
theorem SRow.lt {w : World} {b : Nat} {d : St} (h : SRow w b d) : b < w.heap.size := (Array.getElem?_eq_some_iff.1 h).1
theorem SRow.alloc {w : World} {b : Nat} {d : St} (h : SRow w b d) (o : Obj) : SRow (w.alloc o) b d := by
  have hl := h.lt
  unfold SRow at *
  rw [Go.heap_alloc_old w o hl]; exact h
theorem SRow.new (w : World) (d : St) : SRow (boxS w d) w.heap.size d := heap_alloc_new w _
theorem SRow.keep {w w' : World} {b : Nat} {d : St} (h : SRow w b d) (hb : Below w.heap.size w w') : SRow w' b d := by
  unfold SRow; rw [hb.block b h.lt]; exact h
theorem SRow.cell {w : World} {b : Nat} {d : St} (h : SRow w b d) (j : Nat) (u : Value) (hu : (scs d)[j]? = some u) : w.cell? ⟨b, j, none⟩ = some u := by
  rw [Joins.cell_of_block h]; simpa [scs] using hu
theorem SRow.free {w : World} {b : Nat} {d : St} (h : SRow w b d) (j : Nat) : w.frozen? ⟨b, j, none⟩ = false := Joins.unfrozen_of_block h j

theorem stampInfo : (Tryz.prog.info? 38).map (·.size) = some 3 := by kernel_rfl
theorem SRow.drew {w : World} {b : Nat} {d : St} (h : SRow w b d) : SRow w.drew b d := h
end Go.Proofs.YtmnblpjdiplioaaGreat

namespace Go.Proofs.YtmnblpjdiplioaaGreat

/-! orders -/
/-- an order of all -/
structure TotO {α : Type} (lt : α → α → Bool) : Prop where
  irr : ∀ a, lt a a = false
  trans : ∀ {a b c}, lt a b = true → lt b c = true → lt a c = true
  tri : ∀ a b, lt a b = true ∨ a = b ∨ lt b a = true
/-- by the first, then by the rest -/
def lexL {α β : Type} [DecidableEq α] (l1 : α → α → Bool) (l2 : β → β → Bool) (a b : α × β) : Bool := if a.1 ≠ b.1 then l1 a.1 b.1 else l2 a.2 b.2
theorem lexL_ne {α β : Type} [DecidableEq α] {l1 : α → α → Bool} {l2 : β → β → Bool} {a b : α × β} (h : a.1 ≠ b.1) : lexL l1 l2 a b = l1 a.1 b.1 := if_pos h
theorem lexL_eq {α β : Type} [DecidableEq α] {l1 : α → α → Bool} {l2 : β → β → Bool} {a b : α × β} (h : a.1 = b.1) : lexL l1 l2 a b = l2 a.2 b.2 := if_neg (fun k => k h)
theorem TotO.lex {α β : Type} [DecidableEq α] {l1 : α → α → Bool} {l2 : β → β → Bool} (h1 : TotO l1) (h2 : TotO l2) : TotO (lexL l1 l2) where
  irr a := by rw [lexL_eq rfl]; exact h2.irr _
  trans {a b c} hab hbc := by
    by_cases e1 : a.1 = b.1
    · by_cases e2 : b.1 = c.1
      · rw [lexL_eq e1] at hab
        rw [lexL_eq e2] at hbc
        rw [lexL_eq (e1.trans e2)]
        exact h2.trans hab hbc
      · rw [lexL_ne e2] at hbc
        rw [lexL_ne (by rw [e1]; exact e2), e1]
        exact hbc
    · rw [lexL_ne e1] at hab
      by_cases e2 : b.1 = c.1
      · rw [lexL_ne (by rw [← e2]; exact e1), ← e2]
        exact hab
      · rw [lexL_ne e2] at hbc
        have h := h1.trans hab hbc
        have e3 : a.1 ≠ c.1 := fun e => by rw [e, h1.irr] at h; cases h
        rw [lexL_ne e3]
        exact h
  tri a b := by
    by_cases e : a.1 = b.1
    · rw [lexL_eq e, lexL_eq e.symm]
      rcases h2.tri a.2 b.2 with h | h | h
      · exact .inl h
      · exact .inr (.inl (Prod.ext e h))
      · exact .inr (.inr h)
    · rw [lexL_ne e, lexL_ne (fun k => e k.symm)]
      rcases h1.tri a.1 b.1 with h | h | h
      · exact .inl h
      · exact absurd h e
      · exact .inr (.inr h)
theorem totI : TotO (fun a b : Int => decide (a < b)) where
  irr a := by simp
  trans {a b c} h k := by simp only [decide_eq_true_eq] at *; omega
  tri a b := by simp only [decide_eq_true_eq]; omega
theorem totD : TotO ltD := ⟨ltD_irr, ltD_trans, ltD_tri⟩
theorem totS : TotO ltS := ⟨ltS_irr, ltS_trans, fun a b => by
  rcases ltS_tri a b with ⟨h, -, -⟩ | ⟨-, h, -⟩ | ⟨-, -, h⟩
  · exact .inl h
  · exact .inr (.inr h)
  · exact .inr (.inl (of_decide_eq_true h))⟩
theorem less_irr : ∀ a : List UInt8, Op.bytesLess a a = false
  | [] => rfl
  | x :: r => by simp [Op.bytesLess, less_irr r, UInt8.lt_irrefl]
theorem less_trans : ∀ a b c : List UInt8, Op.bytesLess a b = true → Op.bytesLess b c = true → Op.bytesLess a c = true
  | _, _, [] => fun _ h => by simp [Op.bytesLess] at h
  | [], _, _ :: _ => fun _ _ => rfl
  | _ :: _, [], _ :: _ => fun h _ => by simp [Op.bytesLess] at h
  | x :: a, y :: b, z :: c => fun h k => by
    simp only [Op.bytesLess, Bool.or_eq_true, decide_eq_true_eq, Bool.and_eq_true, beq_iff_eq, UInt8.lt_iff_toNat_lt, ← UInt8.toNat_inj] at *
    rcases h with h | ⟨h, h2⟩
    · rcases k with k | ⟨k, -⟩
      · exact .inl (by omega)
      · exact .inl (by omega)
    · rcases k with k | ⟨k, k2⟩
      · exact .inl (by omega)
      · exact .inr ⟨by omega, less_trans a b c h2 k2⟩
theorem less_tri : ∀ a b : List UInt8, Op.bytesLess a b = true ∨ a = b ∨ Op.bytesLess b a = true
  | [], [] => .inr (.inl rfl)
  | [], _ :: _ => .inl rfl
  | _ :: _, [] => .inr (.inr rfl)
  | x :: a, y :: b => by
    have ih := less_tri a b
    simp only [Op.bytesLess, Bool.or_eq_true, decide_eq_true_eq, Bool.and_eq_true, beq_iff_eq, UInt8.lt_iff_toNat_lt, ← UInt8.toNat_inj, List.cons.injEq]
    rcases Nat.lt_trichotomy x.toNat y.toNat with h | h | h
    · exact .inl (.inl h)
    · rcases ih with k | k | k
      · exact .inl (.inr ⟨h, k⟩)
      · exact .inr (.inl ⟨h, k⟩)
      · exact .inr (.inr (.inr ⟨h.symm, k⟩))
    · exact .inr (.inr (.inl h))
/-- '<' of texts -/
def ltX (a b : ByteArray) : Bool := Op.bytesLess a.toList b.toList
theorem totX : TotO ltX where
  irr a := less_irr _
  trans h k := less_trans _ _ _ h k
  tri a b := by
    rcases less_tri a.toList b.toList with h | h | h
    · exact .inl h
    · refine .inr (.inl ?_)
      rw [ByteArray.toList_eq, ByteArray.toList_eq] at h
      obtain ⟨⟨x⟩⟩ := a
      obtain ⟨⟨y⟩⟩ := b
      simp only at h
      rw [h]
    · exact .inr (.inr h)

/-! facts -/
structure Ft where
  d : Dt
  s : St
  k : Int
  n : ByteArray
  v : ByteArray
deriving DecidableEq

def keyF (f : Ft) : ByteArray × Int × Dt × St × ByteArray := (f.n, f.k, f.d, f.s, f.v)
theorem keyF_inj {a b : Ft} (h : keyF a = keyF b) : a = b := by
  obtain ⟨d, s, k, n, v⟩ := a
  obtain ⟨d', s', k', n', v'⟩ := b
  simp only [keyF, Prod.mk.injEq] at h
  obtain ⟨rfl, rfl, rfl, rfl, rfl⟩ := h
  rfl
/-- by name, kind, name of the update, stamp, value -/
def ltF (a b : Ft) : Bool := lexL ltX (lexL (fun x y : Int => decide (x < y)) (lexL ltD (lexL ltS ltX))) (keyF a) (keyF b)
theorem totK : TotO (lexL ltX (lexL (fun x y : Int => decide (x < y)) (lexL ltD (lexL ltS ltX)))) := totX.lex (totI.lex (totD.lex (totS.lex totX)))
theorem ltF_irr (a : Ft) : ltF a a = false := totK.irr _
theorem ltF_trans {a b c : Ft} (h1 : ltF a b = true) (h2 : ltF b c = true) : ltF a c = true := totK.trans h1 h2
theorem ltF_asym {a b : Ft} (h : ltF a b = true) : ltF b a = false := by
  rcases e : ltF b a with _ | _
  · rfl
  · have := ltF_trans h e
    rw [ltF_irr] at this
    cases this
theorem ltF_tri (a b : Ft) : ltF a b = true ∨ a = b ∨ ltF b a = true := by
  rcases totK.tri (keyF a) (keyF b) with h | h | h
  · exact .inl h
  · exact .inr (.inl (keyF_inj h))
  · exact .inr (.inr h)
theorem ltF_of {a b : Ft} (h1 : ltF b a = false) (h2 : a ≠ b) : ltF a b = true := by
  rcases ltF_tri a b with h | h | h
  · exact h
  · exact absurd h h2
  · rw [h] at h1; cases h1
/-- as the document tells it -/
theorem ltF_if (a b : Ft) : ltF a b = if a.n ≠ b.n then ltX a.n b.n else if a.k ≠ b.k then decide (a.k < b.k) else if a.d ≠ b.d then ltD a.d b.d else if a.s ≠ b.s then ltS a.s b.s else ltX a.v b.v := rfl
/-- what a fact's error is -/
def chkF (rd : ByteArray → Int) (f : Ft) : Int :=
  if chkD f.d ≠ 0 then chkD f.d else if chkS f.s ≠ 0 then chkS f.s else if f.d.1 ≠ f.s.r then 5 else if f.k < 1 ∨ 4 < f.k then 1 else if f.n.size < 1 ∨ 64 < f.n.size then 14
  else if f.k = 1 then (if 16384 < f.v.size then 3 else rd f.v)
  else if f.k = 2 then (if 256 < f.v.size then 3 else 0)
  else if f.k = 3 then (if f.v.size < 1 ∨ 64 < f.v.size then 14 else 0)
  else (if f.v.size ≠ 8 then 5 else 0)
theorem chkF_ok {rd : ByteArray → Int} {f : Ft} (h : chkF rd f = 0) : chkD f.d = 0 ∧ chkS f.s = 0 ∧ f.d.1 = f.s.r ∧ 1 ≤ f.k ∧ f.k ≤ 4 ∧ f.n.size ≤ 64 ∧ f.v.size ≤ 16384 := by
  unfold chkF at h
  split at h
  · rename_i h1; exact absurd h h1
  rename_i h1
  split at h
  · rename_i h2; exact absurd h h2
  rename_i h2
  split at h
  · cases h
  rename_i h3
  split at h
  · cases h
  rename_i h4
  split at h
  · cases h
  rename_i h5
  have g1 : chkD f.d = 0 := Classical.byContradiction h1
  have g2 : chkS f.s = 0 := Classical.byContradiction h2
  have g3 : f.d.1 = f.s.r := Classical.byContradiction h3
  refine ⟨g1, g2, g3, by omega, by omega, by omega, ?_⟩
  split at h
  · split at h
    · cases h
    · omega
  · split at h
    · split at h
      · cases h
      · omega
    · split at h
      · split at h
        · cases h
        · omega
      · split at h
        · cases h
        · omega

/-- They rise. -/
def RiseF (l : List Ft) : Prop := l.Pairwise (fun a b => ltF a b = true)
instance (l : List Ft) : Decidable (RiseF l) := inferInstanceAs (Decidable (l.Pairwise _))

theorem riseF_near : ∀ (l : List Ft), (∀ j (h : j + 1 < l.length), ltF l[j] l[j + 1] = true) → RiseF l := by
  intro l
  induction l with
  | nil => intro _; exact .nil
  | cons a r ih =>
    intro h
    have hr : RiseF r := ih (fun j hj => h (j + 1) (by simp; omega))
    refine List.pairwise_cons.2 ⟨fun b hb => ?_, hr⟩
    cases r with
    | nil => simp at hb
    | cons c t =>
      have h0 := h 0 (by simp)
      simp only [List.getElem_cons_zero, List.getElem_cons_succ] at h0
      rcases List.mem_cons.1 hb with rfl | hb
      · exact h0
      · exact ltF_trans h0 ((List.pairwise_cons.1 hr).1 b hb)
theorem RiseF.near {l : List Ft} (h : RiseF l) (j : Nat) (hj : j + 1 < l.length) : ltF l[j] l[j + 1] = true := (List.pairwise_iff_getElem.1 h) j (j + 1) (by omega) hj (by omega)

/-! lists that rise are told by what is in them -/
theorem riseF_same : ∀ {a b : List Ft}, RiseF a → RiseF b → (∀ x, x ∈ a ↔ x ∈ b) → a = b := by
  intro a
  induction a with
  | nil =>
    intro b _ _ h
    cases b with
    | nil => rfl
    | cons y t => exact absurd ((h y).2 (by simp)) (by simp)
  | cons x s ih =>
    intro b ha hb h
    cases b with
    | nil => exact absurd ((h x).1 (by simp)) (by simp)
    | cons y t =>
      have ha' := List.pairwise_cons.1 ha
      have hb' := List.pairwise_cons.1 hb
      have hxy : x = y := by
        rcases List.mem_cons.1 ((h x).1 (by simp)) with e | e
        · exact e
        · rcases List.mem_cons.1 ((h y).2 (by simp)) with e2 | e2
          · exact e2.symm
          · have h1 := ha'.1 y e2
            have h2 := hb'.1 x e
            rw [ltF_asym h1] at h2
            cases h2
      subst hxy
      have hst : s = t := ih ha'.2 hb'.2 fun z => by
        constructor
        · intro hz
          rcases List.mem_cons.1 ((h z).1 (by simp [hz])) with e | e
          · subst e; have := ha'.1 z hz; rw [ltF_irr] at this; cases this
          · exact e
        · intro hz
          rcases List.mem_cons.1 ((h z).2 (by simp [hz])) with e | e
          · subst e; have := hb'.1 z hz; rw [ltF_irr] at this; cases this
          · exact e
      rw [hst]

/-- a fact, laid into a list that rises -/
def insF (d : Ft) : List Ft → List Ft
  | [] => [d]
  | x :: r => if ltF x d = true then x :: insF d r else if x = d then x :: r else d :: x :: r
/-- each once, rising -/
def sortF (l : List Ft) : List Ft := l.foldl (fun acc d => insF d acc) []

theorem mem_insF {d z : Ft} : ∀ {l : List Ft}, z ∈ insF d l ↔ z = d ∨ z ∈ l := by
  intro l
  induction l with
  | nil => simp [insF]
  | cons x r ih =>
    unfold insF
    split
    · simp only [List.mem_cons, ih]; constructor <;> (rintro (h | h | h) <;> simp [h])
    · split
      · rename_i h1 h2; subst h2; simp
      · simp
theorem riseF_insF {d : Ft} : ∀ {l : List Ft}, RiseF l → RiseF (insF d l) := by
  intro l
  induction l with
  | nil => intro _; simp [insF, RiseF]
  | cons x r ih =>
    intro h
    have h' := List.pairwise_cons.1 h
    unfold insF
    split
    · rename_i h1
      refine List.pairwise_cons.2 ⟨fun b hb => ?_, ih h'.2⟩
      rcases mem_insF.1 hb with rfl | hb
      · exact h1
      · exact h'.1 b hb
    · rename_i h1
      split
      · exact h
      · rename_i h2
        have hdx : ltF d x = true := ltF_of (by simpa using h1) (fun e => h2 e.symm)
        refine List.pairwise_cons.2 ⟨fun b hb => ?_, h⟩
        rcases List.mem_cons.1 hb with rfl | hb
        · exact hdx
        · exact ltF_trans hdx (h'.1 b hb)
theorem sortF_snoc (l : List Ft) (d : Ft) : sortF (l ++ [d]) = insF d (sortF l) := by simp [sortF]
theorem foldF_spec : ∀ (l acc : List Ft), RiseF acc → RiseF (l.foldl (fun acc d => insF d acc) acc) ∧ ∀ z, z ∈ l.foldl (fun acc d => insF d acc) acc ↔ z ∈ acc ∨ z ∈ l := by
  intro l
  induction l with
  | nil => intro acc h; exact ⟨h, fun z => by simp⟩
  | cons d r ih =>
    intro acc h
    obtain ⟨h1, h2⟩ := ih (insF d acc) (riseF_insF h)
    refine ⟨h1, fun z => ?_⟩
    rw [List.foldl_cons, h2, mem_insF, List.mem_cons]
    constructor <;> rintro h
    · rcases h with (h | h) | h <;> simp [h]
    · rcases h with h | h | h <;> simp [h]
theorem riseF_sortF (l : List Ft) : RiseF (sortF l) := (foldF_spec l [] .nil).1
theorem mem_sortF {l : List Ft} {z : Ft} : z ∈ sortF l ↔ z ∈ l := by
  have h := (foldF_spec l [] .nil).2 z
  simpa [sortF] using h
theorem insF_len (d : Ft) : ∀ l : List Ft, (insF d l).length ≤ l.length + 1 := by
  intro l
  induction l with
  | nil => simp [insF]
  | cons x r ih => unfold insF; split <;> (try split) <;> simp <;> omega
theorem sortF_len (l : List Ft) : (sortF l).length ≤ l.length := by
  have : ∀ (l acc : List Ft), (l.foldl (fun acc d => insF d acc) acc).length ≤ acc.length + l.length := by
    intro l
    induction l with
    | nil => simp
    | cons d r ih => intro acc; have h1 := ih (insF d acc); have h2 := insF_len d acc; simp only [List.foldl_cons, List.length_cons]; omega
  simpa [sortF] using this l []

/-- a fact that is in a list that rises is not laid in again -/
theorem insF_in {d : Ft} {l : List Ft} (h : RiseF l) (hd : d ∈ l) : insF d l = l :=
  riseF_same (riseF_insF h) h fun z => by rw [mem_insF]; exact ⟨fun hz => hz.elim (fun e => e ▸ hd) id, Or.inr⟩
/-- one that is not stands behind those that are less -/
theorem insF_at {d : Ft} {l : List Ft} (h : RiseF l) (hd : d ∉ l) (k : Nat) (hk : k ≤ l.length) (h1 : ∀ j (hj : j < l.length), j < k → ltF l[j] d = true) (h2 : ∀ hk : k < l.length, ltF l[k] d = false) :
    l.take k ++ [d] ++ l.drop k = insF d l := by
  have hp := List.pairwise_iff_getElem.1 h
  have hb : ∀ x ∈ l.drop k, ltF d x = true := by
    intro x hx
    obtain ⟨i, hi, rfl⟩ := List.mem_iff_getElem.1 hx
    rw [List.getElem_drop]
    rw [List.length_drop] at hi
    have h3 : ltF d l[k] = true := ltF_of (h2 (by omega)) (fun e => hd (by rw [e]; exact List.getElem_mem _))
    by_cases hi0 : i = 0
    · subst hi0; exact h3
    · exact ltF_trans h3 (hp k (k + i) (by omega) (by omega) (by omega))
  have ha : ∀ x ∈ l.take k, ltF x d = true := by
    intro x hx
    obtain ⟨i, hi, rfl⟩ := List.mem_iff_getElem.1 hx
    rw [List.length_take] at hi
    rw [List.getElem_take]
    exact h1 i (by omega) (by omega)
  refine riseF_same ?_ (riseF_insF h) fun z => ?_
  · unfold RiseF
    rw [List.append_assoc, List.pairwise_append]
    refine ⟨List.Pairwise.sublist (List.take_sublist _ _) h, ?_, ?_⟩
    · rw [List.singleton_append, List.pairwise_cons]
      exact ⟨hb, List.Pairwise.sublist (List.drop_sublist _ _) h⟩
    · intro x hx y hy
      rcases List.mem_append.1 hy with hy | hy
      · obtain rfl := List.mem_singleton.1 hy; exact ha x hx
      · exact ltF_trans (ha x hx) (hb y hy)
  · rw [mem_insF]
    have e : z ∈ l ↔ z ∈ l.take k ∨ z ∈ l.drop k := by rw [← List.mem_append, List.take_append_drop]
    rw [e]
    simp only [List.mem_append, List.mem_singleton]
    constructor
    · rintro ((h | h) | h) <;> simp [h]
    · rintro (h | h | h) <;> simp [h]

/-! of neighbours that are the same one is kept -/
/-- what a list's first error is -/
def firstF (rd : ByteArray → Int) : List Ft → Int
  | [] => 0
  | f :: r => if chkF rd f ≠ 0 then chkF rd f else firstF rd r
def chkFs (rd : ByteArray → Int) (l : List Ft) : Int := if firstF rd l ≠ 0 then firstF rd l else if RiseF l then 0 else 5
theorem firstF_ok {rd : ByteArray → Int} : ∀ {l : List Ft}, firstF rd l = 0 ↔ ∀ f ∈ l, chkF rd f = 0 := by
  intro l
  induction l with
  | nil => simp [firstF]
  | cons f r ih =>
    unfold firstF
    split
    · rename_i h
      exact ⟨fun e => absurd e h, fun e => e f (by simp)⟩
    · rename_i h
      rw [ih, List.forall_mem_cons]
      exact ⟨fun e => ⟨Classical.byContradiction h, e⟩, fun e => e.2⟩
theorem firstF_at {rd : ByteArray → Int} : ∀ {l : List Ft} {j : Nat} {f : Ft}, l[j]? = some f → chkF rd f ≠ 0 → (∀ i g, i < j → l[i]? = some g → chkF rd g = 0) → firstF rd l = chkF rd f := by
  intro l
  induction l with
  | nil => intro j f h; simp at h
  | cons x r ih =>
    intro j f h hf hb
    cases j with
    | zero =>
      simp only [List.getElem?_cons_zero, Option.some.injEq] at h
      subst h
      unfold firstF
      rw [if_pos hf]
    | succ j =>
      have hx := hb 0 x (by omega) rfl
      unfold firstF
      rw [if_neg (by simp [hx])]
      exact ih (by simpa using h) hf fun i g hi hg => hb (i + 1) g (by omega) (by simpa using hg)
theorem chkFs_ok {rd : ByteArray → Int} {l : List Ft} (h : chkFs rd l = 0) : (∀ f ∈ l, chkF rd f = 0) ∧ RiseF l := by
  unfold chkFs at h
  split at h
  · rename_i h1; exact absurd h h1
  · rename_i h1
    split at h
    · rename_i h2
      exact ⟨firstF_ok.1 (Classical.byContradiction h1), h2⟩
    · cases h
theorem chkFs_bad {rd : ByteArray → Int} {l : List Ft} (h : firstF rd l ≠ 0) : chkFs rd l = firstF rd l := by unfold chkFs; rw [if_pos h]
theorem chkFs_flat {rd : ByteArray → Int} {l : List Ft} (h : firstF rd l = 0) (hr : ¬ RiseF l) : chkFs rd l = 5 := by unfold chkFs; rw [if_neg (by simp [h]), if_neg hr]
theorem chkFs_good {rd : ByteArray → Int} {l : List Ft} (h : firstF rd l = 0) (hr : RiseF l) : chkFs rd l = 0 := by unfold chkFs; rw [if_neg (by simp [h]), if_pos hr]

/-! bytes -/
/-! what is put comes back -/
end Go.Proofs.YtmnblpjdiplioaaGreat
