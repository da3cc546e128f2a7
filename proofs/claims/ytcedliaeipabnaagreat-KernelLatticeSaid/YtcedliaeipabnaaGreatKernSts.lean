/-
  A region whose variables are made at any time between its calls: the states it goes through, three calls of whole and three variables.
-/
import Derived.Test.YtcedliaeipabnaaGreatKernLawA
import Derived.Deep.RegionHeld3
namespace Go.Proofs.YtcedliaeipabnaaGreat
set_option linter.unusedSimpArgs false
set_option linter.unusedVariables false
set_option maxRecDepth 100000
open Go.RowKit Go.Sort

theorem wpAnyH_states {P : Program} {md : Region.Mode} {ops : Array Oper} {Q : Exit → Act → World → Prop} {S : World → Prop} {I : Type} (F : I → Nat) (L : I → Array Bool) (A : I → Act) (Wd : I → World → Prop) (rank : I → Nat)
    (step : ∀ i, (∀ j, rank j < rank i → ∀ U, Wd j U → wpAnyH P md ops Q S (F j) (L j) (A j) U) → ∀ U, Wd i U → wpAnyH P md ops Q S (F i) (L i) (A i) U) : ∀ i U, Wd i U → wpAnyH P md ops Q S (F i) (L i) (A i) U := by
  have key : ∀ n i, rank i < n → ∀ U, Wd i U → wpAnyH P md ops Q S (F i) (L i) (A i) U := by
    intro n
    induction n with
    | zero => intro i h; omega
    | succ n ih => intro i hi; exact step i (fun j hj => ih j (by omega))
  exact fun i => key (rank i + 1) i (by omega)
theorem wpAnyH_enter {P : Program} {md : Region.Mode} {ops : Array Oper} {Q : Exit → Act → World → Prop} {S : World → Prop} {I : Type} (F : I → Nat) (L : I → Array Bool) (A : Act → I → Act) (Wd : I → World → Prop) (rank : I → Nat) (i0 : I) {fuel : Nat} {listed : Array Bool} {a0 : Act} {U : World}
    (hF : F i0 = fuel) (hL : L i0 = listed) (hA : A a0 i0 = a0) (h0 : Wd i0 U)
    (step : ∀ i, (∀ j, rank j < rank i → ∀ U, Wd j U → wpAnyH P md ops Q S (F j) (L j) (A a0 j) U) → ∀ U, Wd i U → wpAnyH P md ops Q S (F i) (L i) (A a0 i) U) : wpAnyH P md ops Q S fuel listed a0 U := by
  have h := wpAnyH_states F L (A a0) Wd rank step i0 U h0
  rwa [hF, hL, hA] at h

/-- what whole answers -/
structure WR where
  o : Cx
  fa : Option Addr
  fk : Nat
  qa : Option Addr
  qk : Nat
/-- which calls are done, which variables made, and what was answered -/
structure LS where
  b1 : Bool
  b2 : Bool
  b3 : Bool
  p7 : Option Nat
  p8 : Option Nat
  p9 : Option Nat
  r1 : WR
  r2 : WR
  r3 : WR
def rz : WR := ⟨zC, none, 0, none, 0⟩
def slotP (p : Option Nat) : Value := match p with
  | none => undef
  | some g => .pointer (some ⟨g, 0, none⟩)
def slotW (b : Bool) (l : List Ft) (r : WR) : Value := match b with
  | false => undef
  | true => .agg (sdc (sortF l) r.fa r.fk r.o r.qa r.qk)
def one (p : Option Nat) : Nat := match p with
  | none => 0
  | some _ => 1
def rankL (i : LS) : Nat := 9 - (i.b1.toNat + i.b2.toNat + i.b3.toNat + one i.p7 + one i.p8 + one i.p9)
def listL (i : LS) : Array Bool := #[true, i.b1, true, i.b2, true, i.b3, i.p7.isSome, i.p8.isSome, i.p9.isSome, false, false, false]
def actL (x y z : List Ft) (a0 : Act) (i : LS) : Act := { a0 with tmps := (((((a0.tmps.setIfInBounds 7 (slotP i.p7)).setIfInBounds 8 (slotP i.p8)).setIfInBounds 9 (slotP i.p9)).setIfInBounds 55 (slotW i.b1 x i.r1)).setIfInBounds 57 (slotW i.b2 y i.r2)).setIfInBounds 59 (slotW i.b3 z i.r3) }

def FNot (a : Option Addr) (l : List Ft) (g : Nat) : Prop := l = [] ∨ ∃ b off, a = some ⟨b, off, none⟩ ∧ b ≠ g
def DNot (a : Option Addr) (l : List Dt) (g : Nat) : Prop := l = [] ∨ ∃ b off, a = some ⟨b, off, none⟩ ∧ b ≠ g
theorem FIn.row_not {w : World} {a : Option Addr} {l : List Ft} {g : Nat} (h : FIn w a l) (hn : FNot a l g) (C : Array Value) : FIn (w.setRow g C) a l := by
  rcases h with h | ⟨b, off, rfl, hlt, hc⟩
  · exact .inl h
  · rcases hn with hn | ⟨b', off', e, hne⟩
    · exact .inl hn
    · injection e with e
      injection e with e1 e2
      subst e1
      refine .inr ⟨b, off, rfl, by simpa using hlt, fun j f hj i v hv => ?_⟩
      have h1 := hc j f hj i v hv
      unfold World.cell? at h1 ⊢
      rw [setRow_other _ _ _ _ hne]
      exact h1
theorem DIn.row_not {w : World} {a : Option Addr} {l : List Dt} {g : Nat} (h : DIn w a l) (hn : DNot a l g) (C : Array Value) : DIn (w.setRow g C) a l := by
  rcases h with h | ⟨b, off, rfl, hlt, hc⟩
  · exact .inl h
  · rcases hn with hn | ⟨b', off', e, hne⟩
    · exact .inl hn
    · injection e with e
      injection e with e1 e2
      subst e1
      refine .inr ⟨b, off, rfl, by simpa using hlt, fun j d hj => ?_⟩
      obtain ⟨h1, h2⟩ := hc j d hj
      unfold World.cell? at h1 h2 ⊢
      rw [setRow_other _ _ _ _ hne]
      exact ⟨h1, h2⟩
theorem FIn.not_new {w : World} {a : Option Addr} {l : List Ft} (h : FIn w a l) {g : Nat} (hg : w.heap.size ≤ g) : FNot a l g := by
  rcases h with h | ⟨b, off, e, hlt, -⟩
  · exact .inl h
  · exact .inr ⟨b, off, e, by omega⟩
theorem DIn.not_new {w : World} {a : Option Addr} {l : List Dt} (h : DIn w a l) {g : Nat} (hg : w.heap.size ≤ g) : DNot a l g := by
  rcases h with h | ⟨b, off, e, hlt, -⟩
  · exact .inl h
  · exact .inr ⟨b, off, e, by omega⟩
theorem FFrom.not_old {w : World} {lo : Nat} {a : Option Addr} {l : List Ft} (h : FFrom w lo a l) {g : Nat} (hg : g < lo) : FNot a l g := by
  rcases h with h | ⟨b, off, e, hlo, -⟩
  · exact .inl h
  · exact .inr ⟨b, off, e, by omega⟩
theorem DFrom.not_old {w : World} {lo : Nat} {a : Option Addr} {l : List Dt} (h : DFrom w lo a l) {g : Nat} (hg : g < lo) : DNot a l g := by
  rcases h with h | ⟨b, off, e, hlo, -⟩
  · exact .inl h
  · exact .inr ⟨b, off, e, by omega⟩
/-- one that was answered -/
structure Ok1 (U : World) (l : List Ft) (c : Cx) (r : WR) (P : Nat → Prop) : Prop where
  add : AddOf c (sortD (l.map (·.d))) r.o
  fin : FIn U r.fa (sortF l)
  cin : CIn U r.o r.qa
  len : r.o.l.length ≤ c.l.length + l.length
  fnot : ∀ g, P g → FNot r.fa (sortF l) g
  dnot : ∀ g, P g → DNot r.qa r.o.l g
theorem Ok1.below {U U' : World} {l : List Ft} {c : Cx} {r : WR} {P : Nat → Prop} (h : Ok1 U l c r P) (hb : Go.RowKit.Below U.heap.size U U') : Ok1 U' l c r P := ⟨h.add, h.fin.below hb, h.cin.below hb, h.len, h.fnot, h.dnot⟩
theorem Ok1.more {U U' : World} {l : List Ft} {c : Cx} {r : WR} {P Q : Nat → Prop} (h : Ok1 U l c r P) (hb : Go.RowKit.Below U.heap.size U U') (hq : ∀ g, Q g → P g ∨ U.heap.size ≤ g) : Ok1 U' l c r Q :=
  ⟨h.add, h.fin.below hb, h.cin.below hb, h.len, fun g hg => (hq g hg).elim (h.fnot g) (fun k => h.fin.not_new k), fun g hg => (hq g hg).elim (h.dnot g) (fun k => h.cin.din.not_new k)⟩
theorem Ok1.row {U : World} {l : List Ft} {c : Cx} {r : WR} {P : Nat → Prop} (h : Ok1 U l c r P) {g : Nat} (hg : P g) (C : Array Value) : Ok1 (U.setRow g C) l c r P :=
  ⟨h.add, h.fin.row_not (h.fnot g hg) C, ⟨h.cin.v16, h.cin.din.row_not (h.dnot g hg) C, h.cin.len⟩, h.len, h.fnot, h.dnot⟩
abbrev zsd : Array Value := sdc [] none 0 zC none 0
def Al (i : LS) (g : Nat) : Prop := i.p7 = some g ∨ i.p8 = some g ∨ i.p9 = some g
structure WL (W : World) (x y z : List Ft) (cx cy cz : Cx) (i : LS) (U : World) : Prop where
  base : Go.RowKit.Below W.heap.size W U
  o21 : i.b2 = true → i.b1 = true
  o32 : i.b3 = true → i.b2 = true
  al : ∀ g, Al i g → W.heap.size ≤ g ∧ Blk U g 29 zsd
  d78 : ∀ g h, i.p7 = some g → i.p8 = some h → g ≠ h
  d79 : ∀ g h, i.p7 = some g → i.p9 = some h → g ≠ h
  d89 : ∀ g h, i.p8 = some g → i.p9 = some h → g ≠ h
  k1 : i.b1 = true → Ok1 U x cx i.r1 (Al i)
  k2 : i.b2 = true → Ok1 U y cy i.r2 (Al i)
  k3 : i.b3 = true → Ok1 U z cz i.r3 (Al i)
theorem WL.new {W : World} {x y z : List Ft} {cx cy cz : Cx} {i j : LS} {U : World} (h : WL W x y z cx cy cz i U) (hb : j.b1 = i.b1 ∧ j.b2 = i.b2 ∧ j.b3 = i.b3 ∧ j.r1 = i.r1 ∧ j.r2 = i.r2 ∧ j.r3 = i.r3)
    (ha : ∀ g, Al j g → Al i g ∨ g = U.heap.size) (d78 : ∀ g h, j.p7 = some g → j.p8 = some h → g ≠ h) (d79 : ∀ g h, j.p7 = some g → j.p9 = some h → g ≠ h) (d89 : ∀ g h, j.p8 = some g → j.p9 = some h → g ≠ h) :
    WL W x y z cx cy cz j (U.alloc (.cells zsd 29)) := by
  obtain ⟨e1, e2, e3, e4, e5, e6⟩ := hb
  have hq : ∀ g, Al j g → Al i g ∨ U.heap.size ≤ g := fun g hg => (ha g hg).imp id (fun e => by omega)
  refine ⟨h.base.alloc h.base.size _, by rw [e1, e2]; exact h.o21, by rw [e2, e3]; exact h.o32, fun g hg => ?_, d78, d79, d89, ?_, ?_, ?_⟩
  · rcases ha g hg with hg | rfl
    · exact ⟨(h.al g hg).1, (h.al g hg).2.alloc _⟩
    · exact ⟨h.base.size, Blk.new _ _ _⟩
  · rw [e1, e4]; exact fun k => (h.k1 k).more (lowA U _) hq
  · rw [e2, e5]; exact fun k => (h.k2 k).more (lowA U _) hq
  · rw [e3, e6]; exact fun k => (h.k3 k).more (lowA U _) hq
theorem WL.al7 {W : World} {x y z : List Ft} {cx cy cz : Cx} {b1 b2 b3 : Bool} {p8 p9 : Option Nat} {r1 r2 r3 : WR} {U : World} (h : WL W x y z cx cy cz ⟨b1, b2, b3, none, p8, p9, r1, r2, r3⟩ U) :
    WL W x y z cx cy cz ⟨b1, b2, b3, some U.heap.size, p8, p9, r1, r2, r3⟩ (U.alloc (.cells zsd 29)) :=
  h.new ⟨rfl, rfl, rfl, rfl, rfl, rfl⟩ (fun g hg => by
    rcases hg with hg | hg | hg
    · exact .inr (Option.some.inj hg).symm
    · exact .inl (.inr (.inl hg))
    · exact .inl (.inr (.inr hg))) (fun g k hg hk => by
      obtain rfl := Option.some.inj hg
      have := (h.al k (.inr (.inl hk))).2.lt
      omega) (fun g k hg hk => by
      obtain rfl := Option.some.inj hg
      have := (h.al k (.inr (.inr hk))).2.lt
      omega) h.d89
theorem WL.al8 {W : World} {x y z : List Ft} {cx cy cz : Cx} {b1 b2 b3 : Bool} {p7 p9 : Option Nat} {r1 r2 r3 : WR} {U : World} (h : WL W x y z cx cy cz ⟨b1, b2, b3, p7, none, p9, r1, r2, r3⟩ U) :
    WL W x y z cx cy cz ⟨b1, b2, b3, p7, some U.heap.size, p9, r1, r2, r3⟩ (U.alloc (.cells zsd 29)) :=
  h.new ⟨rfl, rfl, rfl, rfl, rfl, rfl⟩ (fun g hg => by
    rcases hg with hg | hg | hg
    · exact .inl (.inl hg)
    · exact .inr (Option.some.inj hg).symm
    · exact .inl (.inr (.inr hg))) (fun g k hg hk => by
      obtain rfl := Option.some.inj hk
      have := (h.al g (.inl hg)).2.lt
      omega) h.d79 (fun g k hg hk => by
      obtain rfl := Option.some.inj hg
      have := (h.al k (.inr (.inr hk))).2.lt
      omega)
theorem WL.al9 {W : World} {x y z : List Ft} {cx cy cz : Cx} {b1 b2 b3 : Bool} {p7 p8 : Option Nat} {r1 r2 r3 : WR} {U : World} (h : WL W x y z cx cy cz ⟨b1, b2, b3, p7, p8, none, r1, r2, r3⟩ U) :
    WL W x y z cx cy cz ⟨b1, b2, b3, p7, p8, some U.heap.size, r1, r2, r3⟩ (U.alloc (.cells zsd 29)) :=
  h.new ⟨rfl, rfl, rfl, rfl, rfl, rfl⟩ (fun g hg => by
    rcases hg with hg | hg | hg
    · exact .inl (.inl hg)
    · exact .inl (.inr (.inl hg))
    · exact .inr (Option.some.inj hg).symm) h.d78 (fun g k hg hk => by
      obtain rfl := Option.some.inj hk
      have := (h.al g (.inl hg)).2.lt
      omega) (fun g k hg hk => by
      obtain rfl := Option.some.inj hk
      have := (h.al g (.inr (.inl hg))).2.lt
      omega)
theorem Ok1.made {U U' : World} {l : List Ft} {c : Cx} {r : WR} {P : Nat → Prop} (hadd : AddOf c (sortD (l.map (·.d))) r.o) (hf : FFrom U' U.heap.size r.fa (sortF l)) (hm : Made U.heap.size U' r.o r.qa) (hl : r.o.l.length ≤ c.l.length + l.length) (hp : ∀ g, P g → g < U.heap.size) : Ok1 U' l c r P :=
  ⟨hadd, hf.fin, hm.cin, hl, fun g hg => hf.not_old (hp g hg), fun g hg => hm.new.not_old (hp g hg)⟩
theorem WL.ca1 {W : World} {x y z : List Ft} {cx cy cz : Cx} {p7 p8 p9 : Option Nat} {r1 r2 r3 r : WR} {U U' : World} (h : WL W x y z cx cy cz ⟨false, false, false, p7, p8, p9, r1, r2, r3⟩ U) (hb : Go.RowKit.Below U.heap.size U U')
    (hadd : AddOf cx (sortD (x.map (·.d))) r.o) (hf : FFrom U' U.heap.size r.fa (sortF x)) (hm : Made U.heap.size U' r.o r.qa) (hl : r.o.l.length ≤ cx.l.length + x.length) :
    WL W x y z cx cy cz ⟨true, false, false, p7, p8, p9, r, r2, r3⟩ U' :=
  ⟨h.base.trans (hb.mono h.base.size), fun _ => rfl, fun k => (nomatch k), fun g hg => ⟨(h.al g hg).1, (h.al g hg).2.keep hb⟩, h.d78, h.d79, h.d89, fun _ => Ok1.made hadd hf hm hl (fun g hg => (h.al g hg).2.lt), fun k => (nomatch k), fun k => (nomatch k)⟩
theorem WL.ca2 {W : World} {x y z : List Ft} {cx cy cz : Cx} {p7 p8 p9 : Option Nat} {r1 r2 r3 r : WR} {U U' : World} (h : WL W x y z cx cy cz ⟨true, false, false, p7, p8, p9, r1, r2, r3⟩ U) (hb : Go.RowKit.Below U.heap.size U U')
    (hadd : AddOf cy (sortD (y.map (·.d))) r.o) (hf : FFrom U' U.heap.size r.fa (sortF y)) (hm : Made U.heap.size U' r.o r.qa) (hl : r.o.l.length ≤ cy.l.length + y.length) :
    WL W x y z cx cy cz ⟨true, true, false, p7, p8, p9, r1, r, r3⟩ U' :=
  ⟨h.base.trans (hb.mono h.base.size), fun _ => rfl, fun k => (nomatch k), fun g hg => ⟨(h.al g hg).1, (h.al g hg).2.keep hb⟩, h.d78, h.d79, h.d89, fun _ => (h.k1 rfl).below hb, fun _ => Ok1.made hadd hf hm hl (fun g hg => (h.al g hg).2.lt), fun k => (nomatch k)⟩
theorem WL.ca3 {W : World} {x y z : List Ft} {cx cy cz : Cx} {p7 p8 p9 : Option Nat} {r1 r2 r3 r : WR} {U U' : World} (h : WL W x y z cx cy cz ⟨true, true, false, p7, p8, p9, r1, r2, r3⟩ U) (hb : Go.RowKit.Below U.heap.size U U')
    (hadd : AddOf cz (sortD (z.map (·.d))) r.o) (hf : FFrom U' U.heap.size r.fa (sortF z)) (hm : Made U.heap.size U' r.o r.qa) (hl : r.o.l.length ≤ cz.l.length + z.length) :
    WL W x y z cx cy cz ⟨true, true, true, p7, p8, p9, r1, r2, r⟩ U' :=
  ⟨h.base.trans (hb.mono h.base.size), fun _ => rfl, fun _ => rfl, fun g hg => ⟨(h.al g hg).1, (h.al g hg).2.keep hb⟩, h.d78, h.d79, h.d89, fun _ => (h.k1 rfl).below hb, fun _ => (h.k2 rfl).below hb, fun _ => Ok1.made hadd hf hm hl (fun g hg => (h.al g hg).2.lt)⟩
/-- the three sides, whole, in their variables -/
structure LMid (W : World) (x y z : List Ft) (cx cy cz : Cx) (g7 g8 g9 : Nat) (r1 r2 r3 : WR) (U : World) : Prop where
  base : Go.RowKit.Below W.heap.size W U
  b7 : Blk U g7 29 (sdc (sortF x) r1.fa r1.fk r1.o r1.qa r1.qk)
  b8 : Blk U g8 29 (sdc (sortF y) r2.fa r2.fk r2.o r2.qa r2.qk)
  b9 : Blk U g9 29 (sdc (sortF z) r3.fa r3.fk r3.o r3.qa r3.qk)
  k1 : Ok1 U x cx r1 (fun _ => False)
  k2 : Ok1 U y cy r2 (fun _ => False)
  k3 : Ok1 U z cz r3 (fun _ => False)
theorem LMid.below {W : World} {x y z : List Ft} {cx cy cz : Cx} {g7 g8 g9 : Nat} {r1 r2 r3 : WR} {U U' : World} (h : LMid W x y z cx cy cz g7 g8 g9 r1 r2 r3 U) (hb : Go.RowKit.Below U.heap.size U U') : LMid W x y z cx cy cz g7 g8 g9 r1 r2 r3 U' :=
  ⟨h.base.trans (hb.mono h.base.size), h.b7.keep hb, h.b8.keep hb, h.b9.keep hb, h.k1.below hb, h.k2.below hb, h.k3.below hb⟩
theorem Ok1.off {U : World} {l : List Ft} {c : Cx} {r : WR} {P : Nat → Prop} (h : Ok1 U l c r P) : Ok1 U l c r (fun _ => False) := ⟨h.add, h.fin, h.cin, h.len, fun _ k => k.elim, fun _ k => k.elim⟩
theorem WL.end' {W : World} {x y z : List Ft} {cx cy cz : Cx} {g7 g8 g9 : Nat} {r1 r2 r3 : WR} {U : World} (h : WL W x y z cx cy cz ⟨true, true, true, some g7, some g8, some g9, r1, r2, r3⟩ U) :
    LMid W x y z cx cy cz g7 g8 g9 r1 r2 r3 (((U.setRow g7 (sdc (sortF x) r1.fa r1.fk r1.o r1.qa r1.qk)).setRow g8 (sdc (sortF y) r2.fa r2.fk r2.o r2.qa r2.qk)).setRow g9 (sdc (sortF z) r3.fa r3.fk r3.o r3.qa r3.qk)) := by
  have a7 := h.al g7 (.inl rfl)
  have a8 := h.al g8 (.inr (.inl rfl))
  have a9 := h.al g9 (.inr (.inr rfl))
  have n78 := h.d78 g7 g8 rfl rfl
  have n79 := h.d79 g7 g9 rfl rfl
  have n89 := h.d89 g8 g9 rfl rfl
  have P7 : Al ⟨true, true, true, some g7, some g8, some g9, r1, r2, r3⟩ g7 := .inl rfl
  have P8 : Al ⟨true, true, true, some g7, some g8, some g9, r1, r2, r3⟩ g8 := .inr (.inl rfl)
  have P9 : Al ⟨true, true, true, some g7, some g8, some g9, r1, r2, r3⟩ g9 := .inr (.inr rfl)
  exact ⟨belowRow (belowRow (belowRow h.base a7.1 _) a8.1 _) a9.1 _, ((a7.2.put _).other n78 _).other n79 _, ((a8.2.other (Ne.symm n78) _).put _).other n89 _, ((a9.2.other (Ne.symm n79) _).other (Ne.symm n89) _).put _,
    ((((h.k1 rfl).row P7 _).row P8 _).row P9 _).off, ((((h.k2 rfl).row P7 _).row P8 _).row P9 _).off, ((((h.k3 rfl).row P7 _).row P8 _).row P9 _).off⟩
end Go.Proofs.YtcedliaeipabnaaGreat
