/-
  register: what All and Elements answer, as the laws' walks take it.
-/
import Derived.Test.YtpcelgmcbfjmbaaRegAll
import Derived.Test.YtpcelgmcbfjmbaaRegRef
import Derived.Test.YtpcelgmcbfjmbaaRegElR
import Derived.Test.YtpcelgmcbfjmbaaFactFew
namespace Go.Proofs.Ytpcelgmcbfjmbaa
set_option linter.unusedSimpArgs false
set_option linter.unusedVariables false
set_option maxRecDepth 100000
open Go.RowKit Go.Sort

theorem allX (l : List Ft) (n : Nat) (hn : l.length = n) (a : Option Addr) (cap : Nat) (w : World) (h : FIn w a l) (hl : n ≤ 65536) :
    Calls Try.prog 14 #[.slice a n cap] w fun e w' => ∃ (g : Nat) (xs : List ByteArray), e = .returned (.slice (some ⟨g, 0, none⟩) n n) ∧ xs.length = n ∧ TBlk w' g xs ∧ (∃ s, OrderR l s ∧ s.map (·.v) = xs) ∧ Go.RowKit.Below w.heap.size w w' := by
  subst hn
  refine (allC l a cap w h hl).mono ?_
  rintro e w' ⟨g, s, he, ht, ho, hb⟩
  exact ⟨g, s.map (·.v), he, by rw [List.length_map, ho.perm.length_eq], ht, ⟨s, ho, rfl⟩, hb⟩
theorem rallX (l : List Ft) (n : Nat) (hn : l.length = n) (a : Option Addr) (cap : Nat) (w : World) (h : FIn w a l) (hl : n ≤ 65536) :
    Calls Try.prog 15 #[.slice a n cap] w fun e w' => ∃ (b : Option Addr) (c : Nat) (xs : List ByteArray), e = .returned (.slice b n c) ∧ xs.length = n ∧ StrRow w' b xs ∧ (∃ s, OrderR l s ∧ s.map (·.v) = xs) ∧ Go.RowKit.Below w.heap.size w w' := by
  subst hn
  refine (rallC l a cap w h hl).mono ?_
  rintro e w' ⟨v', s, rfl, hown, ho, hb⟩
  obtain ⟨b, c, rfl, hrow, -⟩ := hown.fin2
  have hlen : (s.map (·.v)).length = l.length := by rw [List.length_map, ho.perm.length_eq]
  exact ⟨b, c, s.map (·.v), by rw [hlen], hlen, hrow, ⟨s, ho, rfl⟩, hb⟩
theorem relemX (l : List Ft) (out : List ByteArray) (ho : ElemsR l out) (n : Nat) (hn : l.length = n) (a : Option Addr) (cap : Nat) (w : World) (h : FIn w a l) (hl : n ≤ 65536) :
    Calls Try.prog 17 #[.slice a n cap] w fun e w' => ∃ (b : Option Addr) (c : Nat), e = .returned (.slice b out.length c) ∧ StrRow w' b out ∧ Go.RowKit.Below w.heap.size w w' := by
  subst hn
  refine (relemC l a cap w h hl).mono ?_
  rintro e w' ⟨v', o2, rfl, hown, he, hb⟩
  obtain rfl : out = o2 := ho.same (fun f => Iff.rfl) he
  obtain ⟨b, c, rfl, hrow, -⟩ := hown.fin2
  exact ⟨b, c, rfl, hrow, hb⟩
theorem elemX (l : List Ft) (n : Nat) (hn : l.length = n) (a : Option Addr) (cap : Nat) (w : World) (h : FIn w a l) (hl : n ≤ 65536) :
    Calls Try.prog 16 #[.slice a n cap] w fun e w' => ∃ (g c : Nat) (out : List ByteArray), e = .returned (.slice (some ⟨g, 0, none⟩) out.length c) ∧ StrRow w' (some ⟨g, 0, none⟩) out ∧ ElemsR l out ∧ out.length ≤ n ∧ Go.RowKit.Below w.heap.size w w' := by
  subst hn
  refine (elemsC l a cap w h hl).mono ?_
  rintro e w' ⟨g, out, he, hrow, ho, hol, hb⟩
  exact ⟨g, _, out, he, hrow, ho, hol, hb⟩
/-- Elements where what it answers is known -/
theorem elemY (l : List Ft) (out : List ByteArray) (ho : ElemsR l out) (n m : Nat) (hn : l.length = n) (hm : out.length = m) (a : Option Addr) (cap : Nat) (w : World) (h : FIn w a l) (hl : n ≤ 65536) :
    Calls Try.prog 16 #[.slice a n cap] w fun e w' => ∃ (g c : Nat), e = .returned (.slice (some ⟨g, 0, none⟩) m c) ∧ StrRow w' (some ⟨g, 0, none⟩) out ∧ Go.RowKit.Below w.heap.size w w' := by
  subst hm
  refine (elemX l n hn a cap w h hl).mono ?_
  rintro e w' ⟨g, c, o2, rfl, hrow, he, -, hb⟩
  obtain rfl : out = o2 := ho.same (fun f => Iff.rfl) he
  exact ⟨g, c, rfl, hrow, hb⟩
theorem allY (l s : List Ft) (xs : List ByteArray) (ho : OrderR l s) (hx : s.map (·.v) = xs) (n : Nat) (hn : l.length = n) (a : Option Addr) (cap : Nat) (w : World) (h : FIn w a l) (hl : n ≤ 65536) :
    Calls Try.prog 14 #[.slice a n cap] w fun e w' => ∃ (g : Nat), e = .returned (.slice (some ⟨g, 0, none⟩) n n) ∧ TBlk w' g xs ∧ Go.RowKit.Below w.heap.size w w' := by
  refine (allX l n hn a cap w h hl).mono ?_
  rintro e w' ⟨g, ys, rfl, -, ht, ⟨t, ho2, hy⟩, hb⟩
  have e1 : s.map (·.v) = t.map (·.v) := ho.vals (.refl l) ho2
  rw [hx, hy] at e1
  subst e1
  exact ⟨g, rfl, ht, hb⟩
theorem lastX (l : List Ft) (n : Nat) (hn : l.length = n) (a : Option Addr) (cap : Nat) (w : World) (h : FIn w a l) (hl : n ≤ 65536) :
    Calls Try.prog 8 #[.slice a n cap] w fun e w' => ∃ rs rb, e = .returned (.tuple #[.string rs, .bool rb]) ∧ LastAns l (rs, rb) ∧ Go.RowKit.Below w.heap.size w w' := by
  subst hn
  exact (lastC l a cap w h hl).mono fun e w' ⟨r, he, ha, hb⟩ => ⟨r.1, r.2, he, ha, hb⟩
theorem lastY (l s : List Ft) (rs : ByteArray) (rb : Bool) (ho : OrderR l s) (hx : lastR s = (rs, rb)) (n : Nat) (hn : l.length = n) (a : Option Addr) (cap : Nat) (w : World) (h : FIn w a l) (hl : n ≤ 65536) :
    Calls Try.prog 8 #[.slice a n cap] w fun e w' => e = .returned (.tuple #[.string rs, .bool rb]) ∧ Go.RowKit.Below w.heap.size w w' := by
  refine (lastX l n hn a cap w h hl).mono ?_
  rintro e w' ⟨p, q, rfl, ha, hb⟩
  have := ha.order ho
  rw [hx] at this
  injection this with e1 e2
  subst e1 e2
  exact ⟨rfl, hb⟩
theorem rlastY (l : List Ft) (rs : ByteArray) (rb : Bool) (hr : LastAns l (rs, rb)) (n : Nat) (hn : l.length = n) (a : Option Addr) (cap : Nat) (w : World) (h : FIn w a l) (hl : n ≤ 65536) :
    Calls Try.prog 9 #[.slice a n cap] w fun e w' => e = .returned (.tuple #[.string rs, .bool rb]) ∧ Go.RowKit.Below w.heap.size w w' := by
  subst hn
  refine (rlastC l a cap w h hl).mono ?_
  rintro e w' ⟨m, rfl, ho, hb⟩
  rw [hr.order ho]
  exact ⟨rfl, hb⟩
theorem ofX (l o : List Ft) (k : Int) (nm : ByteArray) (ho : ofR k nm l = o) (n m : Nat) (hn : l.length = n) (hm : o.length = m) (a : Option Addr) (cap : Nat) (w : World) (h : FIn w a l) (hl : n ≤ 65536) :
    Calls Try.prog 11 #[.slice a n cap, .int .i64 k, .string nm] w fun e w' => ∃ b c, e = .returned (.slice b m c) ∧ FIn w' b o ∧ Go.RowKit.Below w.heap.size w w' := by
  subst hn hm ho
  refine (ofC l k nm a cap w h hl).mono ?_
  rintro e w' ⟨v', rfl, hown, hb⟩
  obtain ⟨b, c, rfl, hin, -⟩ := hown.fin
  exact ⟨b, c, rfl, hin, hb⟩
theorem rofX (l o : List Ft) (k : Int) (nm : ByteArray) (ho : ofR k nm l = o) (n m : Nat) (hn : l.length = n) (hm : o.length = m) (a : Option Addr) (cap : Nat) (w : World) (h : FIn w a l) (hl : n ≤ 65536) :
    Calls Try.prog 12 #[.slice a n cap, .int .i64 k, .string nm] w fun e w' => ∃ b c, e = .returned (.slice b m c) ∧ FIn w' b o ∧ Go.RowKit.Below w.heap.size w w' := by
  subst hn hm ho
  refine (rofC l k nm a cap w h hl).mono ?_
  rintro e w' ⟨v', rfl, hown, hb⟩
  obtain ⟨b, c, rfl, hin, -⟩ := hown.fin
  exact ⟨b, c, rfl, hin, hb⟩
theorem textsY (xs ys : List ByteArray) (he : xs = ys) (n m : Nat) (hn : xs.length = n) (hm : ys.length = m) (a b : Option Addr) (ca cb : Nat) (w : World) (ha : StrRow w a xs) (hb : StrRow w b ys) (hl : n ≤ maxLen) :
    Calls Try.prog 13 #[.slice a n ca, .slice b m cb] w fun e w' => e = .returned (.bool true) ∧ Go.RowKit.Below w.heap.size w w' := by
  subst he hn hm
  refine (texts_same a b ca cb xs w ha hb hl).mono ?_
  rintro e w' ⟨rfl, k, rfl⟩
  exact ⟨rfl, belowN (Below.refl _ _) k⟩
theorem tblk_new (w : World) (ss : List ByteArray) : TBlk (w.alloc (.cells (ss.map Value.string).toArray 9)) w.heap.size ss := heap_alloc_new w _
end Go.Proofs.Ytpcelgmcbfjmbaa
