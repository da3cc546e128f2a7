/-
  almonrylaw17: the walk of RegisterLast.
-/
import Derived.Test.YtpcelgmcbfjmbaaRegAwk
import Derived.Deep.QuietTactic
namespace Go.Proofs.Ytpcelgmcbfjmbaa
set_option linter.unusedSimpArgs false
set_option linter.unusedVariables false
set_option maxRecDepth 100000
open Go.RowKit Go.Sort

theorem StrRow.some_of {w : World} {b off : Nat} {ss : List ByteArray} (h : StrRow w (some ⟨b, off, none⟩) ss) {j : Nat} {x : ByteArray} (hj : ss[j]? = some x) : b < w.heap.size ∧ w.cell? ⟨b, off + j, none⟩ = some (.string x) := by
  obtain ⟨b2, o2, he, hlt, hc⟩ := h.at hj
  injection he with he; injection he with h1 h2; subst h1 h2
  exact ⟨hlt, hc⟩
theorem take_mem {α : Type} [DecidableEq α] {out : List α} {k : Nat} {x y : α} (hy : out[k]? = some y) : x ∈ out.take (k + 1) ↔ x ∈ out.take k ∨ y = x := by
  obtain ⟨h, rfl⟩ := List.getElem?_eq_some_iff.1 hy
  rw [List.take_succ_eq_append_getElem h, List.mem_append, List.mem_singleton]
  exact ⟨fun e => e.imp id Eq.symm, fun e => e.imp id Eq.symm⟩
/-- t tells whether y is among the first k -/
structure InT (t : Bool) (y : ByteArray) (out : List ByteArray) (k : Nat) : Prop where
  iff : t = true ↔ y ∈ out.take k
/-- the last of some texts -/
def lastV (xs : List ByteArray) : ByteArray × Bool := match xs.getLast? with
  | none => (⟨#[]⟩, false)
  | some v => (v, true)
theorem lastV_of (s : List Ft) : lastR s = lastV (s.map (·.v)) := lastR_vals s
theorem lastV_nil : lastV [] = (⟨#[]⟩, false) := rfl
theorem lastV_at {xs : List ByteArray} {q : Nat} {x : ByteArray} (hl : xs.length = q + 1) (hx : xs[q]? = some x) : lastV xs = (x, true) := by
  unfold lastV
  rw [List.getLast?_eq_getElem?, hl, Nat.add_sub_cancel, hx]
set_option maxHeartbeats 8000000 in
theorem reg_last_row (a : Option Addr) (len cap : Nat) (l : List Ft) (w : World) (h : FactArg w a len l) :
    Calls Try.prog 5 #[.slice a len cap] w fun e w' => e = .returned (.bool true) ∧ Go.RowKit.Below w.heap.size w w' := by
  obtain ⟨hn, hl, hin, hsz⟩ := h
  have HFW := Lib.hid (fun W hh => ffewC l a cap W hh (by rw [hn]; exact hl) hsz)
  rw [hn] at HFW
  unfold maxLen at hl
  have H := Lib.hid hin
  have HN := Lib.hid hn
  clear hin hsz hn
  cases hfw : fewP l with
  | false =>
    rw [hfw] at HFW
    clear hfw
    go_enter Try.func5, Try.ntmps5
    go_wp2_with fail
    refine (HFW.out w H.out).mono ?_
    rintro e w1 ⟨rfl, rfl⟩
    go_wp2_with fail
    refine (regAwake w).mono ?_
    rintro e w1 ⟨rfl, hb⟩
    have HB := Lib.hid hb; clear hb
    go_wp2_with fail
    go_ret
    exact ⟨rfl, HB.out⟩
  | true =>
    rw [hfw] at HFW
    have hsm : len ≤ 30 := by rw [← HN.out]; exact (fewP_ok hfw).1
    clear hfw
    go_enter Try.func5, Try.ntmps5
    go_wp2_with fail
    refine (HFW.out w H.out).mono ?_
    rintro e w1 ⟨rfl, rfl⟩
    clear HFW
    go_wp2_with fail
    refine (allX l len HN.out a cap w H.out (by omega)).mono ?_
    rintro e w1 ⟨g1, xs, rfl, hxl, htb, ⟨s, ho, hx⟩, hb⟩
    have B1 := Lib.hid hb
    have H1 := Lib.hid (And.intro (H.out.below hb) htb.row)
    have X1 := Lib.hid (And.intro hxl (And.intro ho hx))
    clear hxl htb ho hx hb H
    go_wp2_with fail
    refine (elemX l len HN.out a cap w1 H1.out.1 (by omega)).mono ?_
    rintro e w2 ⟨g2, c2, out, rfl, hrow, he, hol, hb⟩
    have B2 := Lib.hid (B1.out.trans (hb.mono B1.out.size))
    have H2 := Lib.hid (And.intro (H1.out.1.below hb) (And.intro (H1.out.2.below hb) hrow))
    have HALL := Lib.hid (show ∀ x ∈ xs, x ∈ out from fun x hx => by
      rw [← X1.out.2.2] at hx
      obtain ⟨f, hf, rfl⟩ := List.mem_map.1 hx
      exact (he.mem _).2 ⟨f, X1.out.2.1.perm.mem_iff.1 hf, rfl⟩)
    clear hrow he hb B1 H1
    go_wp2_with fail
    refine (lastX l len HN.out a cap w2 H2.out.1 (by omega)).mono ?_
    rintro e w3 ⟨rs, rb, rfl, hla, hb⟩
    have B3 := Lib.hid (B2.out.trans (hb.mono B2.out.size))
    have H3 := Lib.hid (And.intro (H2.out.2.1.below hb) (H2.out.2.2.below hb))
    have HLR := Lib.hid (show lastV xs = (rs, rb) from by rw [← X1.out.2.2, ← lastV_of]; exact hla.order X1.out.2.1)
    have HXL := Lib.hid X1.out.1
    clear hla hb B2 H2 X1
    have main : ∀ (P : Prop), P → P := fun _ h => h
    by_cases h0 : len = 0
    · subst h0
      have hx0 : xs = [] := List.length_eq_zero_iff.1 HXL.out
      have hrr : rb = false ∧ True := by
        have := HLR.out
        rw [hx0, lastV_nil] at this
        injection this with e1 e2
        exact ⟨e2.symm, trivial⟩
      obtain ⟨rfl, -⟩ := hrr
      clear main
      go_wp2_with fail
      go_loopw [7] (fun i wr => i = .int .i64 0 ∧ w3 = wr) (fun i _ => 1)
      case atStart => exact ⟨rfl, rfl⟩
      case round =>
        obtain ⟨rfl, rfl⟩ := hrel
        go_wp2_with fail
        refine (regAwake w3).mono ?_
        rintro e w4 ⟨rfl, hb⟩
        have B4 := Lib.hid (B3.out.trans (hb.mono B3.out.size))
        clear hb
        go_wp2_with fail
        go_ret
        exact ⟨rfl, B4.out⟩
    · obtain ⟨q, hq⟩ : ∃ q, len = q + 1 := ⟨len - 1, by omega⟩
      obtain ⟨x, hxq⟩ : ∃ x, xs[q]? = some x := ⟨_, List.getElem?_eq_getElem (by have := HXL.out; omega)⟩
      have hrr : x = rs ∧ rb = true := by
        have := HLR.out
        rw [lastV_at (HXL.out.trans hq) hxq] at this
        injection this with e1 e2
        exact ⟨e1, e2.symm⟩
      obtain ⟨rfl, rfl⟩ := hrr
      have cx := (H3.out.1.some_of hxq).2
      rw [Nat.zero_add] at cx
      have hi1 : (0 : Int) < (len : Int) := by omega
      have hqw : IntKind.i64.wrap ((len : Int) - 1) = (q : Int) := by simp [IntKind.wrap, IntKind.bits, IntKind.signed]; omega
      have hq0 : (0 : Int) ≤ (q : Int) := by omega
      have hq1 : (q : Int) < (len : Int) := by omega
      have hxs : (!x.toList == x.toList) = false := by simp
      clear main hxq hq
      go_wp2_with fail
      clear hqw hq0 hq1 hxs cx HLR
      go_loopw [7] (fun i wr => ∃ j : Nat, i = .int .i64 (j : Int) ∧ j ≤ len ∧ Hid (Go.RowKit.Below w3.heap.size w3 wr)) (fun i _ => len - (intOf i).toNat)
      case atStart => exact ⟨0, rfl, Nat.zero_le _, Lib.hid (Below.refl _ _)⟩
      case round =>
        obtain ⟨j, rfl, hj, HB⟩ := hrel
        by_cases hlt : j < len
        · obtain ⟨y, hy⟩ : ∃ x, xs[j]? = some x := ⟨_, List.getElem?_eq_getElem (by have := HXL.out; omega)⟩
          have HY := Lib.hid hy
          have hin : y ∈ out := HALL.out y (List.mem_of_getElem? hy)
          have HI := Lib.hid hin
          have hi2 : (j : Int) < (len : Int) := by omega
          clear hy hin
          go_wp2_with fail
          go_loopw [8, 9] (fun b i wk => ∃ (k : Nat) (t : Bool), i = .int .i64 (k : Int) ∧ b = .bool t ∧ k ≤ out.length ∧ Hid (InT t y out k) ∧ Hid (Go.RowKit.Below w3.heap.size w3 wk)) (fun _ i _ => out.length - (intOf i).toNat)
          case atStart => exact ⟨0, false, rfl, rfl, Nat.zero_le _, Lib.hid ⟨by simp⟩, HB⟩
          case round =>
            rename World => wk
            obtain ⟨k, t, rfl, rfl, hk, HK, HW⟩ := hrel
            by_cases hlt2 : k < out.length
            · obtain ⟨z, hz⟩ : ∃ x, out[k]? = some x := ⟨_, List.getElem?_eq_getElem hlt2⟩
              have cz := ((H3.out.2.below HW.out).some_of hz).2
              have cy := ((H3.out.1.below HW.out).some_of HY.out).2
              rw [Nat.zero_add] at cz cy
              have hk2 : (k : Int) < (out.length : Int) := by omega
              have HZ := Lib.hid hz
              clear hz
              cases t with
              | true =>
                have HK2 := Lib.hid (show InT true y out (k + 1) from ⟨⟨fun _ => (take_mem HZ.out).2 (.inl (HK.out.iff.1 rfl)), fun _ => rfl⟩⟩)
                go_wp2
                go_quiet (fail)
                go_wp2
                go_roundw
                case rel => exact ⟨k + 1, true, by go_num, rfl, by omega, HK2, Lib.hid (belowN HW.out _)⟩
                case measure => simp [intOf]; omega
              | false =>
                cases hq : (z.toList == y.toList) with
                | true =>
                  have HK2 := Lib.hid (show InT true y out (k + 1) from ⟨⟨fun _ => (take_mem HZ.out).2 (.inr (bytes_inj (eq_of_beq hq))), fun _ => rfl⟩⟩)
                  go_wp2
                  go_quiet (fail)
                  go_wp2
                  go_roundw
                  case rel => exact ⟨k + 1, true, by go_num, rfl, by omega, HK2, Lib.hid (belowN HW.out _)⟩
                  case measure => simp [intOf]; omega
                | false =>
                  have HK2 := Lib.hid (show InT false y out (k + 1) from ⟨⟨fun e => absurd e (by simp), fun e => by
                    rcases (take_mem HZ.out).1 e with e | e
                    · exact absurd (HK.out.iff.2 e) (by simp)
                    · subst e; simp at hq⟩⟩)
                  go_wp2
                  go_quiet (fail)
                  go_wp2
                  go_roundw
                  case rel => exact ⟨k + 1, false, by go_num, rfl, by omega, HK2, Lib.hid (belowN HW.out _)⟩
                  case measure => simp [intOf]; omega
            · obtain rfl : k = out.length := by omega
              have ht : t = true := HK.out.iff.2 (by rw [List.take_length]; exact HI.out)
              subst ht
              have hk2 : ¬ (out.length : Int) < (out.length : Int) := by omega
              go_wp2
              go_roundw
              case rel => exact ⟨j + 1, by go_num, by omega, HW⟩
              case measure => simp [intOf]; omega
        · obtain rfl : j = len := by omega
          have hi2 : ¬ (j : Int) < (j : Int) := by omega
          go_wp2_with fail
          refine (regAwake _).mono ?_
          rintro e w4 ⟨rfl, hb⟩
          have hs3 := B3.out.size
          have B4 := Lib.hid (B3.out.trans (HB.out.mono hs3))
          have B5 := Lib.hid (B4.out.trans (hb.mono B4.out.size))
          clear hb
          go_wp2_with fail
          go_ret
          exact ⟨rfl, B5.out⟩
end Go.Proofs.Ytpcelgmcbfjmbaa
