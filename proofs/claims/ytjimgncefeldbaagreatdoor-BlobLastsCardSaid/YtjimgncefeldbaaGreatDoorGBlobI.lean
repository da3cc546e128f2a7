/-
  almonryref02.Twice; with, without.
  almonrylaw10.without, with.
  How the deeds of a store's statement, that came in, are opened.
  almonrylaw10.few.
  almonrylaw10.twice.
-/
import Derived.Test.YtjimgncefeldbaaGreatDoorGSerA
import Derived.Test.YtjimgncefeldbaaGreatDoorGShaC
import Derived.Test.YtjimgncefeldbaaGreatDoorGWireB
import Derived.StillTailTactics
import Derived.Lib.QuietBelow
import Derived.Test.YtjimgncefeldbaaGreatDoorGDeeds
namespace Go.Proofs.YtjimgncefeldbaaGreatDoor
open Go.RowKit Go.Sort

/-- no two unlike texts of these have one sum -/
def NoTwice (l : List ByteArray) : Prop := ∀ i k, k < i → i < l.length → sSum (l.getD i ByteArray.empty).data.toList = sSum (l.getD k ByteArray.empty).data.toList → l.getD i ByteArray.empty = l.getD k ByteArray.empty

theorem nb_eq {x y : ByteArray} (h : x = y) : (!x.toList == y.toList) = false := by subst h; simp
theorem nb_ne {x y : ByteArray} (h : x ≠ y) : (!x.toList == y.toList) = true := by
  rw [ByteArray.toList_eq, ByteArray.toList_eq]
  have h3 : x.data ≠ y.data := fun e => h (ByteArray.ext e)
  simp [h3]
theorem eb_eq {x y : ByteArray} (h : x = y) : (x.toList == y.toList) = true := by subst h; simp
theorem eb_ne {x y : ByteArray} (h : x ≠ y) : (x.toList == y.toList) = false := by
  have := nb_ne h
  simpa using this

set_option maxHeartbeats 8000000 in
set_option maxRecDepth 100000 in
theorem twiceR (ra : Option Addr) (cap : Nat) (l : List ByteArray) (w : World) (hrow : StrRow w ra l) (hl : l.length ≤ 100000) (hs : ∀ s ∈ l, s.size ≤ 5000) :
    Calls Tryz.prog 65 #[.slice ra l.length cap] w fun e w' => ∃ b, e = .returned (.bool b) ∧ (b = false → NoTwice l) ∧ Below w.heap.size w w' := by
  have HROW := Lib.hid hrow
  have HS := Lib.hid hs
  clear hrow hs
  go_enter Tryz.func65, Tryz.ntmps65
  go_wp2_with fail
  go_loopw [3] (fun i wr => ∃ m : Nat, m ≤ l.length ∧ i = .int .i64 m ∧ Hid (∀ i k, k < i → i < m → sSum (l.getD i ByteArray.empty).data.toList = sSum (l.getD k ByteArray.empty).data.toList → l.getD i ByteArray.empty = l.getD k ByteArray.empty) ∧ Below w.heap.size w wr) (fun i _ => l.length - (intOf i).toNat)
  case atStart => exact ⟨0, Nat.zero_le _, rfl, Lib.hid (fun i k _ h => absurd h (by omega)), Below.refl _ _⟩
  case round =>
    obtain ⟨m, hm, rfl, hno, hb⟩ := hrel
    by_cases hlt : m < l.length
    · have HB := Lib.hid hb
      clear hb
      go_wp2_with fail
      go_loopw [4] (fun j w2 => ∃ n : Nat, n ≤ m ∧ j = .int .i64 n ∧ Hid (∀ k, k < n → sSum (l.getD m ByteArray.empty).data.toList = sSum (l.getD k ByteArray.empty).data.toList → l.getD m ByteArray.empty = l.getD k ByteArray.empty) ∧ Below w.heap.size w w2) (fun j _ => m - (intOf j).toNat)
      case atStart => exact ⟨0, Nat.zero_le _, rfl, Lib.hid (fun k h => absurd h (by omega)), HB.out⟩
      case round =>
        obtain ⟨n, hn, rfl, hno2, hb2⟩ := hrel
        by_cases hlt2 : n < m
        · obtain ⟨b, off, rfl, hlb, hc⟩ : ∃ b off, ra = some ⟨b, off, none⟩ ∧ b < w.heap.size ∧ ∀ j, j < l.length → w.cell? ⟨b, off + j, none⟩ = some (.string (l.getD j ByteArray.empty)) := by
            rcases HROW.out with h | h
            · rw [h] at hlt; simp at hlt
            · exact h
          have hc1 : wr.cell? ⟨b, off + m, none⟩ = some (.string (l.getD m ByteArray.empty)) := by rw [hb2.cell (p := ⟨b, off + m, none⟩) hlb]; exact hc m hlt
          have hc2 : wr.cell? ⟨b, off + n, none⟩ = some (.string (l.getD n ByteArray.empty)) := by rw [hb2.cell (p := ⟨b, off + n, none⟩) hlb]; exact hc n (by omega)
          have hbw : b < wr.heap.size := Nat.lt_of_lt_of_le hlb hb2.size
          have hs1 := HS.out _ (getD_mem (l := l) (k := m) hlt)
          have hs2 := HS.out _ (getD_mem (l := l) (k := n) (by omega))
          obtain ⟨x, hx⟩ : ∃ x, l.getD m ByteArray.empty = x := ⟨_, rfl⟩
          obtain ⟨y, hy⟩ : ∃ y, l.getD n ByteArray.empty = y := ⟨_, rfl⟩
          have HNX := Lib.hid (show (sSum x.data.toList = sSum y.data.toList → x = y) → ∀ k, k < n + 1 → sSum (l.getD m ByteArray.empty).data.toList = sSum (l.getD k ByteArray.empty).data.toList → l.getD m ByteArray.empty = l.getD k ByteArray.empty from fun h k hk => by
            rcases Nat.lt_or_ge k n with h1 | h1
            · exact hno2.out k h1
            · obtain rfl : k = n := by omega
              rw [hx, hy]; exact h)
          rw [hx] at hc1 hs1
          rw [hy] at hc2 hs2
          clear hc hx hy
          have HB2 := Lib.hid hb2
          have r1 := fun d os => cell_regrown hc1 d os
          have r2 := fun d os => cell_regrown hc2 d os
          have cX := fun d os => Calls.regrown_of (sumR x (grow (redrawn wr d) os) hs1)
          have cY := fun d os => Calls.regrown_of (sumR y (grow (redrawn wr d) os) hs2)
          have HCX := Lib.hid cX
          have HCY := Lib.hid cY
          clear hb2 cX cY
          by_cases hxy : x = y
          · have hq := nb_eq hxy
            have HN := Lib.hid (HNX.out (fun _ => hxy))
            go_upto_region 7 with fail
            clear hc1 hc2
            refine wp_region_quiet_below (by kernel_rfl) (by kernel_rfl) ?_
            repeat (first | go_big_quiet_step (fail) | quiet_step (fail))
            refine wpQuiet_nil ?_
            intro _ hw'
            obtain ⟨⟨dq, osq⟩, hw''⟩ := hw'
            subst hw''
            have hb9 := below_regrown wr dq osq
            have HB9 := Lib.hid (HB2.out.trans (hb9.mono HB2.out.size))
            clear hb9 HCX HCY r1 r2
            generalize grow (redrawn wr dq) osq = W at *
            go_wp2_with fail
            go_roundw
            case rel => exact ⟨n + 1, by omega, by go_num, HN, HB9.out⟩
            case measure => simp [intOf]; omega
          · have hq := nb_ne hxy
            by_cases hss : sSum x.data.toList = sSum y.data.toList
            · have hq2 : ((⟨(sSum x.data.toList).toArray⟩ : ByteArray).toList == (⟨(sSum y.data.toList).toArray⟩ : ByteArray).toList) = true := eb_eq (by rw [hss])
              generalize (⟨(sSum x.data.toList).toArray⟩ : ByteArray) = sx at *
              generalize (⟨(sSum y.data.toList).toArray⟩ : ByteArray) = sy at *
              go_upto_region 7 with fail
              clear hc1 hc2
              refine wp_region_quiet_below (by kernel_rfl) (by kernel_rfl) ?_
              repeat (first | go_big_quiet_step ((go_at_call 61; first | (with_reducible exact HCX.out _ _) | (with_reducible exact HCY.out _ _))) | quiet_step ((go_at_call 61; first | (with_reducible exact HCX.out _ _) | (with_reducible exact HCY.out _ _))))
              refine wpQuiet_nil ?_
              intro _ hw'
              obtain ⟨⟨dq, osq⟩, hw''⟩ := hw'
              subst hw''
              have hb9 := below_regrown wr dq osq
              have HB9 := Lib.hid (HB2.out.trans (hb9.mono HB2.out.size))
              clear hb9 HCX HCY r1 r2
              generalize grow (redrawn wr dq) osq = W at *
              go_wp2_with fail
              go_ret
              exact ⟨true, rfl, fun e => by (cases e), HB9.out⟩
            · have hne : (⟨(sSum x.data.toList).toArray⟩ : ByteArray) ≠ ⟨(sSum y.data.toList).toArray⟩ := fun e => hss (by
                have := congrArg (fun b : ByteArray => b.data.toList) e
                simpa using this)
              have hq2 := eb_ne hne
              have HN := Lib.hid (HNX.out (fun e => absurd e hss))
              clear hne
              generalize (⟨(sSum x.data.toList).toArray⟩ : ByteArray) = sx at *
              generalize (⟨(sSum y.data.toList).toArray⟩ : ByteArray) = sy at *
              go_upto_region 7 with fail
              clear hc1 hc2
              refine wp_region_quiet_below (by kernel_rfl) (by kernel_rfl) ?_
              repeat (first | go_big_quiet_step ((go_at_call 61; first | (with_reducible exact HCX.out _ _) | (with_reducible exact HCY.out _ _))) | quiet_step ((go_at_call 61; first | (with_reducible exact HCX.out _ _) | (with_reducible exact HCY.out _ _))))
              refine wpQuiet_nil ?_
              intro _ hw'
              obtain ⟨⟨dq, osq⟩, hw''⟩ := hw'
              subst hw''
              have hb9 := below_regrown wr dq osq
              have HB9 := Lib.hid (HB2.out.trans (hb9.mono HB2.out.size))
              clear hb9 HCX HCY r1 r2
              generalize grow (redrawn wr dq) osq = W at *
              go_wp2_with fail
              go_roundw
              case rel => exact ⟨n + 1, by omega, by go_num, HN, HB9.out⟩
              case measure => simp [intOf]; omega
        · obtain rfl : n = m := by omega
          have HB2 := Lib.hid hb2
          have HN := Lib.hid (show ∀ i k, k < i → i < n + 1 → sSum (l.getD i ByteArray.empty).data.toList = sSum (l.getD k ByteArray.empty).data.toList → l.getD i ByteArray.empty = l.getD k ByteArray.empty from fun i k h1 h2 => by
            rcases Nat.lt_or_ge i n with h3 | h3
            · exact hno.out i k h1 h3
            · obtain rfl : i = n := by omega
              exact hno2.out k h1)
          clear hb2 hno2 hno
          go_wp2_with fail
          go_roundw
          case rel => exact ⟨n + 1, by omega, by go_num, HN, HB2.out⟩
          case measure => simp [intOf]; omega
    · obtain rfl : m = l.length := by omega
      have HB := Lib.hid hb
      clear hb
      go_wp2_with fail
      go_ret
      exact ⟨false, rfl, fun _ i k h1 h2 => hno.out i k h1 h2, HB.out⟩
end Go.Proofs.YtjimgncefeldbaaGreatDoor

namespace Go.Proofs.YtjimgncefeldbaaGreatDoor
open Go.RowKit Go.Sort

set_option maxHeartbeats 4000000 in
set_option maxRecDepth 100000 in
theorem without_any (ra : Option Addr) (cap : Nat) (L : List ByteArray) (s : ByteArray) (w : World) (hrow : StrRow w ra L) (hlen : L.length ≤ 100000) :
    Calls Tryz.prog 23 #[.slice ra L.length cap, .string s] w fun e w' => ∃ v, e = .returned v ∧ OwnS w.heap.size v (L.filter fun n => decide (n ≠ s)) w' ∧ Below w.heap.size w w' := by
  obtain ⟨i0, hi, hz0, hz1, hz2⟩ := info_parts strInfo8
  have HROW := Lib.hid hrow
  clear hrow
  go_enter Tryz.func23, Tryz.ntmps23
  go_wp2_with fail
  go_loopw [5, 6] (fun u i wr => ∃ k : Nat, k ≤ L.length ∧ i = .int .i64 k ∧ OwnS w.heap.size u ((L.take k).filter fun n => decide (n ≠ s)) wr ∧ Below w.heap.size w wr) (fun _ i _ => L.length - (intOf i).toNat)
  case atStart => exact ⟨0, Nat.zero_le _, rfl, ownS_nil _ _, Below.refl _ _⟩
  case round =>
    rename_i u i wr
    obtain ⟨k, hk, rfl, hown, hb⟩ := hrel
    have hbs := hb.size
    by_cases hlt : k < L.length
    · obtain ⟨b, off, rfl, hlt', hc⟩ : ∃ b off, ra = some ⟨b, off, none⟩ ∧ b < wr.heap.size ∧ ∀ j, j < L.length → wr.cell? ⟨b, off + j, none⟩ = some (.string (L.getD j ByteArray.empty)) := by
        rcases HROW.out.below hb with h | h
        · rw [h] at hlt; simp at hlt
        · exact h
      have hck := hc k hlt
      have HN := Lib.hid (filter_take_succ (p := fun n => decide (n ≠ s)) L k hlt)
      have hnl : ((L.take k).filter fun n => decide (n ≠ s)).length ≤ 100000 := Nat.le_trans (List.length_filter_le _ _) (by rw [List.length_take]; omega)
      generalize ((L.take k).filter fun n => decide (n ≠ s)) = ns at *
      clear hc
      generalize L.getD k ByteArray.empty = x at *
      have HB := Lib.hid hb
      clear hb
      by_cases hxs : x = s
      · have hq := nb_eq hxs
        have HNN := Lib.hid (show ((L.take (k + 1)).filter fun n => decide (n ≠ s)) = ns by
          have := HN.out; simpa [hxs] using this)
        have HO := Lib.hid hown
        clear HN hown hxs
        go_wp2_with fail
        go_roundw
        case rel => exact ⟨k + 1, by omega, by go_num, by rw [HNN.out]; exact HO.out, HB.out⟩
        case measure => simp [intOf]; omega
      · have hq := nb_ne hxs
        have HNN := Lib.hid (show ((L.take (k + 1)).filter fun n => decide (n ≠ s)) = ns ++ [x] by
          have := HN.out; simpa [hxs] using this)
        clear HN hxs
        go_wp2_with (at_builtin; refine wpList_append_own _ rfl _ _ 40 rfl w.heap.size 9 i0 (.string ByteArray.empty) 1 16 Tryz.underlying40 hi hz0 hz1 hz2 rfl (by decide) _ _ _ rfl (World.ownsRow.alloc hown _) ⟨wr.heap.size, 0, none⟩ 1 1 [Value.string x] rfl rfl ?c1 ?c2 ?c3 ?c4 ?c5 ?_)
        case c1 =>
          intro j u hj
          match j, hj with
          | 0, hj => simp at hj; subst hj; simp [Addr.add]
        case c2 => intro u hu; simp at hu; subst hu; rfl
        case c3 => unfold maxLen; omega
        case c4 => omega
        case c5 => simp; omega
        intro v' w3 hown3 hg3 _
        have H3 := Lib.hid (show OwnS w.heap.size v' ((L.take (k + 1)).filter fun n => decide (n ≠ s)) w3 from by
          rw [HNN.out]; unfold OwnS; rw [List.length_append, List.map_append]; exact hown3)
        have H4 := Lib.hid (show Below w.heap.size w w3 from (HB.out.alloc (by omega) _).grown hg3 (by simp; omega) (fun j hj => (World.ownsRow.lt hown j hj).1))
        clear hown3 hown hg3
        go_wp2
        go_roundw
        case rel => exact ⟨k + 1, by omega, by go_num, H3.out, H4.out⟩
        case measure => simp [intOf]; omega
    · obtain rfl : k = L.length := by omega
      rw [List.take_length] at hown
      have HB := Lib.hid hb
      have HO := Lib.hid hown
      clear hb hown
      go_wp2_with fail
      go_ret
      exact ⟨_, rfl, HO.out, HB.out⟩

set_option maxHeartbeats 4000000 in
set_option maxRecDepth 100000 in
theorem with_any (ra : Option Addr) (cap : Nat) (L : List ByteArray) (s : ByteArray) (w : World) (hrow : StrRow w ra L) (hlen : L.length ≤ 100000) :
    Calls Tryz.prog 20 #[.slice ra L.length cap, .string s] w fun e w' => ∃ v, e = .returned v ∧ OwnS w.heap.size v ((L.filter fun n => decide (n ≠ s)) ++ [s]) w' ∧ Below w.heap.size w w' := by
  obtain ⟨i0, hi, hz0, hz1, hz2⟩ := info_parts strInfo8
  have HW := Lib.hid (without_any ra cap L s w hrow hlen)
  have hnl : (L.filter fun n => decide (n ≠ s)).length ≤ 100000 := Nat.le_trans (List.length_filter_le _ _) hlen
  generalize (L.filter fun n => decide (n ≠ s)) = ns at *
  generalize L.length = n at *
  clear hrow
  go_enter Tryz.func20, Tryz.ntmps20
  go_wp2_with fail
  refine HW.out.mono ?_
  rintro e w1 ⟨v, rfl, hown, hb⟩
  have hbs := hb.size
  have HB := Lib.hid hb
  clear hb HW
  go_wp2_with (at_builtin; refine wpList_append_own _ rfl _ _ 40 rfl w.heap.size 9 i0 (.string ByteArray.empty) 1 16 Tryz.underlying40 hi hz0 hz1 hz2 rfl (by decide) _ _ _ rfl (World.ownsRow.alloc hown _) ⟨w1.heap.size, 0, none⟩ 1 1 [Value.string s] rfl rfl ?c1 ?c2 ?c3 ?c4 ?c5 ?_)
  case c1 =>
    intro j u hj
    match j, hj with
    | 0, hj => simp at hj; subst hj; simp [Addr.add]
  case c2 => intro u hu; simp at hu; subst hu; rfl
  case c3 => unfold maxLen; omega
  case c4 => omega
  case c5 => simp; omega
  intro v' w3 hown3 hg3 _
  have H3 := Lib.hid (show OwnS w.heap.size v' (ns ++ [s]) w3 from by
    unfold OwnS; rw [List.length_append, List.map_append]; exact hown3)
  have H4 := Lib.hid (show Below w.heap.size w w3 from (HB.out.alloc (by omega) _).grown hg3 (by simp; omega) (fun j hj => (World.ownsRow.lt hown j hj).1))
  clear hown3 hown hg3
  go_wp2
  go_ret
  exact ⟨_, rfl, H3.out, H4.out⟩
end Go.Proofs.YtjimgncefeldbaaGreatDoor

namespace Go.Proofs.YtjimgncefeldbaaGreatDoor
set_option maxRecDepth 100000
open Go.ChangeShapes Go.WideShapes Go.ChangeAt Go.RowKit Go.Deep
open Go.ChangeMaps (open_string shut_string)

/-- a deed to a store -/
structure Bd where
  kind : Int
  la : Option Addr
  ll : Nat
  lc : Nat
  l : List ByteArray
  s : ByteArray
  d : Dd

def Bd.cells (x : Bd) : List Value := [.int .i64 x.kind, .slice x.la x.ll x.lc, .string x.s, .int .i64 x.d.kind, .string x.d.name, .string x.d.body, .string x.d.dest, .int .i64 x.d.n]
def Bd.ok (w : World) (x : Bd) : Prop := StrArg w x.la x.ll x.l ∧ x.s.size ≤ maxLen ∧ x.d.ok ∧ (Lit.int .i64 x.kind).wf = true

theorem strCells_of {H : Type} {enc : TypeId × Value → H} {w : World} {b0 : Nat} {sp : Nat → Bool} {held : Bool} {fuel : Nat} {cs : List Value} {x : DataW H × List MemPlace}
    (hf : DataW.trod enc Tryz.prog w b0 sp held fuel 40 cs = some x) : ∃ a len cap ss, cs = [.slice a len cap] ∧ StrArg w a len ss := by
  rcases open_strings Tryz.underlying40 Tryz.underlying9 (by kernel_rfl) hf with ⟨hcs, _⟩ | ⟨x, l, c, ss, hcs, _, hl, hm, hz, _, hcell, hws⟩
  · exact ⟨none, 0, 0, [], hcs, rfl, by simp [maxLen], .inl rfl, fun s hs => absurd hs (by simp)⟩
  · have hz' : l ≤ ss.length := by rw [hz]; split <;> omega
    refine ⟨some x, l, c, ss.take l, hcs, by rw [List.length_take]; omega, by omega, ?_, fun s hs => hws s (List.mem_of_mem_take hs)⟩
    by_cases h0 : l = 0
    · subst h0; exact .inl (by simp)
    · obtain ⟨b, off, spot⟩ := x
      have hc0 := hcell 0 (by omega)
      have hspot : spot = none := by simpa [Addr.add] using World.cell?_spot hc0
      subst hspot
      refine .inr ⟨b, off, rfl, by have := World.block_lt_of_cell? w _ hc0; simpa [Addr.add] using this, fun j hj => ?_⟩
      rw [List.length_take] at hj
      have h2 := hcell j (by omega)
      have e1 : (⟨b, off, none⟩ : Addr).add j = ⟨b, off + j, none⟩ := by cases j <;> simp [Addr.add]
      rw [e1] at h2
      rw [h2, List.getD_eq_getElem?_getD, List.getD_eq_getElem?_getD, List.getElem?_take_of_lt (by omega)]

theorem parts4 {cs : List Value} {a b c : Value} {d : List Value} (h : cs.length = 8) (h0 : (cs.drop 0).take 1 = [a]) (h1 : (cs.drop 1).take 1 = [b]) (h2 : (cs.drop 2).take 1 = [c]) (h3 : (cs.drop 3).take 5 = d) : cs = a :: b :: c :: d := by
  match cs, h with
  | [_, _, _, _, _, _, _, _], _ => simp_all

theorem bd_cells {H : Type} {enc : TypeId × Value → H} {W : World} {b0 : Nat} {sp : Nat → Bool} {held : Bool} {fuel : Nat} {cs : List Value} {x : DataW H × List MemPlace}
    (h : DataW.trod enc Tryz.prog W b0 sp held fuel 46 cs = some x) : ∃ d : Bd, cs = d.cells ∧ d.ok W := by
  obtain ⟨xs, n, _, _, hlen, hxl, hf⟩ := DataW.trod_struct Tryz.underlying46 h
  have hc8 : Tryz.prog.cellsOf 46 = 8 := by kernel_rfl
  have hc5 : Tryz.prog.cellsOf 33 = 5 := by kernel_rfl
  have hc1 : Tryz.prog.cellsOf 3 = 1 := by kernel_rfl
  have hc2 : Tryz.prog.cellsOf 9 = 1 := by kernel_rfl
  have hc3 : Tryz.prog.cellsOf 40 = 1 := by kernel_rfl
  rw [hc8] at hlen
  have get : ∀ i, i < 4 → ∃ y, xs[i]? = some y := fun i hi => ⟨_, List.getElem?_eq_getElem (by rw [hxl]; simpa using hi)⟩
  obtain ⟨y0, g0⟩ := get 0 (by omega)
  obtain ⟨y1, g1⟩ := get 1 (by omega)
  obtain ⟨y2, g2⟩ := get 2 (by omega)
  obtain ⟨y3, g3⟩ := get 3 (by omega)
  have f0 := (hf 0 _ rfl).trans g0
  have f1 := (hf 1 _ rfl).trans g1
  have f2 := (hf 2 _ rfl).trans g2
  have f3 := (hf 3 _ rfl).trans g3
  obtain ⟨k, e0, _, w0⟩ := DataW.trod_int Tryz.underlying3 f0
  obtain ⟨a, len, cap, ss, e1, w1⟩ := strCells_of f1
  obtain ⟨s2, e2, _, w2⟩ := DataW.trod_string Tryz.underlying9 f2
  obtain ⟨dd, e3, w3⟩ := deed_cells f3
  exact ⟨⟨k, a, len, cap, ss, s2, dd⟩, parts4 hlen (by rw [← e0]; rfl) (by rw [← e1]; rfl) (by rw [← e2]; rfl) (show (cs.drop 3).take 5 = dd.cells from by rw [← e3]; rfl), w1, w2, w3, w0⟩

/-- The slice's elements are the deeds ds. -/
def BdRow (w : World) (a : Option Addr) (ds : List Bd) : Prop :=
  ds = [] ∨ ∃ b off, a = some ⟨b, off, none⟩ ∧ b < w.heap.size ∧ ∀ j d, ds[j]? = some d → ∀ i u, d.cells[i]? = some u → w.cell? ⟨b, off + j * 8 + i, none⟩ = some u
def BdArg (w : World) (a : Option Addr) (len : Nat) (ds : List Bd) : Prop := ds.length = len ∧ len ≤ maxLen ∧ BdRow w a ds ∧ ∀ d ∈ ds, d.ok w

theorem bds_of {H : Type} {enc : TypeId × Value → H} {W : World} {sp : Nat → Bool} {held : Bool} {a : Option Addr} {len cap : Nat} {d : DataW H} {p : List MemPlace}
    (h : DataW.Trod enc Tryz.prog W 0 sp held 43 (.slice a len cap) d p) : ∃ ds, BdArg W a len ds := by
  obtain ⟨fuel, hf⟩ := h
  have hc8 : Tryz.prog.cellsOf 46 = 8 := by kernel_rfl
  rcases open_slice Tryz.underlying43 hf with ⟨hcs, _⟩ | ⟨x, l, c, m, n, D, Pl, hcs, _, hl, hm, hmm, _, hi⟩
  · simp [Value.cells] at hcs
    obtain ⟨rfl, rfl, rfl⟩ := hcs
    exact ⟨[], rfl, by simp [maxLen], .inl rfl, fun d hd => absurd hd (by simp)⟩
  · simp [Value.cells] at hcs
    obtain ⟨rfl, rfl, rfl⟩ := hcs
    rw [hc8] at hi
    have hlm : len ≤ m := by rw [hmm]; split <;> omega
    have hd : ∀ i, i < len → ∃ dd : Bd, dd.ok W ∧ ∀ j u, dd.cells[j]? = some u → W.cell? ((x.add (i * 8)).add j) = some u := fun i hil => by
      obtain ⟨cs', hcell, ht⟩ := hi i (by omega)
      obtain ⟨_, hlen, hat⟩ := World.cells?_some hcell
      obtain ⟨dd, rfl, hok⟩ := bd_cells ht
      exact ⟨dd, hok, fun j u hju => by rw [hat j (by have := (List.getElem?_eq_some_iff.1 hju).1; omega)]; exact hju⟩
    obtain ⟨g, hg⟩ : ∃ g : Nat → Bd, ∀ i, i < len → (g i).ok W ∧ ∀ j u, (g i).cells[j]? = some u → W.cell? ((x.add (i * 8)).add j) = some u :=
      ⟨fun i => if h : i < len then (hd i h).choose else ⟨0, none, 0, 0, [], ByteArray.empty, ⟨0, ByteArray.empty, ByteArray.empty, ByteArray.empty, 0⟩⟩, fun i h => by simp only [h, dif_pos]; exact (hd i h).choose_spec⟩
    refine ⟨(List.range len).map g, by simp, by omega, ?_, fun d hdm => by
      simp only [List.mem_map, List.mem_range] at hdm
      obtain ⟨i, hil, rfl⟩ := hdm
      exact (hg i hil).1⟩
    by_cases h0 : len = 0
    · subst h0; exact .inl (by simp)
    · obtain ⟨b, off, spot⟩ := x
      have hc0 := (hg 0 (by omega)).2 0 _ rfl
      have hspot : spot = none := by simpa [Addr.add] using World.cell?_spot hc0
      subst hspot
      have add0 : ∀ k, (⟨b, off, none⟩ : Addr).add k = ⟨b, off + k, none⟩ := fun k => by cases k <;> simp [Addr.add]
      have add1 : ∀ o k, (⟨b, o, none⟩ : Addr).add k = ⟨b, o + k, none⟩ := fun o k => by cases k <;> simp [Addr.add]
      refine .inr ⟨b, off, rfl, by have := World.block_lt_of_cell? W _ hc0; rw [add0, add1] at this; exact this, fun j dd hj i u hu => ?_⟩
      have hjl : j < len := by have := (List.getElem?_eq_some_iff.1 hj).1; simpa using this
      have he : g j = dd := by simpa [hjl] using hj
      have hcell := (hg j hjl).2
      rw [he] at hcell
      have := hcell i u hu
      rw [add0, add1] at this
      exact this

theorem BdRow.below {w w' : World} {a : Option Addr} {ds : List Bd} (h : BdRow w a ds) (hb : Below w.heap.size w w') : BdRow w' a ds := by
  rcases h with h | ⟨b, off, rfl, hlt, hc⟩
  · exact .inl h
  · exact .inr ⟨b, off, rfl, Nat.lt_of_lt_of_le hlt hb.size, fun j d hj i u hu => by rw [hb.cell (p := ⟨b, off + j * 8 + i, none⟩) hlt]; exact hc j d hj i u hu⟩
theorem Bd.ok.below {w w' : World} {x : Bd} (h : x.ok w) (hb : Below w.heap.size w w') : x.ok w' := ⟨⟨h.1.1, h.1.2.1, h.1.2.2.1.below hb, h.1.2.2.2⟩, h.2⟩
end Go.Proofs.YtjimgncefeldbaaGreatDoor

namespace Go.Proofs.YtjimgncefeldbaaGreatDoor
set_option maxRecDepth 100000
open Go.RowKit Go.Sort

/-- is a deed not too great? -/
def bfewB (x : Bd) : Bool := fewB x.d && (decide (x.l.length ≤ 8) && (decide (x.s.size ≤ 200) && x.l.all fun t => decide (t.size ≤ 200)))

def Bd.agg (x : Bd) : Value := .agg #[.int .i64 x.kind, .slice x.la x.ll x.lc, .string x.s, .int .i64 x.d.kind, .string x.d.name, .string x.d.body, .string x.d.dest, .int .i64 x.d.n]

theorem bfew_any (x : Bd) (w : World) (hx : StrArg w x.la x.ll x.l) : Calls Tryz.prog 15 #[x.agg] w fun e w' => e = .returned (.bool (bfewB x)) ∧ Below w.heap.size w w' := by
  obtain ⟨kd, la, ll, lc, l, s, d⟩ := x
  unfold Bd.agg
  obtain ⟨hll, hlm, hrow, _⟩ := hx
  simp only at hll hlm hrow ⊢
  have hfw := few_any d
  have HFE := Lib.hid (show bfewB ⟨kd, la, ll, lc, l, s, d⟩ = (fewB d && (decide (l.length ≤ 8) && (decide (s.size ≤ 200) && l.all fun t => decide (t.size ≤ 200)))) from rfl)
  generalize bfewB ⟨kd, la, ll, lc, l, s, d⟩ = res at *
  generalize hfd : fewB d = fd at *
  obtain ⟨dk, dn, db, dd, dm⟩ := d
  simp only at hfw ⊢
  subst hll
  have hb1 := Joins.below_alloc1 w (.cells #[.int .i64 kd, .slice la l.length lc, .string s, .int .i64 dk, .string dn, .string db, .string dd, .int .i64 dm] 46)
  have hb2 := hb1.alloc hb1.size (.cells #[.int .i64 dk, .string dn, .string db, .string dd, .int .i64 dm] 33)
  have HB2 := Lib.hid hb2
  have HROW := Lib.hid hrow
  clear hb1 hb2 hrow hfd
  cases fd
  · have hr : res = false := by rw [HFE.out]; simp
    subst hr
    go_enter Tryz.func15, Tryz.ntmps15
    go_wp2_with fail
    refine (hfw _).mono ?_
    rintro e w5 ⟨rfl, rfl⟩
    go_wp2_with fail
    go_ret
    exact ⟨rfl, HB2.out⟩
  · by_cases h8 : l.length ≤ 8
    · by_cases h2 : s.size ≤ 200
      · have d8 : decide ((8 : Int) < (l.length : Int)) = false := by simp; omega
        have d2 : decide ((200 : Int) < (s.size : Int)) = false := by simp; omega
        go_enter Tryz.func15, Tryz.ntmps15
        go_wp2_with fail
        refine (hfw _).mono ?_
        rintro e w5 ⟨rfl, rfl⟩
        go_wp2_with fail
        obtain ⟨W, hW⟩ : ∃ W, W = (w.alloc (.cells #[.int .i64 kd, .slice la l.length lc, .string s, .int .i64 dk, .string dn, .string db, .string dd, .int .i64 dm] 46)).alloc (.cells #[.int .i64 dk, .string dn, .string db, .string dd, .int .i64 dm] 33) := ⟨_, rfl⟩
        have c1 : W.cell? ⟨w.heap.size, 1, none⟩ = some (.slice la l.length lc) := by
          subst hW
          rw [(Joins.below_alloc1 (w.alloc _) _).cell (p := ⟨w.heap.size, 1, none⟩) (by show w.heap.size < _; simp)]
          simp
        rw [← hW] at HB2 ⊢
        clear hW
        go_loopw [3] (fun i wr => ∃ m : Nat, m ≤ l.length ∧ i = .int .i64 m ∧ Hid (∀ j, j < m → (l.getD j ByteArray.empty).size ≤ 200) ∧ wr = W) (fun i _ => l.length - (intOf i).toNat)
        case atStart => exact ⟨0, Nat.zero_le _, rfl, Lib.hid (fun j h => absurd h (by omega)), by trivial⟩
        case round =>
          obtain ⟨m, hm, rfl, hall, rfl⟩ := hrel
          by_cases hlt : m < l.length
          · obtain ⟨b, off, rfl, hlt', hc⟩ : ∃ b off, la = some ⟨b, off, none⟩ ∧ b < wr.heap.size ∧ ∀ j, j < l.length → wr.cell? ⟨b, off + j, none⟩ = some (.string (l.getD j ByteArray.empty)) := by
              rcases HROW.out.below HB2.out with h | h
              · rw [h] at hlt; simp at hlt
              · exact h
            have hck := hc m hlt
            have HM := Lib.hid (getD_mem (l := l) (k := m) hlt)
            have HX := Lib.hid (show ∀ x, l.getD m ByteArray.empty = x → (x.size ≤ 200 → ∀ j, j < m + 1 → (l.getD j ByteArray.empty).size ≤ 200) from fun x hx h j hj => by
              rcases Nat.lt_or_ge j m with h1 | h1
              · exact hall.out j h1
              · obtain rfl : j = m := by omega
                rw [hx]; exact h)
            obtain ⟨x, hx⟩ : ∃ x, l.getD m ByteArray.empty = x := ⟨_, rfl⟩
            have HX2 := Lib.hid (HX.out x hx)
            have HM2 := Lib.hid (show x ∈ l from hx ▸ HM.out)
            rw [hx] at hck
            clear hc hx HX HM
            by_cases hs : x.size ≤ 200
            · have dx : decide ((200 : Int) < (x.size : Int)) = false := by simp; omega
              have HN := Lib.hid (HX2.out hs)
              clear hs HX2
              go_wp2_with fail
              go_roundw
              case rel => exact ⟨m + 1, by omega, by go_num, HN, trivial⟩
              case measure => simp [intOf]; omega
            · have dx : decide ((200 : Int) < (x.size : Int)) = true := by simp; omega
              have hr : res = false := by
                rw [HFE.out]
                have : (l.all fun t => decide (t.size ≤ 200)) = false := by
                  rw [List.all_eq_false]; exact ⟨x, HM2.out, by simpa using hs⟩
                rw [this]; simp
              subst hr
              clear HX2 hs
              go_wp2_with fail
              go_ret
              exact ⟨rfl, HB2.out⟩
          · obtain rfl : m = l.length := by omega
            have hr : res = true := by
              rw [HFE.out]
              have : (l.all fun t => decide (t.size ≤ 200)) = true := by
                rw [List.all_eq_true]
                intro t ht
                obtain ⟨j, hj, rfl⟩ := List.mem_iff_getElem.1 ht
                have := hall.out j hj
                rw [List.getD_eq_getElem?_getD, List.getElem?_eq_getElem hj] at this
                simpa using this
              rw [this]; simp [h8, h2]
            subst hr
            go_wp2_with fail
            go_ret
            exact ⟨rfl, HB2.out⟩
      · have hr : res = false := by rw [HFE.out]; simp [h2]
        have d8 : decide ((8 : Int) < (l.length : Int)) = false := by simp; omega
        have d2 : decide ((200 : Int) < (s.size : Int)) = true := by simp; omega
        subst hr
        go_enter Tryz.func15, Tryz.ntmps15
        go_wp2_with fail
        refine (hfw _).mono ?_
        rintro e w5 ⟨rfl, rfl⟩
        go_wp2_with fail
        go_ret
        exact ⟨rfl, HB2.out⟩
    · have hr : res = false := by rw [HFE.out]; simp [h8]
      have d8 : decide ((8 : Int) < (l.length : Int)) = true := by simp; omega
      subst hr
      go_enter Tryz.func15, Tryz.ntmps15
      go_wp2_with fail
      refine (hfw _).mono ?_
      rintro e w5 ⟨rfl, rfl⟩
      go_wp2_with fail
      go_ret
      exact ⟨rfl, HB2.out⟩
end Go.Proofs.YtjimgncefeldbaaGreatDoor

namespace Go.Proofs.YtjimgncefeldbaaGreatDoor
open Go.RowKit Go.Sort

theorem append_none_c {P : Program} {w : World} (base : Nat) (t ty e : TypeId) (i : TypeInfo) (size c : Nat) (ht : P.underlying t = some (.slice e)) (hi : P.info? e = some i)
    (v : Value) (n : Nat) (xs : List Value) (hown : w.ownsRow base e size v n xs) :
    (Builtin.append_ #[t, t] ty #[v, .slice none 0 c]).run P w = .ok v w := by
  rcases hown.2 with ⟨rfl, rfl⟩ | ⟨g, cap, cur, rfl, _, _, hnc, _⟩
  · simp [Builtin.append_, run_underlying ht, sizeOf, typeInfo, hi, Builtin.lenOf, Builtin.firstCells]
  · simp [Builtin.append_, run_underlying ht, sizeOf, typeInfo, hi, Builtin.lenOf, Builtin.firstCells, hnc, storeCells]

/-- the texts of deeds -/
def textsD (ds : List Bd) : List ByteArray := ds.flatMap fun d => d.s :: d.l
theorem textsD_succ (ds : List Bd) (k : Nat) (d : Bd) (h : ds[k]? = some d) : textsD (ds.take (k + 1)) = (textsD (ds.take k) ++ [d.s]) ++ d.l := by
  unfold textsD
  rw [List.take_add_one, h]
  simp [List.flatMap_append]
theorem textsD_len {ds : List Bd} {n : Nat} (h : ∀ d ∈ ds, bfewB d = true) (hn : ds.length ≤ n) : (textsD ds).length ≤ 9 * n := by
  induction ds generalizing n with
  | nil => simp [textsD]
  | cons d r ih =>
    have hd : d.l.length ≤ 8 := by have := h d (by simp); simp [bfewB] at this; exact this.2.1
    have := ih (n := n - 1) (fun x hx => h x (by simp [hx])) (by simp at hn; omega)
    simp only [textsD, List.flatMap_cons, List.length_append, List.length_cons] at this ⊢
    simp at hn
    omega
theorem textsD_size {ds : List Bd} (h : ∀ d ∈ ds, bfewB d = true) : ∀ t ∈ textsD ds, t.size ≤ 200 := by
  intro t ht
  simp only [textsD, List.mem_flatMap, List.mem_cons] at ht
  obtain ⟨d, hd, rfl | ht⟩ := ht
  · have := h d hd; simp [bfewB] at this; exact this.2.2.1
  · have := h d hd; simp [bfewB] at this; exact this.2.2.2 t ht

set_option maxHeartbeats 4000000 in
set_option maxRecDepth 100000 in
theorem twice_any (p : Option Addr) (cap : Nat) (ds : List Bd) (w : World) (hrow : BdRow w p ds) (hok : ∀ d ∈ ds, d.ok w) (hf : ∀ d ∈ ds, bfewB d = true) (hlen : ds.length ≤ 20) :
    Calls Tryz.prog 25 #[.slice p ds.length cap] w fun e w' => ∃ b, e = .returned (.bool b) ∧ (b = false → NoTwice (textsD ds)) ∧ Below w.heap.size w w' := by
  obtain ⟨i0, hi, hz0, hz1, hz2⟩ := info_parts strInfo8
  have HROW := Lib.hid hrow
  have HOK := Lib.hid hok
  have HF := Lib.hid hf
  clear hrow hok hf
  go_enter Tryz.func25, Tryz.ntmps25
  go_wp2_with fail
  go_loopw [3, 4] (fun u i wr => ∃ k : Nat, k ≤ ds.length ∧ i = .int .i64 k ∧ OwnS w.heap.size u (textsD (ds.take k)) wr ∧ Below w.heap.size w wr) (fun _ i _ => ds.length - (intOf i).toNat)
  case atStart => exact ⟨0, Nat.zero_le _, rfl, by simpa [textsD] using ownS_nil _ _, Below.refl _ _⟩
  case round =>
    rename_i u i wr
    obtain ⟨k, hk, rfl, hown, hb⟩ := hrel
    have hbs := hb.size
    by_cases hlt : k < ds.length
    · obtain ⟨d, hdk⟩ : ∃ d, ds[k]? = some d := ⟨_, List.getElem?_eq_getElem hlt⟩
      have hmem : d ∈ ds := List.mem_of_getElem? hdk
      obtain ⟨b, off, rfl, hbl, hcs⟩ : ∃ b off, p = some ⟨b, off, none⟩ ∧ b < w.heap.size ∧ ∀ i u, d.cells[i]? = some u → w.cell? ⟨b, off + k * 8 + i, none⟩ = some u := by
        rcases HROW.out with h | ⟨b, off, rfl, h1, hc⟩
        · rw [h] at hdk; simp at hdk
        · exact ⟨b, off, rfl, h1, hc k d hdk⟩
      have hdok := HOK.out d hmem
      have hfd := HF.out d hmem
      have HT := Lib.hid (textsD_succ ds k d hdk)
      have hnl : (textsD (ds.take k)).length ≤ 180 := Nat.le_trans (textsD_len (n := 20) (fun x hx => HF.out x (List.mem_of_mem_take hx)) (by rw [List.length_take]; omega)) (by omega)
      have HB := Lib.hid hb
      clear hb hmem hdk
      obtain ⟨kd, la, ll, lc, l, s, dd⟩ := d
      have hl8 : l.length ≤ 8 := by simp [bfewB] at hfd; exact hfd.2.1
      obtain ⟨⟨hll, _, hlrow, _⟩, _⟩ := hdok
      simp only at hll hlrow HT
      have w1c : w.cell? ⟨b, off + k * 8 + 1, none⟩ = some (.slice la ll lc) := hcs 1 _ rfl
      have w2c : w.cell? ⟨b, off + k * 8 + 2, none⟩ = some (.string s) := hcs 2 _ rfl
      have c2 : wr.cell? ⟨b, off + k * 8 + 2, none⟩ = some (.string s) := by rw [HB.out.cell (p := ⟨b, off + k * 8 + 2, none⟩) hbl]; exact w2c
      have W1C := Lib.hid w1c
      have HLR := Lib.hid hlrow
      have hbw : b < wr.heap.size := by omega
      clear hcs hfd w1c w2c hlrow
      subst hll
      generalize textsD (ds.take k) = ns at *
      go_wp2_with (at_builtin; refine wpList_append_own _ rfl _ _ 40 rfl w.heap.size 9 i0 (.string ByteArray.empty) 1 16 Tryz.underlying40 hi hz0 hz1 hz2 rfl (by decide) _ _ _ rfl (World.ownsRow.alloc hown _) ⟨wr.heap.size, 0, none⟩ 1 1 [Value.string s] rfl rfl ?c1 ?c2 ?c3 ?c4 ?c5 ?_)
      case c2 => rfl
      case c3 => unfold maxLen; omega
      case c4 => omega
      case c5 => omega
      intro v3 w3 hown3 hg3 _
      have hbel : Below w.heap.size w w3 := (HB.out.alloc (by omega) _).grown hg3 (by simp; omega) (fun j hj => (World.ownsRow.lt hown j hj).1)
      have hbs3 := hbel.size
      have c1 : w3.cell? ⟨b, off + k * 8 + 1, none⟩ = some (.slice la l.length lc) := by rw [hbel.cell (p := ⟨b, off + k * 8 + 1, none⟩) hbl]; exact W1C.out
      have hbw3 : b < w3.heap.size := by omega
      have HB3 := Lib.hid hbel
      clear hbel hown hg3 c2 hbw HB
      cases la with
      | none =>
        have h0 : l = [] := by
          rcases HLR.out with h | ⟨b, off, e, _⟩
          · exact h
          · cases e
        subst h0
        have hnone := append_none_c (P := Tryz.prog) (w := w3) w.heap.size 40 40 9 i0 1 lc Tryz.underlying40 hi v3 _ _ hown3
        have H3 := Lib.hid (show OwnS w.heap.size v3 (textsD (ds.take (k + 1))) w3 from by
          rw [HT.out, List.append_nil]; unfold OwnS; rw [List.length_append, List.map_append]; exact hown3)
        clear hown3
        go_wp2_with (at_builtin; refine wpList_append_run rfl _ _ _ _ rfl _ _ _ _ rfl rfl hnone ?_)
        go_roundw
        case rel => exact ⟨k + 1, by omega, by go_num, H3.out, HB3.out⟩
        case measure => simp [intOf]; omega
      | some ad =>
        go_wp2_with (at_builtin; refine wpList_append_own _ rfl _ _ 40 rfl w.heap.size 9 i0 (.string ByteArray.empty) 1 16 Tryz.underlying40 hi hz0 hz1 hz2 rfl (by decide) _ _ _ rfl hown3 ad l.length lc (l.map Value.string) rfl ?m0 ?m1 ?m2 ?m3 ?m4 ?m5 ?_)
        case m0 => simp
        case m1 =>
          intro j u hj
          rw [List.getElem?_map] at hj
          rcases HLR.out with h | ⟨bb, off, e, hlt, hc⟩
          · rw [h] at hj; simp at hj
          · cases e
            have hjl : j < l.length := by
              by_cases hjl : j < l.length
              · exact hjl
              · rw [List.getElem?_eq_none (by omega)] at hj; simp at hj
            have h1 := hc j hjl
            rw [List.getElem?_eq_getElem hjl] at hj
            simp only [Option.map_some, Option.some.injEq] at hj
            rw [List.getD_eq_getElem?_getD, List.getElem?_eq_getElem hjl] at h1
            have e1 : (⟨bb, off, none⟩ : Addr).add j = ⟨bb, off + j, none⟩ := by cases j <;> simp [Addr.add]
            rw [e1, ← hj, HB3.out.cell (p := ⟨bb, off + j, none⟩) hlt]
            exact h1
        case m2 => intro u hu; simp at hu; obtain ⟨x, _, rfl⟩ := hu; rfl
        case m3 => unfold maxLen; omega
        case m4 => omega
        case m5 => omega
        intro v4 w4 hown4 hg4 _
        have H3 := Lib.hid (show OwnS w.heap.size v4 (textsD (ds.take (k + 1))) w4 from by
          rw [HT.out]; unfold OwnS; rw [List.length_append, List.length_append, List.map_append, List.map_append, List.append_assoc]; exact hown4)
        have H4 := Lib.hid (show Below w.heap.size w w4 from HB3.out.grown hg4 (by omega) (fun j hj => (World.ownsRow.lt hown3 j hj).1))
        clear hown4 hown3 hg4
        go_wp2
        go_roundw
        case rel => exact ⟨k + 1, by omega, by go_num, H3.out, H4.out⟩
        case measure => simp [intOf]; omega
    · obtain rfl : k = ds.length := by omega
      rw [List.take_length] at hown
      obtain ⟨ra, c, rfl, hrw, hbase, hmax⟩ := ownS_from hown
      have HT := Lib.hid (twiceR ra c _ wr hrw (Nat.le_trans (textsD_len HF.out hlen) (by omega)) (fun t ht => Nat.le_trans (textsD_size HF.out t ht) (by omega)))
      have HB := Lib.hid hb
      clear hb hown hrw hbase
      go_wp2_with fail
      refine HT.out.mono ?_
      rintro e w2 ⟨b, rfl, hno, hb2⟩
      have HF2 := Lib.hid (And.intro hno (HB.out.trans (hb2.mono HB.out.size)))
      clear hno hb2 HT
      go_wp2_with fail
      go_ret
      exact ⟨b, rfl, HF2.out⟩
end Go.Proofs.YtjimgncefeldbaaGreatDoor
