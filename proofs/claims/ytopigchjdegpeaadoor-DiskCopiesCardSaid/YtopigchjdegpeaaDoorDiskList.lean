/-
  strings.HasPrefix; disk: List.
-/
import Derived.Test.YtopigchjdegpeaaDoorDiskRead
import Derived.Test.YtopigchjdegpeaaDoorStrHas
import Derived.Lib.Strings
import Derived.Lib.Slices
import Derived.Lib.Walk
namespace Go.Proofs.YtopigchjdegpeaaDoor
open Go.RowKit

theorem strsInfo : (Tryd.prog.info? 9).map (fun i => (i.zero, i.size, i.bytes)) = some (some (.string ByteArray.empty), 1, 16) := by kernel_rfl

/-- the names that begin so -/
def namesOf (p : ByteArray) (l : List FV) : List ByteArray := (l.map (·.name)).filter (hasP p)
def listS (m : MS) (p : ByteArray) : List ByteArray := if m.off then [] else namesOf p m.l

theorem names_succ {l : List FV} {k : Nat} {f : FV} (p : ByteArray) (hf : l[k]? = some f) : namesOf p (l.take (k + 1)) = namesOf p (l.take k) ++ if hasP p f.name then [f.name] else [] := by
  unfold namesOf
  rw [List.take_add_one, hf]
  simp only [List.map_append, List.filter_append, Option.toList_some, List.map_cons, List.map_nil, List.filter_cons, List.filter_nil]
theorem names_len (p : ByteArray) (l : List FV) : (namesOf p l).length ≤ l.length := by
  unfold namesOf
  have := List.length_filter_le (hasP p) (l.map (·.name))
  simpa using this

/-- a row of texts that a call owns -/
def OwnT (B : Nat) (v : Value) (l : List ByteArray) (w : World) : Prop := w.ownsRow B 9 1 v l.length (l.map Value.string)

set_option maxHeartbeats 1000000 in
set_option maxRecDepth 100000 in
theorem list_nil (p : ByteArray) (w : World) : Calls Tryd.prog 13 #[.pointer none, .string p] w fun e w' => e = .returned (.slice none 0 0) ∧ w = w' := by
  go_enter Tryd.func13, Tryd.ntmps13
  go_wp2_with fail
  refine (off_nil _).mono ?_
  rintro e w1 ⟨rfl, rfl⟩
  go_wp2_with fail
  go_ret
  exact ⟨rfl, rfl⟩

def ListPost (l : List ByteArray) (w : World) (e : Ending) (w' : World) : Prop := ∃ v, e = .returned v ∧ OwnT w.heap.size v l w' ∧ Below w.heap.size w w'

set_option maxHeartbeats 2000000 in
set_option maxRecDepth 100000 in
theorem list_any {B : Nat} (m : MS) (p : ByteArray) (w : World) (h : Lies B m w) (hlen : m.l.length ≤ 1024) :
    Calls Tryd.prog 13 #[.pointer (some ⟨m.D, 0, none⟩), .string p] w (ListPost (listS m p) w) := by
  have hrd := off_any m w h
  have hc := h.cell 1
  simp only [MS.head, List.getElem?_toArray, List.getElem?_cons_succ, List.getElem?_cons_zero] at hc
  cases ho : m.off
  · rw [show offB m = false from ho] at hrd
    have el : listS m p = namesOf p m.l := by unfold listS; rw [ho]; rfl
    rw [el]; clear el ho
    rcases Joins.ownsRow_forms h.row with ⟨hv, h0⟩ | ⟨F, cap, hv⟩
    · have hl : m.l = [] := List.length_eq_zero_iff.1 h0
      rw [hl]
      rw [hv] at hc
      clear h hv h0 hl hlen
      go_enter Tryd.func13, Tryd.ntmps13
      go_wp2_with fail
      refine hrd.mono ?_
      rintro e w1 ⟨rfl, rfl⟩
      go_wp2_with fail
      go_loop [5, 15] (fun u i => u = .slice none 0 0 ∧ i = .int .i64 0) (fun _ _ => 0)
      case atStart => exact ⟨rfl, rfl⟩
      case round =>
        obtain ⟨rfl, rfl⟩ := hrel
        go_wp2_with fail
        go_ret
        exact ⟨_, rfl, World.ownsRow_nil _ _ _ _, Below.refl _ _⟩
    · obtain ⟨_, hF, _, hrow⟩ := h.frow hv
      obtain ⟨i0, hi, hz0, hz1, hz2⟩ := info_parts strsInfo
      rw [hv] at hc
      have HL := Lib.hid h; clear h
      have HR := Lib.hid hrow; clear hrow hv
      go_enter Tryd.func13, Tryd.ntmps13
      go_wp2_with fail
      refine hrd.mono ?_
      rintro e w1 ⟨rfl, rfl⟩
      clear hrd
      go_wp2_with fail
      go_loopw [5, 15] (fun u i wr => ∃ k : Nat, k ≤ m.l.length ∧ i = .int .i64 k ∧ OwnT w.heap.size u (namesOf p (m.l.take k)) wr ∧ Below w.heap.size w wr) (fun _ i _ => m.l.length - (intOf i).toNat)
      case atStart => exact ⟨0, Nat.zero_le _, rfl, World.ownsRow_nil _ _ _ _, Below.refl _ _⟩
      case round =>
        rename_i u i wr
        obtain ⟨k, hk, rfl, hown, hb⟩ := hrel
        by_cases hlt : k < m.l.length
        · obtain ⟨f, hf⟩ : ∃ f, m.l[k]? = some f := ⟨_, List.getElem?_eq_getElem (by omega)⟩
          obtain ⟨c0, c1, c2⟩ := HR.out _ f hf
          rw [← hb.cell (p := ⟨F, k * 3, none⟩) hF] at c0
          rw [← hb.cell (p := ⟨F, k * 3 + 1, none⟩) hF] at c1
          rw [← hb.cell (p := ⟨F, k * 3 + 2, none⟩) hF] at c2
          obtain ⟨q, c, hbv⟩ := HL.out.forms hf
          have HN := Lib.hid (names_succ p hf)
          have hnl := names_len p (m.l.take k)
          have hnk : (m.l.take k).length ≤ k := List.length_take_le _ _
          generalize namesOf p (m.l.take k) = ns at *
          have HB := Lib.hid (hb.alloc (o := .cells #[.string f.name, f.bv, .int .i64 (f.sure : Int)] 57) hb.size)
          rw [hbv] at c1 HB
          have hown1 := World.ownsRow.alloc hown (.cells #[.string f.name, f.bv, .int .i64 (f.sure : Int)] 57)
          rw [hbv] at hown1
          have hbs := hb.size
          have hpf := prefix_any f.name p
          clear hb hf hown hbv
          generalize f.body.length = bl at *
          cases hpp : hasP p f.name
          · rw [hpp] at hpf
            rw [hpp] at HN
            clear hpp
            have HO := Lib.hid hown1; clear hown1
            go_wp2_with fail
            refine (hpf _).mono ?_
            rintro e w1 ⟨rfl, rfl⟩
            clear hpf c0 c1 c2
            go_wp2_with fail
            go_roundw
            case rel => exact ⟨k + 1, by omega, by go_num, by have := HN.out; simp only [Bool.false_eq_true, if_false, List.append_nil] at this; rw [this]; exact HO.out, HB.out⟩
            case measure => simp [intOf]; omega
          · rw [hpp] at hpf
            rw [hpp] at HN
            clear hpp
            go_wp2_with fail
            refine (hpf _).mono ?_
            rintro e w1 ⟨rfl, rfl⟩
            clear hpf c0 c1 c2
            go_wp2_with (at_builtin; refine wpList_append_own _ rfl _ _ 40 rfl w.heap.size 9 i0 (.string ByteArray.empty) 1 16 Tryd.underlying40 hi hz0 hz1 hz2 rfl (by decide) _ _ _ rfl (World.ownsRow.alloc hown1 _) ⟨wr.heap.size + 1, 0, none⟩ 1 1 [Value.string f.name] rfl rfl ?c1 ?c2 ?c3 ?c4 ?c5 ?_)
            case c1 =>
              intro j u hj
              match j, hj with
              | 0, hj => simp at hj; subst hj; simp [Addr.add]
            case c2 => intro u hu; simp at hu; subst hu; rfl
            case c3 => unfold maxLen; omega
            case c4 => omega
            case c5 => simp; omega
            intro v' w3 hown3 hg3 _
            have hrow' : OwnT w.heap.size v' (namesOf p (m.l.take (k + 1))) w3 := by
              have := HN.out
              simp only [if_true] at this
              rw [this]; unfold OwnT; rw [List.length_append, List.map_append]; exact hown3
            have hB3 : Below w.heap.size w w3 := (HB.out.alloc (by simp; omega) _).grown hg3 (by simp; omega) (fun j hj => (World.ownsRow.lt hown1 j hj).1)
            have H3 := Lib.hid hrow'
            have H4 := Lib.hid hB3
            clear hown3 hown1 hrow' hB3 hg3
            go_wp2
            go_roundw
            case rel => exact ⟨k + 1, by omega, by go_num, H3.out, H4.out⟩
            case measure => simp [intOf]; omega
        · obtain rfl : k = m.l.length := by omega
          rw [List.take_length] at hown
          have HB := Lib.hid hb; clear hb
          have HO := Lib.hid hown; clear hown
          go_wp2_with fail
          go_ret
          exact ⟨_, rfl, HO.out, HB.out⟩
  · rw [show offB m = true from ho] at hrd
    have el : listS m p = [] := by unfold listS; rw [ho]; rfl
    rw [el]
    clear ho el h hlen hc
    go_enter Tryd.func13, Tryd.ntmps13
    go_wp2_with fail
    refine hrd.mono ?_
    rintro e w1 ⟨rfl, rfl⟩
    go_wp2_with fail
    go_ret
    exact ⟨_, rfl, World.ownsRow_nil _ _ _ _, Below.refl _ _⟩
end Go.Proofs.YtopigchjdegpeaaDoor
