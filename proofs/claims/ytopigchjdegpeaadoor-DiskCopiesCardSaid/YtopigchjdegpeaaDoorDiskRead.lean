/-
  disk: Used, List, Read.
-/
import Derived.Test.YtopigchjdegpeaaDoorDiskFind
namespace Go.Proofs.YtopigchjdegpeaaDoor
open Go.RowKit

theorem OwnB.form {B : Nat} {v : Value} {l : List UInt8} {w : World} (h : OwnB B v l w) : ∃ p c, v = .slice p l.length c := by
  rcases h.2 with ⟨hv, h0⟩ | ⟨g, cap, cur, hv, _⟩
  · exact ⟨none, 0, by rw [h0]; exact hv⟩
  · exact ⟨_, _, hv⟩

theorem Lies.forms {B : Nat} {m : MS} {w : World} (h : Lies B m w) {i : Nat} {f : FV} (hf : m.l[i]? = some f) : ∃ p c, f.bv = .slice p f.body.length c :=
  OwnB.form (h.body f (List.mem_of_getElem? hf))

def total (l : List FV) : Nat := (l.map fun f => f.body.length).sum
theorem total_succ {l : List FV} {k : Nat} {f : FV} (hf : l[k]? = some f) : total (l.take (k + 1)) = total (l.take k) + f.body.length := by
  unfold total
  rw [List.take_add_one, hf]; simp
theorem total_le (l : List FV) : ∀ k, total (l.take k) ≤ total l := by
  induction l with
  | nil => intro k; simp [total]
  | cons a l ih =>
    intro k
    cases k with
    | zero => simp [total]
    | succ k => have := ih k; simp only [total, List.take_succ_cons, List.map_cons, List.sum_cons] at this ⊢; omega

set_option maxHeartbeats 1000000 in
set_option maxRecDepth 100000 in
theorem used_any {B : Nat} (m : MS) (w : World) (h : Lies B m w) (hlen : m.l.length ≤ 1024) (ht : total m.l ≤ 4194304) :
    Calls Tryd.prog 22 #[.pointer (some ⟨m.D, 0, none⟩)] w fun e w' => e = .returned (.int .i64 (total m.l : Int)) ∧ Below w.heap.size w w' := by
  have hc := h.cell 1
  simp only [MS.head, List.getElem?_toArray, List.getElem?_cons_succ, List.getElem?_cons_zero] at hc
  rcases Joins.ownsRow_forms h.row with ⟨hv, h0⟩ | ⟨F, cap, hv⟩
  · have hl : m.l = [] := List.length_eq_zero_iff.1 h0
    rw [hl]
    rw [hv] at hc
    have hb := Below.refl w.heap.size w
    clear h hv h0 hl hlen ht
    go_enter Tryd.func22, Tryd.ntmps22
    go_wp2_with fail
    go_loop [3, 13] (fun u i => u = .int .i64 0 ∧ i = .int .i64 0) (fun _ _ => 0)
    case atStart => exact ⟨rfl, rfl⟩
    case round =>
      obtain ⟨rfl, rfl⟩ := hrel
      go_wp2_with fail
      go_ret
      exact ⟨rfl, hb⟩
  · obtain ⟨_, hF, _, hrow⟩ := h.frow hv
    rw [hv] at hc
    have HL := Lib.hid h; clear h
    have HR := Lib.hid hrow; clear hrow hv
    go_enter Tryd.func22, Tryd.ntmps22
    go_wp2_with fail
    go_loopw [3, 13] (fun u i wr => ∃ k : Nat, k ≤ m.l.length ∧ i = .int .i64 k ∧ u = .int .i64 (total (m.l.take k) : Int) ∧ Below w.heap.size w wr) (fun _ i _ => m.l.length - (intOf i).toNat)
    case atStart => exact ⟨0, Nat.zero_le _, rfl, rfl, Below.refl _ _⟩
    case round =>
      obtain ⟨k, hk, rfl, rfl, hb⟩ := hrel
      by_cases hlt : k < m.l.length
      · obtain ⟨f, hf⟩ : ∃ f, m.l[k]? = some f := ⟨_, List.getElem?_eq_getElem (by omega)⟩
        obtain ⟨c0, c1, c2⟩ := HR.out _ f hf
        rw [← hb.cell (p := ⟨F, k * 3, none⟩) hF] at c0
        rw [← hb.cell (p := ⟨F, k * 3 + 1, none⟩) hF] at c1
        rw [← hb.cell (p := ⟨F, k * 3 + 2, none⟩) hF] at c2
        obtain ⟨p, c, hbv⟩ := HL.out.forms hf
        have ht1 := total_succ hf
        have ht2 := total_le m.l (k + 1)
        have HT := Lib.hid ht1
        rw [ht1] at ht2
        have HB := Lib.hid (hb.alloc (o := .cells #[.string f.name, f.bv, .int .i64 (f.sure : Int)] 57) hb.size)
        rw [hbv] at c1 HB
        clear hb hf hbv ht1
        generalize total (m.l.take k) = T at *
        generalize f.body.length = n at *
        go_wp2_with fail
        go_roundw
        case rel => exact ⟨k + 1, by omega, by go_num, by rw [HT.out]; go_num, HB.out⟩
        case measure => simp [intOf]; omega
      · obtain rfl : k = m.l.length := by omega
        have HB := Lib.hid hb; clear hb
        go_wp2_with fail
        go_ret
        exact ⟨by rw [List.take_length]; rfl, HB.out⟩

theorem there_at {l : List FV} {b : ByteArray} (h : fthere l b = true) : ∃ f, l[fpos l b]? = some f ∧ cmpF b f = 0 := by
  unfold fthere at h
  cases hf : l[fpos l b]? with
  | none => rw [hf] at h; simp at h
  | some f => rw [hf] at h; exact ⟨f, rfl, by simpa using h⟩

/-- what Read answers -/
def readS (m : MS) (b : ByteArray) : ByteArray × Int :=
  if m.off then (⟨#[]⟩, 10) else
  match m.l[fpos m.l b]? with
  | some f => if cmpF b f = 0 then (⟨f.body.toArray⟩, 0) else (⟨#[]⟩, 7)
  | none => (⟨#[]⟩, 7)

set_option maxHeartbeats 1000000 in
set_option maxRecDepth 100000 in
theorem read_nil (b : ByteArray) (w : World) : Calls Tryd.prog 18 #[.pointer none, .string b] w fun e w' => e = .returned (.tuple #[.string ⟨#[]⟩, .int .i64 12]) ∧ w = w' := by
  go_enter Tryd.func18, Tryd.ntmps18
  go_wp2_with fail
  refine (ready_nil _).mono ?_
  rintro e w1 ⟨rfl, rfl⟩
  go_wp2_with fail
  go_ret2
  exact ⟨rfl, rfl⟩

set_option maxHeartbeats 1000000 in
set_option maxRecDepth 100000 in
theorem read_any {B : Nat} (m : MS) (b : ByteArray) (w : World) (h : Lies B m w) (hlen : m.l.length ≤ 1024) (hr : Rises m.l b) :
    Calls Tryd.prog 18 #[.pointer (some ⟨m.D, 0, none⟩), .string b] w fun e w' => e = .returned (.tuple #[.string (readS m b).1, .int .i64 (readS m b).2]) ∧ Below w.heap.size w w' := by
  have hrd := ready_any m w h
  cases ho : m.off
  · have hfd := find_any m b w h hlen hr
    rw [show rdy m = 0 by simp [rdy, ho]] at hrd
    cases ht : fthere m.l b
    · have e : readS m b = (⟨#[]⟩, 7) := by
        unfold readS; rw [ho]
        cases hx : m.l[fpos m.l b]? with
        | none => rfl
        | some f =>
          have : ¬ cmpF b f = 0 := fun h0 => by unfold fthere at ht; rw [hx] at ht; simp [h0] at ht
          simp [this]
      rw [e]
      rw [ht] at hfd
      clear ho ht e h hlen hr
      go_enter Tryd.func18, Tryd.ntmps18
      go_wp2_with fail
      refine hrd.mono ?_
      rintro e w1 ⟨rfl, rfl⟩
      go_wp2_with fail
      refine hfd.mono ?_
      rintro e w1 ⟨rfl, hb⟩
      have HB := Lib.hid hb; clear hb
      go_wp2_with fail
      go_ret2
      exact ⟨rfl, HB.out⟩
    · obtain ⟨f, hf, h0⟩ := there_at ht
      have e : readS m b = (⟨f.body.toArray⟩, 0) := by unfold readS; rw [ho, hf]; simp [h0]
      rw [e]
      have hil : fpos m.l b < m.l.length := (List.getElem?_eq_some_iff.1 hf).1
      obtain ⟨F, cap, hv⟩ : ∃ F cap, m.fv = .slice (some ⟨F, 0, none⟩) m.l.length cap := by
        rcases Joins.ownsRow_forms h.row with ⟨_, hl0⟩ | hv
        · omega
        · exact hv
      obtain ⟨_, hF, _, hrow⟩ := h.frow hv
      obtain ⟨c0, c1, c2⟩ := hrow _ f hf
      have hc := h.cell 1
      simp only [MS.head, List.getElem?_toArray, List.getElem?_cons_succ, List.getElem?_cons_zero] at hc
      rw [hv] at hc
      have hlt := (h.lt m.D (by simp [MS.blks])).2
      rw [ht] at hfd
      have HX := Lib.hid (And.intro h hf)
      have HC := Lib.hid (And.intro hc (And.intro c1 (And.intro hF hlt)))
      have hlen2 := hlen
      clear ho ht e h hr h0 hf c0 c1 c2 hc hrow hv hF hlt
      generalize fpos m.l b = i at *
      generalize hn : m.l.length = n at *
      clear hn
      go_enter Tryd.func18, Tryd.ntmps18
      go_wp2_with fail
      refine hrd.mono ?_
      rintro e w1 ⟨rfl, rfl⟩
      go_wp2_with fail
      refine hfd.mono ?_
      rintro e w1 ⟨rfl, hb⟩
      obtain ⟨hc, c1, hF, hlt⟩ := HC.out
      rw [← hb.cell (p := ⟨m.D, 1, none⟩) hlt] at hc
      rw [← hb.cell (p := ⟨F, i * 3 + 1, none⟩) hF] at c1
      have hs := own_text ((HX.out.1.below hb).body f (List.mem_of_getElem? HX.out.2))
      have HB := Lib.hid hb; clear hb hF hlt hfd hrd
      go_wp2_with fail
      go_ret2
      exact ⟨rfl, HB.out⟩
  · rw [show rdy m = 10 by simp [rdy, ho]] at hrd
    have e : readS m b = (⟨#[]⟩, 10) := by unfold readS; rw [ho]; rfl
    rw [e]
    clear ho e h hlen hr
    go_enter Tryd.func18, Tryd.ntmps18
    go_wp2_with fail
    refine hrd.mono ?_
    rintro e w1 ⟨rfl, rfl⟩
    go_wp2_with fail
    go_ret2
    exact ⟨rfl, Below.refl _ _⟩
end Go.Proofs.YtopigchjdegpeaaDoor
