/-
  disk: the place of a file.
  disk: Used, List, Read.
  strings.HasPrefix: what the call answers.
  strings.HasPrefix; disk: List.
-/
import Derived.Test.YtjimgncefeldbaaGreatDoorGDiskA
import Derived.Test.YtjimgncefeldbaaGreatDoorBase
import Derived.Lib.Strings
import Derived.Lib.Walk
import Derived.Lib.Slices
namespace Go.Proofs.YtjimgncefeldbaaGreatDoor
open Go.RowKit

/-- how a file's name stands to a name -/
def cmpF (b : ByteArray) (f : FV) : Int := Lib.compareBytes f.name.data.toList b.data.toList
/-- the place of the first file whose name is not less -/
def fpos (l : List FV) (b : ByteArray) : Nat := l.findIdx fun f => decide (0 ≤ cmpF b f)
def fthere (l : List FV) (b : ByteArray) : Bool := (l[fpos l b]?).any fun f => decide (cmpF b f = 0)
/-- names rise -/
def Rises (l : List FV) (b : ByteArray) : Prop := ∀ i j : Nat, i ≤ j → ∀ f g, l[i]? = some f → l[j]? = some g → cmpF b g < 0 → cmpF b f < 0

theorem fpos_eq {l : List FV} {b : ByteArray} {i : Nat} (hi : i ≤ l.length) (h1 : ∀ k f, k < i → l[k]? = some f → cmpF b f < 0) (h2 : ∀ k f, i ≤ k → l[k]? = some f → 0 ≤ cmpF b f) : fpos l b = i := by
  unfold fpos
  by_cases hlt : i < l.length
  · rw [List.findIdx_eq hlt]
    refine ⟨by simpa using h2 i _ (Nat.le_refl _) (List.getElem?_eq_getElem hlt), fun j hj => by simpa using h1 j _ hj (List.getElem?_eq_getElem (by omega))⟩
  · obtain rfl : i = l.length := by omega
    rw [List.findIdx_eq_length]
    intro f hf
    obtain ⟨k, hk, rfl⟩ := List.mem_iff_getElem.1 hf
    simpa using h1 k _ hk (List.getElem?_eq_getElem hk)

/-- the cells of a row of files -/
def FRow (w : World) (F : Nat) (l : List FV) : Prop := ∀ i f, l[i]? = some f → w.cell? ⟨F, i * 3, none⟩ = some (.string f.name) ∧ w.cell? ⟨F, i * 3 + 1, none⟩ = some f.bv ∧ w.cell? ⟨F, i * 3 + 2, none⟩ = some (.int .i64 (f.sure : Int))

set_option maxHeartbeats 1000000 in
set_option maxRecDepth 100000 in
theorem search_any (l : List FV) (F cap : Nat) (b : ByteArray) (w : World) (hlen : l.length ≤ 1024) (hF : F < w.heap.size) (hrow : FRow w F l) (hr : Rises l b) :
    Calls Tryz.prog 74 #[.slice (some ⟨F, 0, none⟩) l.length cap, .string b, .func (.func 75) #[] #[]] w fun e w' => e = .returned (.tuple #[.int .i64 (fpos l b : Int), .bool (fthere l b)]) ∧ Below w.heap.size w w' := by
  have HR := Lib.hid hrow
  have HM := Lib.hid hr
  clear hrow hr
  go_enter Tryz.func74, Tryz.ntmps74
  go_wp2_with fail
  go_loopw [9, 10] (fun x y wr => ∃ i j : Nat, i ≤ j ∧ j ≤ l.length ∧ x = .int .i64 i ∧ y = .int .i64 j ∧ Hid (∀ k f, k < i → l[k]? = some f → cmpF b f < 0) ∧ Hid (∀ k f, j ≤ k → l[k]? = some f → 0 ≤ cmpF b f) ∧ Below w.heap.size w wr) (fun x y _ => (intOf y).toNat - (intOf x).toNat)
  case atStart => exact ⟨0, l.length, by omega, Nat.le_refl _, rfl, rfl, fun k f hk => absurd hk (by omega), fun k f hk hf => absurd (List.getElem?_eq_some_iff.1 hf).1 (by omega), Below.refl _ _⟩
  case round =>
    obtain ⟨i, j, hij, hj, rfl, rfl, h1, h2, hb⟩ := hrel
    by_cases hlt : i < j
    · obtain ⟨f, hf⟩ : ∃ f, l[(i + j) / 2]? = some f := ⟨_, List.getElem?_eq_getElem (by omega)⟩
      obtain ⟨c0, c1, c2⟩ := HR.out _ f hf
      rw [← hb.cell (p := ⟨F, (i + j) / 2 * 3, none⟩) hF] at c0
      rw [← hb.cell (p := ⟨F, (i + j) / 2 * 3 + 1, none⟩) hF] at c1
      rw [← hb.cell (p := ⟨F, (i + j) / 2 * 3 + 2, none⟩) hF] at c2
      have hcl := closure_any f.name b f.bv f.sure
      have Hf := Lib.hid hf; clear hf
      obtain ⟨q, hq⟩ : ∃ q : Int, Lib.compareBytes f.name.data.toList b.data.toList = q := ⟨_, rfl⟩
      rw [hq] at hcl
      have Hq := Lib.hid hq; clear hq
      go_wp2_with fail
      refine (hcl _).mono ?_
      rintro e w1 ⟨rfl, rfl⟩
      have HB := Lib.hid (hb.alloc (o := .cells #[.string f.name, f.bv, .int .i64 (f.sure : Int)] 70) hb.size)
      clear hb c0 c1 c2 hcl
      by_cases hneg : q < 0
      · go_wp2_with fail
        go_roundw
        case rel =>
          refine ⟨(i + j) / 2 + 1, j, by omega, hj, by go_num, rfl, fun k g hk hg => ?_, h2, HB.out⟩
          exact HM.out k ((i + j) / 2) (by omega) g f hg Hf.out (by unfold cmpF; rw [Hq.out]; exact hneg)
        case measure => simp [intOf]; omega
      · have hge : 0 ≤ q := by omega
        go_wp2_with fail
        go_roundw
        case rel =>
          refine ⟨i, (i + j) / 2, by omega, by omega, rfl, by go_num, h1, fun k g hk hg => ?_, HB.out⟩
          have hk2 : ¬ cmpF b g < 0 := fun hlt2 => by
            have := HM.out ((i + j) / 2) k hk f g Hf.out hg hlt2
            unfold cmpF at this; rw [Hq.out] at this; omega
          omega
        case measure => simp [intOf]; omega
    · obtain rfl : i = j := by omega
      have hp := fpos_eq hj h1 h2
      have HP := Lib.hid hp; clear hp hij
      by_cases hil : i < l.length
      · obtain ⟨f, hf⟩ : ∃ f, l[i]? = some f := ⟨_, List.getElem?_eq_getElem (by omega)⟩
        obtain ⟨c0, c1, c2⟩ := HR.out _ f hf
        rw [← hb.cell (p := ⟨F, i * 3, none⟩) hF] at c0
        rw [← hb.cell (p := ⟨F, i * 3 + 1, none⟩) hF] at c1
        rw [← hb.cell (p := ⟨F, i * 3 + 2, none⟩) hF] at c2
        have hcl := closure_any f.name b f.bv f.sure
        have hth : fthere l b = (cmpF b f == 0) := by unfold fthere; rw [HP.out, hf]; simp [Option.any]; rfl
        obtain ⟨q, hq⟩ : ∃ q : Int, Lib.compareBytes f.name.data.toList b.data.toList = q := ⟨_, rfl⟩
        rw [hq] at hcl
        unfold cmpF at hth
        rw [hq] at hth
        have HT := Lib.hid hth; clear hf hq hth
        go_wp2_with fail
        refine (hcl _).mono ?_
        rintro e w1 ⟨rfl, rfl⟩
        have HB := Lib.hid (hb.alloc (o := .cells #[.string f.name, f.bv, .int .i64 (f.sure : Int)] 70) hb.size)
        clear hb c0 c1 c2 hcl
        go_wp2_with fail
        go_ret2
        refine ⟨?_, HB.out⟩
        rw [HP.out, HT.out]
        rfl
      · have hth : fthere l b = false := by unfold fthere; rw [HP.out, List.getElem?_eq_none (by omega)]; rfl
        have HT := Lib.hid hth; clear hth
        have HB := Lib.hid hb; clear hb
        go_wp2_with fail
        go_ret2
        refine ⟨?_, HB.out⟩
        rw [HP.out, HT.out]
        rfl

set_option maxHeartbeats 1000000 in
set_option maxRecDepth 100000 in
theorem search_none (b : ByteArray) (w : World) :
    Calls Tryz.prog 74 #[.slice none 0 0, .string b, .func (.func 75) #[] #[]] w fun e w' => e = .returned (.tuple #[.int .i64 (0 : Int), .bool false]) ∧ Below w.heap.size w w' := by
  have hb := Below.refl w.heap.size w
  go_enter Tryz.func74, Tryz.ntmps74
  go_wp2_with fail
  go_loop [9, 10] (fun x y => x = .int .i64 0 ∧ y = .int .i64 0) (fun _ _ => 0)
  case atStart => exact ⟨rfl, rfl⟩
  case round =>
    obtain ⟨rfl, rfl⟩ := hrel
    go_wp2_with fail
    go_ret2
    exact ⟨rfl, hb⟩

theorem Lies.frow {B : Nat} {m : MS} {w : World} (h : Lies B m w) {F n cap : Nat} (hv : m.fv = .slice (some ⟨F, 0, none⟩) n cap) : n = m.l.length ∧ F < w.heap.size ∧ F ∈ m.blks ∧ FRow w F m.l := by
  have hr := h.row
  rw [hv] at hr
  have hn : n = m.l.length := by
    rcases hr.2 with ⟨h', _⟩ | ⟨g', cap', cur, h', _⟩
    · simp at h'
    · simp at h'; omega
  subst hn
  have hF : F ∈ m.blks := by simp [MS.blks, hv, Value.ownBlock]
  refine ⟨rfl, (h.lt F hF).2, hF, fun i f hf => ?_⟩
  have hi : i < m.l.length := (List.getElem?_eq_some_iff.1 hf).1
  have h0 := fcells_at m.l i 0 f hf (by omega)
  have h1 := fcells_at m.l i 1 f hf (by omega)
  have h2 := fcells_at m.l i 2 f hf (by omega)
  rw [Nat.mul_comm 3 i] at h0 h1 h2
  exact ⟨by rw [show i * 3 = i * 3 + 0 from rfl, hr.cellAt _ (by omega), h0]; rfl, by rw [hr.cellAt _ (by omega), h1]; rfl, by rw [hr.cellAt _ (by omega), h2]; rfl⟩

set_option maxHeartbeats 1000000 in
set_option maxRecDepth 100000 in
theorem find_any {B : Nat} (m : MS) (b : ByteArray) (w : World) (h : Lies B m w) (hlen : m.l.length ≤ 1024) (hr : Rises m.l b) :
    Calls Tryz.prog 36 #[.pointer (some ⟨m.D, 0, none⟩), .string b] w fun e w' => e = .returned (.tuple #[.int .i64 (fpos m.l b : Int), .bool (fthere m.l b)]) ∧ Below w.heap.size w w' := by
  have hc := h.cell 1
  simp only [MS.head, List.getElem?_toArray, List.getElem?_cons_succ, List.getElem?_cons_zero] at hc
  rcases Joins.ownsRow_forms h.row with ⟨hv, h0⟩ | ⟨F, cap, hv⟩
  · have hl : m.l = [] := List.length_eq_zero_iff.1 h0
    have hs := search_none b w
    rw [hl]
    rw [hv] at hc
    have e1 : fpos [] b = 0 := rfl
    have e2 : fthere [] b = false := rfl
    rw [e1, e2]
    clear h hv h0 hl hr hlen e1 e2
    go_enter Tryz.func36, Tryz.ntmps36
    go_wp2_with fail
    refine hs.mono ?_
    rintro e w1 ⟨rfl, hb⟩
    go_wp2_with fail
    go_ret2
    exact ⟨rfl, hb⟩
  · obtain ⟨_, hF, _, hrow⟩ := h.frow hv
    have hs := search_any m.l F cap b w hlen hF hrow hr
    rw [hv] at hc
    clear h hv hr hlen hF hrow
    go_enter Tryz.func36, Tryz.ntmps36
    go_wp2_with fail
    refine hs.mono ?_
    rintro e w1 ⟨rfl, hb⟩
    go_wp2_with fail
    go_ret2
    exact ⟨rfl, hb⟩
end Go.Proofs.YtjimgncefeldbaaGreatDoor

namespace Go.Proofs.YtjimgncefeldbaaGreatDoor
open Go.RowKit

theorem OwnB.form {B : Nat} {v : Value} {l : List UInt8} {w : World} (h : OwnB B v l w) : ∃ p c, v = .slice p l.length c := by
  rcases h.2 with ⟨hv, h0⟩ | ⟨g, cap, cur, hv, _⟩
  · exact ⟨none, 0, by rw [h0]; exact hv⟩
  · exact ⟨_, _, hv⟩

theorem Lies.forms {B : Nat} {m : MS} {w : World} (h : Lies B m w) {i : Nat} {f : FV} (hf : m.l[i]? = some f) : ∃ p c, f.bv = .slice p f.body.length c :=
  OwnB.form (h.body f (List.mem_of_getElem? hf))

def total (l : List FV) : Nat := (l.map fun f => f.body.length).sum
theorem total_succ {l : List FV} {k : Nat} {f : FV} (hf : l[k]? = some f) : total (l.take (k + 1)) = total (l.take k) + f.body.length := by
  unfold total
  rw [List.take_add_one, hf]; simp
theorem total_le (l : List FV) : ∀ k, total (l.take k) ≤ total l := by
  induction l with
  | nil => intro k; simp [total]
  | cons a l ih =>
    intro k
    cases k with
    | zero => simp [total]
    | succ k => have := ih k; simp only [total, List.take_succ_cons, List.map_cons, List.sum_cons] at this ⊢; omega

set_option maxHeartbeats 1000000 in
set_option maxRecDepth 100000 in
theorem used_any {B : Nat} (m : MS) (w : World) (h : Lies B m w) (hlen : m.l.length ≤ 1024) (ht : total m.l ≤ 4194304) :
    Calls Tryz.prog 37 #[.pointer (some ⟨m.D, 0, none⟩)] w fun e w' => e = .returned (.int .i64 (total m.l : Int)) ∧ Below w.heap.size w w' := by
  have hc := h.cell 1
  simp only [MS.head, List.getElem?_toArray, List.getElem?_cons_succ, List.getElem?_cons_zero] at hc
  rcases Joins.ownsRow_forms h.row with ⟨hv, h0⟩ | ⟨F, cap, hv⟩
  · have hl : m.l = [] := List.length_eq_zero_iff.1 h0
    rw [hl]
    rw [hv] at hc
    have hb := Below.refl w.heap.size w
    clear h hv h0 hl hlen ht
    go_enter Tryz.func37, Tryz.ntmps37
    go_wp2_with fail
    go_loop [3, 13] (fun u i => u = .int .i64 0 ∧ i = .int .i64 0) (fun _ _ => 0)
    case atStart => exact ⟨rfl, rfl⟩
    case round =>
      obtain ⟨rfl, rfl⟩ := hrel
      go_wp2_with fail
      go_ret
      exact ⟨rfl, hb⟩
  · obtain ⟨_, hF, _, hrow⟩ := h.frow hv
    rw [hv] at hc
    have HL := Lib.hid h; clear h
    have HR := Lib.hid hrow; clear hrow hv
    go_enter Tryz.func37, Tryz.ntmps37
    go_wp2_with fail
    go_loopw [3, 13] (fun u i wr => ∃ k : Nat, k ≤ m.l.length ∧ i = .int .i64 k ∧ u = .int .i64 (total (m.l.take k) : Int) ∧ Below w.heap.size w wr) (fun _ i _ => m.l.length - (intOf i).toNat)
    case atStart => exact ⟨0, Nat.zero_le _, rfl, rfl, Below.refl _ _⟩
    case round =>
      obtain ⟨k, hk, rfl, rfl, hb⟩ := hrel
      by_cases hlt : k < m.l.length
      · obtain ⟨f, hf⟩ : ∃ f, m.l[k]? = some f := ⟨_, List.getElem?_eq_getElem (by omega)⟩
        obtain ⟨c0, c1, c2⟩ := HR.out _ f hf
        rw [← hb.cell (p := ⟨F, k * 3, none⟩) hF] at c0
        rw [← hb.cell (p := ⟨F, k * 3 + 1, none⟩) hF] at c1
        rw [← hb.cell (p := ⟨F, k * 3 + 2, none⟩) hF] at c2
        obtain ⟨p, c, hbv⟩ := HL.out.forms hf
        have ht1 := total_succ hf
        have ht2 := total_le m.l (k + 1)
        have HT := Lib.hid ht1
        rw [ht1] at ht2
        have HB := Lib.hid (hb.alloc (o := .cells #[.string f.name, f.bv, .int .i64 (f.sure : Int)] 70) hb.size)
        rw [hbv] at c1 HB
        clear hb hf hbv ht1
        generalize total (m.l.take k) = T at *
        generalize f.body.length = n at *
        go_wp2_with fail
        go_roundw
        case rel => exact ⟨k + 1, by omega, by go_num, by rw [HT.out]; go_num, HB.out⟩
        case measure => simp [intOf]; omega
      · obtain rfl : k = m.l.length := by omega
        have HB := Lib.hid hb; clear hb
        go_wp2_with fail
        go_ret
        exact ⟨by rw [List.take_length]; rfl, HB.out⟩

theorem there_at {l : List FV} {b : ByteArray} (h : fthere l b = true) : ∃ f, l[fpos l b]? = some f ∧ cmpF b f = 0 := by
  unfold fthere at h
  cases hf : l[fpos l b]? with
  | none => rw [hf] at h; simp at h
  | some f => rw [hf] at h; exact ⟨f, rfl, by simpa using h⟩

/-- what Read answers -/
def readS (m : MS) (b : ByteArray) : ByteArray × Int :=
  if m.off then (⟨#[]⟩, 10) else
  match m.l[fpos m.l b]? with
  | some f => if cmpF b f = 0 then (⟨f.body.toArray⟩, 0) else (⟨#[]⟩, 7)
  | none => (⟨#[]⟩, 7)

set_option maxHeartbeats 1000000 in
set_option maxRecDepth 100000 in
theorem read_nil (b : ByteArray) (w : World) : Calls Tryz.prog 85 #[.pointer none, .string b] w fun e w' => e = .returned (.tuple #[.string ⟨#[]⟩, .int .i64 12]) ∧ w = w' := by
  go_enter Tryz.func85, Tryz.ntmps85
  go_wp2_with fail
  refine (ready_nil _).mono ?_
  rintro e w1 ⟨rfl, rfl⟩
  go_wp2_with fail
  go_ret2
  exact ⟨rfl, rfl⟩

set_option maxHeartbeats 1000000 in
set_option maxRecDepth 100000 in
theorem read_any {B : Nat} (m : MS) (b : ByteArray) (w : World) (h : Lies B m w) (hlen : m.l.length ≤ 1024) (hr : Rises m.l b) :
    Calls Tryz.prog 85 #[.pointer (some ⟨m.D, 0, none⟩), .string b] w fun e w' => e = .returned (.tuple #[.string (readS m b).1, .int .i64 (readS m b).2]) ∧ Below w.heap.size w w' := by
  have hrd := ready_any m w h
  cases ho : m.off
  · have hfd := find_any m b w h hlen hr
    rw [show rdy m = 0 by simp [rdy, ho]] at hrd
    cases ht : fthere m.l b
    · have e : readS m b = (⟨#[]⟩, 7) := by
        unfold readS; rw [ho]
        cases hx : m.l[fpos m.l b]? with
        | none => rfl
        | some f =>
          have : ¬ cmpF b f = 0 := fun h0 => by unfold fthere at ht; rw [hx] at ht; simp [h0] at ht
          simp [this]
      rw [e]
      rw [ht] at hfd
      clear ho ht e h hlen hr
      go_enter Tryz.func85, Tryz.ntmps85
      go_wp2_with fail
      refine hrd.mono ?_
      rintro e w1 ⟨rfl, rfl⟩
      go_wp2_with fail
      refine hfd.mono ?_
      rintro e w1 ⟨rfl, hb⟩
      have HB := Lib.hid hb; clear hb
      go_wp2_with fail
      go_ret2
      exact ⟨rfl, HB.out⟩
    · obtain ⟨f, hf, h0⟩ := there_at ht
      have e : readS m b = (⟨f.body.toArray⟩, 0) := by unfold readS; rw [ho, hf]; simp [h0]
      rw [e]
      have hil : fpos m.l b < m.l.length := (List.getElem?_eq_some_iff.1 hf).1
      obtain ⟨F, cap, hv⟩ : ∃ F cap, m.fv = .slice (some ⟨F, 0, none⟩) m.l.length cap := by
        rcases Joins.ownsRow_forms h.row with ⟨_, hl0⟩ | hv
        · omega
        · exact hv
      obtain ⟨_, hF, _, hrow⟩ := h.frow hv
      obtain ⟨c0, c1, c2⟩ := hrow _ f hf
      have hc := h.cell 1
      simp only [MS.head, List.getElem?_toArray, List.getElem?_cons_succ, List.getElem?_cons_zero] at hc
      rw [hv] at hc
      have hlt := (h.lt m.D (by simp [MS.blks])).2
      rw [ht] at hfd
      have HX := Lib.hid (And.intro h hf)
      have HC := Lib.hid (And.intro hc (And.intro c1 (And.intro hF hlt)))
      have hlen2 := hlen
      clear ho ht e h hr h0 hf c0 c1 c2 hc hrow hv hF hlt
      generalize fpos m.l b = i at *
      generalize hn : m.l.length = n at *
      clear hn
      go_enter Tryz.func85, Tryz.ntmps85
      go_wp2_with fail
      refine hrd.mono ?_
      rintro e w1 ⟨rfl, rfl⟩
      go_wp2_with fail
      refine hfd.mono ?_
      rintro e w1 ⟨rfl, hb⟩
      obtain ⟨hc, c1, hF, hlt⟩ := HC.out
      rw [← hb.cell (p := ⟨m.D, 1, none⟩) hlt] at hc
      rw [← hb.cell (p := ⟨F, i * 3 + 1, none⟩) hF] at c1
      have hs := own_text ((HX.out.1.below hb).body f (List.mem_of_getElem? HX.out.2))
      have HB := Lib.hid hb; clear hb hF hlt hfd hrd
      go_wp2_with fail
      go_ret2
      exact ⟨rfl, HB.out⟩
  · rw [show rdy m = 10 by simp [rdy, ho]] at hrd
    have e : readS m b = (⟨#[]⟩, 10) := by unfold readS; rw [ho]; rfl
    rw [e]
    clear ho e h hlen hr
    go_enter Tryz.func85, Tryz.ntmps85
    go_wp2_with fail
    refine hrd.mono ?_
    rintro e w1 ⟨rfl, rfl⟩
    go_wp2_with fail
    go_ret2
    exact ⟨rfl, Below.refl _ _⟩
end Go.Proofs.YtjimgncefeldbaaGreatDoor

namespace Go.Proofs.YtjimgncefeldbaaGreatDoor
open Go.RowKit

def hasP (p s : ByteArray) : Bool := Lib.hasPrefix s.data.toList p.data.toList

set_option maxHeartbeats 1000000 in
set_option maxRecDepth 100000 in
theorem prefixIn_any (s p : ByteArray) (w : World) :
    Calls Tryz.prog 143 #[.string s, .string p] w fun e w' => e = .returned (.bool (hasP p s)) ∧ w = w' := by
  unfold hasP
  rw [← Lib.hasPrefix_of_take, ← Lib.size_eq, ← Lib.size_eq]
  go_enter Tryz.func143, Tryz.ntmps143
  go_wp2
  · rename_i h
    go_ret
    refine ⟨?_, rfl⟩
    show Ending.returned (Value.bool ((s.extract 0 p.size).toList == p.toList)) = _
    rw [Lib.extract_toList, Lib.toList_data]
    simp [h]
  · rename_i h
    go_ret
    refine ⟨?_, rfl⟩
    show Ending.returned (Value.bool false) = _
    simp [h]

set_option maxHeartbeats 1000000 in
set_option maxRecDepth 100000 in
theorem prefix_any (s p : ByteArray) (w : World) :
    Calls Tryz.prog 118 #[.string s, .string p] w fun e w' => e = .returned (.bool (hasP p s)) ∧ w = w' := by
  go_enter Tryz.func118, Tryz.ntmps118
  go_wp2_with fail
  refine (prefixIn_any _ _ _).mono ?_
  rintro e w1 ⟨rfl, rfl⟩
  go_wp2_with fail
  go_ret
  exact ⟨rfl, rfl⟩
end Go.Proofs.YtjimgncefeldbaaGreatDoor

namespace Go.Proofs.YtjimgncefeldbaaGreatDoor
open Go.RowKit

theorem strsInfo : (Tryz.prog.info? 9).map (fun i => (i.zero, i.size, i.bytes)) = some (some (.string ByteArray.empty), 1, 16) := by kernel_rfl

/-- the names that begin so -/
def namesOf (p : ByteArray) (l : List FV) : List ByteArray := (l.map (·.name)).filter (hasP p)
def listS (m : MS) (p : ByteArray) : List ByteArray := if m.off then [] else namesOf p m.l

theorem names_succ {l : List FV} {k : Nat} {f : FV} (p : ByteArray) (hf : l[k]? = some f) : namesOf p (l.take (k + 1)) = namesOf p (l.take k) ++ if hasP p f.name then [f.name] else [] := by
  unfold namesOf
  rw [List.take_add_one, hf]
  simp only [List.map_append, List.filter_append, Option.toList_some, List.map_cons, List.map_nil, List.filter_cons, List.filter_nil]
theorem names_len (p : ByteArray) (l : List FV) : (namesOf p l).length ≤ l.length := by
  unfold namesOf
  have := List.length_filter_le (hasP p) (l.map (·.name))
  simpa using this

/-- a row of texts that a call owns -/
def OwnT (B : Nat) (v : Value) (l : List ByteArray) (w : World) : Prop := w.ownsRow B 9 1 v l.length (l.map Value.string)

set_option maxHeartbeats 1000000 in
set_option maxRecDepth 100000 in
theorem list_nil (p : ByteArray) (w : World) : Calls Tryz.prog 91 #[.pointer none, .string p] w fun e w' => e = .returned (.slice none 0 0) ∧ w = w' := by
  go_enter Tryz.func91, Tryz.ntmps91
  go_wp2_with fail
  refine (off_nil _).mono ?_
  rintro e w1 ⟨rfl, rfl⟩
  go_wp2_with fail
  go_ret
  exact ⟨rfl, rfl⟩

def ListPost (l : List ByteArray) (w : World) (e : Ending) (w' : World) : Prop := ∃ v, e = .returned v ∧ OwnT w.heap.size v l w' ∧ Below w.heap.size w w'

set_option maxHeartbeats 2000000 in
set_option maxRecDepth 100000 in
theorem list_any {B : Nat} (m : MS) (p : ByteArray) (w : World) (h : Lies B m w) (hlen : m.l.length ≤ 1024) :
    Calls Tryz.prog 91 #[.pointer (some ⟨m.D, 0, none⟩), .string p] w (ListPost (listS m p) w) := by
  have hrd := off_any m w h
  have hc := h.cell 1
  simp only [MS.head, List.getElem?_toArray, List.getElem?_cons_succ, List.getElem?_cons_zero] at hc
  cases ho : m.off
  · rw [show offB m = false from ho] at hrd
    have el : listS m p = namesOf p m.l := by unfold listS; rw [ho]; rfl
    rw [el]; clear el ho
    rcases Joins.ownsRow_forms h.row with ⟨hv, h0⟩ | ⟨F, cap, hv⟩
    · have hl : m.l = [] := List.length_eq_zero_iff.1 h0
      rw [hl]
      rw [hv] at hc
      clear h hv h0 hl hlen
      go_enter Tryz.func91, Tryz.ntmps91
      go_wp2_with fail
      refine hrd.mono ?_
      rintro e w1 ⟨rfl, rfl⟩
      go_wp2_with fail
      go_loop [5, 15] (fun u i => u = .slice none 0 0 ∧ i = .int .i64 0) (fun _ _ => 0)
      case atStart => exact ⟨rfl, rfl⟩
      case round =>
        obtain ⟨rfl, rfl⟩ := hrel
        go_wp2_with fail
        go_ret
        exact ⟨_, rfl, World.ownsRow_nil _ _ _ _, Below.refl _ _⟩
    · obtain ⟨_, hF, _, hrow⟩ := h.frow hv
      obtain ⟨i0, hi, hz0, hz1, hz2⟩ := info_parts strsInfo
      rw [hv] at hc
      have HL := Lib.hid h; clear h
      have HR := Lib.hid hrow; clear hrow hv
      go_enter Tryz.func91, Tryz.ntmps91
      go_wp2_with fail
      refine hrd.mono ?_
      rintro e w1 ⟨rfl, rfl⟩
      clear hrd
      go_wp2_with fail
      go_loopw [5, 15] (fun u i wr => ∃ k : Nat, k ≤ m.l.length ∧ i = .int .i64 k ∧ OwnT w.heap.size u (namesOf p (m.l.take k)) wr ∧ Below w.heap.size w wr) (fun _ i _ => m.l.length - (intOf i).toNat)
      case atStart => exact ⟨0, Nat.zero_le _, rfl, World.ownsRow_nil _ _ _ _, Below.refl _ _⟩
      case round =>
        rename_i u i wr
        obtain ⟨k, hk, rfl, hown, hb⟩ := hrel
        by_cases hlt : k < m.l.length
        · obtain ⟨f, hf⟩ : ∃ f, m.l[k]? = some f := ⟨_, List.getElem?_eq_getElem (by omega)⟩
          obtain ⟨c0, c1, c2⟩ := HR.out _ f hf
          rw [← hb.cell (p := ⟨F, k * 3, none⟩) hF] at c0
          rw [← hb.cell (p := ⟨F, k * 3 + 1, none⟩) hF] at c1
          rw [← hb.cell (p := ⟨F, k * 3 + 2, none⟩) hF] at c2
          obtain ⟨q, c, hbv⟩ := HL.out.forms hf
          have HN := Lib.hid (names_succ p hf)
          have hnl := names_len p (m.l.take k)
          have hnk : (m.l.take k).length ≤ k := List.length_take_le _ _
          generalize namesOf p (m.l.take k) = ns at *
          have HB := Lib.hid (hb.alloc (o := .cells #[.string f.name, f.bv, .int .i64 (f.sure : Int)] 70) hb.size)
          rw [hbv] at c1 HB
          have hown1 := World.ownsRow.alloc hown (.cells #[.string f.name, f.bv, .int .i64 (f.sure : Int)] 70)
          rw [hbv] at hown1
          have hbs := hb.size
          have hpf := prefix_any f.name p
          clear hb hf hown hbv
          generalize f.body.length = bl at *
          cases hpp : hasP p f.name
          · rw [hpp] at hpf
            rw [hpp] at HN
            clear hpp
            have HO := Lib.hid hown1; clear hown1
            go_wp2_with fail
            refine (hpf _).mono ?_
            rintro e w1 ⟨rfl, rfl⟩
            clear hpf c0 c1 c2
            go_wp2_with fail
            go_roundw
            case rel => exact ⟨k + 1, by omega, by go_num, by have := HN.out; simp only [Bool.false_eq_true, if_false, List.append_nil] at this; rw [this]; exact HO.out, HB.out⟩
            case measure => simp [intOf]; omega
          · rw [hpp] at hpf
            rw [hpp] at HN
            clear hpp
            go_wp2_with fail
            refine (hpf _).mono ?_
            rintro e w1 ⟨rfl, rfl⟩
            clear hpf c0 c1 c2
            go_wp2_with (at_builtin; refine wpList_append_own _ rfl _ _ 40 rfl w.heap.size 9 i0 (.string ByteArray.empty) 1 16 Tryz.underlying40 hi hz0 hz1 hz2 rfl (by decide) _ _ _ rfl (World.ownsRow.alloc hown1 _) ⟨wr.heap.size + 1, 0, none⟩ 1 1 [Value.string f.name] rfl rfl ?c1 ?c2 ?c3 ?c4 ?c5 ?_)
            case c1 =>
              intro j u hj
              match j, hj with
              | 0, hj => simp at hj; subst hj; simp [Addr.add]
            case c2 => intro u hu; simp at hu; subst hu; rfl
            case c3 => unfold maxLen; omega
            case c4 => omega
            case c5 => simp; omega
            intro v' w3 hown3 hg3 _
            have hrow' : OwnT w.heap.size v' (namesOf p (m.l.take (k + 1))) w3 := by
              have := HN.out
              simp only [if_true] at this
              rw [this]; unfold OwnT; rw [List.length_append, List.map_append]; exact hown3
            have hB3 : Below w.heap.size w w3 := (HB.out.alloc (by simp; omega) _).grown hg3 (by simp; omega) (fun j hj => (World.ownsRow.lt hown1 j hj).1)
            have H3 := Lib.hid hrow'
            have H4 := Lib.hid hB3
            clear hown3 hown1 hrow' hB3 hg3
            go_wp2
            go_roundw
            case rel => exact ⟨k + 1, by omega, by go_num, H3.out, H4.out⟩
            case measure => simp [intOf]; omega
        · obtain rfl : k = m.l.length := by omega
          rw [List.take_length] at hown
          have HB := Lib.hid hb; clear hb
          have HO := Lib.hid hown; clear hown
          go_wp2_with fail
          go_ret
          exact ⟨_, rfl, HO.out, HB.out⟩
  · rw [show offB m = true from ho] at hrd
    have el : listS m p = [] := by unfold listS; rw [ho]; rfl
    rw [el]
    clear ho el h hlen hc
    go_enter Tryz.func91, Tryz.ntmps91
    go_wp2_with fail
    refine hrd.mono ?_
    rintro e w1 ⟨rfl, rfl⟩
    go_wp2_with fail
    go_ret
    exact ⟨_, rfl, World.ownsRow_nil _ _ _ _, Below.refl _ _⟩
end Go.Proofs.YtjimgncefeldbaaGreatDoor
