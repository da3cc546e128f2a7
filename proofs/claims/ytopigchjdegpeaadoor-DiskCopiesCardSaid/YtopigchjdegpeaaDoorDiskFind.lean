/-
  disk: the place of a file.
-/
import Derived.Test.YtopigchjdegpeaaDoorDiskSpend
namespace Go.Proofs.YtopigchjdegpeaaDoor
open Go.RowKit

/-- how a file's name stands to a name -/
def cmpF (b : ByteArray) (f : FV) : Int := Lib.compareBytes f.name.data.toList b.data.toList
/-- the place of the first file whose name is not less -/
def fpos (l : List FV) (b : ByteArray) : Nat := l.findIdx fun f => decide (0 ≤ cmpF b f)
def fthere (l : List FV) (b : ByteArray) : Bool := (l[fpos l b]?).any fun f => decide (cmpF b f = 0)
/-- names rise -/
def Rises (l : List FV) (b : ByteArray) : Prop := ∀ i j : Nat, i ≤ j → ∀ f g, l[i]? = some f → l[j]? = some g → cmpF b g < 0 → cmpF b f < 0

theorem fpos_eq {l : List FV} {b : ByteArray} {i : Nat} (hi : i ≤ l.length) (h1 : ∀ k f, k < i → l[k]? = some f → cmpF b f < 0) (h2 : ∀ k f, i ≤ k → l[k]? = some f → 0 ≤ cmpF b f) : fpos l b = i := by
  unfold fpos
  by_cases hlt : i < l.length
  · rw [List.findIdx_eq hlt]
    refine ⟨by simpa using h2 i _ (Nat.le_refl _) (List.getElem?_eq_getElem hlt), fun j hj => by simpa using h1 j _ hj (List.getElem?_eq_getElem (by omega))⟩
  · obtain rfl : i = l.length := by omega
    rw [List.findIdx_eq_length]
    intro f hf
    obtain ⟨k, hk, rfl⟩ := List.mem_iff_getElem.1 hf
    simpa using h1 k _ hk (List.getElem?_eq_getElem hk)

/-- the cells of a row of files -/
def FRow (w : World) (F : Nat) (l : List FV) : Prop := ∀ i f, l[i]? = some f → w.cell? ⟨F, i * 3, none⟩ = some (.string f.name) ∧ w.cell? ⟨F, i * 3 + 1, none⟩ = some f.bv ∧ w.cell? ⟨F, i * 3 + 2, none⟩ = some (.int .i64 (f.sure : Int))

set_option maxHeartbeats 1000000 in
set_option maxRecDepth 100000 in
theorem search_any (l : List FV) (F cap : Nat) (b : ByteArray) (w : World) (hlen : l.length ≤ 1024) (hF : F < w.heap.size) (hrow : FRow w F l) (hr : Rises l b) :
    Calls Tryd.prog 50 #[.slice (some ⟨F, 0, none⟩) l.length cap, .string b, .func (.func 51) #[] #[]] w fun e w' => e = .returned (.tuple #[.int .i64 (fpos l b : Int), .bool (fthere l b)]) ∧ Below w.heap.size w w' := by
  have HR := Lib.hid hrow
  have HM := Lib.hid hr
  clear hrow hr
  go_enter Tryd.func50, Tryd.ntmps50
  go_wp2_with fail
  go_loopw [9, 10] (fun x y wr => ∃ i j : Nat, i ≤ j ∧ j ≤ l.length ∧ x = .int .i64 i ∧ y = .int .i64 j ∧ Hid (∀ k f, k < i → l[k]? = some f → cmpF b f < 0) ∧ Hid (∀ k f, j ≤ k → l[k]? = some f → 0 ≤ cmpF b f) ∧ Below w.heap.size w wr) (fun x y _ => (intOf y).toNat - (intOf x).toNat)
  case atStart => exact ⟨0, l.length, by omega, Nat.le_refl _, rfl, rfl, fun k f hk => absurd hk (by omega), fun k f hk hf => absurd (List.getElem?_eq_some_iff.1 hf).1 (by omega), Below.refl _ _⟩
  case round =>
    obtain ⟨i, j, hij, hj, rfl, rfl, h1, h2, hb⟩ := hrel
    by_cases hlt : i < j
    · obtain ⟨f, hf⟩ : ∃ f, l[(i + j) / 2]? = some f := ⟨_, List.getElem?_eq_getElem (by omega)⟩
      obtain ⟨c0, c1, c2⟩ := HR.out _ f hf
      rw [← hb.cell (p := ⟨F, (i + j) / 2 * 3, none⟩) hF] at c0
      rw [← hb.cell (p := ⟨F, (i + j) / 2 * 3 + 1, none⟩) hF] at c1
      rw [← hb.cell (p := ⟨F, (i + j) / 2 * 3 + 2, none⟩) hF] at c2
      have hcl := closure_any f.name b f.bv f.sure
      have Hf := Lib.hid hf; clear hf
      obtain ⟨q, hq⟩ : ∃ q : Int, Lib.compareBytes f.name.data.toList b.data.toList = q := ⟨_, rfl⟩
      rw [hq] at hcl
      have Hq := Lib.hid hq; clear hq
      go_wp2_with fail
      refine (hcl _).mono ?_
      rintro e w1 ⟨rfl, rfl⟩
      have HB := Lib.hid (hb.alloc (o := .cells #[.string f.name, f.bv, .int .i64 (f.sure : Int)] 57) hb.size)
      clear hb c0 c1 c2 hcl
      by_cases hneg : q < 0
      · go_wp2_with fail
        go_roundw
        case rel =>
          refine ⟨(i + j) / 2 + 1, j, by omega, hj, by go_num, rfl, fun k g hk hg => ?_, h2, HB.out⟩
          exact HM.out k ((i + j) / 2) (by omega) g f hg Hf.out (by unfold cmpF; rw [Hq.out]; exact hneg)
        case measure => simp [intOf]; omega
      · have hge : 0 ≤ q := by omega
        go_wp2_with fail
        go_roundw
        case rel =>
          refine ⟨i, (i + j) / 2, by omega, by omega, rfl, by go_num, h1, fun k g hk hg => ?_, HB.out⟩
          have hk2 : ¬ cmpF b g < 0 := fun hlt2 => by
            have := HM.out ((i + j) / 2) k hk f g Hf.out hg hlt2
            unfold cmpF at this; rw [Hq.out] at this; omega
          omega
        case measure => simp [intOf]; omega
    · obtain rfl : i = j := by omega
      have hp := fpos_eq hj h1 h2
      have HP := Lib.hid hp; clear hp hij
      by_cases hil : i < l.length
      · obtain ⟨f, hf⟩ : ∃ f, l[i]? = some f := ⟨_, List.getElem?_eq_getElem (by omega)⟩
        obtain ⟨c0, c1, c2⟩ := HR.out _ f hf
        rw [← hb.cell (p := ⟨F, i * 3, none⟩) hF] at c0
        rw [← hb.cell (p := ⟨F, i * 3 + 1, none⟩) hF] at c1
        rw [← hb.cell (p := ⟨F, i * 3 + 2, none⟩) hF] at c2
        have hcl := closure_any f.name b f.bv f.sure
        have hth : fthere l b = (cmpF b f == 0) := by unfold fthere; rw [HP.out, hf]; simp [Option.any]; rfl
        obtain ⟨q, hq⟩ : ∃ q : Int, Lib.compareBytes f.name.data.toList b.data.toList = q := ⟨_, rfl⟩
        rw [hq] at hcl
        unfold cmpF at hth
        rw [hq] at hth
        have HT := Lib.hid hth; clear hf hq hth
        go_wp2_with fail
        refine (hcl _).mono ?_
        rintro e w1 ⟨rfl, rfl⟩
        have HB := Lib.hid (hb.alloc (o := .cells #[.string f.name, f.bv, .int .i64 (f.sure : Int)] 57) hb.size)
        clear hb c0 c1 c2 hcl
        go_wp2_with fail
        go_ret2
        refine ⟨?_, HB.out⟩
        rw [HP.out, HT.out]
        rfl
      · have hth : fthere l b = false := by unfold fthere; rw [HP.out, List.getElem?_eq_none (by omega)]; rfl
        have HT := Lib.hid hth; clear hth
        have HB := Lib.hid hb; clear hb
        go_wp2_with fail
        go_ret2
        refine ⟨?_, HB.out⟩
        rw [HP.out, HT.out]
        rfl

set_option maxHeartbeats 1000000 in
set_option maxRecDepth 100000 in
theorem search_none (b : ByteArray) (w : World) :
    Calls Tryd.prog 50 #[.slice none 0 0, .string b, .func (.func 51) #[] #[]] w fun e w' => e = .returned (.tuple #[.int .i64 (0 : Int), .bool false]) ∧ Below w.heap.size w w' := by
  have hb := Below.refl w.heap.size w
  go_enter Tryd.func50, Tryd.ntmps50
  go_wp2_with fail
  go_loop [9, 10] (fun x y => x = .int .i64 0 ∧ y = .int .i64 0) (fun _ _ => 0)
  case atStart => exact ⟨rfl, rfl⟩
  case round =>
    obtain ⟨rfl, rfl⟩ := hrel
    go_wp2_with fail
    go_ret2
    exact ⟨rfl, hb⟩

theorem Lies.frow {B : Nat} {m : MS} {w : World} (h : Lies B m w) {F n cap : Nat} (hv : m.fv = .slice (some ⟨F, 0, none⟩) n cap) : n = m.l.length ∧ F < w.heap.size ∧ F ∈ m.blks ∧ FRow w F m.l := by
  have hr := h.row
  rw [hv] at hr
  have hn : n = m.l.length := by
    rcases hr.2 with ⟨h', _⟩ | ⟨g', cap', cur, h', _⟩
    · simp at h'
    · simp at h'; omega
  subst hn
  have hF : F ∈ m.blks := by simp [MS.blks, hv, Value.ownBlock]
  refine ⟨rfl, (h.lt F hF).2, hF, fun i f hf => ?_⟩
  have hi : i < m.l.length := (List.getElem?_eq_some_iff.1 hf).1
  have h0 := fcells_at m.l i 0 f hf (by omega)
  have h1 := fcells_at m.l i 1 f hf (by omega)
  have h2 := fcells_at m.l i 2 f hf (by omega)
  rw [Nat.mul_comm 3 i] at h0 h1 h2
  exact ⟨by rw [show i * 3 = i * 3 + 0 from rfl, hr.cellAt _ (by omega), h0]; rfl, by rw [hr.cellAt _ (by omega), h1]; rfl, by rw [hr.cellAt _ (by omega), h2]; rfl⟩

set_option maxHeartbeats 1000000 in
set_option maxRecDepth 100000 in
theorem find_any {B : Nat} (m : MS) (b : ByteArray) (w : World) (h : Lies B m w) (hlen : m.l.length ≤ 1024) (hr : Rises m.l b) :
    Calls Tryd.prog 34 #[.pointer (some ⟨m.D, 0, none⟩), .string b] w fun e w' => e = .returned (.tuple #[.int .i64 (fpos m.l b : Int), .bool (fthere m.l b)]) ∧ Below w.heap.size w w' := by
  have hc := h.cell 1
  simp only [MS.head, List.getElem?_toArray, List.getElem?_cons_succ, List.getElem?_cons_zero] at hc
  rcases Joins.ownsRow_forms h.row with ⟨hv, h0⟩ | ⟨F, cap, hv⟩
  · have hl : m.l = [] := List.length_eq_zero_iff.1 h0
    have hs := search_none b w
    rw [hl]
    rw [hv] at hc
    have e1 : fpos [] b = 0 := rfl
    have e2 : fthere [] b = false := rfl
    rw [e1, e2]
    clear h hv h0 hl hr hlen e1 e2
    go_enter Tryd.func34, Tryd.ntmps34
    go_wp2_with fail
    refine hs.mono ?_
    rintro e w1 ⟨rfl, hb⟩
    go_wp2_with fail
    go_ret2
    exact ⟨rfl, hb⟩
  · obtain ⟨_, hF, _, hrow⟩ := h.frow hv
    have hs := search_any m.l F cap b w hlen hF hrow hr
    rw [hv] at hc
    clear h hv hr hlen hF hrow
    go_enter Tryd.func34, Tryd.ntmps34
    go_wp2_with fail
    refine hs.mono ?_
    rintro e w1 ⟨rfl, hb⟩
    go_wp2_with fail
    go_ret2
    exact ⟨rfl, hb⟩
end Go.Proofs.YtopigchjdegpeaaDoor
