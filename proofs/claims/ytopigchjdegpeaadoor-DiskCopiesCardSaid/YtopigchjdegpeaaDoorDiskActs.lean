/-
  disk: what each act answers, and what is there behind it.
-/
import Derived.Test.YtopigchjdegpeaaDoorDiskSpec
import Derived.Test.YtopigchjdegpeaaDoorDiskApp2
import Derived.Test.YtopigchjdegpeaaDoorDiskRen2
import Derived.Test.YtopigchjdegpeaaDoorDiskCrash
import Derived.Test.YtopigchjdegpeaaDoorDiskList
import Derived.Shelf.Abstract
namespace Go.Proofs.YtopigchjdegpeaaDoor
open Go.RowKit

def MS.abs (m : MS) : DS := ⟨m.room, m.l.map FV.abs, m.off, m.fused, m.left⟩

theorem pos_abs (l : List FV) (n : ByteArray) : fpos l n = spos (l.map FV.abs) n := by unfold fpos spos; rw [List.findIdx_map]; rfl
theorem there_abs (l : List FV) (n : ByteArray) : fthere l n = sthere (l.map FV.abs) n := by
  unfold fthere sthere
  rw [← pos_abs, List.getElem?_map]
  cases l[fpos l n]? <;> rfl
theorem total_abs (l : List FV) : total l = stotal (l.map FV.abs) := by simp [total, stotal, Function.comp_def, FV.abs]
theorem rises_abs {l : List FV} (h : SRise (l.map FV.abs)) (n : ByteArray) : Rises l n := by
  intro i j hij f g hf hg hlt
  by_cases he : i = j
  · subst he; rw [hf] at hg; cases hg; exact hlt
  · have h1 := rises_le h (i := i) (j := j) (by omega) (f := f.abs) (g := g.abs) (by rw [List.getElem?_map, hf]; rfl) (by rw [List.getElem?_map, hg]; rfl)
    exact Go.Proofs.YtopigchjdegpeaaDoor.cmp_trans _ _ _ h1 hlt

theorem isName_no (s : ByteArray) (w : World) (hs : isNm s = false) (hsz : s.size ≤ 9223372036854775807) : Calls Tryd.prog 33 #[.string s] w fun e w' => e = .returned (.bool (isNm s)) ∧ w = w' := by
  rw [hs]
  by_cases h0 : s.size = 0
  · obtain ⟨n1, n2⟩ := no_str h0
    go_enter Tryd.func33, Tryd.ntmps33
    go_wp2
    go_ret
    exact ⟨rfl, rfl⟩
  · have hne := some_str (t := s) (by omega)
    obtain ⟨n1, n2⟩ := hne
    by_cases h64 : 64 < s.size
    · go_enter Tryd.func33, Tryd.ntmps33
      go_wp2
      go_ret
      exact ⟨rfl, rfl⟩
    · have HA : Hid (¬ ∀ k : Nat, (hk : k < s.size) → inNm s[k] = true) := fun hall => by
        have : isNm s = true := by
          simp only [isNm, Bool.and_eq_true, decide_eq_true_eq, List.all_eq_true]
          refine ⟨⟨h0, by omega⟩, fun x hx => ?_⟩
          obtain ⟨k, hk, rfl⟩ := List.mem_iff_getElem.1 hx
          exact hall k (by simpa using hk)
        rw [hs] at this; cases this
      have h64' : s.size ≤ 64 := by omega
      clear hs h0 h64
      go_enter Tryd.func33, Tryd.ntmps33
      go_wp2
      go_loop [13] (fun i => ∃ k : Nat, k ≤ s.size ∧ i = .int .i64 k ∧ Hid (∀ j : Nat, (hj : j < s.size) → j < k → inNm s[j] = true)) (fun i => s.size - (intOf i).toNat)
      case atStart => exact ⟨0, Nat.zero_le _, rfl, fun j hj h => absurd h (by omega)⟩
      case round =>
        obtain ⟨k, hk, rfl, hall⟩ := hrel
        by_cases hlt : k < s.size
        · have hc := inName_any s[k]
          cases hb : inNm s[k]
          · rw [hb] at hc
            clear hb
            go_wp2_with fail
            refine (hc _).mono ?_
            rintro e w' ⟨rfl, rfl⟩
            go_wp2
            go_ret
            exact ⟨rfl, rfl⟩
          · rw [hb] at hc
            have HB := Lib.hid hb; clear hb
            go_wp2_with fail
            refine (hc _).mono ?_
            rintro e w' ⟨rfl, rfl⟩
            go_wp2
            go_round
            case rel =>
              refine ⟨k + 1, by omega, by go_num, fun j hj hjk => ?_⟩
              by_cases he : j = k
              · subst he; exact HB.out
              · exact hall.out j hj (by omega)
            case measure => simp [intOf]; omega
        · obtain rfl : k = s.size := by omega
          exact absurd (fun j hj => hall.out j hj hj) HA.out

/-- what an act leaves: its answer, and the disk -/
def Step (B : Nat) (m : MS) (r : Int × DS) (w : World) (e : Ending) (w' : World) : Prop :=
  ∃ m' : MS, e = .returned (.int .i64 r.1) ∧ m'.abs = r.2 ∧ m'.D = m.D ∧ Lies B m' w' ∧ Chg m m' w w'

theorem glue_ret {B : Nat} {m : MS} {g : FuncId} {cb : Array Value} {w : World} {r : Int × DS} (hent : ∀ w, (callFunc g cb).run Tryd.prog w = .ok (.enter g cb) w) (h : Lies B m w) (ho : m.off = false)
    (hf : Calls Tryd.prog g cb (actW (.pointer (some ⟨m.D, 0, none⟩)) w) (Step B m r (actW (.pointer (some ⟨m.D, 0, none⟩)) w))) :
    Calls Tryd.prog 31 #[.pointer (some ⟨m.D, 0, none⟩), .func (.func g) #[] cb] w (Step B m r w) := by
  have hsz : (actW (.pointer (some ⟨m.D, 0, none⟩)) w).heap.size = w.heap.size + 2 := by simp [actW]
  have hblt : ∀ k ∈ m.blks, k < w.heap.size := fun k hk => (h.lt k hk).2
  refine (act_ret m g cb w hent h ho (fun n w1 => n = r.1 ∧ ∃ m' : MS, m'.abs = r.2 ∧ m'.D = m.D ∧ Lies B m' w1 ∧ Chg m m' (actW (.pointer (some ⟨m.D, 0, none⟩)) w) w1) (hf.mono ?_)).mono ?_
  · rintro e w1 ⟨m', rfl, ha, hD, hl, hc⟩
    refine ⟨r.1, rfl, ⟨rfl, m', ha, hD, hl, hc⟩, ?_⟩
    rw [hc.block _ (by rw [hsz]; omega) (fun hk => by have := hblt _ hk; omega)]
    rw [show w.heap.size + 1 = (w.alloc (.cells #[.pointer (some ⟨m.D, 0, none⟩)] 24)).heap.size by simp]
    exact heap_alloc_new _ _
  · rintro e w' ⟨n, w1, rfl, ⟨rfl, m', ha, hD, hl, hc⟩, rfl⟩
    have hnot : w.heap.size + 1 ∉ m'.blks := fun hk => by
      rcases hc.fresh _ hk with h1 | h1
      · have := hblt _ h1; omega
      · rw [hsz] at h1; omega
    refine ⟨m', rfl, ha, hD, hl.kept fun k hk => Below.heap_setCell _ _ _ _ (fun e => hnot (by have e' : k = w.heap.size + 1 := e; rw [← e']; exact hk)), hc.os, hc.tape, hc.output, by have := hc.size; rw [hsz] at this; simp; omega, fun k hk hn => ?_, fun k hk => ?_⟩
    · rw [Below.heap_setCell _ _ _ _ (by simp; omega), hc.block k (by rw [hsz]; omega) hn]
      exact (Joins.below_alloc2 w _ _).block k hk
    · rcases hc.fresh k hk with h1 | h1
      · exact .inl h1
      · rw [hsz] at h1; right; omega

theorem glue_pow {B : Nat} {m : MS} {a : Addr} {g : FuncId} {cb : Array Value} {w : World} {s : DS} (hent : ∀ w, (callFunc g cb).run Tryd.prog w = .ok (.enter g cb) w) (h : Lies B m w) (ho : m.off = false) (hp : Pow a w) (hg : 0 < B) (hs : m.dark.abs = s)
    (hf : Calls Tryd.prog g cb (actW (.pointer (some ⟨m.D, 0, none⟩)) w) fun e w' => e = .panicked [{ v := powV a, recovered := false }] ∧ Below (actW (.pointer (some ⟨m.D, 0, none⟩)) w).heap.size (actW (.pointer (some ⟨m.D, 0, none⟩)) w) w') :
    Calls Tryd.prog 31 #[.pointer (some ⟨m.D, 0, none⟩), .func (.func g) #[] cb] w (Step B m (10, s) w) := by
  have hsz : (actW (.pointer (some ⟨m.D, 0, none⟩)) w).heap.size = w.heap.size + 2 := by simp [actW]
  rw [hsz] at hf
  refine (act_pow m a g cb w hent h ho hp hg hf).mono ?_
  rintro e w' ⟨rfl, hl, hc⟩
  exact ⟨m.dark, rfl, hs, rfl, hl, hc⟩

theorem glue_off {B : Nat} {m : MS} {f : Value} {w : World} {r : Int × DS} (h : Lies B m w) (ho : m.off = true) (hr : r = (10, m.abs)) :
    Calls Tryd.prog 31 #[.pointer (some ⟨m.D, 0, none⟩), f] w (Step B m r w) := by
  subst hr
  refine (act_off m f w h ho).mono ?_
  rintro e w' ⟨rfl, hb⟩
  exact ⟨m, rfl, rfl, rfl, h.below hb, Chg.of_below hb⟩

/-- a call that answers an error, and leaves the disk alone -/
theorem Step.same {B : Nat} {m : MS} {w w' : World} {n : Int} {s : DS} (h : Lies B m w) (hs : m.abs = s) (hb : Below w.heap.size w w') : Step B m (n, s) w (.returned (.int .i64 n)) w' := ⟨m, rfl, hs, rfl, h.below hb, Chg.of_below hb⟩

theorem Step.from {B : Nat} {m : MS} {w wb w' : World} {r : Int × DS} {e : Ending} (hb : Below w.heap.size w wb) (h : Step B m r wb e w') : Step B m r w e w' := by
  obtain ⟨m', he, ha, hD, hl, hc⟩ := h
  exact ⟨m', he, ha, hD, hl, (Chg.of_below (m := m) hb).trans hc⟩

theorem enters_f {f : FuncId} {fn : Func} {c : Code} (hf : Tryd.prog.funcs[f]? = some fn) (hname : (fn.name == "runtime.NumGoroutine") = false) (hb : fn.body = some c) (cb : Array Value) : ∀ w, (callFunc f cb).run Tryd.prog w = .ok (.enter f cb) w := fun w => enters_of hf hname hb cb w

/-- boxes of the call's own, in the world of an act's function -/
theorem Box.act {B : Nat} {m : MS} {w wb : World} {b : Nat} {v : Value} (p : Value) (h : Lies B m w) (hb : Below w.heap.size w wb) (hv : wb.cell? ⟨b, 0, none⟩ = some v) (hlt : b < wb.heap.size) (hge : w.heap.size ≤ b) : Box m b v (actW p wb) := by
  refine ⟨?_, by simp [actW]; omega, fun hk => by have := (h.lt b hk).2; omega⟩
  unfold actW
  rw [(Joins.below_alloc2 wb _ _).cell (p := ⟨b, 0, none⟩) hlt]; exact hv

theorem rise_m {B : Nat} {m : MS} (hf : Fit m.abs) : SRise (m.l.map FV.abs) := hf.rises

theorem len_m {m : MS} (hf : Fit m.abs) : m.l.length ≤ 1024 := by have := hf.len; simpa [MS.abs] using this
theorem total_m {m : MS} (hf : Fit m.abs) : total m.l ≤ m.room ∧ m.room ≤ 4194304 := ⟨by have := hf.total; rw [total_abs]; exact this, hf.room⟩

theorem at_abs {l : List FV} {n : ByteArray} {f : FV} (hf : l[fpos l n]? = some f) : (l.map FV.abs)[spos (l.map FV.abs) n]? = some f.abs := by rw [← pos_abs, List.getElem?_map, hf]; rfl

theorem out_m {m : MS} (h : m.abs.out = true) : m.fused = true ∧ m.left = 0 := by
  unfold DS.out at h
  simp only [Bool.and_eq_true, beq_iff_eq] at h
  exact h
theorem may_m {m : MS} (h : m.abs.out = false) : m.may := by
  intro hf
  unfold DS.out at h
  have : (m.fused && m.left == 0) = false := h
  rw [hf] at this
  simp at this
  omega

theorem pay_abs (m : MS) : m.pay.abs = m.abs.pay := rfl
theorem dark_abs (m : MS) : m.dark.abs = m.abs.dark := rfl

theorem below1 (w : World) (a b : Obj) : Below w.heap.size w ((w.alloc a).alloc b) := Joins.below_alloc2 w a b

set_option maxHeartbeats 2000000 in
set_option maxRecDepth 100000 in
theorem sync_nil (n : ByteArray) (w : World) : Calls Tryd.prog 16 #[.pointer none, .string n] w fun e w' => e = .returned (.int .i64 12) ∧ Below w.heap.size w w' := by
  have hmf : ∀ (fn : Fn) (first cap : Array Value) (w : World), (Instr.makeFunc fn first cap).run Tryd.prog w = .ok (.func fn first cap) w := fun _ _ _ _ => rfl
  go_enter Tryd.func16, Tryd.ntmps16
  go_wp2_with fail
  refine (act_nil _ _).mono ?_
  rintro e w1 ⟨rfl, hb⟩
  have HB := Lib.hid ((below1 w _ _).trans (hb.mono (by simp; omega)))
  clear hb
  go_wp2_with fail
  go_ret
  exact ⟨rfl, HB.out⟩

set_option maxHeartbeats 2000000 in
set_option maxRecDepth 100000 in
theorem sync_any {B : Nat} (m : MS) (n : ByteArray) (a : Addr) (w : World) (h : Lies B m w) (hf : Fit m.abs) (hp : Pow a w) (hg : 0 < B) :
    Calls Tryd.prog 16 #[.pointer (some ⟨m.D, 0, none⟩), .string n] w (Step B m (syncS m.abs n) w) := by
  have hmf : ∀ (fn : Fn) (first cap : Array Value) (w : World), (Instr.makeFunc fn first cap).run Tryd.prog w = .ok (.func fn first cap) w := fun _ _ _ _ => rfl
  have hbb := below1 w (.cells #[.pointer (some ⟨m.D, 0, none⟩)] 24) (.cells #[.string n] 9)
  have hact : Calls Tryd.prog 31 #[.pointer (some ⟨m.D, 0, none⟩), .func (.func 37) #[] #[.pointer (some ⟨w.heap.size, 0, none⟩), .pointer (some ⟨w.heap.size + 1, 0, none⟩)]] ((w.alloc (.cells #[.pointer (some ⟨m.D, 0, none⟩)] 24)).alloc (.cells #[.string n] 9)) (Step B m (syncS m.abs n) ((w.alloc (.cells #[.pointer (some ⟨m.D, 0, none⟩)] 24)).alloc (.cells #[.string n] 9))) := by
    have hl := h.below hbb
    have hla := hl.below (Joins.below_alloc2 _ (.cells #[.pointer (some ⟨m.D, 0, none⟩)] 24) (.cells #[.int .i64 0] 25))
    have hent := enters_f Tryd.func37 (by kernel_rfl) rfl #[.pointer (some ⟨w.heap.size, 0, none⟩), .pointer (some ⟨w.heap.size + 1, 0, none⟩)]
    have x0 : Box m w.heap.size (.pointer (some ⟨m.D, 0, none⟩)) (actW (.pointer (some ⟨m.D, 0, none⟩)) ((w.alloc (.cells #[.pointer (some ⟨m.D, 0, none⟩)] 24)).alloc (.cells #[.string n] 9))) := Box.act _ h hbb (by simp [go_sem]) (by simp; omega) (Nat.le_refl _)
    have x1 : Box m (w.heap.size + 1) (.string n) (actW (.pointer (some ⟨m.D, 0, none⟩)) ((w.alloc (.cells #[.pointer (some ⟨m.D, 0, none⟩)] 24)).alloc (.cells #[.string n] 9))) := Box.act _ h hbb (by simp [go_sem]) (by simp) (by omega)
    cases ho : m.off
    · unfold syncS
      rw [if_neg (by rw [show m.abs.off = m.off from rfl, ho]; simp)]
      cases ht : fthere m.l n
      · rw [if_pos (by rw [show m.abs.l = m.l.map FV.abs from rfl, ← there_abs, ht]; rfl)]
        refine glue_ret hent hl ho ((syncC_none m n _ _ _ hla (len_m hf) (rises_abs hf.rises n) x0 x1 ht).mono ?_)
        rintro e w' ⟨rfl, hb⟩
        exact Step.same hla rfl hb
      · rw [if_neg (by rw [show m.abs.l = m.l.map FV.abs from rfl, ← there_abs, ht]; simp)]
        obtain ⟨f, hff, hc0⟩ := there_at ht
        unfold actS
        cases hout : m.abs.out
        · rw [if_neg (by simp)]
          refine glue_ret hent hl ho ((syncC_ok m n _ _ _ f hla (len_m hf) (rises_abs hf.rises n) x0 x1 hff hc0 hf.left (may_m hout)).mono ?_)
          rintro e w' ⟨rfl, hl', hc'⟩
          refine ⟨m.pay.syncAt (fpos m.l n) f, rfl, ?_, rfl, hl', hc'⟩
          unfold smod
          rw [show m.abs.l = m.l.map FV.abs from rfl, at_abs hff, ← pos_abs]
          simp [MS.abs, MS.syncAt, MS.pay, DS.pay, FV.abs, List.map_set]
          rfl
        · rw [if_pos rfl]
          obtain ⟨o1, o2⟩ := out_m hout
          exact glue_pow hent hl ho (hp.below hbb hp.lt) hg rfl (syncC_out m n _ _ a _ hla (len_m hf) (rises_abs hf.rises n) x0 x1 ht ((hp.below hbb hp.lt).below (Joins.below_alloc2 _ _ _) (by have := hp.lt; have := hbb.size; omega)) o1 o2)
    · exact glue_off hl ho (by unfold syncS; rw [if_pos (by exact ho)])
  have HA := Lib.hid hact
  have HBB := Lib.hid hbb
  clear hact hbb h hf hp hg
  go_enter Tryd.func16, Tryd.ntmps16
  go_wp2_with fail
  refine HA.out.mono ?_
  rintro e w1 ⟨m', rfl, hs⟩
  have HS := Lib.hid (Step.from (e := .returned (.int .i64 (syncS m.abs n).1)) HBB.out ⟨m', rfl, hs⟩)
  clear hs
  go_wp2_with fail
  go_ret
  exact HS.out
set_option maxHeartbeats 2000000 in
set_option maxRecDepth 100000 in
theorem remove_nil (n : ByteArray) (w : World) : Calls Tryd.prog 23 #[.pointer none, .string n] w fun e w' => e = .returned (.int .i64 12) ∧ Below w.heap.size w w' := by
  have hmf : ∀ (fn : Fn) (first cap : Array Value) (w : World), (Instr.makeFunc fn first cap).run Tryd.prog w = .ok (.func fn first cap) w := fun _ _ _ _ => rfl
  go_enter Tryd.func23, Tryd.ntmps23
  go_wp2_with fail
  refine (act_nil _ _).mono ?_
  rintro e w1 ⟨rfl, hb⟩
  have HB := Lib.hid ((below1 w _ _).trans (hb.mono (by simp; omega)))
  clear hb
  go_wp2_with fail
  go_ret
  exact ⟨rfl, HB.out⟩

set_option maxHeartbeats 2000000 in
set_option maxRecDepth 100000 in
theorem remove_any {B : Nat} (m : MS) (n : ByteArray) (a : Addr) (w : World) (h : Lies B m w) (hf : Fit m.abs) (hp : Pow a w) (hg : 0 < B) :
    Calls Tryd.prog 23 #[.pointer (some ⟨m.D, 0, none⟩), .string n] w (Step B m (removeS m.abs n) w) := by
  have hmf : ∀ (fn : Fn) (first cap : Array Value) (w : World), (Instr.makeFunc fn first cap).run Tryd.prog w = .ok (.func fn first cap) w := fun _ _ _ _ => rfl
  have hbb := below1 w (.cells #[.pointer (some ⟨m.D, 0, none⟩)] 24) (.cells #[.string n] 9)
  have hact : Calls Tryd.prog 31 #[.pointer (some ⟨m.D, 0, none⟩), .func (.func 41) #[] #[.pointer (some ⟨w.heap.size, 0, none⟩), .pointer (some ⟨w.heap.size + 1, 0, none⟩)]] ((w.alloc (.cells #[.pointer (some ⟨m.D, 0, none⟩)] 24)).alloc (.cells #[.string n] 9)) (Step B m (removeS m.abs n) ((w.alloc (.cells #[.pointer (some ⟨m.D, 0, none⟩)] 24)).alloc (.cells #[.string n] 9))) := by
    have hl := h.below hbb
    have hla := hl.below (Joins.below_alloc2 _ (.cells #[.pointer (some ⟨m.D, 0, none⟩)] 24) (.cells #[.int .i64 0] 25))
    have hent := enters_f Tryd.func41 (by kernel_rfl) rfl #[.pointer (some ⟨w.heap.size, 0, none⟩), .pointer (some ⟨w.heap.size + 1, 0, none⟩)]
    have x0 : Box m w.heap.size (.pointer (some ⟨m.D, 0, none⟩)) (actW (.pointer (some ⟨m.D, 0, none⟩)) ((w.alloc (.cells #[.pointer (some ⟨m.D, 0, none⟩)] 24)).alloc (.cells #[.string n] 9))) := Box.act _ h hbb (by simp [go_sem]) (by simp; omega) (Nat.le_refl _)
    have x1 : Box m (w.heap.size + 1) (.string n) (actW (.pointer (some ⟨m.D, 0, none⟩)) ((w.alloc (.cells #[.pointer (some ⟨m.D, 0, none⟩)] 24)).alloc (.cells #[.string n] 9))) := Box.act _ h hbb (by simp [go_sem]) (by simp) (by omega)
    cases ho : m.off
    · unfold removeS
      rw [if_neg (by rw [show m.abs.off = m.off from rfl, ho]; simp)]
      cases ht : fthere m.l n
      · rw [if_pos (by rw [show m.abs.l = m.l.map FV.abs from rfl, ← there_abs, ht]; rfl)]
        refine glue_ret hent hl ho ((removeC_none m n _ _ _ hla (len_m hf) (rises_abs hf.rises n) x0 x1 ht).mono ?_)
        rintro e w' ⟨rfl, hb⟩
        exact Step.same hla rfl hb
      · rw [if_neg (by rw [show m.abs.l = m.l.map FV.abs from rfl, ← there_abs, ht]; simp)]
        obtain ⟨f, hff, hc0⟩ := there_at ht
        unfold actS
        cases hout : m.abs.out
        · rw [if_neg (by simp)]
          refine glue_ret hent hl ho ((removeC_ok m n _ _ _ f hla (len_m hf) (rises_abs hf.rises n) x0 x1 hff hc0 hf.left (may_m hout)).mono ?_)
          rintro e w' ⟨v, rfl, hl', hc'⟩
          refine ⟨{ m.pay with fv := v, l := m.l.take (fpos m.l n) ++ m.l.drop (fpos m.l n + 1) }, rfl, ?_, rfl, hl', hc'⟩
          unfold sdel
          rw [show m.abs.l = m.l.map FV.abs from rfl, ← pos_abs]
          simp [MS.abs, MS.pay, DS.pay, List.map_take, List.map_drop]
          rfl
        · rw [if_pos rfl]
          obtain ⟨o1, o2⟩ := out_m hout
          exact glue_pow hent hl ho (hp.below hbb hp.lt) hg rfl (removeC_out m n _ _ a _ hla (len_m hf) (rises_abs hf.rises n) x0 x1 ht ((hp.below hbb hp.lt).below (Joins.below_alloc2 _ _ _) (by have := hp.lt; have := hbb.size; omega)) o1 o2)
    · exact glue_off hl ho (by unfold removeS; rw [if_pos (by exact ho)])
  have HA := Lib.hid hact
  have HBB := Lib.hid hbb
  clear hact hbb h hf hp hg
  go_enter Tryd.func23, Tryd.ntmps23
  go_wp2_with fail
  refine HA.out.mono ?_
  rintro e w1 ⟨m', rfl, hs⟩
  have HS := Lib.hid (Step.from (e := .returned (.int .i64 (removeS m.abs n).1)) HBB.out ⟨m', rfl, hs⟩)
  clear hs
  go_wp2_with fail
  go_ret
  exact HS.out

/-- the world in which an act of two texts is called -/
def box3 (p a b : Value) (w : World) : World := ((w.alloc (.cells #[p] 24)).alloc (.cells #[a] 9)).alloc (.cells #[b] 9)
theorem below3 (w : World) (p a b : Value) : Below w.heap.size w (box3 p a b w) := Joins.below_alloc3 w _ _ _

set_option maxHeartbeats 2000000 in
set_option maxRecDepth 100000 in
theorem append_nil (n t : ByteArray) (w : World) : Calls Tryd.prog 15 #[.pointer none, .string n, .string t] w fun e w' => e = .returned (.int .i64 12) ∧ Below w.heap.size w w' := by
  have hmf : ∀ (fn : Fn) (first cap : Array Value) (w : World), (Instr.makeFunc fn first cap).run Tryd.prog w = .ok (.func fn first cap) w := fun _ _ _ _ => rfl
  go_enter Tryd.func15, Tryd.ntmps15
  go_wp2_with fail
  refine (act_nil _ _).mono ?_
  rintro e w1 ⟨rfl, hb⟩
  have HB := Lib.hid ((below3 w _ _ _).trans (hb.mono (by simp; omega)))
  clear hb
  go_wp2_with fail
  go_ret
  exact ⟨rfl, HB.out⟩

set_option maxHeartbeats 2000000 in
set_option maxRecDepth 100000 in
theorem append_any {B : Nat} (m : MS) (n t : ByteArray) (a : Addr) (w : World) (h : Lies B m w) (hf : Fit m.abs) (hp : Pow a w) (hg : 0 < B) (hsn : n.size ≤ 9223372036854775807) (hst : t.size ≤ 9223372036854775807) :
    Calls Tryd.prog 15 #[.pointer (some ⟨m.D, 0, none⟩), .string n, .string t] w (Step B m (appendS m.abs n t) w) := by
  have hmf : ∀ (fn : Fn) (first cap : Array Value) (w : World), (Instr.makeFunc fn first cap).run Tryd.prog w = .ok (.func fn first cap) w := fun _ _ _ _ => rfl
  have hbb := below3 w (.pointer (some ⟨m.D, 0, none⟩)) (.string n) (.string t)
  have hact : Calls Tryd.prog 31 #[.pointer (some ⟨m.D, 0, none⟩), .func (.func 32) #[] #[.pointer (some ⟨w.heap.size + 1, 0, none⟩), .pointer (some ⟨w.heap.size, 0, none⟩), .pointer (some ⟨w.heap.size + 2, 0, none⟩)]] (box3 (.pointer (some ⟨m.D, 0, none⟩)) (.string n) (.string t) w) (Step B m (appendS m.abs n t) (box3 (.pointer (some ⟨m.D, 0, none⟩)) (.string n) (.string t) w)) := by
    have hl := h.below hbb
    have hla := hl.below (Joins.below_alloc2 _ (.cells #[.pointer (some ⟨m.D, 0, none⟩)] 24) (.cells #[.int .i64 0] 25))
    have hent := enters_f Tryd.func32 (by kernel_rfl) rfl #[.pointer (some ⟨w.heap.size + 1, 0, none⟩), .pointer (some ⟨w.heap.size, 0, none⟩), .pointer (some ⟨w.heap.size + 2, 0, none⟩)]
    have x0 : Box m (w.heap.size + 1) (.string n) (actW (.pointer (some ⟨m.D, 0, none⟩)) (box3 (.pointer (some ⟨m.D, 0, none⟩)) (.string n) (.string t) w)) := Box.act _ h hbb (by simp [box3, go_sem]) (by simp [box3]) (by omega)
    have x1 : Box m w.heap.size (.pointer (some ⟨m.D, 0, none⟩)) (actW (.pointer (some ⟨m.D, 0, none⟩)) (box3 (.pointer (some ⟨m.D, 0, none⟩)) (.string n) (.string t) w)) := Box.act _ h hbb (by simp [box3, go_sem]) (by simp [box3]; omega) (Nat.le_refl _)
    have x2 : Box m (w.heap.size + 2) (.string t) (actW (.pointer (some ⟨m.D, 0, none⟩)) (box3 (.pointer (some ⟨m.D, 0, none⟩)) (.string n) (.string t) w)) := Box.act _ h hbb (by simp [box3, go_sem]) (by simp [box3]) (by omega)
    have htm := total_m hf
    cases ho : m.off
    · unfold appendS
      rw [if_neg (by rw [show m.abs.off = m.off from rfl, ho]; simp)]
      cases hnm : isNm n
      · rw [if_pos (show (!false) = true from rfl)]
        refine glue_ret hent hl ho ((appendC_name m n t _ _ _ _ x0 hnm (fun w => isName_no n w hnm hsn)).mono ?_)
        rintro e w' ⟨rfl, rfl⟩
        exact Step.same hla rfl (Below.refl _ _)
      · rw [if_neg (by simp)]
        have hfe : fullB m n t.size = sfull m.abs n t.size := by
          unfold fullB sfull
          rw [there_abs, total_abs]
          simp [MS.abs]
          rfl
        cases hfl : fullB m n t.size
        · rw [if_neg (by rw [← hfe, hfl]; simp)]
          unfold actS
          cases hout : m.abs.out
          · rw [if_neg (by simp)]
            cases ht : fthere m.l n
            · rw [if_neg (by rw [show m.abs.l = m.l.map FV.abs from rfl, ← there_abs, ht]; simp)]
              refine glue_ret hent hl ho ((appendC_new m n t _ _ _ _ hla (len_m hf) (rises_abs hf.rises n) htm.1 htm.2 hst x0 x1 x2 hnm hfl ht hf.left (may_m hout)).mono ?_)
              rintro e w' ⟨v, v', rfl, hl', hc'⟩
              refine ⟨{ m.pay with fv := v, l := m.l.take (fpos m.l n) ++ { newFV n with bv := v', body := t.data.toList } :: m.l.drop (fpos m.l n) }, rfl, ?_, rfl, hl', hc'⟩
              unfold sins
              rw [show m.abs.l = m.l.map FV.abs from rfl, ← pos_abs]
              simp [MS.abs, MS.pay, DS.pay, List.map_take, List.map_drop, newFV, FV.abs]
              rfl
            · rw [if_pos (by rw [show m.abs.l = m.l.map FV.abs from rfl, ← there_abs, ht])]
              obtain ⟨f, hff, hc0⟩ := there_at ht
              refine glue_ret hent hl ho ((appendC_old m n t _ _ _ _ hla (len_m hf) (rises_abs hf.rises n) htm.1 htm.2 hst x0 x1 x2 hnm hfl f hff hc0 hf.left (may_m hout)).mono ?_)
              rintro e w' ⟨v, rfl, hl', hc'⟩
              refine ⟨{ m.pay with l := m.l.set (fpos m.l n) { f with bv := v, body := f.body ++ t.data.toList } }, rfl, ?_, rfl, hl', hc'⟩
              unfold smod
              rw [show m.abs.l = m.l.map FV.abs from rfl, at_abs hff, ← pos_abs]
              simp [MS.abs, MS.pay, DS.pay, FV.abs, List.map_set]
              rfl
          · rw [if_pos rfl]
            obtain ⟨o1, o2⟩ := out_m hout
            exact glue_pow hent hl ho (hp.below hbb hp.lt) hg rfl (appendC_out m n t _ _ _ _ hla (len_m hf) (rises_abs hf.rises n) htm.1 htm.2 hst x0 x1 x2 hnm hfl a ((hp.below hbb hp.lt).below (Joins.below_alloc2 _ _ _) (by have := hp.lt; have := hbb.size; omega)) o1 o2)
        · rw [if_pos (by rw [← hfe, hfl])]
          refine glue_ret hent hl ho ((appendC_full m n t _ _ _ _ hla (len_m hf) (rises_abs hf.rises n) htm.1 htm.2 hst x0 x1 x2 hnm hfl).mono ?_)
          rintro e w' ⟨rfl, hb⟩
          exact Step.same hla rfl hb
    · exact glue_off hl ho (by unfold appendS; rw [if_pos (by exact ho)])
  have HA := Lib.hid hact
  have HBB := Lib.hid hbb
  clear hact hbb h hf hp hg
  go_enter Tryd.func15, Tryd.ntmps15
  go_wp2_with fail
  refine HA.out.mono ?_
  rintro e w1 ⟨m', rfl, hs⟩
  have HS := Lib.hid (Step.from (e := .returned (.int .i64 (appendS m.abs n t).1)) HBB.out ⟨m', rfl, hs⟩)
  clear hs
  go_wp2_with fail
  go_ret
  exact HS.out

set_option maxHeartbeats 2000000 in
set_option maxRecDepth 100000 in
theorem rename_nil (n t : ByteArray) (w : World) : Calls Tryd.prog 20 #[.pointer none, .string n, .string t] w fun e w' => e = .returned (.int .i64 12) ∧ Below w.heap.size w w' := by
  have hmf : ∀ (fn : Fn) (first cap : Array Value) (w : World), (Instr.makeFunc fn first cap).run Tryd.prog w = .ok (.func fn first cap) w := fun _ _ _ _ => rfl
  go_enter Tryd.func20, Tryd.ntmps20
  go_wp2_with fail
  refine (act_nil _ _).mono ?_
  rintro e w1 ⟨rfl, hb⟩
  have HB := Lib.hid ((below3 w _ _ _).trans (hb.mono (by simp; omega)))
  clear hb
  go_wp2_with fail
  go_ret
  exact ⟨rfl, HB.out⟩

theorem name_eq {f : FV} {n : ByteArray} (h : cmpF n f = 0) : f.name = n := by
  have := (Go.Proofs.YtopigchjdegpeaaDoor.cmp_zero _ _).1 h
  cases hn : f.name; cases n
  rw [hn] at this
  congr 1
  exact Array.toList_inj.1 this

set_option maxHeartbeats 2000000 in
set_option maxRecDepth 100000 in
theorem rename_any {B : Nat} (m : MS) (n t : ByteArray) (a : Addr) (w : World) (h : Lies B m w) (hf : Fit m.abs) (hp : Pow a w) (hg : 0 < B) (hst : t.size ≤ 9223372036854775807) :
    Calls Tryd.prog 20 #[.pointer (some ⟨m.D, 0, none⟩), .string n, .string t] w (Step B m (renameS m.abs n t) w) := by
  have hmf : ∀ (fn : Fn) (first cap : Array Value) (w : World), (Instr.makeFunc fn first cap).run Tryd.prog w = .ok (.func fn first cap) w := fun _ _ _ _ => rfl
  have hbb := below3 w (.pointer (some ⟨m.D, 0, none⟩)) (.string n) (.string t)
  have hact : Calls Tryd.prog 31 #[.pointer (some ⟨m.D, 0, none⟩), .func (.func 39) #[] #[.pointer (some ⟨w.heap.size, 0, none⟩), .pointer (some ⟨w.heap.size + 1, 0, none⟩), .pointer (some ⟨w.heap.size + 2, 0, none⟩)]] (box3 (.pointer (some ⟨m.D, 0, none⟩)) (.string n) (.string t) w) (Step B m (renameS m.abs n t) (box3 (.pointer (some ⟨m.D, 0, none⟩)) (.string n) (.string t) w)) := by
    have hl := h.below hbb
    have hla := hl.below (Joins.below_alloc2 _ (.cells #[.pointer (some ⟨m.D, 0, none⟩)] 24) (.cells #[.int .i64 0] 25))
    have hent := enters_f Tryd.func39 (by kernel_rfl) rfl #[.pointer (some ⟨w.heap.size, 0, none⟩), .pointer (some ⟨w.heap.size + 1, 0, none⟩), .pointer (some ⟨w.heap.size + 2, 0, none⟩)]
    have x1 : Box m (w.heap.size + 1) (.string n) (actW (.pointer (some ⟨m.D, 0, none⟩)) (box3 (.pointer (some ⟨m.D, 0, none⟩)) (.string n) (.string t) w)) := Box.act _ h hbb (by simp [box3, go_sem]) (by simp [box3]) (by omega)
    have x0 : Box m w.heap.size (.pointer (some ⟨m.D, 0, none⟩)) (actW (.pointer (some ⟨m.D, 0, none⟩)) (box3 (.pointer (some ⟨m.D, 0, none⟩)) (.string n) (.string t) w)) := Box.act _ h hbb (by simp [box3, go_sem]) (by simp [box3]; omega) (Nat.le_refl _)
    have x2 : Box m (w.heap.size + 2) (.string t) (actW (.pointer (some ⟨m.D, 0, none⟩)) (box3 (.pointer (some ⟨m.D, 0, none⟩)) (.string n) (.string t) w)) := Box.act _ h hbb (by simp [box3, go_sem]) (by simp [box3]) (by omega)
    cases ho : m.off
    · unfold renameS
      rw [if_neg (by rw [show m.abs.off = m.off from rfl, ho]; simp)]
      cases ht : fthere m.l n
      · rw [if_pos (by rw [show m.abs.l = m.l.map FV.abs from rfl, ← there_abs, ht]; rfl)]
        refine glue_ret hent hl ho ((renameC_none m n t _ _ _ _ hla (len_m hf) (rises_abs hf.rises n) x0 x1 x2 ht).mono ?_)
        rintro e w' ⟨rfl, hb⟩
        exact Step.same hla rfl hb
      · rw [if_neg (by rw [show m.abs.l = m.l.map FV.abs from rfl, ← there_abs, ht]; simp)]
        obtain ⟨f, hff, hc0⟩ := there_at ht
        cases hnm : isNm t
        · rw [if_pos (show (!false) = true from rfl)]
          refine glue_ret hent hl ho ((renameC_name m n t _ _ _ _ hla (len_m hf) (rises_abs hf.rises n) x0 x1 x2 ht hnm (fun w => isName_no t w hnm hst)).mono ?_)
          rintro e w' ⟨rfl, hb⟩
          exact Step.same hla rfl hb
        · rw [if_neg (by simp)]
          unfold actS
          cases hout : m.abs.out
          · rw [if_neg (by simp)]
            have hmap : (m.l.take (fpos m.l n) ++ m.l.drop (fpos m.l n + 1)).map FV.abs = sdel (m.l.map FV.abs) (spos (m.l.map FV.abs) n) := by
              rw [← pos_abs]; unfold sdel; simp [List.map_take, List.map_drop]
            have hrt : Rises (m.l.take (fpos m.l n) ++ m.l.drop (fpos m.l n + 1)) t := rises_abs (by rw [hmap]; exact List.Pairwise.sublist (sdel_sub _ _) hf.rises) t
            cases htk : fthere (m.l.take (fpos m.l n) ++ m.l.drop (fpos m.l n + 1)) t
            · refine glue_ret hent hl ho ((renameC_free m n t _ _ _ _ hla (len_m hf) (rises_abs hf.rises n) x0 x1 x2 hrt f hff hc0 hnm hf.left (may_m hout) htk).mono ?_)
              rintro e w' ⟨v, rfl, hl', hc'⟩
              refine ⟨{ m.pay with fv := v, l := (m.l.take (fpos m.l n) ++ m.l.drop (fpos m.l n + 1)).take (fpos (m.l.take (fpos m.l n) ++ m.l.drop (fpos m.l n + 1)) t) ++ { f with name := t } :: (m.l.take (fpos m.l n) ++ m.l.drop (fpos m.l n + 1)).drop (fpos (m.l.take (fpos m.l n) ++ m.l.drop (fpos m.l n + 1)) t) }, rfl, ?_, rfl, hl', hc'⟩
              unfold sren
              rw [show m.abs.l = m.l.map FV.abs from rfl, at_abs hff]
              simp only
              unfold slay
              rw [← hmap, ← there_abs, htk, if_neg (by simp), ← pos_abs]
              unfold sins
              simp [MS.abs, MS.pay, DS.pay, List.map_take, List.map_drop, FV.abs]
              rfl
            · refine glue_ret hent hl ho ((renameC_taken m n t _ _ _ _ hla (len_m hf) (rises_abs hf.rises n) x0 x1 x2 hrt f hff hc0 hnm hf.left (may_m hout) htk).mono ?_)
              rintro e w' ⟨v, rfl, hl', hc'⟩
              refine ⟨{ m.drop (fpos m.l n) v with l := (m.drop (fpos m.l n) v).l.set (fpos (m.drop (fpos m.l n) v).l t) { f with name := t } }, rfl, ?_, rfl, hl', hc'⟩
              unfold sren
              rw [show m.abs.l = m.l.map FV.abs from rfl, at_abs hff]
              simp only
              unfold slay
              rw [← hmap, ← there_abs, htk, if_pos rfl, ← pos_abs]
              simp [MS.abs, MS.drop, MS.pay, DS.pay, FV.abs, List.map_set]
              rfl
          · rw [if_pos rfl]
            obtain ⟨o1, o2⟩ := out_m hout
            exact glue_pow hent hl ho (hp.below hbb hp.lt) hg rfl (renameC_out m n t _ _ _ _ hla (len_m hf) (rises_abs hf.rises n) x0 x1 x2 ht hnm a ((hp.below hbb hp.lt).below (Joins.below_alloc2 _ _ _) (by have := hp.lt; have := hbb.size; omega)) o1 o2)
    · exact glue_off hl ho (by unfold renameS; rw [if_pos (by exact ho)])
  have HA := Lib.hid hact
  have HBB := Lib.hid hbb
  clear hact hbb h hf hp hg
  go_enter Tryd.func20, Tryd.ntmps20
  go_wp2_with fail
  refine HA.out.mono ?_
  rintro e w1 ⟨m', rfl, hs⟩
  have HS := Lib.hid (Step.from (e := .returned (.int .i64 (renameS m.abs n t).1)) HBB.out ⟨m', rfl, hs⟩)
  clear hs
  go_wp2_with fail
  go_ret
  exact HS.out
end Go.Proofs.YtopigchjdegpeaaDoor
