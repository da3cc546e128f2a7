/-
  Plain facts: Open, of a disk with one file of the log, with none, with any.
  Plain facts: what Open makes of a log's files, once and twice.
  Plain facts: the disks that almonrylaw08.awake goes through.
  Plain facts: the disk that SeglogAny lays.
-/
import Derived.Test.YtbhcmmglmkgjnaaGreatDoorGSegD
namespace Go.Proofs.YtbhcmmglmkgjnaaGreatDoor
open Go.Lib Go.RowKit

theorem cmp_gn {a : Nat} (ha : a < 12) (b : List UInt8) (k : Nat) : cmpS newB ⟨genB a, b, k⟩ = -1 := gen_new ⟨a, ha⟩
theorem cmp_nn (b : List UInt8) (k : Nat) : cmpS newB ⟨newB, b, k⟩ = 0 := new_new
theorem cmp_gg {a c : Nat} (ha : a < 12) (hc : c < 12) (b : List UInt8) (k : Nat) : cmpS (genB c) ⟨genB a, b, k⟩ = sgn a c := gen_cmp ⟨a, ha⟩ ⟨c, hc⟩
theorem sgn_lt (a : Nat) : sgn a (a + 1) = -1 := by unfold sgn; rw [if_pos (by omega)]
theorem sgn_eq (a : Nat) : sgn a a = 0 := by unfold sgn; rw [if_neg (by omega), if_pos rfl]

def withL (s : DS) (l : List FS) : DS := { s with l := l }
theorem withL_calm {s : DS} (c : Calm s) (l : List FS) : Calm (withL s l) := ⟨c.off, c.fused⟩
theorem act_calm {s : DS} (c : Calm s) (l : List FS) : actS s l = (0, withL s l) := c.act l

theorem drop_no {s s' : DS} {n : ByteArray} (h : removeS s n = (7, s')) : dropS s n = (0, s') := by unfold dropS; rw [h, if_pos rfl]
theorem drop_yes {s s' : DS} {n : ByteArray} (h : removeS s n = (0, s')) : dropS s n = (0, s') := by unfold dropS; rw [h, if_neg (show ¬ ((0 : Int) = 7) by decide)]

/-- a body is made a file -/
theorem lay_one {s : DS} (c : Calm s) {g : Nat} (hg : g + 1 < 12) (b : List UInt8) (k : Nat) (hl : s.l = [⟨genB g, b, k⟩]) (body : ByteArray) (hr : b.length + body.size ≤ s.room) (hroom : s.room ≤ 65536) :
    LayS s body (genB (g + 1)) (withL s [⟨genB g, b, k⟩, ⟨genB (g + 1), body.data.toList, body.data.toList.length⟩]) ∧
    (1 ≤ g → AheadS g (withL s [⟨genB g, b, k⟩, ⟨genB (g + 1), body.data.toList, body.data.toList.length⟩]) (withL s [⟨genB (g + 1), body.data.toList, body.data.toList.length⟩])) := by
  have e1 := cmp_gn (show g < 12 by omega) b k
  have e2 := fun b k => cmp_nn b k
  have e3 := cmp_gg (show g < 12 by omega) hg b k
  rw [sgn_lt] at e3
  have p1 : spos [⟨genB g, b, k⟩] newB = 1 := by simp [spos, List.findIdx_cons, e1]
  have t1 : sthere [⟨genB g, b, k⟩] newB = false := by unfold sthere; rw [p1]; rfl
  have p2 : ∀ b2 k2, spos [⟨genB g, b, k⟩, ⟨newB, b2, k2⟩] newB = 1 := fun b2 k2 => by simp [spos, List.findIdx_cons, e1, e2]
  have t2 : ∀ b2 k2, sthere [⟨genB g, b, k⟩, ⟨newB, b2, k2⟩] newB = true := fun b2 k2 => by unfold sthere; rw [p2]; simp [e2]
  have p3 : spos [⟨genB g, b, k⟩] (genB (g + 1)) = 1 := by simp [spos, List.findIdx_cons, e3]
  have t3 : sthere [⟨genB g, b, k⟩] (genB (g + 1)) = false := by unfold sthere; rw [p3]; rfl
  have hn := new_nm
  have hgn := gen_nm ⟨g + 1, hg⟩
  simp only at hgn
  refine ⟨⟨s, withL s [⟨genB g, b, k⟩, ⟨newB, body.data.toList, 0⟩], withL s [⟨genB g, b, k⟩, ⟨newB, body.data.toList, body.data.toList.length⟩], ?_, ?_, ?_, ?_⟩, fun hg1 => ?_⟩
  · refine drop_no ?_
    unfold removeS
    rw [hl, t1, if_neg (by rw [c.off]; simp)]
    rfl
  · unfold appendS
    rw [if_neg (by rw [c.off]; simp), if_neg (by rw [hn]; simp), hl, t1, p1]
    rw [if_neg (by
      unfold sfull
      rw [hl, t1]
      simp only [stotal, List.map_cons, List.map_nil, List.sum_cons, List.sum_nil, List.length_cons, List.length_nil, Bool.or_eq_true, decide_eq_true_eq, Bool.not_false, Bool.true_and, beq_iff_eq]
      omega)]
    rw [if_neg (by simp), act_calm c]
    rfl
  · unfold syncS
    have ho : (withL s [⟨genB g, b, k⟩, ⟨newB, body.data.toList, 0⟩]).l = [⟨genB g, b, k⟩, ⟨newB, body.data.toList, 0⟩] := rfl
    rw [if_neg (by rw [(withL_calm c _).off]; simp), ho, t2, p2, act_calm (withL_calm c _)]
    rfl
  · unfold renameS
    have ho : (withL s [⟨genB g, b, k⟩, ⟨newB, body.data.toList, body.data.toList.length⟩]).l = [⟨genB g, b, k⟩, ⟨newB, body.data.toList, body.data.toList.length⟩] := rfl
    rw [if_neg (by rw [(withL_calm c _).off]; simp), ho, t2, hgn, act_calm (withL_calm c _)]
    unfold sren
    rw [p2]
    simp only [List.getElem?_cons_succ, List.getElem?_cons_zero, Bool.not_true, Bool.false_eq_true, if_false]
    have hd : sdel [⟨genB g, b, k⟩, ⟨newB, body.data.toList, body.data.toList.length⟩] 1 = [⟨genB g, b, k⟩] := rfl
    rw [hd]
    unfold slay
    simp only
    rw [t3, p3]
    rfl
  · right
    refine ⟨hg1, ?_⟩
    have e4 := cmp_gg (show g < 12 by omega) (show g < 12 by omega) b k
    rw [sgn_eq] at e4
    have p4 : ∀ x, spos [⟨genB g, b, k⟩, x] (genB g) = 0 := fun x => by simp [spos, List.findIdx_cons, e4]
    have t4 : ∀ x, sthere [⟨genB g, b, k⟩, x] (genB g) = true := fun x => by unfold sthere; rw [p4]; simp [e4]
    refine drop_yes ?_
    unfold removeS
    have ho : (withL s [⟨genB g, b, k⟩, ⟨genB (g + 1), body.data.toList, body.data.toList.length⟩]).l = [⟨genB g, b, k⟩, ⟨genB (g + 1), body.data.toList, body.data.toList.length⟩] := rfl
    rw [if_neg (by rw [(withL_calm c _).off]; simp), ho, t4, p4, act_calm (withL_calm c _)]
    rfl

theorem lay_none {s : DS} (c : Calm s) (hl : s.l = []) (body : ByteArray) (hr : body.size ≤ s.room) :
    LayS s body (genB 1) (withL s [⟨genB 1, body.data.toList, body.data.toList.length⟩]) := by
  have e2 := fun b k => cmp_nn b k
  have p1 : spos [] newB = 0 := rfl
  have t1 : sthere [] newB = false := rfl
  have p2 : ∀ b2 k2, spos [⟨newB, b2, k2⟩] newB = 0 := fun b2 k2 => by simp [spos, List.findIdx_cons, e2]
  have t2 : ∀ b2 k2, sthere [⟨newB, b2, k2⟩] newB = true := fun b2 k2 => by unfold sthere; rw [p2]; simp [e2]
  have hn := new_nm
  have hgn : isNm (genB 1) = true := gen_nm ⟨1, by omega⟩
  refine ⟨s, withL s [⟨newB, body.data.toList, 0⟩], withL s [⟨newB, body.data.toList, body.data.toList.length⟩], ?_, ?_, ?_, ?_⟩
  · refine drop_no ?_
    unfold removeS
    rw [hl, t1, if_neg (by rw [c.off]; simp)]
    rfl
  · unfold appendS
    rw [if_neg (by rw [c.off]; simp), if_neg (by rw [hn]; simp), hl, t1, p1]
    rw [if_neg (by
      unfold sfull
      rw [hl, t1]
      simp only [stotal, List.map_nil, List.sum_nil, List.length_nil, Bool.or_eq_true, decide_eq_true_eq, Bool.not_false, Bool.true_and, beq_iff_eq]
      omega)]
    rw [if_neg (by simp), act_calm c]
    rfl
  · unfold syncS
    have ho : (withL s [⟨newB, body.data.toList, 0⟩]).l = [⟨newB, body.data.toList, 0⟩] := rfl
    rw [if_neg (by rw [(withL_calm c _).off]; simp), ho, t2, p2, act_calm (withL_calm c _)]
    rfl
  · unfold renameS
    have ho : (withL s [⟨newB, body.data.toList, body.data.toList.length⟩]).l = [⟨newB, body.data.toList, body.data.toList.length⟩] := rfl
    rw [if_neg (by rw [(withL_calm c _).off]; simp), ho, t2, hgn, act_calm (withL_calm c _)]
    unfold sren
    rw [p2]
    rfl
end Go.Proofs.YtbhcmmglmkgjnaaGreatDoor

namespace Go.Proofs.YtbhcmmglmkgjnaaGreatDoor
open Go.Lib Go.RowKit

theorem ext_take (s : ByteArray) (n : Nat) : (s.extract 0 n).data.toList = s.data.toList.take n := by rw [Lib.extract_data]; simp

/-- what was read stands at the beginning -/
theorem fall_form : ∀ (k : Nat) (s : ByteArray), (s.data.toList.take (fall k s).2 = encRecs (fall k s).1) ∧ (fall k s).2 ≤ s.size ∧ (∀ t ∈ (fall k s).1, t.size ≤ 65536) ∧ (fall k s).1.length ≤ (fall k s).2
  | 0, s => ⟨by simp [fall, encRecs], Nat.zero_le _, by simp [fall], by simp [fall]⟩
  | k + 1, s => by
    by_cases h : (frd s).2.2 = 0
    · rw [fall_ok h]
      obtain ⟨rr, hr, hn, hs⟩ := frd_form h
      have h4 := frd_small h
      obtain ⟨i1, i2, i3, i4⟩ := fall_form k (s.extract (frd s).2.1 s.size)
      rw [ext_size] at i2
      rw [ext_to] at i1
      refine ⟨?_, by simp only; omega, ?_, by simp only [List.length_cons]; omega⟩
      · simp only
        rw [encRecs_cons, ← i1]
        have e1 : s.data.toList.take (frd s).2.1 = recF (frd s).1 := by rw [hr, hn]; exact List.take_left
        rw [← e1, List.take_add]
      · intro t ht
        rcases List.mem_cons.1 ht with rfl | ht
        · exact hs
        · exact i3 t ht
    · rw [fall_err h]
      exact ⟨by simp [encRecs], Nat.zero_le _, by simp, by simp⟩

/-- what stands ahead of the end of the whole records reads as all did -/
theorem fall_again (s : ByteArray) : fallS (s.extract 0 (fallS s).2) = fallS s := by
  obtain ⟨h1, h2, h3, h4⟩ := fall_form (s.size + 1) s
  have e : fallS s = fall (s.size + 1) s := rfl
  rw [e]
  generalize fall (s.size + 1) s = p at *
  have hl := congrArg List.length h1
  rw [List.length_take, ba_len] at hl
  have hx : (s.extract 0 p.2).data.toList = encRecs p.1 := by rw [ext_take, h1]
  have hxs : (s.extract 0 p.2).size = p.2 := by rw [ByteArray.size_extract]; omega
  have := fall_recs p.1 p.1.length ((s.extract 0 p.2).size + 1) (s.extract 0 p.2) h3 (Nat.le_refl _) (by rw [List.take_length, hxs]; omega) (fun h => absurd h (by omega)) ⟨[], by rw [hx]; simp⟩ (by rw [hxs]; omega)
  unfold fallS
  rw [this, List.take_length]
  exact Prod.ext rfl (by simp only; omega)

theorem fit_one {s : DS} (h : Fit s) (n : ByteArray) (b : List UInt8) (hb : b.length ≤ s.room) : Fit (withL s [⟨n, b, b.length⟩]) :=
  ⟨h.room, by simp [withL], by simp [withL, stotal]; exact hb, by simp [withL], by simp [withL], h.left⟩

theorem ba_list (s : ByteArray) : (⟨s.data.toList.toArray⟩ : ByteArray) = s := by cases s; simp

/-- a disk with one file, whose first record is whole -/
theorem one_open {s : DS} (h : Fit s) (c : Calm s) {G : Nat} (hG1 : 1 ≤ G) (hG : G < 11) {f : FS} (hl : s.l = [f]) (hn : f.name = genB G) (hw : (frd ⟨f.body.toArray⟩).2.2 = 0) :
    listD s dashB = [genB G] ∧ ([genB G].filter (wholeS s)).getLast? = some (genB G) ∧ eachS s (([genB G].filter fun n => decide (n ≠ genB G)) ++ [newB]) = (0, s) ∧ readD s (genB G) = (⟨f.body.toArray⟩, 0) := by
  have hg : Gens 10 s := fun x hx => ⟨G, hG1, by omega, by rw [hl] at hx; simp at hx; rw [hx, hn]⟩
  have hf : f ∈ s.l := by rw [hl]; simp
  have hls := list_gens c hg (by omega)
  have hr := read_there h c hf
  rw [hn] at hr
  obtain ⟨G', f', h1, h2, h3, h4, h5, h6, h7, h8⟩ := choose_plain h c hg (by omega) hf hw
  rw [hl] at h3
  simp at h3
  subst h3
  have hgg : G' = G := gen_inj (by omega) (by omega) (by rw [← h4, hn])
  subst hgg
  have hm : s.l.map (·.name) = [genB G'] := by rw [hl]; simp [hn]
  rw [hm] at hls h6 h7
  refine ⟨hls, h6, ?_, hr⟩
  rw [h7, ← hl]

/-- a whole log opens as it is -/
theorem open_whole {s : DS} (h : Fit s) (c : Calm s) (hroom : s.room ≤ 65536) {G : Nat} (hG1 : 1 ≤ G) (hG : G < 11) {f : FS} (hl : s.l = [f]) (hn : f.name = genB G) {t0 : ByteArray} {r : List ByteArray} (hf : fallS ⟨f.body.toArray⟩ = (t0 :: r, f.body.length)) :
    OpenS s G t0 r s := by
  have hw : (frd ⟨f.body.toArray⟩).2.2 = 0 := by
    by_cases hw : (frd ⟨f.body.toArray⟩).2.2 = 0
    · exact hw
    · unfold fallS at hf; rw [fall_err hw] at hf; cases hf
  obtain ⟨h1, h2, h3, h4⟩ := one_open h c hG1 hG hl hn hw
  have htot := h.total
  rw [hl] at htot
  simp [stotal] at htot
  have hsz : (⟨f.body.toArray⟩ : ByteArray).size = f.body.length := rfl
  refine ⟨[genB G], s, G, h1, by simp, ?_, by omega, .inr ⟨h2, hG1⟩, h3, .inr ⟨hG1, ⟨f.body.toArray⟩, f.body.length, h4, by omega, hf, .inl ⟨rfl, rfl, rfl⟩⟩⟩
  intro n hn'
  simp at hn'
  exact ⟨G, hG1, by omega, hn'⟩

/-- a log with bytes behind its whole records opens as they are, and they get a file of their own -/
theorem open_torn {s : DS} (h : Fit s) (c : Calm s) (hroom : s.room ≤ 65536) {G : Nat} (hG1 : 1 ≤ G) (hG : G < 10) {f : FS} (hl : s.l = [f]) (hn : f.name = genB G) {t0 : ByteArray} {r : List ByteArray} {n : Nat} (hf : fallS ⟨f.body.toArray⟩ = (t0 :: r, n)) (hlt : n < f.body.length)
    (hfits : f.body.length + n ≤ s.room) :
    OpenS s (G + 1) t0 r (withL s [⟨genB (G + 1), f.body.take n, n⟩]) := by
  have hw : (frd ⟨f.body.toArray⟩).2.2 = 0 := by
    by_cases hw : (frd ⟨f.body.toArray⟩).2.2 = 0
    · exact hw
    · unfold fallS at hf; rw [fall_err hw] at hf; cases hf
  obtain ⟨h1, h2, h3, h4⟩ := one_open h c hG1 (by omega) hl hn hw
  have htot := h.total
  rw [hl] at htot
  simp [stotal] at htot
  have hsz : (⟨f.body.toArray⟩ : ByteArray).size = f.body.length := rfl
  have hxs : ((⟨f.body.toArray⟩ : ByteArray).extract 0 n).size = n := by rw [ByteArray.size_extract]; omega
  have hxl : ((⟨f.body.toArray⟩ : ByteArray).extract 0 n).data.toList = f.body.take n := ext_take _ _
  have hxn : (f.body.take n).length = n := by rw [List.length_take]; omega
  have hly := lay_one c (g := G) (by omega) f.body f.sure (by rw [hl, ← hn]) ((⟨f.body.toArray⟩ : ByteArray).extract 0 n) (by rw [hxs]; exact hfits) hroom
  rw [hxl, hxn] at hly
  refine ⟨[genB G], s, G, h1, by simp, ?_, by omega, .inr ⟨h2, hG1⟩, h3, .inr ⟨hG1, ⟨f.body.toArray⟩, n, h4, by omega, hf, .inr ⟨by omega, rfl, _, hly.1, hly.2 hG1⟩⟩⟩
  intro n hn'
  simp at hn'
  exact ⟨G, hG1, by omega, hn'⟩

/-- a disk without files -/
theorem open_none {s : DS} (c : Calm s) (hl : s.l = []) (hroom : 100 ≤ s.room) (hrec : (recB ⟨#[]⟩).size ≤ 100) :
    OpenS s 1 ⟨#[]⟩ [] (withL s [⟨genB 1, recF ⟨#[]⟩, (recF ⟨#[]⟩).length⟩]) := by
  have hls : listD s dashB = [] := by unfold listD; rw [if_neg (by rw [c.off]; simp), hl]; rfl
  have hd : dropS s newB = (0, s) := by
    refine drop_no ?_
    unfold removeS
    rw [hl, if_neg (by rw [c.off]; simp)]
    rfl
  have he : eachS s ([] ++ [newB]) = (0, s) := by
    show eachS s [newB] = (0, s)
    unfold eachS
    rw [hd, if_pos rfl]
    rfl
  exact ⟨[], s, 0, hls, by simp, fun n hn => by simp at hn, by omega, .inl ⟨rfl, rfl⟩, he, .inl ⟨rfl, rfl, rfl, rfl, lay_none c hl (recB ⟨#[]⟩) (by omega)⟩⟩

/-- whatever the files hold, if one begins with a whole record: Open, and once more, tell the same -/
theorem open_twice {s : DS} (h : Fit s) (c : Calm s) (hg : Gens 9 s) (hroom : s.room = 65536) (htot : stotal s.l ≤ 30000) {f0 : FS} (hf0 : f0 ∈ s.l) (hw0 : (frd ⟨f0.body.toArray⟩).2.2 = 0) :
    ∃ G t0 r s5, OpenS s G t0 r s5 ∧ OpenS s5 G t0 r s5 ∧ s5.off = false ∧ s5.room = 65536 ∧ r.length ≤ 65536 := by
  obtain ⟨G, f, h1, h2, h3, h4, hw, h6, h7, h8⟩ := choose_plain h c hg (by omega) hf0 hw0
  have hls := list_gens c hg (by omega)
  have hc1 : Calm { s with l := [f] } := ⟨c.off, c.fused⟩
  obtain ⟨q1, q2, q3, hr⟩ := one_open h8 hc1 h1 (by omega) rfl h4 hw
  have hlen : f.body.length ≤ 30000 := by
    obtain ⟨k, hk⟩ := List.mem_iff_getElem?.1 h3
    have := stotal_split hk
    omega
  have hsz : (⟨f.body.toArray⟩ : ByteArray).size = f.body.length := rfl
  obtain ⟨t0, r, n, hf⟩ : ∃ t0 r n, fallS ⟨f.body.toArray⟩ = (t0 :: r, n) := ⟨_, _, _, by unfold fallS; rw [fall_ok hw]⟩
  have hff := fall_form ((⟨f.body.toArray⟩ : ByteArray).size + 1) ⟨f.body.toArray⟩
  rw [show fall ((⟨f.body.toArray⟩ : ByteArray).size + 1) ⟨f.body.toArray⟩ = (t0 :: r, n) from hf] at hff
  obtain ⟨i1, i2, i3, i4⟩ := hff
  simp only [List.length_cons] at i1 i2 i4
  have hag := fall_again ⟨f.body.toArray⟩
  rw [hf] at hag
  simp only at hag
  have hnames : ∀ n ∈ s.l.map (·.name), ∃ g, 1 ≤ g ∧ g < 12 ∧ n = genB g := by
    intro n hn
    obtain ⟨x, hx, rfl⟩ := List.mem_map.1 hn
    obtain ⟨g, g1, g2, g3⟩ := hg x hx
    exact ⟨g, g1, by omega, g3⟩
  have hnl : (s.l.map (·.name)).length ≤ 2000 := by have := h.len; simp; omega
  by_cases hnz : n = f.body.length
  · subst hnz
    exact ⟨G, t0, r, { s with l := [f] }, ⟨_, _, G, hls, hnl, hnames, by omega, .inr ⟨h6, h1⟩, h7, .inr ⟨h1, _, _, hr, by omega, hf, .inl ⟨rfl, rfl, rfl⟩⟩⟩,
      open_whole h8 hc1 (by show s.room ≤ 65536; omega) h1 (by omega) rfl h4 hf, c.off, hroom, by omega⟩
  · have hlt : n < f.body.length := by omega
    have hxs : ((⟨f.body.toArray⟩ : ByteArray).extract 0 n).size = n := by rw [ByteArray.size_extract]; omega
    have hxl : ((⟨f.body.toArray⟩ : ByteArray).extract 0 n).data.toList = f.body.take n := ext_take _ _
    have hxn : (f.body.take n).length = n := by rw [List.length_take]; omega
    have hly := lay_one hc1 (g := G) (by omega) f.body f.sure (by rw [← h4]) ((⟨f.body.toArray⟩ : ByteArray).extract 0 n) (by rw [hxs]; show f.body.length + n ≤ s.room; omega) (by show s.room ≤ 65536; omega)
    rw [hxl, hxn] at hly
    have hfit := fit_one (s := { s with l := [f] }) h8 (genB (G + 1)) (f.body.take n) (by rw [hxn]; show n ≤ s.room; omega)
    rw [hxn] at hfit
    have hba : (⟨(f.body.take n).toArray⟩ : ByteArray) = (⟨f.body.toArray⟩ : ByteArray).extract 0 n := ba_eq (by rw [hxl])
    exact ⟨G + 1, t0, r, _, ⟨_, _, G, hls, hnl, hnames, by omega, .inr ⟨h6, h1⟩, h7, .inr ⟨h1, _, _, hr, by omega, hf, .inr ⟨by omega, rfl, _, hly.1, hly.2 h1⟩⟩⟩,
      open_whole hfit (withL_calm hc1 _) (by show s.room ≤ 65536; omega) (by omega) (by omega) rfl rfl (by show fallS ⟨(f.body.take n).toArray⟩ = (t0 :: r, (f.body.take n).length); rw [hba, hag, hxn]), c.off, hroom, by omega⟩
end Go.Proofs.YtbhcmmglmkgjnaaGreatDoor

namespace Go.Proofs.YtbhcmmglmkgjnaaGreatDoor
open Go.Lib Go.RowKit

def r0 : List UInt8 := [0, 81, 83, 125, 82]
def rA : List UInt8 := [1, 97, 196, 255, 110, 113]
def rB : List UInt8 := [1, 98, 48, 12, 62, 98]
def rX : List UInt8 := [4, 98, 97, 115, 101, 187, 178, 58, 58]
def rC : List UInt8 := [1, 99, 51, 143, 85, 144]
def baseB : ByteArray := ⟨#[98, 97, 115, 101]⟩

theorem rec0 : recB ⟨#[]⟩ = ⟨r0.toArray⟩ := by
  have h : encT ⟨#[]⟩ = [0] := by unfold encT; rw [show (ByteArray.mk #[]).size = 0 from rfl, Lib.uvarint_small (by omega)]; rfl
  unfold recB recF; rw [h]; decide +kernel
theorem recA : recB ⟨#[97]⟩ = ⟨rA.toArray⟩ := by
  have h : encT ⟨#[97]⟩ = [1, 97] := by unfold encT; rw [show (ByteArray.mk #[97]).size = 1 from rfl, Lib.uvarint_small (by omega)]; rfl
  unfold recB recF; rw [h]; decide +kernel
theorem recBB : recB ⟨#[98]⟩ = ⟨rB.toArray⟩ := by
  have h : encT ⟨#[98]⟩ = [1, 98] := by unfold encT; rw [show (ByteArray.mk #[98]).size = 1 from rfl, Lib.uvarint_small (by omega)]; rfl
  unfold recB recF; rw [h]; decide +kernel
theorem recX : recB baseB = ⟨rX.toArray⟩ := by
  have h : encT baseB = [4, 98, 97, 115, 101] := by unfold encT; rw [show baseB.size = 4 from rfl, Lib.uvarint_small (by omega)]; rfl
  unfold recB recF; rw [h]; decide +kernel
theorem recC : recB ⟨#[99]⟩ = ⟨rC.toArray⟩ := by
  have h : encT ⟨#[99]⟩ = [1, 99] := by unfold encT; rw [show (ByteArray.mk #[99]).size = 1 from rfl, Lib.uvarint_small (by omega)]; rfl
  unfold recB recF; rw [h]; decide +kernel

/-- a disk with one file -/
def sG (g : Nat) (b : List UInt8) (k : Nat) : DS := ⟨1000, [⟨genB g, b, k⟩], false, false, 0⟩
theorem calm_sG (g : Nat) (b : List UInt8) (k : Nat) : Calm (sG g b k) := ⟨rfl, rfl⟩
theorem fit_sG (g : Nat) (b : List UInt8) (k : Nat) (hb : b.length ≤ 1000) (hk : k ≤ b.length) : Fit (sG g b k) :=
  ⟨by simp [sG], by simp [sG], by simp [sG, stotal]; exact hb, by simp [sG], by simp [sG]; exact hk, by simp [sG]⟩

theorem aw1 : OpenS (newS 1000) 1 ⟨#[]⟩ [] (sG 1 r0 5) := by
  have h := open_none (s := newS 1000) ⟨rfl, rfl⟩ rfl (by decide) (by rw [rec0]; decide)
  have e : recF ⟨#[]⟩ = r0 := congrArg (fun x => x.data.toList) rec0
  rw [e] at h
  exact h
theorem aw2 : appendS (sG 1 r0 5) (genB 1) (recB ⟨#[97]⟩) = (0, sG 1 (r0 ++ rA) 5) := by rw [recA]; decide +kernel
theorem aw3 : syncS (sG 1 (r0 ++ rA) 5) (genB 1) = (0, sG 1 (r0 ++ rA) 11) := by decide +kernel
theorem aw4 : appendS (sG 1 (r0 ++ rA) 11) (genB 1) (recB ⟨#[98]⟩) = (0, sG 1 (r0 ++ rA ++ rB) 11) := by rw [recBB]; decide +kernel
theorem aw5 : syncS (sG 1 (r0 ++ rA ++ rB) 11) (genB 1) = (0, sG 1 (r0 ++ rA ++ rB) 17) := by decide +kernel
theorem aw6 : appendS (sG 1 (r0 ++ rA ++ rB) 17) ⟨#[108, 111, 103, 45, 48, 48, 48, 48, 48, 48, 48, 49]⟩ ⟨#[120]⟩ = (0, sG 1 (r0 ++ rA ++ rB ++ [120]) 17) := by decide +kernel
theorem aw7f : fallS ⟨(r0 ++ rA ++ rB ++ [120]).toArray⟩ = ([⟨#[]⟩, ⟨#[97]⟩, ⟨#[98]⟩], 17) := by decide +kernel
theorem aw7 : OpenS (sG 1 (r0 ++ rA ++ rB ++ [120]) 17) 2 ⟨#[]⟩ [⟨#[97]⟩, ⟨#[98]⟩] (sG 2 (r0 ++ rA ++ rB) 17) :=
  open_torn (s := sG 1 (r0 ++ rA ++ rB ++ [120]) 17) (fit_sG _ _ _ (by decide) (by decide)) (calm_sG _ _ _) (by decide) (by omega) (by omega) rfl rfl aw7f (by decide) (by decide)
theorem aw8 : ∃ s4, LayS (sG 2 (r0 ++ rA ++ rB) 17) (recB baseB) (genB 3) s4 ∧ AheadS 2 s4 (sG 3 rX 9) := by
  have h := lay_one (calm_sG 2 (r0 ++ rA ++ rB) 17) (g := 2) (by omega) (r0 ++ rA ++ rB) 17 rfl (recB baseB) (by rw [recX]; decide) (by decide)
  refine ⟨_, h.1, ?_⟩
  have h2 := h.2 (by omega)
  have e : (recB baseB).data.toList = rX := congrArg (fun x => x.data.toList) recX
  rw [e] at h2
  rw [e]
  exact h2
theorem aw9 : appendS (sG 3 rX 9) (genB 3) (recB ⟨#[99]⟩) = (0, sG 3 (rX ++ rC) 9) := by rw [recC]; decide +kernel
theorem aw10 : syncS (sG 3 (rX ++ rC) 9) (genB 3) = (0, sG 3 (rX ++ rC) 15) := by decide +kernel
theorem aw11f : fallS ⟨(rX ++ rC).toArray⟩ = ([baseB, ⟨#[99]⟩], 15) := by decide +kernel
theorem aw11 : OpenS (sG 3 (rX ++ rC) 15) 3 baseB [⟨#[99]⟩] (sG 3 (rX ++ rC) 15) :=
  open_whole (s := sG 3 (rX ++ rC) 15) (fit_sG _ _ _ (by decide) (by decide)) (calm_sG _ _ _) (by decide) (by omega) (by omega) rfl rfl aw11f
end Go.Proofs.YtbhcmmglmkgjnaaGreatDoor

namespace Go.Proofs.YtbhcmmglmkgjnaaGreatDoor
open Go.Lib Go.RowKit

structure SInv (s0 : ByteArray) (i : Nat) (s : DS) : Prop where
  calm : Calm s
  room : s.room = 65536
  gens : Gens 9 s
  len : s.l.length ≤ i + 1
  tot : stotal s.l ≤ 400 + 500 * i
  there : ∃ f ∈ s.l, f.name = genB 7 ∧ ∃ q, f.body = recF s0 ++ q

theorem SInv.more {s0 : ByteArray} {i : Nat} {s : DS} (h : SInv s0 i s) : SInv s0 (i + 1) s :=
  ⟨h.calm, h.room, h.gens, by have := h.len; omega, by have := h.tot; omega, h.there⟩

theorem recF_small (s0 : ByteArray) (h : s0.size ≤ 300) : (recF s0).length ≤ 400 := by
  unfold recF encT
  have h1 : (Lib.uvarint s0.size).length ≤ 10 := Lib.uvarint_length64 (x := s0.size) (by omega)
  rw [List.length_append, List.length_append, sumF_len, ba_len]
  omega

theorem inv_first (s0 : ByteArray) (h : s0.size ≤ 300) : SInv s0 0 (appendS (newS 65536) (genB 7) (recB s0)).2 := by
  have hr := recF_small s0 h
  have hsz : (recB s0).size = (recF s0).length := rfl
  have hnm : isNm (genB 7) = true := gen_nm ⟨7, by omega⟩
  have hb : (recB s0).data.toList = recF s0 := by show (recF s0).toArray.toList = _; simp
  have e : appendS (newS 65536) (genB 7) (recB s0) = (0, { newS 65536 with l := [⟨genB 7, recF s0, 0⟩] }) := by
    unfold appendS
    rw [if_neg (by simp [newS]), hnm, if_neg (by simp), if_neg (by
      unfold sfull
      simp only [newS, stotal, List.map_nil, List.sum_nil, List.length_nil, Bool.or_eq_true, decide_eq_true_eq, Bool.and_eq_true, beq_iff_eq]
      omega)]
    rw [Calm.act ⟨rfl, rfl⟩, hb]
    rfl
  rw [e]
  refine ⟨⟨rfl, rfl⟩, rfl, fun f hf => ?_, by simp, by simp [stotal]; omega, ⟨genB 7, recF s0, 0⟩, by simp, rfl, [], by simp⟩
  simp at hf
  exact ⟨7, by omega, by omega, by rw [hf]⟩

theorem inv_step {s0 : ByteArray} {i : Nat} {s : DS} (h : SInv s0 i s) (hf : Fit s) (hi : i ≤ 20) (k : Nat) (hk1 : 1 ≤ k) (hk : k ≤ 9) (t : ByteArray) (ht : t.size ≤ 500) : SInv s0 (i + 1) (appendS s (genB k) t).2 := by
  have hnm : isNm (genB k) = true := gen_nm ⟨k, by omega⟩
  have htot := h.tot
  have hlen := h.len
  have hroom := h.room
  have htl : t.data.toList.length = t.size := ba_len t
  unfold appendS
  rw [if_neg (by rw [h.calm.off]; simp), hnm, if_neg (by simp), if_neg (by
    unfold sfull
    simp only [Bool.or_eq_true, decide_eq_true_eq, Bool.and_eq_true, beq_iff_eq]
    omega)]
  rw [h.calm.act]
  cases hth : sthere s.l (genB k)
  · rw [if_neg (by simp)]
    refine ⟨⟨h.calm.off, h.calm.fused⟩, hroom, fun f hf => ?_, ?_, ?_, ?_⟩
    · simp only [sins, List.mem_append, List.mem_cons] at hf
      rcases hf with hf | rfl | hf
      · exact h.gens f (List.mem_of_mem_take hf)
      · exact ⟨k, hk1, hk, rfl⟩
      · exact h.gens f (List.mem_of_mem_drop hf)
    · show (sins s.l (spos s.l (genB k)) _).length ≤ _
      rw [sins_len]; omega
    · show stotal (sins s.l (spos s.l (genB k)) _) ≤ _
      rw [stotal_sins]; simp only; omega
    · obtain ⟨f, h1, h2, h3⟩ := h.there
      refine ⟨f, ?_, h2, h3⟩
      show f ∈ sins s.l (spos s.l (genB k)) _
      rw [← List.take_append_drop (spos s.l (genB k)) s.l] at h1
      simp only [sins, List.mem_append, List.mem_cons]
      rcases List.mem_append.1 h1 with h1 | h1
      · exact .inl h1
      · exact .inr (.inr h1)
  · rw [if_pos rfl]
    obtain ⟨f, hfp, hfn⟩ := sthere_at hth
    have e : smod s.l (spos s.l (genB k)) (fun f => { f with body := f.body ++ t.data.toList }) = s.l.set (spos s.l (genB k)) { f with body := f.body ++ t.data.toList } := by unfold smod; rw [hfp]
    rw [e]
    have hs := stotal_set hfp { f with body := f.body ++ t.data.toList }
    simp only [List.length_append] at hs
    refine ⟨⟨h.calm.off, h.calm.fused⟩, hroom, fun g hg => ?_, ?_, ?_, ?_⟩
    · rcases List.mem_or_eq_of_mem_set hg with hg | rfl
      · exact h.gens g hg
      · exact ⟨k, hk1, hk, hfn⟩
    · show (s.l.set _ _).length ≤ _
      rw [List.length_set]; omega
    · show stotal (s.l.set _ _) ≤ _
      omega
    · obtain ⟨f2, h1, h2, q, h3⟩ := h.there
      by_cases hff : f2 = f
      · subst hff
        refine ⟨{ f2 with body := f2.body ++ t.data.toList }, List.mem_set (List.getElem?_eq_some_iff.1 hfp).1 _, h2, q ++ t.data.toList, ?_⟩
        simp only [h3, List.append_assoc]
      · refine ⟨f2, ?_, h2, q, h3⟩
        obtain ⟨j, hj⟩ := List.mem_iff_getElem?.1 h1
        have hne : spos s.l (genB k) ≠ j := fun e => by rw [← e, hfp] at hj; exact hff (Option.some.inj hj).symm
        exact List.mem_of_getElem? (i := j) (by show (s.l.set _ _)[j]? = _; rw [List.getElem?_set_ne hne]; exact hj)

/-- so it is opened twice -/
theorem inv_twice {s0 : ByteArray} {i : Nat} {s : DS} (h : SInv s0 i s) (hf : Fit s) (hi : i ≤ 20) (hs0 : s0.size ≤ 300) :
    ∃ G t0 r s5, OpenS s G t0 r s5 ∧ OpenS s5 G t0 r s5 ∧ s5.off = false ∧ s5.room = 65536 ∧ r.length ≤ 65536 := by
  obtain ⟨f, h1, _, q, h3⟩ := h.there
  have htot := h.tot
  refine open_twice hf h.calm h.gens h.room (by omega) h1 ?_
  have := frd_rec s0 (by omega) ⟨f.body.toArray⟩ q (by show f.body.toArray.toList = _; simp [h3])
  rw [this]
end Go.Proofs.YtbhcmmglmkgjnaaGreatDoor
