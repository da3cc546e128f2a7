/-
  Plain facts: what Open makes of a log's files, once and twice.
-/
import Derived.Test.YtjimgncefeldbaaGreatDoorSegOne
namespace Go.Proofs.YtjimgncefeldbaaGreatDoor
open Go.Lib Go.RowKit

theorem ext_take (s : ByteArray) (n : Nat) : (s.extract 0 n).data.toList = s.data.toList.take n := by rw [Lib.extract_data]; simp

/-- what was read stands at the beginning -/
theorem fall_form : ∀ (k : Nat) (s : ByteArray), (s.data.toList.take (fall k s).2 = encRecs (fall k s).1) ∧ (fall k s).2 ≤ s.size ∧ (∀ t ∈ (fall k s).1, t.size ≤ 65536) ∧ (fall k s).1.length ≤ (fall k s).2
  | 0, s => ⟨by simp [fall, encRecs], Nat.zero_le _, by simp [fall], by simp [fall]⟩
  | k + 1, s => by
    by_cases h : (frd s).2.2 = 0
    · rw [fall_ok h]
      obtain ⟨rr, hr, hn, hs⟩ := frd_form h
      have h4 := frd_small h
      obtain ⟨i1, i2, i3, i4⟩ := fall_form k (s.extract (frd s).2.1 s.size)
      rw [ext_size] at i2
      rw [ext_to] at i1
      refine ⟨?_, by simp only; omega, ?_, by simp only [List.length_cons]; omega⟩
      · simp only
        rw [encRecs_cons, ← i1]
        have e1 : s.data.toList.take (frd s).2.1 = recF (frd s).1 := by rw [hr, hn]; exact List.take_left
        rw [← e1, List.take_add]
      · intro t ht
        rcases List.mem_cons.1 ht with rfl | ht
        · exact hs
        · exact i3 t ht
    · rw [fall_err h]
      exact ⟨by simp [encRecs], Nat.zero_le _, by simp, by simp⟩

/-- what stands ahead of the end of the whole records reads as all did -/
theorem fall_again (s : ByteArray) : fallS (s.extract 0 (fallS s).2) = fallS s := by
  obtain ⟨h1, h2, h3, h4⟩ := fall_form (s.size + 1) s
  have e : fallS s = fall (s.size + 1) s := rfl
  rw [e]
  generalize fall (s.size + 1) s = p at *
  have hl := congrArg List.length h1
  rw [List.length_take, ba_len] at hl
  have hx : (s.extract 0 p.2).data.toList = encRecs p.1 := by rw [ext_take, h1]
  have hxs : (s.extract 0 p.2).size = p.2 := by rw [ByteArray.size_extract]; omega
  have := fall_recs p.1 p.1.length ((s.extract 0 p.2).size + 1) (s.extract 0 p.2) h3 (Nat.le_refl _) (by rw [List.take_length, hxs]; omega) (fun h => absurd h (by omega)) ⟨[], by rw [hx]; simp⟩ (by rw [hxs]; omega)
  unfold fallS
  rw [this, List.take_length]
  exact Prod.ext rfl (by simp only; omega)

theorem fit_one {s : DS} (h : Fit s) (n : ByteArray) (b : List UInt8) (hb : b.length ≤ s.room) : Fit (withL s [⟨n, b, b.length⟩]) :=
  ⟨h.room, by simp [withL], by simp [withL, stotal]; exact hb, by simp [withL], by simp [withL], h.left⟩

theorem ba_list (s : ByteArray) : (⟨s.data.toList.toArray⟩ : ByteArray) = s := by cases s; simp

/-- a disk with one file, whose first record is whole -/
theorem one_open {s : DS} (h : Fit s) (c : Calm s) {G : Nat} (hG1 : 1 ≤ G) (hG : G < 11) {f : FS} (hl : s.l = [f]) (hn : f.name = genB G) (hw : (frd ⟨f.body.toArray⟩).2.2 = 0) :
    listD s dashB = [genB G] ∧ ([genB G].filter (wholeS s)).getLast? = some (genB G) ∧ eachS s (([genB G].filter fun n => decide (n ≠ genB G)) ++ [newB]) = (0, s) ∧ readD s (genB G) = (⟨f.body.toArray⟩, 0) := by
  have hg : Gens 10 s := fun x hx => ⟨G, hG1, by omega, by rw [hl] at hx; simp at hx; rw [hx, hn]⟩
  have hf : f ∈ s.l := by rw [hl]; simp
  have hls := list_gens c hg (by omega)
  have hr := read_there h c hf
  rw [hn] at hr
  obtain ⟨G', f', h1, h2, h3, h4, h5, h6, h7, h8⟩ := choose_plain h c hg (by omega) hf hw
  rw [hl] at h3
  simp at h3
  subst h3
  have hgg : G' = G := gen_inj (by omega) (by omega) (by rw [← h4, hn])
  subst hgg
  have hm : s.l.map (·.name) = [genB G'] := by rw [hl]; simp [hn]
  rw [hm] at hls h6 h7
  refine ⟨hls, h6, ?_, hr⟩
  rw [h7, ← hl]

/-- a whole log opens as it is -/
theorem open_whole {s : DS} (h : Fit s) (c : Calm s) (hroom : s.room ≤ 65536) {G : Nat} (hG1 : 1 ≤ G) (hG : G < 11) {f : FS} (hl : s.l = [f]) (hn : f.name = genB G) {t0 : ByteArray} {r : List ByteArray} (hf : fallS ⟨f.body.toArray⟩ = (t0 :: r, f.body.length)) :
    OpenS s G t0 r s := by
  have hw : (frd ⟨f.body.toArray⟩).2.2 = 0 := by
    by_cases hw : (frd ⟨f.body.toArray⟩).2.2 = 0
    · exact hw
    · unfold fallS at hf; rw [fall_err hw] at hf; cases hf
  obtain ⟨h1, h2, h3, h4⟩ := one_open h c hG1 hG hl hn hw
  have htot := h.total
  rw [hl] at htot
  simp [stotal] at htot
  have hsz : (⟨f.body.toArray⟩ : ByteArray).size = f.body.length := rfl
  refine ⟨[genB G], s, G, h1, by simp, ?_, by omega, .inr ⟨h2, hG1⟩, h3, .inr ⟨hG1, ⟨f.body.toArray⟩, f.body.length, h4, by omega, hf, .inl ⟨rfl, rfl, rfl⟩⟩⟩
  intro n hn'
  simp at hn'
  exact ⟨G, hG1, by omega, hn'⟩

/-- a log with bytes behind its whole records opens as they are, and they get a file of their own -/
theorem open_torn {s : DS} (h : Fit s) (c : Calm s) (hroom : s.room ≤ 65536) {G : Nat} (hG1 : 1 ≤ G) (hG : G < 10) {f : FS} (hl : s.l = [f]) (hn : f.name = genB G) {t0 : ByteArray} {r : List ByteArray} {n : Nat} (hf : fallS ⟨f.body.toArray⟩ = (t0 :: r, n)) (hlt : n < f.body.length)
    (hfits : f.body.length + n ≤ s.room) :
    OpenS s (G + 1) t0 r (withL s [⟨genB (G + 1), f.body.take n, n⟩]) := by
  have hw : (frd ⟨f.body.toArray⟩).2.2 = 0 := by
    by_cases hw : (frd ⟨f.body.toArray⟩).2.2 = 0
    · exact hw
    · unfold fallS at hf; rw [fall_err hw] at hf; cases hf
  obtain ⟨h1, h2, h3, h4⟩ := one_open h c hG1 (by omega) hl hn hw
  have htot := h.total
  rw [hl] at htot
  simp [stotal] at htot
  have hsz : (⟨f.body.toArray⟩ : ByteArray).size = f.body.length := rfl
  have hxs : ((⟨f.body.toArray⟩ : ByteArray).extract 0 n).size = n := by rw [ByteArray.size_extract]; omega
  have hxl : ((⟨f.body.toArray⟩ : ByteArray).extract 0 n).data.toList = f.body.take n := ext_take _ _
  have hxn : (f.body.take n).length = n := by rw [List.length_take]; omega
  have hly := lay_one c (g := G) (by omega) f.body f.sure (by rw [hl, ← hn]) ((⟨f.body.toArray⟩ : ByteArray).extract 0 n) (by rw [hxs]; exact hfits) hroom
  rw [hxl, hxn] at hly
  refine ⟨[genB G], s, G, h1, by simp, ?_, by omega, .inr ⟨h2, hG1⟩, h3, .inr ⟨hG1, ⟨f.body.toArray⟩, n, h4, by omega, hf, .inr ⟨by omega, rfl, _, hly.1, hly.2 hG1⟩⟩⟩
  intro n hn'
  simp at hn'
  exact ⟨G, hG1, by omega, hn'⟩

/-- a disk without files -/
theorem open_none {s : DS} (c : Calm s) (hl : s.l = []) (hroom : 100 ≤ s.room) (hrec : (recB ⟨#[]⟩).size ≤ 100) :
    OpenS s 1 ⟨#[]⟩ [] (withL s [⟨genB 1, recF ⟨#[]⟩, (recF ⟨#[]⟩).length⟩]) := by
  have hls : listD s dashB = [] := by unfold listD; rw [if_neg (by rw [c.off]; simp), hl]; rfl
  have hd : dropS s newB = (0, s) := by
    refine drop_no ?_
    unfold removeS
    rw [hl, if_neg (by rw [c.off]; simp)]
    rfl
  have he : eachS s ([] ++ [newB]) = (0, s) := by
    show eachS s [newB] = (0, s)
    unfold eachS
    rw [hd, if_pos rfl]
    rfl
  exact ⟨[], s, 0, hls, by simp, fun n hn => by simp at hn, by omega, .inl ⟨rfl, rfl⟩, he, .inl ⟨rfl, rfl, rfl, rfl, lay_none c hl (recB ⟨#[]⟩) (by omega)⟩⟩

/-- whatever the files hold, if one begins with a whole record: Open, and once more, tell the same -/
theorem open_twice {s : DS} (h : Fit s) (c : Calm s) (hg : Gens 9 s) (hroom : s.room = 65536) (htot : stotal s.l ≤ 30000) {f0 : FS} (hf0 : f0 ∈ s.l) (hw0 : (frd ⟨f0.body.toArray⟩).2.2 = 0) :
    ∃ G t0 r s5, OpenS s G t0 r s5 ∧ OpenS s5 G t0 r s5 ∧ s5.off = false ∧ s5.room = 65536 ∧ r.length ≤ 65536 := by
  obtain ⟨G, f, h1, h2, h3, h4, hw, h6, h7, h8⟩ := choose_plain h c hg (by omega) hf0 hw0
  have hls := list_gens c hg (by omega)
  have hc1 : Calm { s with l := [f] } := ⟨c.off, c.fused⟩
  obtain ⟨q1, q2, q3, hr⟩ := one_open h8 hc1 h1 (by omega) rfl h4 hw
  have hlen : f.body.length ≤ 30000 := by
    obtain ⟨k, hk⟩ := List.mem_iff_getElem?.1 h3
    have := stotal_split hk
    omega
  have hsz : (⟨f.body.toArray⟩ : ByteArray).size = f.body.length := rfl
  obtain ⟨t0, r, n, hf⟩ : ∃ t0 r n, fallS ⟨f.body.toArray⟩ = (t0 :: r, n) := ⟨_, _, _, by unfold fallS; rw [fall_ok hw]⟩
  have hff := fall_form ((⟨f.body.toArray⟩ : ByteArray).size + 1) ⟨f.body.toArray⟩
  rw [show fall ((⟨f.body.toArray⟩ : ByteArray).size + 1) ⟨f.body.toArray⟩ = (t0 :: r, n) from hf] at hff
  obtain ⟨i1, i2, i3, i4⟩ := hff
  simp only [List.length_cons] at i1 i2 i4
  have hag := fall_again ⟨f.body.toArray⟩
  rw [hf] at hag
  simp only at hag
  have hnames : ∀ n ∈ s.l.map (·.name), ∃ g, 1 ≤ g ∧ g < 12 ∧ n = genB g := by
    intro n hn
    obtain ⟨x, hx, rfl⟩ := List.mem_map.1 hn
    obtain ⟨g, g1, g2, g3⟩ := hg x hx
    exact ⟨g, g1, by omega, g3⟩
  have hnl : (s.l.map (·.name)).length ≤ 2000 := by have := h.len; simp; omega
  by_cases hnz : n = f.body.length
  · subst hnz
    exact ⟨G, t0, r, { s with l := [f] }, ⟨_, _, G, hls, hnl, hnames, by omega, .inr ⟨h6, h1⟩, h7, .inr ⟨h1, _, _, hr, by omega, hf, .inl ⟨rfl, rfl, rfl⟩⟩⟩,
      open_whole h8 hc1 (by show s.room ≤ 65536; omega) h1 (by omega) rfl h4 hf, c.off, hroom, by omega⟩
  · have hlt : n < f.body.length := by omega
    have hxs : ((⟨f.body.toArray⟩ : ByteArray).extract 0 n).size = n := by rw [ByteArray.size_extract]; omega
    have hxl : ((⟨f.body.toArray⟩ : ByteArray).extract 0 n).data.toList = f.body.take n := ext_take _ _
    have hxn : (f.body.take n).length = n := by rw [List.length_take]; omega
    have hly := lay_one hc1 (g := G) (by omega) f.body f.sure (by rw [← h4]) ((⟨f.body.toArray⟩ : ByteArray).extract 0 n) (by rw [hxs]; show f.body.length + n ≤ s.room; omega) (by show s.room ≤ 65536; omega)
    rw [hxl, hxn] at hly
    have hfit := fit_one (s := { s with l := [f] }) h8 (genB (G + 1)) (f.body.take n) (by rw [hxn]; show n ≤ s.room; omega)
    rw [hxn] at hfit
    have hba : (⟨(f.body.take n).toArray⟩ : ByteArray) = (⟨f.body.toArray⟩ : ByteArray).extract 0 n := ba_eq (by rw [hxl])
    exact ⟨G + 1, t0, r, _, ⟨_, _, G, hls, hnl, hnames, by omega, .inr ⟨h6, h1⟩, h7, .inr ⟨h1, _, _, hr, by omega, hf, .inr ⟨by omega, rfl, _, hly.1, hly.2 h1⟩⟩⟩,
      open_whole hfit (withL_calm hc1 _) (by show s.room ≤ 65536; omega) (by omega) (by omega) rfl rfl (by show fallS ⟨(f.body.take n).toArray⟩ = (t0 :: r, (f.body.take n).length); rw [hba, hag, hxn]), c.off, hroom, by omega⟩
end Go.Proofs.YtjimgncefeldbaaGreatDoor
