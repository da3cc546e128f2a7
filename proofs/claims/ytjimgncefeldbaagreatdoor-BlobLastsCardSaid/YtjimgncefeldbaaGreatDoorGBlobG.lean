/-
  Plain facts: what each act of a store makes of its disk, and where power goes in it.
  Plain facts: what a store has behind each act, and behind a crash in it.
-/
import Derived.Test.YtjimgncefeldbaaGreatDoorGBlobE
import Derived.Test.YtjimgncefeldbaaGreatDoorGBlobF
namespace Go.Proofs.YtjimgncefeldbaaGreatDoor
open Go.Lib Go.RowKit Go.Maps

section
variable {room : Nat} {fz : Bool} {s : DS} {A B : List FS} {n t : ByteArray} {f : FS}
theorem read_hit (h : On room fz (A ++ f :: B) s) (hA : ∀ a ∈ A, nmLt a.name f.name) : readD s f.name = (⟨f.body.toArray⟩, 0) := by
  unfold readD
  rw [if_neg (by rw [h.off]; simp), h.l, pos_hit hA, head_mid rfl]
  simp [cmpS_self (f := f) rfl]
theorem extend_new (h : On room fz A s) (hnm : isNm n = true) (hA : ∀ a ∈ A, nmLt a.name n) (hr : stotal A + t.size ≤ room) (hl : A.length < 1024) :
    (∃ s', extendS s n t = (0, s') ∧ On room fz (A ++ [⟨n, t.data.toList, t.data.toList.length⟩]) s') ∨ (fz = true ∧ ∃ s', extendS s n t = (10, s') ∧ (Dark room A s' ∨ Dark room (A ++ [⟨n, t.data.toList, 0⟩]) s')) := by
  have h0 : On room fz (A ++ []) s := by simpa using h
  unfold extendS
  rcases append_new h0 hnm hA (fun b hb => by cases hb) (by simpa using hr) (by simpa using hl) with ⟨s1, e1, h1⟩ | ⟨hf, s1, e1, h1⟩
  · rw [e1]
    simp only [ne_eq, not_true_eq_false, if_false]
    rcases sync_at (f := ⟨n, t.data.toList, 0⟩) (B := []) h1 hA with ⟨s2, e2, h2⟩ | ⟨hf, s2, e2, h2⟩
    · exact .inl ⟨s2, e2, h2⟩
    · exact .inr ⟨hf, s2, e2, .inr h2⟩
  · rw [e1]
    exact .inr ⟨hf, s1, by simp, .inl (by simpa using h1)⟩
theorem extend_old (h : On room fz (A ++ [f]) s) (hnm : isNm f.name = true) (hA : ∀ a ∈ A, nmLt a.name f.name) (hr : stotal (A ++ [f]) + t.size ≤ room) :
    (∃ s', extendS s f.name t = (0, s') ∧ On room fz (A ++ [⟨f.name, f.body ++ t.data.toList, (f.body ++ t.data.toList).length⟩]) s') ∨
      (fz = true ∧ ∃ s', extendS s f.name t = (10, s') ∧ (Dark room (A ++ [f]) s' ∨ Dark room (A ++ [⟨f.name, f.body ++ t.data.toList, f.sure⟩]) s')) := by
  unfold extendS
  rcases append_old h hnm hA hr with ⟨s1, e1, h1⟩ | ⟨hf, s1, e1, h1⟩
  · rw [e1]
    simp only [ne_eq, not_true_eq_false, if_false]
    rcases sync_at (f := { f with body := f.body ++ t.data.toList }) (B := []) h1 hA with ⟨s2, e2, h2⟩ | ⟨hf, s2, e2, h2⟩
    · exact .inl ⟨s2, e2, h2⟩
    · exact .inr ⟨hf, s2, e2, .inr h2⟩
  · rw [e1]
    exact .inr ⟨hf, s1, by simp, .inl h1⟩
theorem lay_step {g : ByteArray} (h : On room fz A s) (hnm : isNm n = true) (hgm : isNm g = true) (hA : ∀ a ∈ A, nmLt a.name n) (hG : ∀ a ∈ A, nmLt a.name g) (hr : stotal A + t.size ≤ room) (hl : A.length < 1024) :
    (∃ s', layS s n t g = (0, s') ∧ On room fz (A ++ [⟨g, t.data.toList, t.data.toList.length⟩]) s') ∨
      (fz = true ∧ ∃ s', layS s n t g = (10, s') ∧ (Dark room A s' ∨ ∃ k, Dark room (A ++ [⟨n, t.data.toList, k⟩]) s')) := by
  have h0 : On room fz (A ++ []) s := by simpa using h
  have hd : dropS s n = (0, s) := by
    unfold dropS
    rw [remove_none h0 hA (fun b hb => by cases hb), if_pos rfl]
  unfold layS
  rw [hd]
  simp only [ne_eq, not_true_eq_false, if_false]
  rcases append_new h0 hnm hA (fun b hb => by cases hb) (by simpa using hr) (by simpa using hl) with ⟨s1, e1, h1⟩ | ⟨hf, s1, e1, h1⟩
  · rw [e1]
    simp only [not_true_eq_false, if_false]
    rcases sync_at (f := ⟨n, t.data.toList, 0⟩) (B := []) h1 hA with ⟨s2, e2, h2⟩ | ⟨hf, s2, e2, h2⟩
    · have e2' : syncS s1 n = (0, s2) := e2
      rw [e2']
      simp only [not_true_eq_false, if_false]
      rcases rename_last (f := ⟨n, t.data.toList, t.data.toList.length⟩) (n := g) h2 hA hgm hG with ⟨s3, e3, h3⟩ | ⟨hf, s3, e3, h3⟩
      · exact .inl ⟨s3, e3, h3⟩
      · exact .inr ⟨hf, s3, e3, .inr ⟨_, h3⟩⟩
    · have e2' : syncS s1 n = (10, s2) := e2
      rw [e2']
      exact .inr ⟨hf, s2, by simp, .inr ⟨_, h2⟩⟩
  · rw [e1]
    exact .inr ⟨hf, s1, by simp, .inl (by simpa using h1)⟩
end

/-- the numbers rise -/
abbrev Rise (sg : List (Nat × List ByteArray)) : Prop := sg.Pairwise fun a b => a.1 < b.1
/-- the segments of a store that no error ended, and what it has -/
structure LInv (P : ByteArray → Prop) (room : Nat) (fz : Bool) (s : DS) (sg : List (Nat × List ByteArray)) (M : DU) : Prop where
  on : On room fz (sg.map segF) s
  rises : Rise sg
  pos : ∀ p ∈ sg, 1 ≤ p.1
  top : lastN (sg.map (·.1)) < 30
  texts : ∀ p ∈ sg, ∀ t ∈ p.2, TextOk P t
  mok : MOk P M
  like : ∀ id, hasC M id = hasC (replay (.map []) (sg.flatMap (·.2))) id
  len : sg.length ≤ 800

theorem lastN_concat (A : List (Nat × List ByteArray)) (p : Nat × List ByteArray) : lastN ((A ++ [p]).map (·.1)) = p.1 := by unfold lastN; simp
theorem le_last {sg : List (Nat × List ByteArray)} (h : Rise sg) : ∀ p ∈ sg, p.1 ≤ lastN (sg.map (·.1)) := by
  intro p hp
  rcases List.eq_nil_or_concat sg with rfl | ⟨A, q, rfl⟩
  · simp at hp
  · rw [List.concat_eq_append] at *
    rw [lastN_concat]
    rcases List.mem_append.1 hp with hp | hp
    · exact Nat.le_of_lt ((List.pairwise_append.1 h).2.2 p hp q (by simp))
    · simp at hp; rw [hp]; exact Nat.le_refl _
theorem segs_lt {sg : List (Nat × List ByteArray)} {n : Nat} (h : ∀ p ∈ sg, p.1 < n) (hn : n < 32) : ∀ a ∈ sg.map segF, nmLt a.name (genN blobB n) := fun a ha => by
  obtain ⟨p, hp, rfl⟩ := List.mem_map.1 ha
  exact gen_lt (h p hp) hn
theorem segs_new {sg : List (Nat × List ByteArray)} (h : ∀ p ∈ sg, p.1 < 32) : ∀ a ∈ sg.map segF, nmLt a.name (newN blobB) := fun a ha => by
  obtain ⟨p, hp, rfl⟩ := List.mem_map.1 ha
  exact gen_lt_new (h p hp)
theorem text_size {P : ByteArray → Prop} (hP : ∀ b, P b → b.size ≤ 200) {t : ByteArray} (h : TextOk P t) : t.size ≤ 201 := by
  rcases h with ⟨b, hb, rfl⟩ | ⟨b, rfl⟩
  · rw [cameB_size]; have := hP b hb; omega
  · rw [wentB_size, idS_size]; omega

/-- where nothing was begun -/
theorem crashed_same {P : ByteArray → Prop} (hP : ∀ b, P b → b.size ≤ 200) {room : Nat} {sg : List (Nat × List ByteArray)} {ex : List FS} {s : DS} (hr : s.room = room) (hl : s.l = sg.map segF ++ ex) (hex : ex = [] ∨ ∃ b k, ex = [⟨newN blobB, b, k⟩])
    (hn : ∀ p ∈ sg, 1 ≤ p.1 ∧ p.1 < 32) (ht : ∀ p ∈ sg, ∀ t ∈ p.2, TextOk P t) (hlen : sg.length ≤ 900) : Crashed P room (sg.map trip) ex s :=
  ⟨hr, by rw [hl, trips_seg], hex, fun p hp => by obtain ⟨q, hq, rfl⟩ := List.mem_map.1 hp; exact hn q hq, fun p hp t h => by
    obtain ⟨q, hq, rfl⟩ := List.mem_map.1 hp
    have h' : t ∈ q.2 := by simpa [trip] using h
    have := ht q hq t h'
    exact ⟨this, by have := text_size hP this; omega⟩, by simpa using hlen⟩

theorem write_step {P : ByteArray → Prop} (hP : ∀ b, P b → b.size ≤ 200) {room : Nat} {fz : Bool} {s : DS} {sg : List (Nat × List ByteArray)} {M : DU} {seg : Nat} (h : LInv P room fz s sg M) (T : List ByteArray) (hT : ∀ t ∈ T, TextOk P t)
    (hroom : stotal (sg.map segF) + (encRecs T).length ≤ room) :
    ∃ sg', addN (sg.map (·.1)) (numS seg (sg.map (·.1)) s) = sg'.map (·.1) ∧ Rise sg' ∧ sg'.flatMap (·.2) = sg.flatMap (·.2) ++ T ∧ (∀ p ∈ sg', 1 ≤ p.1) ∧ lastN (sg'.map (·.1)) ≤ lastN (sg.map (·.1)) + 1 ∧ (∀ p ∈ sg', ∀ t ∈ p.2, TextOk P t) ∧
      stotal (sg'.map segF) = stotal (sg.map segF) + (encRecs T).length ∧ sg'.length ≤ sg.length + 1 ∧
      ((∃ s', extendS s (genN blobB (numS seg (sg.map (·.1)) s)) (recsB T) = (0, s') ∧ On room fz (sg'.map segF) s') ∨
        (fz = true ∧ ∃ s' sgb, extendS s (genN blobB (numS seg (sg.map (·.1)) s)) (recsB T) = (10, s') ∧ s'.off = true ∧ Crashed P room sgb [] s' ∧ ∀ js, ∃ j, sgb.flatMap (cutT js) = sg.flatMap (·.2) ++ T.take j)) := by
  have hle := le_last h.rises
  have htop := h.top
  have hlen := h.len
  have hnum : ∀ p ∈ sg, 1 ≤ p.1 ∧ p.1 < 32 := fun p hp => ⟨h.pos p hp, by have := hle p hp; omega⟩
  have hsame : ∀ s', s'.room = room → s'.l = sg.map segF → Crashed P room (sg.map trip) [] s' := fun s' h1 h2 => crashed_same hP h1 (by rw [h2]; simp) (.inl rfl) hnum h.texts (by omega)
  have hcs : ∀ js, ∃ j, (sg.map trip).flatMap (cutT js) = sg.flatMap (·.2) ++ T.take j := fun js => ⟨0, by rw [cut_trip]; simp⟩
  have hszT : ∀ t ∈ T, t.size ≤ 5000 := fun t ht => by have := text_size hP (hT t ht); omega
  have hrs : (recsB T).size = (encRecs T).length := rfl
  -- a new segment
  have hnew : numS seg (sg.map (·.1)) s = lastN (sg.map (·.1)) + 1 → _ := fun hn => by
    refine (⟨sg ++ [(lastN (sg.map (·.1)) + 1, T)], ?_⟩ : ∃ sg', addN (sg.map (·.1)) (numS seg (sg.map (·.1)) s) = sg'.map (·.1) ∧ Rise sg' ∧ sg'.flatMap (·.2) = sg.flatMap (·.2) ++ T ∧ (∀ p ∈ sg', 1 ≤ p.1) ∧ lastN (sg'.map (·.1)) ≤ lastN (sg.map (·.1)) + 1 ∧ (∀ p ∈ sg', ∀ t ∈ p.2, TextOk P t) ∧
      stotal (sg'.map segF) = stotal (sg.map segF) + (encRecs T).length ∧ sg'.length ≤ sg.length + 1 ∧
      ((∃ s', extendS s (genN blobB (numS seg (sg.map (·.1)) s)) (recsB T) = (0, s') ∧ On room fz (sg'.map segF) s') ∨
        (fz = true ∧ ∃ s' sgb, extendS s (genN blobB (numS seg (sg.map (·.1)) s)) (recsB T) = (10, s') ∧ s'.off = true ∧ Crashed P room sgb [] s' ∧ ∀ js, ∃ j, sgb.flatMap (cutT js) = sg.flatMap (·.2) ++ T.take j)))
    rw [hn]
    refine ⟨?_, ?_, by simp, ?_, ?_, ?_, ?_, by simp, ?_⟩
    · unfold addN; rw [if_pos (by omega)]; simp
    · refine List.pairwise_append.2 ⟨h.rises, by simp, fun p hp q hq => ?_⟩
      simp at hq; rw [hq]; have := hle p hp; simp only; omega
    · intro p hp
      rcases List.mem_append.1 hp with hp | hp
      · exact h.pos p hp
      · simp at hp; rw [hp]; simp only; omega
    · rw [lastN_concat]; exact Nat.le_refl _
    · intro p hp
      rcases List.mem_append.1 hp with hp | hp
      · exact h.texts p hp
      · simp at hp; rw [hp]; exact hT
    · rw [List.map_append, stotal_app]; simp [stotal, segF]
    · rcases extend_new (n := genN blobB (lastN (sg.map (·.1)) + 1)) (t := recsB T) h.on (blob_ok.gen _ (by omega)) (segs_lt (fun p hp => by have := hle p hp; omega) (by omega)) (by rw [hrs]; exact hroom) (by rw [List.length_map]; omega) with ⟨s', e, h1⟩ | ⟨hf, s', e, h1 | h1⟩
      · refine .inl ⟨s', e, ?_⟩
        rw [recsB_list] at h1
        rw [List.map_append]; exact h1
      · exact .inr ⟨hf, s', _, e, h1.off, hsame s' h1.room h1.l, hcs⟩
      · rw [recsB_list] at h1
        refine .inr ⟨hf, s', sg.map trip ++ [(lastN (sg.map (·.1)) + 1, [], T)], e, h1.off, ⟨h1.room, ?_, .inl rfl, ?_, ?_, ?_⟩, fun js => ⟨js (lastN (sg.map (·.1)) + 1, [], T), ?_⟩⟩
        · rw [h1.l, List.map_append, trips_seg]; simp [tripF, encRecs]
        · intro p hp
          rcases List.mem_append.1 hp with hp | hp
          · obtain ⟨q, hq, rfl⟩ := List.mem_map.1 hp; exact hnum q hq
          · simp at hp; rw [hp]; simp only; omega
        · intro p hp t ht
          rcases List.mem_append.1 hp with hp | hp
          · obtain ⟨q, hq, rfl⟩ := List.mem_map.1 hp
            have h' : t ∈ q.2 := by simpa [trip] using ht
            have := h.texts q hq t h'
            exact ⟨this, by have := text_size hP this; omega⟩
          · simp at hp; rw [hp] at ht; simp at ht; exact ⟨hT t ht, hszT t ht⟩
        · simp; omega
        · rw [List.flatMap_append, cut_trip]; simp [cutT]
  rcases List.eq_nil_or_concat sg with hnil | ⟨A, p, hc⟩
  · refine hnew ?_
    rw [hnil]; rfl
  · rw [List.concat_eq_append] at hc
    have hz : sg.map (·.1) ≠ [] := by rw [hc]; simp
    have hlast : lastN (sg.map (·.1)) = p.1 := by rw [hc]; exact lastN_concat A p
    have hAp : ∀ q ∈ A, q.1 < p.1 := fun q hq => by
      have := h.rises
      rw [hc] at this
      exact (List.pairwise_append.1 this).2.2 q hq p (by simp)
    have hpm : p ∈ sg := by rw [hc]; simp
    have hp32 := (hnum p hpm).2
    have hon : On room fz (A.map segF ++ [segF p]) s := by have := h.on; rw [hc, List.map_append] at this; exact this
    have hlt : ∀ a ∈ A.map segF, nmLt a.name (segF p).name := segs_lt hAp hp32
    have hrd : readD s (genN blobB p.1) = (⟨(encRecs p.2).toArray⟩, 0) := read_hit hon hlt
    by_cases hsz : seg ≤ (encRecs p.2).length
    · refine hnew ?_
      unfold numS
      rw [if_neg hz, hlast, hrd]
      exact if_pos hsz
    · have hn : numS seg (sg.map (·.1)) s = p.1 := by
        unfold numS
        rw [if_neg hz, hlast, hrd]
        exact if_neg hsz
      rw [hn]
      refine ⟨A ++ [(p.1, p.2 ++ T)], ?_, ?_, ?_, ?_, ?_, ?_, ?_, ?_, ?_⟩
      · unfold addN; rw [if_neg (by omega), hc]; simp
      · have := h.rises
        rw [hc] at this
        obtain ⟨a1, a2, a3⟩ := List.pairwise_append.1 this
        exact List.pairwise_append.2 ⟨a1, by simp, fun q hq r hr => by simp at hr; rw [hr]; exact hAp q hq⟩
      · rw [hc]; simp
      · intro q hq
        rcases List.mem_append.1 hq with hq | hq
        · exact h.pos q (by rw [hc]; exact List.mem_append_left _ hq)
        · simp at hq; rw [hq]; exact h.pos p hpm
      · rw [lastN_concat, hlast]; omega
      · intro q hq
        rcases List.mem_append.1 hq with hq | hq
        · exact h.texts q (by rw [hc]; exact List.mem_append_left _ hq)
        · simp at hq; rw [hq]
          intro t ht
          rcases List.mem_append.1 ht with ht | ht
          · exact h.texts p hpm t ht
          · exact hT t ht
      · rw [hc, List.map_append, List.map_append, stotal_app, stotal_app]; simp [stotal, segF, encRecs_app]; omega
      · rw [hc]; simp
      · have hroom' : stotal (A.map segF ++ [segF p]) + (recsB T).size ≤ room := by
          rw [hrs]
          have := hroom
          rw [hc, List.map_append] at this
          exact this
        rcases extend_old (f := segF p) (t := recsB T) hon (blob_ok.gen _ hp32) hlt hroom' with ⟨s', e, h1⟩ | ⟨hf, s', e, h1 | h1⟩
        · refine .inl ⟨s', e, ?_⟩
          rw [recsB_list] at h1
          rw [List.map_append]
          have e2 : segF (p.1, p.2 ++ T) = ⟨(segF p).name, (segF p).body ++ encRecs T, ((segF p).body ++ encRecs T).length⟩ := by simp [segF, encRecs_app]
          rw [List.map_cons, List.map_nil, e2]; exact h1
        · exact .inr ⟨hf, s', _, e, h1.off, hsame s' h1.room (by rw [h1.l, hc, List.map_append]; rfl), hcs⟩
        · rw [recsB_list] at h1
          refine .inr ⟨hf, s', A.map trip ++ [(p.1, p.2, T)], e, h1.off, ⟨h1.room, ?_, .inl rfl, ?_, ?_, ?_⟩, fun js => ⟨js (p.1, p.2, T), ?_⟩⟩
          · rw [h1.l, List.map_append, trips_seg]; simp [tripF, segF, encRecs_app]
          · intro q hq
            rcases List.mem_append.1 hq with hq | hq
            · obtain ⟨r, hr, rfl⟩ := List.mem_map.1 hq; exact hnum r (by rw [hc]; exact List.mem_append_left _ hr)
            · simp at hq; rw [hq]; exact hnum p hpm
          · intro q hq t ht
            rcases List.mem_append.1 hq with hq | hq
            · obtain ⟨r, hr, rfl⟩ := List.mem_map.1 hq
              have h' : t ∈ r.2 := by simpa [trip] using ht
              have := h.texts r (by rw [hc]; exact List.mem_append_left _ hr) t h'
              exact ⟨this, by have := text_size hP this; omega⟩
            · simp at hq; rw [hq] at ht
              rcases List.mem_append.1 ht with ht | ht
              · have := h.texts p hpm t ht
                exact ⟨this, by have := text_size hP this; omega⟩
              · exact ⟨hT t ht, hszT t ht⟩
          · have := hlen; rw [hc] at this; simp at this ⊢; omega
          · rw [List.flatMap_append, cut_trip, hc]; simp [cutT]
end Go.Proofs.YtjimgncefeldbaaGreatDoor

namespace Go.Proofs.YtjimgncefeldbaaGreatDoor
open Go.Lib Go.RowKit Go.Maps

theorem rems_step {room : Nat} {fz : Bool} : ∀ (sg : List (Nat × List ByteArray)) (R : List FS) (s : DS), On room fz (sg.map segF ++ R) s → Rise sg → (∀ p ∈ sg, p.1 < 32) →
    (∃ s', remsS s ((sg.map (·.1)).map (genN blobB)) = (0, s') ∧ On room fz R s') ∨ (fz = true ∧ ∃ s' i, remsS s ((sg.map (·.1)).map (genN blobB)) = (10, s') ∧ Dark room ((sg.drop i).map segF ++ R) s')
  | [], R, s, h, _, _ => .inl ⟨s, rfl, h⟩
  | p :: sg, R, s, h, hr, hn => by
    have h0 : On room fz ([] ++ segF p :: (sg.map segF ++ R)) s := h
    rcases remove_at h0 (fun a ha => by cases ha) with ⟨s1, e1, h1⟩ | ⟨hf, s1, e1, h1⟩
    · have e1' : removeS s (genN blobB p.1) = (0, s1) := e1
      rcases rems_step sg R s1 h1 (List.pairwise_cons.1 hr).2 (fun q hq => hn q (List.mem_cons_of_mem _ hq)) with ⟨s2, e2, h2⟩ | ⟨hf, s2, i, e2, h2⟩
      · refine .inl ⟨s2, ?_, h2⟩
        rw [List.map_cons, List.map_cons]
        unfold remsS
        rw [e1', if_pos rfl]; exact e2
      · refine .inr ⟨hf, s2, i + 1, ?_, h2⟩
        rw [List.map_cons, List.map_cons]
        unfold remsS
        rw [e1', if_pos rfl]; exact e2
    · have e1' : removeS s (genN blobB p.1) = (10, s1) := e1
      refine .inr ⟨hf, s1, 0, ?_, h1⟩
      rw [List.map_cons, List.map_cons]
      unfold remsS
      rw [e1', if_neg (show ¬ ((10 : Int) = 0) by decide)]

theorem comp_step {P : ByteArray → Prop} (hP : ∀ b, P b → b.size ≤ 200) {room : Nat} {fz : Bool} {s : DS} {sg : List (Nat × List ByteArray)} {M : DU} (h : LInv P room fz s sg M) (T : List ByteArray) (hT : ∀ t ∈ T, TextOk P t)
    (hroom : stotal (sg.map segF) + (encRecs T).length ≤ room) :
    (∃ s', repO (sg.map (·.1)) s (recsB T) = (0, s') ∧ On room fz ([(lastN (sg.map (·.1)) + 1, T)].map segF) s') ∨
      (fz = true ∧ ∃ s' sgb ex, repO (sg.map (·.1)) s (recsB T) = (10, s') ∧ s'.off = true ∧ Crashed P room sgb ex s' ∧ ∀ js, (sgb.flatMap (cutT js) = sg.flatMap (·.2) ∨ ∃ i, sgb.flatMap (cutT js) = (sg.drop i).flatMap (·.2) ++ T)) := by
  have hle := le_last h.rises
  have htop := h.top
  have hlen := h.len
  have hnum : ∀ p ∈ sg, 1 ≤ p.1 ∧ p.1 < 32 := fun p hp => ⟨h.pos p hp, by have := hle p hp; omega⟩
  have hszT : ∀ t ∈ T, t.size ≤ 5000 := fun t ht => by have := text_size hP (hT t ht); omega
  have hrs : (recsB T).size = (encRecs T).length := rfl
  unfold repO
  rcases lay_step (t := recsB T) h.on blob_ok.new (blob_ok.gen (lastN (sg.map (·.1)) + 1) (by omega)) (segs_new (fun p hp => (hnum p hp).2)) (segs_lt (fun p hp => by have := hle p hp; omega) (by omega)) (by rw [hrs]; exact hroom) (by rw [List.length_map]; omega) with ⟨s1, e1, h1⟩ | ⟨hf, s1, e1, h1⟩
  · rw [e1]
    simp only [ne_eq, not_true_eq_false, if_false]
    rw [recsB_list] at h1
    have h1' : On room fz (sg.map segF ++ [(lastN (sg.map (·.1)) + 1, T)].map segF) s1 := h1
    rcases rems_step sg _ s1 h1' h.rises (fun p hp => (hnum p hp).2) with ⟨s2, e2, h2⟩ | ⟨hf, s2, i, e2, h2⟩
    · exact .inl ⟨s2, e2, h2⟩
    · refine .inr ⟨hf, s2, ((sg.drop i) ++ [(lastN (sg.map (·.1)) + 1, T)]).map trip, [], e2, h2.off, ?_, fun js => .inr ⟨i, ?_⟩⟩
      · refine crashed_same hP h2.room (by rw [h2.l, List.map_append]; simp) (.inl rfl) (fun p hp => ?_) (fun p hp => ?_) (by simp; omega)
        · rcases List.mem_append.1 hp with hp | hp
          · exact hnum p (List.mem_of_mem_drop hp)
          · simp at hp; rw [hp]; simp only; omega
        · rcases List.mem_append.1 hp with hp | hp
          · exact h.texts p (List.mem_of_mem_drop hp)
          · simp at hp; rw [hp]; exact hT
      · rw [cut_trip]; simp
  · rw [e1]
    rcases h1 with h1 | ⟨k, h1⟩
    · exact .inr ⟨hf, s1, sg.map trip, [], by simp, h1.off, crashed_same hP h1.room (by rw [h1.l]; simp) (.inl rfl) hnum h.texts (by omega), fun js => .inl (cut_trip js sg)⟩
    · exact .inr ⟨hf, s1, sg.map trip, _, by simp, h1.off, crashed_same hP h1.room h1.l (.inr ⟨_, _, rfl⟩) hnum h.texts (by omega), fun js => .inl (cut_trip js sg)⟩

theorem cames_or : ∀ (T : List ByteArray) {M : DU}, IsMap M → (∀ t ∈ T, ∃ b, t = cameB b) → ∀ id, hasC (replay M T) id = (hasC M id || hasC (replay (.map []) T) id)
  | [], M, _, _, id => by show hasC M id = (hasC M id || hasC (.map []) id); simp [hasC, Maps.has]
  | t :: T, M, hm, ht, id => by
    obtain ⟨b, rfl⟩ := ht t (List.mem_cons_self ..)
    have hT := fun x hx => ht x (List.mem_cons_of_mem _ hx)
    rw [replay_cons, replay_cons, cames_or T (hear_map hm _) hT id, cames_or T (hear_map isMap_empty _) hT id, has_came hm, has_came isMap_empty]
    have : hasC (.map [] : DU) id = false := by simp [hasC, Maps.has]
    rw [this]
    cases hasC M id <;> simp

theorem putF_replay (M : DU) (l : List ByteArray) : (putF M l).1 = replay (.map []) (putF M l).2 :=
  putF_ind (P := fun _ q => q.1 = replay (.map []) q.2) rfl (fun l q b ih => by
    unfold putStep
    split
    · exact ih
    · rw [replay_app, ← ih]
      show _ = hearS q.1 (cameB b)
      rw [hear_came]) l
theorem putF_all (M : DU) (l : List ByteArray) : ∀ b ∈ l, (hasC (putF M l).1 (idS b) || hasC M (idS b)) = true := by
  have hm : ∀ l, IsMap (putF M l).1 := putF_map M
  exact putF_ind (P := fun l q => IsMap q.1 → ∀ b ∈ l, (hasC q.1 (idS b) || hasC M (idS b)) = true) (by simp) (fun l q b ih hq c hc => by
    unfold putStep at hq ⊢
    by_cases h : (hasC q.1 (idS b) || hasC M (idS b)) = true
    · rw [if_pos h] at hq ⊢
      rcases List.mem_append.1 hc with hc | hc
      · exact ih hq c hc
      · simp at hc; rw [hc]; exact h
    · rw [if_neg h] at hq ⊢
      have hqm : IsMap q.1 := by
        obtain ⟨es, e⟩ := hq
        cases hq1 : q.1 with
        | map es' => exact ⟨es', rfl⟩
        | _ => rw [hq1] at e; cases e
      show (hasC (q.1.put (kL (idS b)) (vL b)) (idS c) || hasC M (idS c)) = true
      rw [← hear_came, has_came hqm]
      rcases List.mem_append.1 hc with hc | hc
      · have := ih hqm c hc
        cases h1 : hasC q.1 (idS c) <;> cases h2 : hasC M (idS c) <;> rw [h1, h2] at this <;> simp_all
      · simp at hc; rw [hc]; simp) l (hm l)

/-- unlike chunks of these have unlike sums -/
def Inj (P : ByteArray → Prop) : Prop := ∀ a b, P a → P b → idS a = idS b → a = b

theorem strAt_mok {P : ByteArray → Prop} {M : DU} (h : MOk P M) {id : ByteArray} (hh : hasC M id = true) : P (strAt M id) ∧ idS (strAt M id) = id := by
  obtain ⟨b, h1, h2, h3⟩ := h.at' id hh
  have : strAt M id = b := strAt_eq (h3 _)
  rw [this]; exact ⟨h1, h2⟩

theorem merged_has {M' M A : DU} (h : Merged M' M A (fun _ => false)) (id : ByteArray) : hasC M' id = (hasC M id || hasC A id) := by
  have := h.1 (kL id)
  unfold hasC
  rw [this]; simp
theorem merged_mok {P : ByteArray → Prop} {M' M A : DU} (h : Merged M' M A (fun _ => false)) (ht : Tidy M') (hM : MOk P M) (hA : MOk P A) : MOk P M' := by
  refine ⟨ht, fun id hh => ?_⟩
  rw [merged_has h] at hh
  cases hA' : hasC A id
  · rw [hA', Bool.or_false] at hh
    obtain ⟨b, h1, h2, h3⟩ := hM.at' id hh
    refine ⟨b, h1, h2, fun z => ?_⟩
    rw [h.2 (kL id) z, show Maps.has A (kL id) = false from hA']
    simp only [Bool.false_and, Bool.false_eq_true, if_false]
    exact h3 z
  · obtain ⟨b, h1, h2, h3⟩ := hA.at' id hA'
    refine ⟨b, h1, h2, fun z => ?_⟩
    rw [h.2 (kL id) z, show Maps.has A (kL id) = true from hA']
    simp only [Bool.not_false, Bool.and_self, if_true]
    exact h3 z

theorem put_inv {P : ByteArray → Prop} (hP : ∀ b, P b → b.size ≤ 200) {room : Nat} {fz : Bool} {s : DS} {sg : List (Nat × List ByteArray)} {M : DU} {seg : Nat} (h : LInv P room fz s sg M) (l : List ByteArray) (hl : ∀ b ∈ l, P b)
    (hroom : stotal (sg.map segF) + l.length * 215 ≤ room) :
    ((putO seg (sg.map (·.1)) s M l).1 = 0 ∧ ∃ sg', putZ seg (sg.map (·.1)) s M l = sg'.map (·.1) ∧ stotal (sg'.map segF) ≤ stotal (sg.map segF) + l.length * 215 ∧ lastN (sg'.map (·.1)) ≤ lastN (sg.map (·.1)) + 1 ∧ sg'.length ≤ sg.length + 1 ∧
        ∀ M', Merged M' M (putF M l).1 (fun _ => false) → Tidy M' → lastN (sg'.map (·.1)) < 30 → sg'.length ≤ 800 → LInv P room fz (putO seg (sg.map (·.1)) s M l).2 sg' M' ∧ (∀ id, hasC M id = true → hasC M' id = true) ∧ ∀ b ∈ l, hasC M' (idS b) = true) ∨
      (fz = true ∧ (putO seg (sg.map (·.1)) s M l).1 = 10 ∧ (putO seg (sg.map (·.1)) s M l).2.off = true ∧ ∃ sgb, Crashed P room sgb [] (putO seg (sg.map (·.1)) s M l).2 ∧ ∀ js id, hasC M id = true → hasC (replay (.map []) (sgb.flatMap (cutT js))) id = true) := by
  have hcame := putF_came M l
  have hall := putF_all M l
  have hrep := putF_replay M l
  have hTok : ∀ t ∈ (putF M l).2, TextOk P t := fun t ht => by obtain ⟨b, hb, e⟩ := hcame t ht; exact .inl ⟨b, hl b hb, e⟩
  have hTc : ∀ t ∈ (putF M l).2, ∃ b, t = cameB b := fun t ht => by obtain ⟨b, hb, e⟩ := hcame t ht; exact ⟨b, e⟩
  have hAok : MOk P (putF M l).1 := by rw [hrep]; exact mok_replay _ (mok_empty P) hTok
  have hbig : ∀ M', Merged M' M (putF M l).1 (fun _ => false) → (∀ id, hasC M id = true → hasC M' id = true) ∧ ∀ b ∈ l, hasC M' (idS b) = true := fun M' hm => by
    refine ⟨fun id hid => by rw [merged_has hm, hid]; rfl, fun b hb => ?_⟩
    rw [merged_has hm, Bool.or_comm]; exact hall b hb
  have hmap : IsMap (replay (.map [] : DU) (sg.flatMap (·.2))) := replay_map _ isMap_empty
  by_cases hT : (putF M l).2 = []
  · have hR : putO seg (sg.map (·.1)) s M l = (0, s) := by unfold putO; rw [if_pos hT]
    have hZ : putZ seg (sg.map (·.1)) s M l = sg.map (·.1) := by unfold putZ; rw [if_pos hT]
    rw [hR, hZ]
    refine .inl ⟨rfl, sg, rfl, by omega, by omega, by omega, fun M' hm ht _ _ => ⟨⟨h.on, h.rises, h.pos, h.top, h.texts, merged_mok hm ht h.mok hAok, fun id => ?_, h.len⟩, hbig M' hm⟩⟩
    rw [merged_has hm, hrep, hT, ← h.like id]
    show (hasC M id || hasC (.map []) id) = _
    simp [hasC, Maps.has]
  · have hel : (encRecs (putF M l).2).length ≤ l.length * 215 := by
      have h1 := encRecs_le (putF M l).2 201 (by omega) (fun t ht => text_size hP (hTok t ht))
      have h2 := putF_len M l
      have : (putF M l).2.length * (201 + 14) ≤ l.length * 215 := Nat.mul_le_mul h2 (by omega)
      omega
    have hR : putO seg (sg.map (·.1)) s M l = extendS s (genN blobB (numS seg (sg.map (·.1)) s)) (recsB (putF M l).2) := by unfold putO; rw [if_neg hT]
    have hZ : putZ seg (sg.map (·.1)) s M l = addN (sg.map (·.1)) (numS seg (sg.map (·.1)) s) := by unfold putZ; rw [if_neg hT]
    rw [hR, hZ]
    obtain ⟨sg', e1, e2, e3, e4, e5, e6, e7, e8, e9⟩ := write_step (seg := seg) hP h (putF M l).2 hTok (by omega)
    rcases e9 with ⟨s', r1, r2⟩ | ⟨hf, s', sgb, r1, r2, r3, r4⟩
    · rw [r1]
      refine .inl ⟨rfl, sg', e1, by omega, e5, e8, fun M' hm ht h30 h800 => ⟨⟨r2, e2, e4, h30, e6, merged_mok hm ht h.mok hAok, fun id => ?_, h800⟩, hbig M' hm⟩⟩
      rw [merged_has hm, e3, replay_app, cames_or _ hmap hTc, ← h.like id, ← hrep]
    · rw [r1]
      refine .inr ⟨hf, rfl, r2, sgb, r3, fun js id hid => ?_⟩
      obtain ⟨j, ej⟩ := r4 js
      rw [ej, replay_app]
      refine cames_keep _ hmap (fun t ht => hTc t (List.mem_of_mem_take ht)) id ?_
      rw [← h.like id]; exact hid

theorem del_inv {P : ByteArray → Prop} (hP : ∀ b, P b → b.size ≤ 200) {room : Nat} {fz : Bool} {s : DS} {sg : List (Nat × List ByteArray)} {M : DU} {seg : Nat} (h : LInv P room fz s sg M) (x : ByteArray)
    (hroom : stotal (sg.map segF) + 100 ≤ room) :
    ∃ sg', addN (sg.map (·.1)) (numS seg (sg.map (·.1)) s) = sg'.map (·.1) ∧ stotal (sg'.map segF) ≤ stotal (sg.map segF) + 100 ∧ lastN (sg'.map (·.1)) ≤ lastN (sg.map (·.1)) + 1 ∧ sg'.length ≤ sg.length + 1 ∧
    ((∃ s', extendS s (genN blobB (numS seg (sg.map (·.1)) s)) (recsB [wentB (idS x)]) = (0, s') ∧ (lastN (sg'.map (·.1)) < 30 → sg'.length ≤ 800 → LInv P room fz s' sg' (M.del (kL (idS x))))) ∨
      (fz = true ∧ ∃ s' sgb, extendS s (genN blobB (numS seg (sg.map (·.1)) s)) (recsB [wentB (idS x)]) = (10, s') ∧ s'.off = true ∧ Crashed P room sgb [] s' ∧ ∀ js id, hasC M id = true → id ≠ idS x → hasC (replay (.map []) (sgb.flatMap (cutT js))) id = true)) := by
  have hTok : ∀ t ∈ [wentB (idS x)], TextOk P t := fun t ht => by simp at ht; exact .inr ⟨x, ht⟩
  have hel : (encRecs [wentB (idS x)]).length ≤ 100 := by
    have h1 := encRecs_le [wentB (idS x)] 65 (by omega) (fun t ht => by simp at ht; rw [ht, wentB_size, idS_size]; omega)
    simp only [List.length_cons, List.length_nil] at h1
    omega
  obtain ⟨sg', e1, e2, e3, e4, e5, e6, e7, e8, e9⟩ := write_step (seg := seg) hP h [wentB (idS x)] hTok (by omega)
  refine ⟨sg', e1, by omega, e5, e8, ?_⟩
  rcases e9 with ⟨s', r1, r2⟩ | ⟨hf, s', sgb, r1, r2, r3, r4⟩
  · refine .inl ⟨s', r1, fun h30 h800 => ⟨r2, e2, e4, h30, e6, mok_del h.mok _, fun id => ?_, h800⟩⟩
    rw [e3, replay_app]
    show _ = hasC (hearS _ (wentB (idS x))) id
    rw [← hear_went, has_went, has_went, h.like id]
  · refine .inr ⟨hf, s', sgb, r1, r2, r3, fun js id hid hne => ?_⟩
    obtain ⟨j, ej⟩ := r4 js
    rw [ej, replay_app]
    refine went_keep (fun e => hne e.symm) ?_ j
    rw [← h.like id]; exact hid

theorem comp_inv {P : ByteArray → Prop} (hP : ∀ b, P b → b.size ≤ 200) {room : Nat} {fz : Bool} {s : DS} {sg : List (Nat × List ByteArray)} {M : DU} (h : LInv P room fz s sg M) {L : List ByteArray} (hL : IdsOf M L)
    (hroom : stotal (sg.map segF) + L.length * 215 ≤ room) (hl : lastN (sg.map (·.1)) + 1 < 30) :
    (∃ s', repO (sg.map (·.1)) s (recsB (compT M L)) = (0, s') ∧ LInv P room fz s' [(lastN (sg.map (·.1)) + 1, compT M L)] M ∧ stotal ([(lastN (sg.map (·.1)) + 1, compT M L)].map segF) ≤ L.length * 215) ∨
      (fz = true ∧ ∃ s' sgb ex, repO (sg.map (·.1)) s (recsB (compT M L)) = (10, s') ∧ s'.off = true ∧ Crashed P room sgb ex s' ∧ ∀ js id, hasC M id = true → hasC (replay (.map []) (sgb.flatMap (cutT js))) id = true) := by
  have hTc : ∀ t ∈ compT M L, ∃ b, P b ∧ t = cameB b := fun t ht => by
    obtain ⟨id, hid, rfl⟩ := List.mem_map.1 ht
    exact ⟨_, (strAt_mok h.mok ((hL.mem id).1 hid)).1, rfl⟩
  have hTok : ∀ t ∈ compT M L, TextOk P t := fun t ht => by obtain ⟨b, hb, e⟩ := hTc t ht; exact .inl ⟨b, hb, e⟩
  have hTc' : ∀ t ∈ compT M L, ∃ b, t = cameB b := fun t ht => by obtain ⟨b, hb, e⟩ := hTc t ht; exact ⟨b, e⟩
  have hel : (encRecs (compT M L)).length ≤ L.length * 215 := by
    have h1 := encRecs_le (compT M L) 201 (by omega) (fun t ht => text_size hP (hTok t ht))
    have h2 : (compT M L).length = L.length := by unfold compT; rw [List.length_map]
    rw [h2] at h1
    omega
  have hthere : ∀ (M0 : DU), IsMap M0 → ∀ id, hasC M id = true → hasC (replay M0 (compT M L)) id = true := fun M0 hm id hid => by
    have h1 := cames_there (compT M L) hm hTc' (strAt M id) (List.mem_map.2 ⟨id, (hL.mem id).2 hid, rfl⟩)
    rw [(strAt_mok h.mok hid).2] at h1
    exact h1
  rcases comp_step hP h (compT M L) hTok (by omega) with ⟨s', e, h1⟩ | ⟨hf, s', sgb, ex, e, ho, hc, hjs⟩
  · refine .inl ⟨s', e, ⟨h1, by simp, fun p hp => by simp at hp; rw [hp]; simp only; omega, by simpa [lastN] using hl, fun p hp => by simp at hp; rw [hp]; exact hTok, h.mok, fun id => ?_, by simp⟩, by simpa [stotal, segF] using hel⟩
    have e1 : ([(lastN (sg.map (·.1)) + 1, compT M L)]).flatMap (·.2) = compT M L := by simp
    rw [e1]
    cases hid : hasC M id
    · cases hr : hasC (replay (.map []) (compT M L)) id
      · rfl
      · exfalso
        have hmok := mok_replay (compT M L) (mok_empty P) hTok
        have key : ∀ (T : List ByteArray) (M0 : DU), IsMap M0 → (∀ t ∈ T, ∃ id', hasC M id' = true ∧ t = cameB (strAt M id')) → hasC M0 id = false → hasC (replay M0 T) id = false := by
          intro T
          induction T with
          | nil => intro M0 _ _ h0; exact h0
          | cons t T ih =>
            intro M0 hm ht h0
            obtain ⟨id', hid', rfl⟩ := ht t (List.mem_cons_self ..)
            rw [replay_cons]
            refine ih _ (hear_map hm _) (fun x hx => ht x (List.mem_cons_of_mem _ hx)) ?_
            rw [has_came hm, h0, (strAt_mok h.mok hid').2]
            simp
            intro e
            rw [e, hid] at hid'; cases hid'
        have := key (compT M L) (.map []) isMap_empty (fun t ht => by
          obtain ⟨id', hid', rfl⟩ := List.mem_map.1 ht
          exact ⟨id', (hL.mem id').1 hid', rfl⟩) (by simp [hasC, Maps.has])
        rw [this] at hr; cases hr
    · exact (hthere _ isMap_empty id hid).symm
  · refine .inr ⟨hf, s', sgb, ex, e, ho, hc, fun js id hid => ?_⟩
    rcases hjs js with ej | ⟨i, ej⟩
    · rw [ej, ← h.like id]; exact hid
    · rw [ej, replay_app]
      exact hthere _ (replay_map _ isMap_empty) id hid
end Go.Proofs.YtjimgncefeldbaaGreatDoor
