/-
  Chapter 19 in plain words: what clients ask for, as updates (ahead of its code).
  What a client asks for, in memory: five cells.
  float.Clean, Key, Of, Less, the closure that Sort hands on, and the document's Bits, Key, Of, Clean, Less, Same: what each call answers.
  The document's Bits, Key, Of, Clean, Less and Same: what each call answers.
-/
import Derived.Test.YtmnblpjdiplioaaGreatGOp11
import Derived.Test.YtmnblpjdiplioaaGreatGOp12
import Derived.Test.YtmnblpjdiplioaaGreatGOp05
import Derived.Test.YtmnblpjdiplioaaGreatGOp01
import Derived.Laws.BitsAllLaws
import Derived.Laws.DeepNot64
import Derived.Laws.StandIn
namespace Go.Proofs.YtmnblpjdiplioaaGreat
set_option linter.unusedSimpArgs false
set_option linter.unusedVariables false

/-- what a client asks for: the kind, the name, the value, how long (a float's bits), the bytes -/
structure Opp where
  k : Int
  n : ByteArray
  v : ByteArray
  p : Nat
  b : ByteArray
deriving DecidableEq

/-- are the fields that a kind has not zero? -/
def plainO (o : Opp) : Bool := (decide (o.k = 2 ∨ o.k = 3 ∨ o.k = 4) || decide (o.v = ⟨#[]⟩)) && ((decide (o.k = 1) || decide (o.b = ⟨#[]⟩)) && (decide (o.k = 5) || decide (keyB o.p = keyB 0)))
/-- Check -/
def chkO (o : Opp) : Int :=
  if o.k < 1 ∨ 6 < o.k then 1 else if o.n.size < 1 ∨ 64 < o.n.size then 14
  else if (o.k = 2 ∨ o.k = 3) ∧ (o.v.size < 1 ∨ 64 < o.v.size) then 14 else if o.k = 4 ∧ 256 < o.v.size then 3 else if o.k = 1 ∧ 32768 < o.b.size then 3
  else if plainO o = false then 5 else 0
theorem chkO_ok {o : Opp} (h : chkO o = 0) : 1 ≤ o.k ∧ o.k ≤ 6 ∧ 1 ≤ o.n.size ∧ o.n.size ≤ 64 ∧ ((o.k = 2 ∨ o.k = 3) → 1 ≤ o.v.size ∧ o.v.size ≤ 64) ∧ (o.k = 4 → o.v.size ≤ 256) ∧ (o.k = 1 → o.b.size ≤ 32768) ∧ plainO o = true := by
  unfold chkO at h
  split at h
  · cases h
  split at h
  · cases h
  split at h
  · cases h
  split at h
  · cases h
  split at h
  · cases h
  split at h
  · cases h
  rename_i h1 h2 h3 h4 h5 h6
  refine ⟨by omega, by omega, by omega, by omega, fun hk => ?_, fun hk => ?_, fun hk => ?_, by simpa using h6⟩
  · by_cases hv : o.v.size < 1 ∨ 64 < o.v.size
    · exact absurd ⟨hk, hv⟩ h3
    · omega
  · by_cases hv : 256 < o.v.size
    · exact absurd ⟨hk, hv⟩ h4
    · omega
  · by_cases hv : 32768 < o.b.size
    · exact absurd ⟨hk, hv⟩ h5
    · omega

/-- is a backup of that name there? a tag of that name and value? -/
def thereO (l : List Ft) (o : Opp) : Bool := l.any (fun f => decide (f.k = 1) && decide (f.n = o.n))
def tagO (l : List Ft) (o : Opp) : Bool := l.any (fun f => decide (f.k = 3) && (decide (f.n = o.n) && decide (f.v = o.v)))
theorem thereO_iff {l : List Ft} {o : Opp} : thereO l o = true ↔ ∃ f ∈ l, f.k = 1 ∧ f.n = o.n := by simp [thereO]
theorem tagO_iff {l : List Ft} {o : Opp} : tagO l o = true ↔ ∃ f ∈ l, f.k = 3 ∧ f.n = o.n ∧ f.v = o.v := by simp [tagO]
theorem mem_ofR {k : Int} {n : ByteArray} {l : List Ft} {f : Ft} : f ∈ ofR k n l ↔ f ∈ l ∧ (k = 0 ∨ f.k = k) ∧ f.n = n := by simp [ofR]
theorem thereO_of (l : List Ft) (o : Opp) : thereO l o = decide (0 < (ofR 1 o.n l).length) := by
  rw [Bool.eq_iff_iff, thereO_iff, decide_eq_true_eq, List.length_pos_iff_exists_mem]
  constructor
  · rintro ⟨f, hf, h1, h2⟩; exact ⟨f, mem_ofR.2 ⟨hf, .inr h1, h2⟩⟩
  · rintro ⟨f, hf⟩; obtain ⟨h, h1, h2⟩ := mem_ofR.1 hf; exact ⟨f, h, by omega, h2⟩
theorem tagO_elems {l : List Ft} {o : Opp} {t : List ByteArray} (h : ElemsR (ofR 3 o.n l) t) : tagO l o = t.any (fun x => decide (x = o.v)) := by
  have hm : t.any (fun x => decide (x = o.v)) = true ↔ o.v ∈ t := by simp
  rw [Bool.eq_iff_iff, tagO_iff, hm, h.mem]
  constructor
  · rintro ⟨f, hf, h1, h2, h3⟩; exact ⟨f, mem_ofR.2 ⟨hf, .inr h1, h2⟩, h3⟩
  · rintro ⟨f, hf, h3⟩; obtain ⟨h, h1, h2⟩ := mem_ofR.1 hf; exact ⟨f, h, by omega, h2, h3⟩
theorem nodup_lenA {α : Type} [DecidableEq α] : ∀ {k m : List α}, k.Nodup → (∀ y ∈ k, y ∈ m) → k.length ≤ m.length := by
  intro k
  induction k with
  | nil => intro m _ _; simp
  | cons x r ih =>
    intro m hn hm
    obtain ⟨h1, h2⟩ := List.nodup_cons.1 hn
    have hx : x ∈ m := hm x (by simp)
    have h3 := ih (m := m.erase x) h2 (fun y hy => (List.mem_erase_of_ne (fun e => h1 (by rw [← e]; exact hy))).2 (hm y (by simp [hy])))
    have h4 := List.length_erase_of_mem hx
    have h5 : 0 < m.length := List.length_pos_of_mem hx
    rw [List.length_cons]
    omega
theorem elems_len {l : List Ft} {t : List ByteArray} (h : ElemsR l t) : t.length ≤ l.length := by
  have nd : t.Nodup := List.Pairwise.imp (fun {x y} k e => by subst e; rw [totX.irr] at k; cases k) h.rise
  have hs : ∀ y ∈ t, y ∈ l.map (·.v) := fun y hy => by
    obtain ⟨f, hf, e⟩ := (h.mem y).1 hy
    exact List.mem_map.2 ⟨f, hf, e⟩
  have := nodup_lenA nd hs
  rwa [List.length_map] at this
/-- May, of facts that have t tags of the name -/
def mayO (l : List Ft) (o : Opp) (t : Nat) : Int :=
  if chkO o ≠ 0 then chkO o else if o.k = 1 ∧ thereO l o = true then 8 else if o.k ≠ 1 ∧ thereO l o = false then 7
  else if o.k = 2 ∧ 64 ≤ t ∧ tagO l o = false then 9 else if o.k = 3 ∧ tagO l o = false then 7 else 0
theorem mayO_ok {l : List Ft} {o : Opp} {t : Nat} (h : mayO l o t = 0) : chkO o = 0 ∧ (o.k = 1 → thereO l o = false) ∧ (o.k ≠ 1 → thereO l o = true) ∧ (o.k = 3 → tagO l o = true) := by
  unfold mayO at h
  split at h
  · rename_i h1; exact absurd h h1
  rename_i h1
  split at h
  · cases h
  rename_i h2
  split at h
  · cases h
  rename_i h3
  split at h
  · cases h
  rename_i h4
  split at h
  · cases h
  rename_i h5
  refine ⟨Classical.byContradiction h1, fun hk => ?_, fun hk => ?_, fun hk => ?_⟩
  · cases e : thereO l o with
    | false => rfl
    | true => exact absurd ⟨hk, e⟩ h2
  · cases e : thereO l o with
    | true => rfl
    | false => exact absurd ⟨hk, e⟩ h3
  · cases e : tagO l o with
    | true => rfl
    | false => exact absurd ⟨hk, e⟩ h5

/-- the facts that it takes back -/
def backB (o : Opp) (f : Ft) : Bool := decide (f.n = o.n) && (if o.k = 2 ∨ o.k = 3 then decide (f.k = 3) && decide (f.v = o.v) else if o.k = 4 then decide (f.k = 2) else if o.k = 5 then decide (f.k = 4) else decide (o.k = 6))
def goneO (l : List Ft) (o : Opp) : List Ft := l.filter (backB o)
theorem goneO_tag {l : List Ft} {o : Opp} (h : o.k = 2 ∨ o.k = 3) : goneO l o = (ofR 3 o.n l).filter (fun f => decide (f.v = o.v)) := by
  unfold goneO ofR
  rw [List.filter_filter]
  congr 1
  funext f
  simp only [backB, h, if_true]
  rw [Bool.eq_iff_iff]
  simp only [Bool.and_eq_true, Bool.or_eq_true, decide_eq_true_eq]
  constructor
  · rintro ⟨h1, h2, h3⟩; exact ⟨h3, .inr h2, h1⟩
  · rintro ⟨h1, h2 | h2, h3⟩
    · omega
    · exact ⟨h3, h2, h1⟩
theorem goneO_label {l : List Ft} {o : Opp} (h : o.k = 4) : goneO l o = ofR 2 o.n l := by
  unfold goneO ofR
  congr 1
  funext f
  simp [backB, h, Bool.and_comm]
theorem goneO_keep {l : List Ft} {o : Opp} (h : o.k = 5) : goneO l o = ofR 4 o.n l := by
  unfold goneO ofR
  congr 1
  funext f
  simp [backB, h, Bool.and_comm]
theorem goneO_all {l : List Ft} {o : Opp} (h : o.k = 6) : goneO l o = ofR 0 o.n l := by
  unfold goneO ofR
  congr 1
  funext f
  simp [backB, h]
theorem goneO_none {l : List Ft} {o : Opp} (h : o.k = 1) : goneO l o = [] := by
  unfold goneO
  rw [List.filter_eq_nil_iff]
  intro f _
  simp [backB, h]
/-- what it says -/
def saysO (o : Opp) (d : Dt) (s : St) (m : ByteArray) : List Ft :=
  if o.k = 1 then [⟨d, s, 1, o.n, m⟩] else if o.k = 2 then [⟨d, s, 3, o.n, o.v⟩] else if o.k = 4 then [⟨d, s, 2, o.n, o.v⟩] else if o.k = 5 then [⟨d, s, 4, o.n, putS o.p⟩] else []
theorem saysO_all {o : Opp} {d : Dt} {s : St} {m : ByteArray} : ∀ f ∈ saysO o d s m, f.d = d ∧ f.s = s ∧ f.n = o.n := by
  intro f hf
  unfold saysO at hf
  split at hf
  · obtain rfl := List.mem_singleton.1 hf; exact ⟨rfl, rfl, rfl⟩
  split at hf
  · obtain rfl := List.mem_singleton.1 hf; exact ⟨rfl, rfl, rfl⟩
  split at hf
  · obtain rfl := List.mem_singleton.1 hf; exact ⟨rfl, rfl, rfl⟩
  split at hf
  · obtain rfl := List.mem_singleton.1 hf; exact ⟨rfl, rfl, rfl⟩
  · simp at hf
theorem saysO_len (o : Opp) (d : Dt) (s : St) (m : ByteArray) : (saysO o d s m).length ≤ 1 := by
  unfold saysO
  split
  · simp
  split
  · simp
  split
  · simp
  split
  · simp
  · simp
theorem saysO_sort (o : Opp) (d : Dt) (s : St) (m : ByteArray) : sortF (saysO o d s m) = saysO o d s m := by
  have h := saysO_len o d s m
  generalize saysO o d s m = l at h
  match l, h with
  | [], _ => rfl
  | [x], _ => rfl
  | _ :: _ :: _, h => simp at h
/-- the names that it takes back -/
def takesO (l : List Ft) (o : Opp) (d : Dt) : List Dt := (sortD ((goneO l o).map (·.d))).filter (fun z => decide (z ≠ d))
theorem mem_takesO {l : List Ft} {o : Opp} {d z : Dt} : z ∈ takesO l o d ↔ z ≠ d ∧ ∃ f ∈ l, backB o f = true ∧ f.d = z := by
  unfold takesO goneO
  simp only [List.mem_filter, mem_sortD, List.mem_map, decide_eq_true_eq]
  constructor
  · rintro ⟨⟨f, ⟨h1, h2⟩, h3⟩, h4⟩; exact ⟨h4, f, h1, h2, h3⟩
  · rintro ⟨h4, f, h1, h2, h3⟩; exact ⟨⟨f, ⟨h1, h2⟩, h3⟩, h4⟩
theorem takesO_sub {l : List Ft} {o : Opp} {d : Dt} : ∀ z ∈ takesO l o d, z ∈ sortD (l.map (·.d)) := fun z hz => by
  obtain ⟨-, f, h1, -, h3⟩ := mem_takesO.1 hz
  exact mem_sortD.2 (List.mem_map.2 ⟨f, h1, h3⟩)
theorem takesO_len (l : List Ft) (o : Opp) (d : Dt) : (takesO l o d).length ≤ l.length := by
  refine Nat.le_trans (List.length_filter_le _ _) (Nat.le_trans (sortD_len _) ?_)
  rw [List.length_map]
  exact List.length_filter_le _ _
theorem rise_takesO (l : List Ft) (o : Opp) (d : Dt) : Rise (takesO l o d) := List.Pairwise.filter _ (rise_sortD _)
/-- the update, and Make -/
def makeE (l : List Ft) (o : Opp) (d : Dt) (s : St) (m : ByteArray) : Dl := ⟨d, s, saysO o d s m, takesO l o d⟩
def makeO (l : List Ft) (o : Opp) (t : Nat) (d : Dt) (s : St) (m : ByteArray) : Dl × Int :=
  if mayO l o t ≠ 0 then (zDl, mayO l o t) else if chkDm (makeE l o d s m) ≠ 0 then (zDl, chkDm (makeE l o d s m)) else (makeE l o d s m, 0)
theorem makeO_ok {l : List Ft} {o : Opp} {t : Nat} {d : Dt} {s : St} {m : ByteArray} (h : (makeO l o t d s m).2 = 0) : mayO l o t = 0 ∧ chkDm (makeE l o d s m) = 0 ∧ makeO l o t d s m = (makeE l o d s m, 0) := by
  unfold makeO at h ⊢
  split at h
  · rename_i h1; exact absurd h h1
  rename_i h1
  split at h
  · rename_i h2; exact absurd h h2
  rename_i h2
  exact ⟨Classical.byContradiction h1, Classical.byContradiction h2, by rw [if_neg h1, if_neg h2]⟩
theorem makeO_no {l : List Ft} {o : Opp} {t : Nat} {d : Dt} {s : St} {m : ByteArray} (h : (makeO l o t d s m).2 ≠ 0) : (makeO l o t d s m).1 = zDl := by
  unfold makeO at h ⊢
  split
  · rfl
  · split
    · rfl
    · rename_i h1 h2; rw [if_neg h1, if_neg h2] at h; exact absurd rfl h

/-! what becomes of it -/
theorem sortD_dup {l : List Dt} (h : ¬ l.Nodup) : (sortD l).length < l.length := by
  suffices ∀ (l acc : List Dt), Rise acc → (¬ l.Nodup ∨ ∃ x ∈ l, x ∈ acc) → (l.foldl (fun acc d => insD d acc) acc).length < acc.length + l.length by
    simpa [sortD] using this l [] .nil (.inl h)
  clear h
  intro l
  induction l with
  | nil => intro acc _ h; simp at h
  | cons d r ih =>
    intro acc hr h
    have hle : ∀ (l acc : List Dt), (l.foldl (fun acc d => insD d acc) acc).length ≤ acc.length + l.length := by
      intro l
      induction l with
      | nil => simp
      | cons d r ih => intro acc; have h1 := ih (insD d acc); have h2 := insD_len d acc; simp only [List.foldl_cons, List.length_cons]; omega
    rw [List.foldl_cons, List.length_cons]
    by_cases hd : d ∈ acc
    · rw [insD_in hr hd]
      have := hle r acc
      omega
    · have h1 := insD_len d acc
      have h2 : ¬ r.Nodup ∨ ∃ x ∈ r, x ∈ insD d acc := by
        rcases h with h | ⟨x, hx, hxa⟩
        · rw [List.nodup_cons] at h
          by_cases hdr : d ∈ r
          · exact .inr ⟨d, hdr, mem_insD.2 (.inl rfl)⟩
          · exact .inl fun hn => h ⟨hdr, hn⟩
        · rcases List.mem_cons.1 hx with rfl | hx
          · exact absurd hxa hd
          · exact .inr ⟨x, hx, mem_insD.2 (.inr hxa)⟩
      have := ih (insD d acc) (rise_insD hr) h2
      omega
/-- facts whose names are all unlike -/
def Unlike (l : List Ft) : Prop := ∀ f ∈ l, ∀ g ∈ l, f.d = g.d → f = g
theorem unlike_of {l : List Ft} (h : (sortD (l.map (·.d))).length = l.length) : Unlike l := by
  have hn : (l.map (·.d)).Nodup := Classical.byContradiction fun hn => by
    have := sortD_dup hn
    rw [List.length_map] at this
    omega
  intro f hf g hg e
  obtain ⟨i, hi, rfl⟩ := List.mem_iff_getElem.1 hf
  obtain ⟨j, hj, rfl⟩ := List.mem_iff_getElem.1 hg
  have hp := List.pairwise_iff_getElem.1 hn
  rcases Nat.lt_trichotomy i j with h1 | h1 | h1
  · exact absurd (by rw [List.getElem_map, List.getElem_map]; exact e) (hp i j (by simpa using hi) (by simpa using hj) h1)
  · subst h1; rfl
  · exact absurd (by rw [List.getElem_map, List.getElem_map]; exact e.symm) (hp j i (by simpa using hj) (by simpa using hi) h1)
/-- a context of a cloud alone -/
theorem hasC_cloud {L : List Dt} {z : Dt} : hasC ⟨zV, L⟩ z = true ↔ chkD z = 0 ∧ z ∈ L := by
  rw [hasC_iff]
  have h0 : zV.getD z.1.toNat 0 = 0 := by
    unfold zV
    rw [List.getD_eq_getElem?_getD, List.getElem?_replicate]
    split <;> rfl
  constructor
  · rintro ⟨h, k | k⟩
    · have h1 := chkD_ok h
      have : (⟨zV, L⟩ : Cx).v.getD z.1.toNat 0 = 0 := h0
      omega
    · exact ⟨h, k⟩
  · rintro ⟨h, k⟩; exact ⟨h, .inr k⟩
/-- behind the update: what it says, and what it did not take back -/
theorem does_mem {l : List Ft} {o : Opp} {t : Nat} {d : Dt} {s : St} {m : ByteArray} {c : Cx} (hk : (makeO l o t d s m).2 = 0) (hl : chkFs rdM l = 0) (hu : Unlike l) (hd : d ∉ sortD (l.map (·.d))) (hc : OfK (makeE l o d s m) c) (f : Ft) :
    f ∈ joinK l ⟨zV, sortD (l.map (·.d))⟩ (saysO o d s m) c ↔ f ∈ saysO o d s m ∨ (f ∈ l ∧ backB o f = false) := by
  obtain ⟨-, hchk, -⟩ := makeO_ok hk
  have hcd : ∀ g ∈ l, chkD g.d = 0 := fun g hg => (chkF_ok ((chkFs_ok hl).1 g hg)).1
  have hld : ∀ g ∈ l, g.d ∈ sortD (l.map (·.d)) := fun g hg => mem_sortD.2 (List.mem_map.2 ⟨g, hg, rfl⟩)
  have hne : ∀ g ∈ l, g.d ≠ d := fun g hg e => hd (by rw [← e]; exact hld g hg)
  rw [mem_joinK]
  constructor
  · rintro (⟨h1, h2⟩ | ⟨h1, -⟩)
    · rcases h2 with h2 | h2
      · exact .inl h2
      · refine .inr ⟨h1, ?_⟩
        cases hg : backB o f with
        | false => rfl
        | true =>
          rw [hc.has] at h2
          have hm : f.d ∈ (makeE l o d s m).g := mem_takesO.2 ⟨hne f h1, f, h1, hg, rfl⟩
          simp [hcd f h1, hm] at h2
    · exact .inl h1
  · rintro (h1 | ⟨h1, h2⟩)
    · refine .inr ⟨h1, ?_⟩
      cases hh : hasC ⟨zV, sortD (l.map (·.d))⟩ f.d with
      | false => rfl
      | true =>
        have := (hasC_cloud.1 hh).2
        rw [(saysO_all f h1).1] at this
        exact absurd this hd
    · refine .inl ⟨h1, .inr ?_⟩
      rw [hc.has]
      have hm : f.d ∉ (makeE l o d s m).g := fun hm => by
        obtain ⟨-, g, hg, hgg, hgd⟩ := mem_takesO.1 hm
        have := hu g hg f h1 hgd
        rw [← this, hgg] at h2
        cases h2
      have hn : f.d ≠ (makeE l o d s m).d := hne f h1
      simp [hm, hn]
/-- a list that rises and has one alone -/
theorem rise_one {J : List Ft} (h : RiseF J) {x : Ft} (hx : x ∈ J) (ho : ∀ y ∈ J, y = x) : J = [x] := by
  cases J with
  | nil => simp at hx
  | cons a r =>
    have ha := ho a (by simp)
    subst ha
    cases r with
    | nil => rfl
    | cons b r =>
      have hb := ho b (by simp)
      subst hb
      have h1 := (List.pairwise_cons.1 h).1 b (by simp)
      rw [ltF_irr] at h1
      cases h1
theorem rise_ofR {k : Int} {n : ByteArray} {J : List Ft} (h : RiseF J) : RiseF (ofR k n J) := List.Pairwise.filter _ h
section does
variable {l J : List Ft} {o : Opp} {t : Nat} {d : Dt} {s : St} {m : ByteArray}
/-- all but a deletion leave the backup -/
theorem does_there (hm : mayO l o t = 0) (hJ : ∀ f, f ∈ J ↔ f ∈ saysO o d s m ∨ (f ∈ l ∧ backB o f = false)) : decide (0 < (ofR 1 o.n J).length) = decide (o.k ≠ 6) := by
  obtain ⟨hc, h1, h2, -⟩ := mayO_ok hm
  obtain ⟨k1, k6, -⟩ := chkO_ok hc
  rw [decide_eq_decide, List.length_pos_iff_exists_mem]
  constructor
  · rintro ⟨f, hf⟩ hk
    obtain ⟨hfJ, -, hn⟩ := mem_ofR.1 hf
    rcases (hJ f).1 hfJ with h | ⟨-, h⟩
    · unfold saysO at h
      rw [if_neg (by omega), if_neg (by omega), if_neg (by omega), if_neg (by omega)] at h
      simp at h
    · simp [backB, hk, hn] at h
  · intro hk
    by_cases e1 : o.k = 1
    · refine ⟨⟨d, s, 1, o.n, m⟩, mem_ofR.2 ⟨(hJ _).2 (.inl ?_), .inr rfl, rfl⟩⟩
      unfold saysO
      rw [if_pos e1]; simp
    · obtain ⟨f, hf, hfk, hfn⟩ := thereO_iff.1 (h2 e1)
      refine ⟨f, mem_ofR.2 ⟨(hJ _).2 (.inr ⟨hf, ?_⟩), .inr hfk, hfn⟩⟩
      unfold backB
      split
      · simp [hfk]
      split
      · simp [hfk]
      split
      · simp [hfk]
      · simp [hk]
/-- a tag is there; or is not -/
theorem does_tag (hJ : ∀ f, f ∈ J ↔ f ∈ saysO o d s m ∨ (f ∈ l ∧ backB o f = false)) (hk : o.k = 2) : tagO J o = true := by
  refine tagO_iff.2 ⟨⟨d, s, 3, o.n, o.v⟩, (hJ _).2 (.inl ?_), rfl, rfl, rfl⟩
  unfold saysO
  rw [if_neg (by omega), if_pos hk]; simp
theorem does_untag (hJ : ∀ f, f ∈ J ↔ f ∈ saysO o d s m ∨ (f ∈ l ∧ backB o f = false)) (hk : o.k = 3) : tagO J o = false := by
  cases e : tagO J o with
  | false => rfl
  | true =>
    obtain ⟨f, hf, h1, h2, h3⟩ := tagO_iff.1 e
    rcases (hJ f).1 hf with h | ⟨-, h⟩
    · unfold saysO at h
      rw [if_neg (by omega), if_neg (by omega), if_neg (by omega), if_neg (by omega)] at h
      simp at h
    · simp [backB, hk, h1, h2, h3] at h
/-- a label is the one -/
theorem does_label (hr : RiseF J) (hJ : ∀ f, f ∈ J ↔ f ∈ saysO o d s m ∨ (f ∈ l ∧ backB o f = false)) (hk : o.k = 4) : ofR 2 o.n J = [⟨d, s, 2, o.n, o.v⟩] := by
  have hs : saysO o d s m = [⟨d, s, 2, o.n, o.v⟩] := by unfold saysO; rw [if_neg (by omega), if_neg (by omega), if_pos hk]
  refine rise_one (rise_ofR hr) (mem_ofR.2 ⟨(hJ _).2 (.inl (by rw [hs]; simp)), .inr rfl, rfl⟩) fun f hf => ?_
  obtain ⟨hfJ, h1, h2⟩ := mem_ofR.1 hf
  rcases (hJ f).1 hfJ with h | ⟨-, h⟩
  · rw [hs] at h; exact List.mem_singleton.1 h
  · have h1 : f.k = 2 := by omega
    simp [backB, hk, h1, h2] at h
/-- how long it is kept is the one -/
theorem does_keep (hr : RiseF J) (hJ : ∀ f, f ∈ J ↔ f ∈ saysO o d s m ∨ (f ∈ l ∧ backB o f = false)) (hk : o.k = 5) : ofR 4 o.n J = [⟨d, s, 4, o.n, putS o.p⟩] := by
  have hs : saysO o d s m = [⟨d, s, 4, o.n, putS o.p⟩] := by unfold saysO; rw [if_neg (by omega), if_neg (by omega), if_neg (by omega), if_pos hk]
  refine rise_one (rise_ofR hr) (mem_ofR.2 ⟨(hJ _).2 (.inl (by rw [hs]; simp)), .inr rfl, rfl⟩) fun f hf => ?_
  obtain ⟨hfJ, h1, h2⟩ := mem_ofR.1 hf
  rcases (hJ f).1 hfJ with h | ⟨-, h⟩
  · rw [hs] at h; exact List.mem_singleton.1 h
  · have h1 : f.k = 4 := by omega
    simp [backB, hk, h1, h2] at h
end does
end Go.Proofs.YtmnblpjdiplioaaGreat

namespace Go.Proofs.YtmnblpjdiplioaaGreat
set_option linter.unusedSimpArgs false
set_option linter.unusedVariables false
set_option maxRecDepth 100000
open Go.RowKit Go.Sort

def opc (o : Opp) : Array Value := #[.int .i64 o.k, .string o.n, .string o.v, .float .f64 o.p, .string o.b]
theorem opSize : (Tryz.prog.info? 25).map (·.size) = some 5 := by kernel_rfl
theorem infoO (o : Opp) : (Tryz.prog.info? 25).map (·.size) = some (opc o).size := by rw [opSize]; rfl
theorem op_one (o : Opp) : (opc o).all (·.oneCell') = true := by simp [opc, Value.oneCell']
/-- its block -/
abbrev OBlk (w : World) (b : Nat) (o : Opp) : Prop := Blk w b 25 (opc o)
end Go.Proofs.YtmnblpjdiplioaaGreat

namespace Go.Proofs.YtmnblpjdiplioaaGreat
open Go.RowKit

theorem fbits (b : Nat) (w : World) : (callFunc 75 #[.float .f64 b]).run Tryz.prog w = .ok (.value (.int .u64 b)) w :=
  run_callFunc_extern (P := Tryz.prog) (e := Extern.MathFloatBits.float64bits) Tryz.func75 (by kernel_rfl) (by kernel_rfl) (by kernel_rfl) (by kernel_rfl) #[.float .f64 b] w
theorem ffrom (n : Nat) (w : World) : (callFunc 101 #[.int .u64 n]).run Tryz.prog w = .ok (.value (.float .f64 n)) w :=
  run_callFunc_extern (P := Tryz.prog) (e := Extern.MathFloatBits.float64frombits) Tryz.func101 (by kernel_rfl) (by kernel_rfl) (by kernel_rfl) (by kernel_rfl) #[.int .u64 n] w
theorem ffromN : ∀ w : World, (callFunc 101 #[.int .u64 9221120237041090561]).run Tryz.prog w = .ok (.value (.float .f64 9221120237041090561)) w := ffrom 9221120237041090561
theorem fneq (b : Nat) : (FloatKind.f64.format.order b b != some Ordering.eq) = isNb b := by
  have h : (FloatKind.f64.format.order b b == some Ordering.eq) = !isNb b := ord_self b
  rw [bne, h]; simp
theorem feql (b : Nat) : (FloatKind.f64.format.order b b == some Ordering.eq) = !isNb b := ord_self b

attribute [local go_sem] fbits ffrom ffromN fneq feql

theorem and_low (c : Nat) (h : c < 9223372036854775808) : bits .and .u64 (c : Int) 9223372036854775808 = 0 := by
  have h1 := u64_and_nat c 9223372036854775808 (by omega) (by omega)
  have h2 : c &&& 9223372036854775808 = 0 := by
    have e : c.testBit 63 = false := Nat.testBit_lt_two_pow (by omega)
    apply Nat.eq_of_testBit_eq
    intro i
    rw [Nat.testBit_and, show 9223372036854775808 = 2 ^ 63 by decide, Nat.testBit_two_pow, Nat.zero_testBit]
    by_cases hi : 63 = i
    · subst hi; rw [e]; rfl
    · simp [hi]
  rw [h2] at h1
  exact h1
theorem and_high (c : Nat) (h : 9223372036854775808 ≤ c) (h2 : c < 18446744073709551616) : bits .and .u64 (c : Int) 9223372036854775808 = 9223372036854775808 := by
  have h1 := u64_and_nat c 9223372036854775808 (by omega) (by omega)
  have h2 : c &&& 9223372036854775808 = 9223372036854775808 := by
    have e : c.testBit 63 = true := by
      rw [Nat.testBit_eq_decide_div_mod_eq]; simp; omega
    apply Nat.eq_of_testBit_eq
    intro i
    rw [Nat.testBit_and, show 9223372036854775808 = 2 ^ 63 by decide, Nat.testBit_two_pow]
    by_cases hi : 63 = i
    · subst hi; rw [e]; rfl
    · simp [hi]
  rw [h2] at h1
  exact h1
theorem or_low (c : Nat) (h : c < 9223372036854775808) : bits .or .u64 (c : Int) 9223372036854775808 = ((c + 9223372036854775808 : Nat) : Int) := by
  have h1 := u64_or_nat c 9223372036854775808 (by omega) (by omega)
  have h2 : c ||| 9223372036854775808 = c + 9223372036854775808 := by
    have e := Nat.two_pow_add_eq_or_of_lt (i := 63) (b := c) (by omega) 1
    rw [Nat.mul_one, show 2 ^ 63 = 9223372036854775808 by decide, Nat.or_comm] at e
    omega
  rw [h2] at h1
  exact h1
theorem not_u64 (c : Nat) (h : c < 18446744073709551616) : bits .xor .u64 IntKind.u64.max (c : Int) = ((18446744073709551615 - c : Nat) : Int) := by
  show IntKind.u64.wrap ((BitVec.ofInt 64 IntKind.u64.max ^^^ BitVec.ofInt 64 (c : Int)).toNat : Int) = _
  have h1 : BitVec.ofInt 64 IntKind.u64.max = BitVec.allOnes 64 := by decide
  rw [h1, BitVec.allOnes_xor, BitVec.toNat_not, ofInt_u64 c h]
  simp [IntKind.wrap, IntKind.bits, IntKind.signed]
  omega

set_option maxHeartbeats 1000000 in
theorem flCleanC (b : Nat) (w : World) : Calls Tryz.prog 76 #[.float .f64 b] w fun e w' => e = .returned (.float .f64 (cln b)) ∧ w = w' := by
  cases h : isNb b
  · rw [cln_no h]
    go_enter Tryz.func76, Tryz.ntmps76
    go_wp2
    go_ret
    exact ⟨rfl, rfl⟩
  · rw [cln_of h]
    go_enter Tryz.func76, Tryz.ntmps76
    go_wp2
    go_ret
    exact ⟨rfl, rfl⟩

set_option maxHeartbeats 1000000 in
theorem flKeyC (b : Nat) (hb : b < 18446744073709551616) (w : World) : Calls Tryz.prog 49 #[.float .f64 b] w fun e w' => e = .returned (.int .u64 (keyB b : Nat)) ∧ w = w' := by
  have hlt := cln_lt hb
  have hk : keyB b = turnK (cln b) := by unfold keyB; rfl
  rw [hk]
  generalize hc : cln b = c at hlt
  have HC := Lib.hid hc
  clear hc hk
  by_cases h : c < 9223372036854775808
  · have e1 : turnK c = c + 9223372036854775808 := if_pos h
    have e2 := and_low c h
    have e3 := or_low c h
    rw [e1]
    clear e1
    generalize c + 9223372036854775808 = z at e3 ⊢
    go_enter Tryz.func49, Tryz.ntmps49
    go_wp2_with fail
    refine (flCleanC b _).mono ?_
    rintro e w1 ⟨rfl, rfl⟩
    rw [HC.out]
    go_wp2
    go_ret
    exact ⟨rfl, rfl⟩
  · have e1 : turnK c = 18446744073709551615 - c := if_neg h
    have e2 := and_high c (by omega) hlt
    have e3 := not_u64 c hlt
    rw [e1]
    clear e1
    generalize 18446744073709551615 - c = z at e3 ⊢
    go_enter Tryz.func49, Tryz.ntmps49
    go_wp2_with fail
    refine (flCleanC b _).mono ?_
    rintro e w1 ⟨rfl, rfl⟩
    rw [HC.out]
    go_wp2
    go_ret
    exact ⟨rfl, rfl⟩

end Go.Proofs.YtmnblpjdiplioaaGreat

namespace Go.Proofs.YtmnblpjdiplioaaGreat
open Go.RowKit

attribute [local go_sem] fbits ffrom ffromN fneq feql

set_option maxHeartbeats 1000000 in
theorem bitsR (b : Nat) (w : World) : Calls Tryz.prog 77 #[.float .f64 b] w fun e w' => e = .returned (.int .u64 (cln b : Nat)) ∧ w = w' := by
  cases h : isNb b
  · rw [cln_no h]
    go_enter Tryz.func77, Tryz.ntmps77
    go_wp2
    go_ret
    exact ⟨rfl, rfl⟩
  · rw [cln_of h]
    go_enter Tryz.func77, Tryz.ntmps77
    go_wp2
    go_ret
    exact ⟨rfl, rfl⟩

set_option maxHeartbeats 1000000 in
theorem flKeyR (b : Nat) (hb : b < 18446744073709551616) (w : World) : Calls Tryz.prog 50 #[.float .f64 b] w fun e w' => e = .returned (.int .u64 (keyB b : Nat)) ∧ w = w' := by
  have hlt := cln_lt hb
  have hk : keyB b = turnK (cln b) := by unfold keyB; rfl
  rw [hk]
  have hbt := fun W => bitsR b W
  clear hk
  generalize cln b = c at hlt hbt ⊢
  by_cases h : c < 9223372036854775808
  · have e1 : turnK c = c + 9223372036854775808 := if_pos h
    have e2 : decide ((c : Int) < 9223372036854775808) = true := by simp; omega
    have e3 : IntKind.u64.wrap ((c : Int) + 9223372036854775808) = ((c + 9223372036854775808 : Nat) : Int) := by simp [IntKind.wrap, IntKind.bits, IntKind.signed]; omega
    rw [e1]
    clear e1 h hlt hb
    generalize c + 9223372036854775808 = z at e3 ⊢
    go_enter Tryz.func50, Tryz.ntmps50
    go_wp2_with fail
    refine (hbt _).mono ?_
    rintro e w1 ⟨rfl, rfl⟩
    go_wp2
    go_ret
    exact ⟨rfl, rfl⟩
  · have e1 : turnK c = 18446744073709551615 - c := if_neg h
    have e2 : ((c : Int) < 9223372036854775808) = False := by simp; omega
    have e3 := not_u64 c hlt
    rw [e1]
    clear e1 h hlt hb
    generalize 18446744073709551615 - c = z at e3 ⊢
    go_enter Tryz.func50, Tryz.ntmps50
    go_wp2_with fail
    refine (hbt _).mono ?_
    rintro e w1 ⟨rfl, rfl⟩
    go_wp2
    go_ret
    exact ⟨rfl, rfl⟩

end Go.Proofs.YtmnblpjdiplioaaGreat
