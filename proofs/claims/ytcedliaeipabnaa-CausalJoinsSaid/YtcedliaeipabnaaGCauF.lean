/-
  How a context is made clean, and what lacks is listed, step by step. Nothing of the program.
  The chapter's example of contexts, plain. Nothing of the program.
  The names of a context that a vector does not have, in their order. Nothing of the program.
-/
import Derived.Test.YtcedliaeipabnaaCauPlain
namespace Go.Proofs.Ytcedliaeipabnaa

/-! the vector as great as can be -/
structure TopAt (c : Cx) (i : Nat) (x : Int) : Prop where
  ok : okN x
  all : ∀ n : Int, 1 ≤ n → n ≤ x → hasC c ((i : Int), n) = true
  no : hasC c ((i : Int), x + 1) = false
/-- on the way there -/
structure TopTo (c : Cx) (i : Nat) (x : Int) : Prop where
  ok : okN x
  all : ∀ n : Int, 1 ≤ n → n ≤ x → hasC c ((i : Int), n) = true
theorem TopTo.start (c : Cx) {i : Nat} (hi : i < 16) : TopTo c i (max 0 (min (c.v.getD i 0) 1099511627776)) := by
  generalize hx : c.v.getD i 0 = x
  refine ⟨by unfold okN; omega, fun n h1 h2 => ?_⟩
  rw [hasC_iff]
  refine ⟨chkD_dot hi h1 (by omega), .inl ?_⟩
  simp only [Int.toNat_natCast, hx]
  omega
theorem TopTo.more {c : Cx} {i : Nat} {x : Int} (h : TopTo c i x) (hn : hasC c ((i : Int), x + 1) = true) : TopTo c i (x + 1) := by
  have h1 := chkD_ok (hasC_iff.1 hn).1
  have h2 := h.ok
  unfold okN at h2
  refine ⟨by unfold okN; simp only at h1; omega, fun n h3 h4 => ?_⟩
  by_cases e : n = x + 1
  · rw [e]; exact hn
  · exact h.all n h3 (by omega)
theorem TopTo.less {c : Cx} {i : Nat} {x : Int} (hn : hasC c ((i : Int), x + 1) = true) : x + 1 ≤ 1099511627776 := (chkD_ok (hasC_iff.1 hn).1).2.2.2
theorem TopTo.done {c : Cx} {i : Nat} {x : Int} (h : TopTo c i x) (hn : hasC c ((i : Int), x + 1) = false) : TopAt c i x := ⟨h.ok, h.all, hn⟩
theorem TopAt.same {c : Cx} {i : Nat} {x y : Int} (hx : TopAt c i x) (hy : TopAt c i y) : x = y := by
  have h1 := hx.ok
  have h2 := hy.ok
  unfold okN at h1 h2
  refine Int.le_antisymm (Int.not_lt.1 fun h => ?_) (Int.not_lt.1 fun h => ?_)
  · have := hx.all (y + 1) (by omega) (by omega)
    rw [hy.no] at this
    cases this
  · have := hy.all (x + 1) (by omega) (by omega)
    rw [hx.no] at this
    cases this
/-- what is had stands at or below the top, or in the cloud above it -/
theorem TopAt.cover {c : Cx} {d : Dt} {x : Int} (hd : hasC c d = true) (h : TopAt c d.1.toNat x) (hx : x < d.2) : d ∈ c.l := by
  obtain ⟨h1, h2 | h2⟩ := hasC_iff.1 hd
  · exfalso
    have h3 := chkD_ok h1
    have h4 := h.ok
    unfold okN at h4
    have h5 := h.no
    rw [hasC_no] at h5
    refine h5 ⟨chkD_dot (by omega) (by omega) (by omega), .inl ?_⟩
    simp only [Int.toNat_natCast]
    omega
  · exact h2

/-- beyond the vector: what stays of a cloud -/
def beyond (v : Vc) (d : Dt) : Bool := decide (chkD d = 0) && !hasV v d
theorem beyond_iff {v : Vc} {d : Dt} : beyond v d = true ↔ chkD d = 0 ∧ v.getD d.1.toNat 0 < d.2 := by
  unfold beyond hasV
  by_cases h : chkD d = 0 <;> simp [h]
theorem cleanOf_top {c : Cx} {v : Vc} {m : List Dt} (hl : v.length = 16) (ht : ∀ i : Nat, i < 16 → TopAt c i (v.getD i 0)) (hr : Rise m) (hm : ∀ d, d ∈ m ↔ d ∈ c.l ∧ beyond v d = true) : CleanOf c ⟨v, m⟩ := by
  have hhas : ∀ d, hasC ⟨v, m⟩ d = hasC c d := by
    intro d
    rw [Bool.eq_iff_iff]
    constructor
    · intro h
      obtain ⟨h1, h2 | h2⟩ := hasC_iff.1 h
      · have h3 := chkD_ok h1
        have h4 := (ht d.1.toNat (by omega)).all d.2 (by omega) h2
        have e : ((d.1.toNat : Int), d.2) = d := by ext <;> simp <;> omega
        rwa [e] at h4
      · exact hasC_iff.2 ⟨h1, .inr ((hm d).1 h2).1⟩
    · intro h
      have h1 := (hasC_iff.1 h).1
      have h3 := chkD_ok h1
      refine hasC_iff.2 ⟨h1, ?_⟩
      by_cases hx : d.2 ≤ v.getD d.1.toNat 0
      · exact .inl hx
      · have hx' : v.getD d.1.toNat 0 < d.2 := by omega
        exact .inr ((hm d).2 ⟨TopAt.cover h (ht d.1.toNat (by omega)) hx', beyond_iff.2 ⟨h1, hx'⟩⟩)
  refine ⟨⟨hl, fun i hi => (ht i hi).ok, fun i hi => ?_, hr, fun d hd => beyond_iff.1 ((hm d).1 hd).2⟩, hhas⟩
  rw [hhas]
  exact (ht i hi).no
theorem rise_filter {m : List Dt} (h : Rise m) (p : Dt → Bool) : Rise (m.filter p) := List.Pairwise.sublist List.filter_sublist h
theorem cleanOf_filter {c : Cx} {v : Vc} (hl : v.length = 16) (ht : ∀ i : Nat, i < 16 → TopAt c i (v.getD i 0)) : CleanOf c ⟨v, (sortD c.l).filter (beyond v)⟩ :=
  cleanOf_top hl ht (rise_filter (rise_sortD _) _) fun d => by rw [List.mem_filter, mem_sortD]
theorem filter_take_succ {l : List Dt} (p : Dt → Bool) {k : Nat} {d : Dt} (hd : l[k]? = some d) : (l.take (k + 1)).filter p = (l.take k).filter p ++ (if p d = true then [d] else []) := by
  obtain ⟨hk, rfl⟩ := List.getElem?_eq_some_iff.1 hd
  rw [List.take_succ_eq_append_getElem hk, List.filter_append]
  congr 1
  by_cases h : p l[k] = true <;> simp [h]

/-- a context that is clean, told by a comparison with what is made of it -/
theorem clean_iff {c o : Cx} (h : CleanOf c o) : (c.v = o.v ∧ c.l = o.l) ↔ IsClean c := by
  constructor
  · rintro ⟨h1, h2⟩
    have e : c = o := by
      obtain ⟨cv, cl⟩ := c
      obtain ⟨ov, ol⟩ := o
      simp only at h1 h2
      rw [h1, h2]
    rw [e]
    exact h.clean
  · intro hc
    have e : c = o := (CleanOf.self hc).same h
    rw [← e]
    exact ⟨rfl, rfl⟩

/-! what lacks, listed -/
/-- of the names that P tells -/
structure MissIn (a b : Cx) (P : Dt → Prop) (m : List Dt) : Prop where
  rise : Rise m
  len : m.length ≤ 4096
  mem : ∀ d ∈ m, Lacks a b d ∧ P d
  rest : ∀ d, Lacks a b d → P d → d ∉ m → m.length = 4096 ∧ ∀ x ∈ m, ltD x d = true
theorem MissIn.start (a b : Cx) (P : Dt → Prop) (h : ∀ d, Lacks a b d → ¬ P d) : MissIn a b P [] :=
  ⟨.nil, by simp, fun d hd => by simp at hd, fun d h1 h2 _ => absurd h2 (h d h1)⟩
theorem MissIn.turn {a b : Cx} {P R : Dt → Prop} {m : List Dt} (h : MissIn a b P m) (he : ∀ d, Lacks a b d → (P d ↔ R d)) : MissIn a b R m :=
  ⟨h.rise, h.len, fun d hd => ⟨(h.mem d hd).1, (he d (h.mem d hd).1).1 (h.mem d hd).2⟩, fun d h1 h2 h3 => h.rest d h1 ((he d h1).2 h2) h3⟩
theorem MissIn.more {a b : Cx} {P R : Dt → Prop} {m : List Dt} (h : MissIn a b P m) {d : Dt} (hd : Lacks a b d) (hl : m.length < 4096) (hx : ∀ x ∈ m, ltD x d = true) (he : ∀ x, Lacks a b x → (R x ↔ P x ∨ x = d)) : MissIn a b R (m ++ [d]) := by
  refine ⟨?_, by simp; omega, fun x hxm => ?_, fun x h1 h2 h3 => ?_⟩
  · unfold Rise
    rw [List.pairwise_append]
    exact ⟨h.rise, by simp, fun x hx1 y hy => by obtain rfl := List.mem_singleton.1 hy; exact hx x hx1⟩
  · rcases List.mem_append.1 hxm with hxm | hxm
    · exact ⟨(h.mem x hxm).1, (he x (h.mem x hxm).1).2 (.inl (h.mem x hxm).2)⟩
    · obtain rfl := List.mem_singleton.1 hxm
      exact ⟨hd, (he x hd).2 (.inr rfl)⟩
  · exfalso
    rw [List.mem_append, List.mem_singleton] at h3
    rcases (he x h1).1 h2 with h4 | h4
    · have := (h.rest x h1 h4 (fun h5 => h3 (.inl h5))).1
      omega
    · exact h3 (.inr h4)
theorem MissIn.full {a b : Cx} {P R : Dt → Prop} {m : List Dt} (h : MissIn a b P m) (hl : m.length = 4096) (hs : ∀ d, Lacks a b d → P d → R d) (hx : ∀ d, Lacks a b d → R d → ¬ P d → ∀ x ∈ m, ltD x d = true) : MissIn a b R m :=
  ⟨h.rise, h.len, fun d hd => ⟨(h.mem d hd).1, hs d (h.mem d hd).1 (h.mem d hd).2⟩, fun d h1 h2 h3 => by
    by_cases hp : P d
    · exact h.rest d h1 hp h3
    · exact ⟨hl, hx d h1 h2 hp⟩⟩
theorem MissIn.all {a b : Cx} {P : Dt → Prop} {m : List Dt} (h : MissIn a b P m) (hp : ∀ d, Lacks a b d → P d) : IsMiss a b m :=
  ⟨h.rise, h.len, fun d hd => (h.mem d hd).1, fun d h1 h2 => h.rest d h1 (hp d h1) h2⟩
theorem IsMiss.miss {a b : Cx} {m : List Dt} (h : IsMiss a b m) : MissIn a b (fun _ => True) m := ⟨h.rise, h.len, fun d hd => ⟨h.mem d hd, trivial⟩, fun d h1 _ h3 => h.rest d h1 h3⟩

/-- the names ahead of one -/
def Ahead (i : Int) (n : Int) (d : Dt) : Prop := d.1 < i ∨ (d.1 = i ∧ d.2 < n)
theorem ahead_lt {i n : Int} {d : Dt} : Ahead i n d ↔ ltD d (i, n) = true := by rw [ltD_iff]; rfl
theorem Lacks.dot {a b : Cx} {d : Dt} (h : Lacks a b d) : 0 ≤ d.1 ∧ d.1 ≤ 15 ∧ 1 ≤ d.2 ∧ d.2 ≤ 1099511627776 := chkD_ok (hasC_iff.1 h.1).1
/-- one name further: it lacks and there is room; or it does not lack; or there is no room -/
theorem MissIn.step {a b : Cx} {i n : Int} {m : List Dt} (h : MissIn a b (Ahead i n) m) (hd : Lacks a b (i, n)) (hl : m.length < 4096) : MissIn a b (Ahead i (n + 1)) (m ++ [(i, n)]) :=
  h.more hd hl (fun x hx => ahead_lt.1 (h.mem x hx).2) fun x _ => by
    unfold Ahead
    constructor
    · rintro (h1 | ⟨h1, h2⟩)
      · exact .inl (.inl h1)
      · by_cases e : x.2 = n
        · exact .inr (Prod.ext h1 e)
        · exact .inl (.inr ⟨h1, by omega⟩)
    · rintro ((h1 | ⟨h1, h2⟩) | rfl)
      · exact .inl h1
      · exact .inr ⟨h1, by omega⟩
      · exact .inr ⟨rfl, by simp only; omega⟩
theorem MissIn.skip {a b : Cx} {i n : Int} {m : List Dt} (h : MissIn a b (Ahead i n) m) (hd : ¬ Lacks a b (i, n)) : MissIn a b (Ahead i (n + 1)) m :=
  h.turn fun x hx => by
    unfold Ahead
    constructor
    · rintro (h1 | ⟨h1, h2⟩)
      · exact .inl h1
      · exact .inr ⟨h1, by omega⟩
    · rintro (h1 | ⟨h1, h2⟩)
      · exact .inl h1
      · by_cases e : x.2 = n
        · exact absurd (show Lacks a b (i, n) by rw [← h1, ← e]; exact hx) hd
        · exact .inr ⟨h1, by omega⟩
/-- none lacks from one to another -/
theorem MissIn.jump {a b : Cx} {i n j k : Int} {m : List Dt} (h : MissIn a b (Ahead i n) m) (hle : ∀ d, Ahead i n d → Ahead j k d) (hno : ∀ d, Lacks a b d → Ahead j k d → Ahead i n d) : MissIn a b (Ahead j k) m :=
  h.turn fun x hx => ⟨hle x, hno x hx⟩
/-- there is no room any more -/
theorem MissIn.rest_full {a b : Cx} {i n j k : Int} {m : List Dt} (h : MissIn a b (Ahead i n) m) (hl : m.length = 4096) (hle : ∀ d, Ahead i n d → Ahead j k d) : MissIn a b (Ahead j k) m :=
  h.full hl (fun d _ hp => hle d hp) fun d _ _ hn x hx => by
    have h1 := ahead_lt.1 (h.mem x hx).2
    rcases ltD_tri d (i, n) with h2 | h2 | h2
    · exact absurd (ahead_lt.2 h2) hn
    · rw [h2]; exact h1
    · exact ltD_trans h1 h2
theorem MissIn.begin (a b : Cx) : MissIn a b (Ahead 0 1) [] := MissIn.start a b _ fun d hd h => by
  have := hd.dot
  unfold Ahead at h
  omega
theorem MissIn.ends {a b : Cx} {m : List Dt} (h : MissIn a b (Ahead 16 1) m) : IsMiss a b m := h.all fun d hd => by
  have := hd.dot
  exact .inl (by omega)

/-! a replica's part of a cloud, one name behind the other -/
/-- of the first k names of the cloud those of replica i are less than n, of the others none is -/
def Seen (b : Cx) (i k : Nat) (n : Int) : Prop := b.v.getD i 0 < n ∧ ∀ (j : Nat) (d : Dt), b.l[j]? = some d → d.1 = (i : Int) → (j < k → d.2 < n) ∧ (k ≤ j → n ≤ d.2)
theorem Seen.start {b : Cx} (hb : IsClean b) (i : Nat) : Seen b i 0 (b.v.getD i 0 + 1) := ⟨by omega, fun j d hd he => ⟨fun h => by omega, fun _ => by
  have h1 := (hb.out d (List.mem_of_getElem? hd)).2
  have h2 : d.1.toNat = i := by omega
  rw [h2] at h1
  omega⟩⟩
theorem Seen.other {b : Cx} {i k : Nat} {n : Int} (h : Seen b i k n) {d : Dt} (hd : b.l[k]? = some d) (hne : d.1 ≠ (i : Int)) : Seen b i (k + 1) n :=
  ⟨h.1, fun j x hx he => by
    have hjk : j ≠ k := fun e => by
      subst e
      rw [hd] at hx
      obtain rfl := Option.some.inj hx
      exact hne he
    exact ⟨fun hj => (h.2 j x hx he).1 (by omega), fun hj => (h.2 j x hx he).2 (by omega)⟩⟩
theorem Seen.next {b : Cx} (hb : IsClean b) {i k : Nat} {n : Int} (h : Seen b i k n) {d : Dt} (hd : b.l[k]? = some d) (he : d.1 = (i : Int)) : Seen b i (k + 1) (d.2 + 1) := by
  have h0 := (h.2 k d hd he).2 (Nat.le_refl _)
  obtain ⟨hk, hkd⟩ := List.getElem?_eq_some_iff.1 hd
  refine ⟨by have := h.1; omega, fun j x hx hxe => ⟨fun hj => ?_, fun hj => ?_⟩⟩
  · by_cases e : j = k
    · subst e
      rw [hd] at hx
      obtain rfl := Option.some.inj hx
      omega
    · have := (h.2 j x hx hxe).1 (by omega)
      omega
  · obtain ⟨hj2, hjd⟩ := List.getElem?_eq_some_iff.1 hx
    have hlt := List.pairwise_iff_getElem.1 hb.rise k j hk hj2 (by omega)
    rw [hkd, hjd, ltD_iff] at hlt
    omega
theorem Seen.reach {a b : Cx} (hb : IsClean b) {i k : Nat} {n : Int} {m : List Dt} (h : Seen b i k n) {d : Dt} (hd : b.l[k]? = some d) (he : d.1 = (i : Int)) (hm : MissIn a b (Ahead i n) m) : MissIn a b (Ahead i d.2) m := by
  have h0 := (h.2 k d hd he).2 (Nat.le_refl _)
  obtain ⟨hk, hkd⟩ := List.getElem?_eq_some_iff.1 hd
  refine hm.jump (fun x hx => ?_) (fun x hx hxa => ?_)
  · unfold Ahead at *; omega
  · refine Classical.byContradiction fun hno => ?_
    have hx1 : x.1 = (i : Int) ∧ n ≤ x.2 ∧ x.2 < d.2 := by unfold Ahead at *; omega
    have hxi : x.1.toNat = i := by omega
    obtain ⟨-, h2 | h2⟩ := hasC_iff.1 hx.1
    · rw [hxi] at h2
      have := h.1
      omega
    · obtain ⟨j, hj, hjx⟩ := List.mem_iff_getElem.1 h2
      have hxj : b.l[j]? = some x := by rw [List.getElem?_eq_getElem hj, hjx]
      have h3 := h.2 j x hxj hx1.1
      by_cases hjk : j < k
      · have := h3.1 hjk
        omega
      · by_cases e : j = k
        · subst e
          rw [hd] at hxj
          obtain rfl := Option.some.inj hxj
          omega
        · have hlt := List.pairwise_iff_getElem.1 hb.rise k j hk hj (by omega)
          rw [hkd, hjx, ltD_iff] at hlt
          omega
theorem Seen.over {a b : Cx} {i : Nat} {n : Int} {m : List Dt} (h : Seen b i b.l.length n) (hm : MissIn a b (Ahead i n) m) : MissIn a b (Ahead ((i : Int) + 1) 1) m := by
  refine hm.jump (fun x hx => ?_) (fun x hx hxa => ?_)
  · unfold Ahead at *; omega
  · refine Classical.byContradiction fun hno => ?_
    have hd := hx.dot
    have hx1 : x.1 = (i : Int) ∧ n ≤ x.2 := by unfold Ahead at *; omega
    have hxi : x.1.toNat = i := by omega
    obtain ⟨-, h2 | h2⟩ := hasC_iff.1 hx.1
    · rw [hxi] at h2
      have := h.1
      omega
    · obtain ⟨j, hj, hjx⟩ := List.mem_iff_getElem.1 h2
      have hxj : b.l[j]? = some x := by rw [List.getElem?_eq_getElem hj, hjx]
      have := (h.2 j x hxj hx1.1).1 hj
      omega
/-- the first part of a replica: what the first one's vector has does not lack -/
theorem MissIn.enter {a b : Cx} {i : Nat} {m : List Dt} (h : MissIn a b (Ahead i 1) m) (ha : okN (a.v.getD i 0)) : MissIn a b (Ahead i (a.v.getD i 0 + 1)) m := by
  unfold okN at ha
  refine h.jump (fun x hx => ?_) (fun x hx hxa => ?_)
  · unfold Ahead at *; omega
  · refine Classical.byContradiction fun hno => ?_
    have hd := hx.dot
    have hx1 : x.1 = (i : Int) ∧ x.2 ≤ a.v.getD i 0 := by unfold Ahead at *; omega
    have hxi : x.1.toNat = i := by omega
    have h1 := hx.2
    rw [hasC_no] at h1
    refine h1 ⟨(hasC_iff.1 hx.1).1, .inl ?_⟩
    rw [hxi]
    exact hx1.2
end Go.Proofs.Ytcedliaeipabnaa

namespace Go.Proofs.Ytcedliaeipabnaa

def exC : Cx := ⟨2 :: List.replicate 15 0, [(1, 3)]⟩
def exL : List Dt := [(0, 2), (0, 1), (1, 3)]
def exM : List Dt := [(0, 1), (0, 2), (1, 3)]
def exB : Cx := ⟨zV, [(0, 1)]⟩
def exS : ByteArray := ⟨#[2, 0, 0, 0, 0, 0, 0, 0, 0, 0, 0, 0, 0, 0, 0, 0, 3, 1, 1, 3]⟩

theorem getD_rep (n : Nat) (x : Int) : ∀ k, (List.replicate n x).getD k x = x := by
  intro k
  rw [List.getD_eq_getElem?_getD]
  by_cases h : k < n
  · rw [List.getElem?_eq_getElem (by simpa using h)]; simp
  · rw [List.getElem?_eq_none (by simp; omega)]; rfl
theorem has_zC (d : Dt) : hasC zC d = false := by
  rw [hasC_no]
  rintro ⟨h1, h2 | h2⟩
  · have := chkD_ok h1
    have h3 : zC.v.getD d.1.toNat 0 = 0 := getD_rep 16 0 _
    rw [h3] at h2
    omega
  · simp [zC] at h2
theorem has_exC (d : Dt) : hasC exC d = true ↔ d ∈ exL := by
  rw [hasC_iff]
  constructor
  · rintro ⟨h1, h2⟩
    have h3 := chkD_ok h1
    rcases h2 with h2 | h2
    · have h4 : exC.v.getD d.1.toNat 0 = if d.1.toNat = 0 then 2 else 0 := by
        show (2 :: List.replicate 15 (0 : Int)).getD d.1.toNat 0 = _
        cases d.1.toNat with
        | zero => rfl
        | succ k => rw [List.getD_cons_succ, getD_rep]; rfl
      rw [h4] at h2
      split at h2
      · have h5 : d = (0, 1) ∨ d = (0, 2) := by
          rcases (show d.2 = 1 ∨ d.2 = 2 by omega) with h6 | h6
          · exact .inl (Prod.ext (by simp only; omega) h6)
          · exact .inr (Prod.ext (by simp only; omega) h6)
        rcases h5 with rfl | rfl <;> decide
      · omega
    · have h5 : d = (1, 3) := by simpa [exC] using h2
      rw [h5]; decide
  · intro h
    simp only [exL, List.mem_cons, List.not_mem_nil, or_false] at h
    rcases h with rfl | rfl | rfl
    · exact ⟨by decide, .inl (by decide)⟩
    · exact ⟨by decide, .inl (by decide)⟩
    · exact ⟨by decide, .inr (by decide)⟩
theorem exC_clean : IsClean exC := ⟨rfl, by decide +kernel, by decide +kernel, by decide +kernel, by decide +kernel⟩
theorem exC_add : AddOf zC exL exC := ⟨exC_clean, fun d => by
  rw [has_zC, Bool.false_or, Bool.eq_iff_iff, has_exC]
  simp only [Bool.and_eq_true, decide_eq_true_eq]
  refine ⟨fun h => ⟨(hasC_iff.1 ((has_exC d).2 h)).1, h⟩, fun h => h.2⟩⟩
theorem ex_miss : IsMiss zC exC exM := ⟨by decide +kernel, by decide, fun d hd => ⟨(has_exC d).2 (by
    simp only [exM, List.mem_cons, List.not_mem_nil, or_false] at hd
    rcases hd with rfl | rfl | rfl <;> decide), has_zC d⟩, fun d hd hn => by
  exfalso
  have h := (has_exC d).1 hd.1
  simp only [exL, List.mem_cons, List.not_mem_nil, or_false] at h
  rcases h with rfl | rfl | rfl <;> exact hn (by decide)⟩
theorem ex_cmp : cmpC exC zC = 1 := by
  unfold cmpC
  rw [if_neg, if_pos]
  · exact ⟨(0, 1), (has_exC _).2 (by decide), has_zC _⟩
  · rintro ⟨d, h1, -⟩
    rw [has_zC] at h1
    cases h1
theorem ex_put : putC exC = (exS, 0) := by
  unfold putC
  have h := chkC_clean exC_clean
  rw [if_neg (by rw [h]; simp), if_neg (by decide)]
  have e : encC exC = exS.data.toList := by decide +kernel
  rw [e]
theorem ex_read : readC exS = (exC, 0) := read_putC ex_put
theorem exB_flat : chkC exB = 5 := chkC_form (by decide +kernel) fun h => by
  have := h.top 0 (by omega)
  revert this
  decide +kernel
theorem ex_bad : putC exB = (⟨#[]⟩, 5) := by
  unfold putC
  rw [if_pos (by rw [exB_flat]; decide), exB_flat]
theorem ex_has : hasC exC (0, 1) = true := by decide +kernel
theorem ex_not : hasC exC (1, 1) = false := by decide +kernel
end Go.Proofs.Ytcedliaeipabnaa

namespace Go.Proofs.Ytcedliaeipabnaa

def vecP (x y : Int) (r : Nat) : List Dt := (List.range (y - x).toNat).map fun (t : Nat) => ((r : Int), x + 1 + (t : Int))
def cloP (l : List Dt) (r : Nat) : List Dt := l.filter fun d => decide (d.1 = (r : Int))
def partP (v : Vc) (b : Cx) (r : Nat) : List Dt := vecP (v.getD r 0) (b.v.getD r 0) r ++ cloP b.l r
def pastTo (v : Vc) (b : Cx) (n : Nat) : List Dt := (List.range n).flatMap (partP v b)
def pastL (v : Vc) (b : Cx) : List Dt := pastTo v b 16
theorem pastTo_zero (v : Vc) (b : Cx) : pastTo v b 0 = [] := rfl
theorem pastTo_succ (v : Vc) (b : Cx) (n : Nat) : pastTo v b (n + 1) = pastTo v b n ++ partP v b n := by
  unfold pastTo
  rw [List.range_succ, List.flatMap_append]
  simp
theorem pastTo_pre (v : Vc) (b : Cx) : ∀ (d n : Nat), pastTo v b n <+: pastTo v b (n + d) := by
  intro d
  induction d with
  | zero => intro n; exact List.prefix_refl _
  | succ d ih =>
    intro n
    refine (ih n).trans ?_
    rw [show n + (d + 1) = n + d + 1 by omega, pastTo_succ]
    exact List.prefix_append _ _
theorem pastTo_prefix (v : Vc) (b : Cx) {n : Nat} (h : n ≤ 16) : pastTo v b n <+: pastL v b := by
  have := pastTo_pre v b (16 - n) n
  rwa [show n + (16 - n) = 16 by omega] at this
theorem vecP_take (x y : Int) (r t : Nat) (h : t < (y - x).toNat) : (vecP x y r).take (t + 1) = (vecP x y r).take t ++ [((r : Int), x + 1 + (t : Int))] := by
  have hl : t < (vecP x y r).length := by unfold vecP; rw [List.length_map, List.length_range]; exact h
  rw [List.take_succ_eq_append_getElem hl]
  have he : (vecP x y r)[t]? = some ((r : Int), x + 1 + (t : Int)) := by
    unfold vecP
    rw [List.getElem?_map, List.getElem?_range h]
    rfl
  rw [(List.getElem?_eq_some_iff.1 he).2]
theorem vecP_all (x y : Int) (r : Nat) : (vecP x y r).take (y - x).toNat = vecP x y r := List.take_of_length_le (by unfold vecP; rw [List.length_map, List.length_range]; exact Nat.le_refl _)
theorem mem_vecP {x y : Int} {r : Nat} {d : Dt} : d ∈ vecP x y r ↔ d.1 = (r : Int) ∧ x < d.2 ∧ d.2 ≤ y := by
  unfold vecP
  rw [List.mem_map]
  constructor
  · rintro ⟨t, ht, rfl⟩
    rw [List.mem_range] at ht
    refine ⟨rfl, ?_, ?_⟩ <;> simp only <;> omega
  · rintro ⟨h1, h2, h3⟩
    refine ⟨(d.2 - x - 1).toNat, List.mem_range.2 (by omega), Prod.ext h1.symm ?_⟩
    simp only
    omega
theorem mem_cloP {l : List Dt} {r : Nat} {d : Dt} : d ∈ cloP l r ↔ d ∈ l ∧ d.1 = (r : Int) := by
  unfold cloP
  rw [List.mem_filter, decide_eq_true_eq]
theorem rise_vecP (x y : Int) (r : Nat) : Rise (vecP x y r) := by
  unfold Rise vecP
  rw [List.pairwise_map]
  refine List.Pairwise.imp ?_ List.pairwise_lt_range
  intro i j hij
  rw [ltD_iff]
  exact .inr ⟨rfl, by show x + 1 + (i : Int) < x + 1 + (j : Int); omega⟩
theorem mem_pastTo {v : Vc} {b : Cx} {n : Nat} {d : Dt} : d ∈ pastTo v b n ↔ ∃ r, r < n ∧ d ∈ partP v b r := by
  unfold pastTo
  rw [List.mem_flatMap]
  simp only [List.mem_range]
theorem mem_partP {v : Vc} {b : Cx} {r : Nat} {d : Dt} : d ∈ partP v b r ↔ d.1 = (r : Int) ∧ ((v.getD r 0 < d.2 ∧ d.2 ≤ b.v.getD r 0) ∨ d ∈ b.l) := by
  unfold partP
  rw [List.mem_append, mem_vecP, mem_cloP]
  constructor
  · rintro (⟨h1, h2⟩ | ⟨h1, h2⟩)
    · exact ⟨h1, .inl h2⟩
    · exact ⟨h2, .inr h1⟩
  · rintro ⟨h1, h2 | h2⟩
    · exact .inl ⟨h1, h2⟩
    · exact .inr ⟨h2, h1⟩
theorem rise_partP {v : Vc} {b : Cx} (hb : IsClean b) (r : Nat) : Rise (partP v b r) := by
  unfold partP Rise
  rw [List.pairwise_append]
  refine ⟨rise_vecP _ _ _, rise_filter hb.rise _, fun x hx y hy => ?_⟩
  obtain ⟨h1, h2, h3⟩ := mem_vecP.1 hx
  obtain ⟨h4, h5⟩ := mem_cloP.1 hy
  have h6 := (hb.out y h4).2
  have h7 : y.1.toNat = r := by omega
  rw [h7] at h6
  rw [ltD_iff]
  omega
theorem rise_pastTo {v : Vc} {b : Cx} (hb : IsClean b) : ∀ n, Rise (pastTo v b n) := by
  intro n
  induction n with
  | zero => rw [pastTo_zero]; exact List.Pairwise.nil
  | succ n ih =>
    rw [pastTo_succ]
    unfold Rise
    rw [List.pairwise_append]
    refine ⟨ih, rise_partP hb n, fun x hx y hy => ?_⟩
    obtain ⟨r, hr, hx⟩ := mem_pastTo.1 hx
    have h1 := (mem_partP.1 hx).1
    have h2 := (mem_partP.1 hy).1
    rw [ltD_iff]
    omega
theorem past_lack {a b : Cx} {d : Dt} (h : Lacks a b d) : d ∈ pastL a.v b := by
  have hd := h.dot
  refine mem_pastTo.2 ⟨d.1.toNat, by omega, mem_partP.2 ⟨by omega, ?_⟩⟩
  obtain ⟨h1, h2 | h2⟩ := hasC_iff.1 h.1
  · refine .inl ⟨?_, h2⟩
    have h3 := h.2
    rw [hasC_no] at h3
    refine Int.not_le.1 fun h4 => h3 ⟨h1, .inl h4⟩
  · exact .inr h2
theorem past_has {a b : Cx} (ha : IsClean a) (hb : IsClean b) {d : Dt} (h : d ∈ pastL a.v b) : hasC b d = true := by
  obtain ⟨r, hr, h⟩ := mem_pastTo.1 h
  obtain ⟨h1, ⟨h2, h3⟩ | h2⟩ := mem_partP.1 h
  · have h4 := ha.ok r hr
    unfold okN at h4
    have h5 := hb.below hr (n := d.2) (by omega) h3
    have e : ((r : Int), d.2) = d := Prod.ext h1.symm rfl
    rwa [e] at h5
  · exact hasC_iff.2 ⟨(hb.out d h2).1, .inr h2⟩
/-- those that the first one has not -/
def lackF (a : Cx) (l : List Dt) : List Dt := l.filter fun d => !hasC a d
theorem lackF_snoc (a : Cx) (l : List Dt) (d : Dt) : lackF a (l ++ [d]) = if hasC a d = true then lackF a l else lackF a l ++ [d] := by
  unfold lackF
  rw [List.filter_append]
  by_cases h : hasC a d = true
  · simp [h]
  · simp [h]
theorem miss_past {a b : Cx} (ha : IsClean a) (hb : IsClean b) {pre : List Dt} (hp : pre <+: pastL a.v b) (hl : (lackF a pre).length ≤ 4096) (he : pre = pastL a.v b ∨ (lackF a pre).length = 4096) : IsMiss a b (lackF a pre) := by
  obtain ⟨t, ht⟩ := hp
  have hr : Rise (pre ++ t) := by rw [ht]; exact rise_pastTo hb 16
  have hmem : ∀ d, d ∈ lackF a pre ↔ d ∈ pre ∧ hasC a d = false := fun d => by unfold lackF; rw [List.mem_filter]; simp
  refine ⟨rise_filter (List.pairwise_append.1 hr).1 _, hl, fun d hd => ?_, fun d hd hn => ?_⟩
  · obtain ⟨h1, h2⟩ := (hmem d).1 hd
    exact ⟨past_has ha hb (by rw [← ht]; exact List.mem_append_left _ h1), h2⟩
  · have h1 := past_lack hd
    have h2 : d ∉ pre := fun h => hn ((hmem d).2 ⟨h, hd.2⟩)
    rcases he with he | he
    · rw [he] at h2; exact absurd h1 h2
    · refine ⟨he, fun x hx => ?_⟩
      rw [← ht] at h1
      have h3 := (List.mem_append.1 h1).resolve_left h2
      exact (List.pairwise_append.1 hr).2.2 x ((hmem x).1 hx).1 d h3

/-! a cloud, replica by replica -/
structure CutAt (l : List Dt) (k : Nat) (lo hi : Int) : Prop where
  lo : ∀ (j : Nat) (d : Dt), l[j]? = some d → j < k → d.1 ≤ lo
  hi : ∀ (j : Nat) (d : Dt), l[j]? = some d → k ≤ j → hi ≤ d.1
theorem CutAt.start (l : List Dt) (h : ∀ d ∈ l, 0 ≤ d.1) : CutAt l 0 (-1) 0 := ⟨fun j d _ hj => by omega, fun j d hd _ => h d (List.mem_of_getElem? hd)⟩
theorem CutAt.none {l : List Dt} {k i : Nat} (h : CutAt l k ((i : Int) - 1) i) : cloP (l.take k) i = [] := by
  unfold cloP
  rw [List.filter_eq_nil_iff]
  intro d hd
  obtain ⟨j, hj, hjd⟩ := List.mem_iff_getElem.1 hd
  rw [List.length_take] at hj
  rw [List.getElem_take] at hjd
  have := h.lo j d (by rw [List.getElem?_eq_getElem (by omega), hjd]) (by omega)
  simp only [decide_eq_true_eq]
  omega
theorem CutAt.step {l : List Dt} {k i : Nat} (h : CutAt l k i i) {d : Dt} (hd : l[k]? = some d) (he : d.1 = (i : Int)) : CutAt l (k + 1) i i ∧ cloP (l.take (k + 1)) i = cloP (l.take k) i ++ [d] := by
  refine ⟨⟨fun j x hx hj => ?_, fun j x hx hj => h.hi j x hx (by omega)⟩, ?_⟩
  · by_cases e : j = k
    · subst e
      rw [hd] at hx
      obtain rfl := Option.some.inj hx
      omega
    · exact h.lo j x hx (by omega)
  · unfold cloP
    rw [filter_take_succ _ hd, if_pos (by simp [he])]
theorem CutAt.done {l : List Dt} {k i : Nat} (h : CutAt l k i i) (hr : Rise l) (hk : ∀ d, l[k]? = some d → d.1 ≠ (i : Int)) : CutAt l k (((i + 1 : Nat) : Int) - 1) ((i + 1 : Nat) : Int) ∧ cloP (l.take k) i = cloP l i := by
  have hgt : ∀ (j : Nat) (d : Dt), l[j]? = some d → k ≤ j → (i : Int) + 1 ≤ d.1 := fun j d hd hj => by
    obtain ⟨hjl, hje⟩ := List.getElem?_eq_some_iff.1 hd
    have hkl : k < l.length := by omega
    have h1 := hk l[k] (List.getElem?_eq_getElem hkl)
    have h2 := h.hi k l[k] (List.getElem?_eq_getElem hkl) (Nat.le_refl _)
    rcases Nat.eq_or_lt_of_le hj with e | hlt
    · subst e; rw [hje] at h1 h2; omega
    · have h3 := List.pairwise_iff_getElem.1 hr k j hkl hjl hlt
      rw [hje, ltD_iff] at h3
      omega
  refine ⟨⟨fun j d hd hj => by have := h.lo j d hd hj; omega, fun j d hd hj => by have := hgt j d hd hj; omega⟩, ?_⟩
  have e : cloP l i = cloP (l.take k ++ l.drop k) i := by rw [List.take_append_drop]
  rw [e]
  unfold cloP
  rw [List.filter_append]
  have e2 : (l.drop k).filter (fun d => decide (d.1 = (i : Int))) = [] := by
    rw [List.filter_eq_nil_iff]
    intro d hd
    obtain ⟨j, hj, hjd⟩ := List.mem_iff_getElem.1 hd
    rw [List.length_drop] at hj
    rw [List.getElem_drop] at hjd
    have := hgt (k + j) d (by rw [List.getElem?_eq_getElem (by omega), hjd]) (by omega)
    simp only [decide_eq_true_eq]
    omega
  rw [e2, List.append_nil]
theorem pre_lt {pre l : List Dt} {x : Dt} (h : pre ++ [x] <+: l) : pre.length < l.length := by
  have := h.length_le
  rw [List.length_append, List.length_singleton] at this
  omega
/-- what has been handed over stands at the beginning -/
theorem past_vec {v : Vc} {b : Cx} {i t : Nat} (hi : i < 16) (ht : t < (b.v.getD i 0 - v.getD i 0).toNat) : pastTo v b i ++ (vecP (v.getD i 0) (b.v.getD i 0) i).take t ++ [((i : Int), v.getD i 0 + 1 + (t : Int))] <+: pastL v b := by
  refine List.IsPrefix.trans ?_ (pastTo_prefix v b (n := i + 1) hi)
  rw [pastTo_succ, List.append_assoc, ← vecP_take _ _ _ _ ht]
  unfold partP
  refine (List.prefix_append_right_inj _).2 ?_
  exact (List.take_prefix _ _).trans (List.prefix_append _ _)
theorem past_clo {v : Vc} {b : Cx} {i k : Nat} (hi : i < 16) {d : Dt} (hd : b.l[k]? = some d) (he : d.1 = (i : Int)) : pastTo v b i ++ vecP (v.getD i 0) (b.v.getD i 0) i ++ cloP (b.l.take k) i ++ [d] <+: pastL v b := by
  refine List.IsPrefix.trans ?_ (pastTo_prefix v b (n := i + 1) hi)
  rw [pastTo_succ]
  unfold partP
  rw [List.append_assoc, List.append_assoc]
  refine (List.prefix_append_right_inj _).2 ((List.prefix_append_right_inj _).2 ?_)
  have e : cloP (b.l.take k) i ++ [d] = cloP (b.l.take (k + 1)) i := by
    unfold cloP
    rw [filter_take_succ _ hd, if_pos (by simp [he])]
  rw [e]
  unfold cloP
  exact (List.take_prefix _ _).filter _
end Go.Proofs.Ytcedliaeipabnaa
