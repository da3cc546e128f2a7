/-
  Contexts as a vector and names beyond it: what they have, those that are clean, what lacks, their bytes. Nothing of the program.
-/
import Derived.Test.YtcedliaeipabnaaGCauB
namespace Go.Proofs.Ytcedliaeipabnaa
set_option linter.unusedSimpArgs false
set_option linter.unusedVariables false

structure Cx where
  v : Vc
  l : List Dt
deriving DecidableEq

def zC : Cx := ⟨zV, []⟩
def hasC (c : Cx) (d : Dt) : Bool := decide (chkD d = 0) && (decide (d.2 ≤ c.v.getD d.1.toNat 0) || decide (d ∈ c.l))
theorem hasC_iff {c : Cx} {d : Dt} : hasC c d = true ↔ chkD d = 0 ∧ (d.2 ≤ c.v.getD d.1.toNat 0 ∨ d ∈ c.l) := by simp [hasC]
theorem hasC_no {c : Cx} {d : Dt} : hasC c d = false ↔ ¬ (chkD d = 0 ∧ (d.2 ≤ c.v.getD d.1.toNat 0 ∨ d ∈ c.l)) := by
  rw [← hasC_iff]; simp
theorem hasC_or (c : Cx) (d : Dt) : hasC c d = (hasV c.v d || (decide (chkD d = 0) && decide (d ∈ c.l))) := by
  unfold hasC hasV
  cases decide (chkD d = 0) <;> simp
theorem chkD_dot {i : Nat} {n : Int} (hi : i < 16) (h1 : 1 ≤ n) (h2 : n ≤ 1099511627776) : chkD ((i : Int), n) = 0 := by
  unfold chkD
  rw [if_neg]
  simp only
  omega

structure IsClean (c : Cx) : Prop where
  len : c.v.length = 16
  ok : ∀ i, i < 16 → okN (c.v.getD i 0)
  top : ∀ i : Nat, i < 16 → hasC c ((i : Int), c.v.getD i 0 + 1) = false
  rise : Rise c.l
  out : ∀ d ∈ c.l, chkD d = 0 ∧ c.v.getD d.1.toNat 0 < d.2

theorem IsClean.below {c : Cx} (h : IsClean c) {i : Nat} (hi : i < 16) {n : Int} (h1 : 1 ≤ n) (h2 : n ≤ c.v.getD i 0) : hasC c ((i : Int), n) = true := by
  have h3 := h.ok i hi
  unfold okN at h3
  rw [hasC_iff]
  refine ⟨chkD_dot hi h1 (by omega), .inl ?_⟩
  simp only [Int.toNat_natCast]
  exact h2
theorem clean_le {a b : Cx} (ha : IsClean a) (hb : IsClean b) (h : ∀ d, hasC b d = true → hasC a d = true) (i : Nat) (hi : i < 16) : b.v.getD i 0 ≤ a.v.getD i 0 := by
  refine Int.not_lt.1 fun hlt => ?_
  have h1 := ha.ok i hi
  unfold okN at h1
  have h2 := h _ (hb.below hi (n := a.v.getD i 0 + 1) (by omega) (by omega))
  rw [ha.top i hi] at h2
  cases h2
theorem clean_cloud {c : Cx} (h : IsClean c) (d : Dt) : d ∈ c.l ↔ hasC c d = true ∧ c.v.getD d.1.toNat 0 < d.2 := by
  rw [hasC_iff]
  constructor
  · intro hd
    obtain ⟨h1, h2⟩ := h.out d hd
    exact ⟨⟨h1, .inr hd⟩, h2⟩
  · rintro ⟨⟨-, h1 | h1⟩, h2⟩
    · omega
    · exact h1
theorem clean_same {a b : Cx} (ha : IsClean a) (hb : IsClean b) (h : ∀ d, hasC a d = hasC b d) : a = b := by
  have hv : a.v = b.v := vec_ext ha.len hb.len fun i hi => Int.le_antisymm (clean_le hb ha (fun d hd => by rw [← h d]; exact hd) i hi) (clean_le ha hb (fun d hd => by rw [h d]; exact hd) i hi)
  have hl : a.l = b.l := rise_same ha.rise hb.rise fun d => by rw [clean_cloud ha, clean_cloud hb, h d, hv]
  obtain ⟨av, al⟩ := a
  obtain ⟨bv, bl⟩ := b
  simp only at hv hl
  rw [hv, hl]

/-! what is made of contexts -/
structure CleanOf (c o : Cx) : Prop where
  clean : IsClean o
  has : ∀ d, hasC o d = hasC c d
structure AddOf (c : Cx) (m : List Dt) (o : Cx) : Prop where
  clean : IsClean o
  has : ∀ d, hasC o d = (hasC c d || (decide (chkD d = 0) && decide (d ∈ m)))
structure JoinOf (a b o : Cx) : Prop where
  clean : IsClean o
  has : ∀ d, hasC o d = (hasC a d || hasC b d)
theorem CleanOf.same {c o p : Cx} (h : CleanOf c o) (k : CleanOf c p) : o = p := clean_same h.clean k.clean fun d => by rw [h.has, k.has]
theorem CleanOf.self {c : Cx} (h : IsClean c) : CleanOf c c := ⟨h, fun _ => rfl⟩
theorem AddOf.same {c o p : Cx} {m : List Dt} (h : AddOf c m o) (k : AddOf c m p) : o = p := clean_same h.clean k.clean fun d => by rw [h.has, k.has]
theorem JoinOf.same {a b o p : Cx} (h : JoinOf a b o) (k : JoinOf a b p) : o = p := clean_same h.clean k.clean fun d => by rw [h.has, k.has]
theorem JoinOf.comm {a b o : Cx} (h : JoinOf a b o) : JoinOf b a o := ⟨h.clean, fun d => by rw [h.has, Bool.or_comm]⟩
theorem JoinOf.again {a b o : Cx} (h : JoinOf a b o) : JoinOf o b o := ⟨h.clean, fun d => by rw [h.has]; cases hasC a d <;> cases hasC b d <;> rfl⟩
theorem JoinOf.assoc {a b c j k o p : Cx} (h1 : JoinOf a b j) (h2 : JoinOf j c o) (h3 : JoinOf b c k) (h4 : JoinOf a k p) : o = p :=
  clean_same h2.clean h4.clean fun d => by rw [h2.has, h1.has, h4.has, h3.has, Bool.or_assoc]
/-- the dots that are added, as a cloud that is longer -/
theorem addOf_cloud {c o : Cx} {m : List Dt} (h : CleanOf ⟨c.v, c.l ++ m⟩ o) : AddOf c m o := ⟨h.clean, fun d => by
  rw [h.has]
  unfold hasC
  simp only [List.mem_append]
  cases decide (chkD d = 0) <;> by_cases h1 : d ∈ c.l <;> by_cases h2 : d ∈ m <;> by_cases h3 : d.2 ≤ c.v.getD d.1.toNat 0 <;> simp [h1, h2, h3]⟩
theorem hasV_join {a b : Vc} (ha : a.length = 16) (hb : b.length = 16) (d : Dt) : hasV (joinV a b) d = (hasV a d || hasV b d) := by
  unfold hasV
  by_cases h : chkD d = 0
  · have := chkD_ok h
    rw [joinV_get ha hb (i := d.1.toNat) (by omega)]
    generalize a.getD d.1.toNat 0 = x
    generalize b.getD d.1.toNat 0 = y
    by_cases h1 : d.2 ≤ x <;> by_cases h2 : d.2 ≤ y <;> simp [h, h1, h2] <;> omega
  · simp [h]
theorem joinOf_add {a b o : Cx} (ha : a.v.length = 16) (hb : b.v.length = 16) (h : AddOf ⟨joinV a.v b.v, a.l⟩ b.l o) : JoinOf a b o := ⟨h.clean, fun d => by
  rw [h.has, hasC_or, hasC_or a, hasC_or b]
  simp only
  rw [hasV_join ha hb]
  cases hasV a.v d <;> cases hasV b.v d <;> cases decide (chkD d = 0) <;> cases decide (d ∈ a.l) <;> cases decide (d ∈ b.l) <;> rfl⟩
theorem joinOf_clean {a b a' b' o : Cx} (ha : CleanOf a a') (hb : CleanOf b b') (h : JoinOf a' b' o) : JoinOf a b o := ⟨h.clean, fun d => by rw [h.has, ha.has, hb.has]⟩

/-! what lacks -/
def Lacks (a b : Cx) (d : Dt) : Prop := hasC b d = true ∧ hasC a d = false
structure IsMiss (a b : Cx) (m : List Dt) : Prop where
  rise : Rise m
  len : m.length ≤ 4096
  mem : ∀ d ∈ m, Lacks a b d
  rest : ∀ d, Lacks a b d → d ∉ m → m.length = 4096 ∧ ∀ x ∈ m, ltD x d = true
theorem rise_nodup {m : List Dt} (h : Rise m) : m.Nodup := by
  refine List.Pairwise.imp ?_ h
  intro a b hab e
  subst e
  rw [ltD_irr] at hab
  cases hab
theorem nodup_len : ∀ {k m : List Dt}, k.Nodup → (∀ y ∈ k, y ∈ m) → k.length ≤ m.length := by
  intro k
  induction k with
  | nil => intro m _ _; exact Nat.zero_le _
  | cons x r ih =>
    intro m hn hs
    obtain ⟨h1, h2⟩ := List.nodup_cons.1 hn
    have h3 := ih (m := m.erase x) h2 (fun y hy => by
      have hne : y ≠ x := fun e => h1 (e ▸ hy)
      exact (List.mem_erase_of_ne hne).2 (hs y (by simp [hy])))
    have hx : x ∈ m := hs x (by simp)
    have h4 := List.length_erase_of_mem hx
    have h5 := List.length_pos_of_mem hx
    simp only [List.length_cons]
    omega
theorem IsMiss.sub {a b : Cx} {m k : List Dt} (hm : IsMiss a b m) (hk : IsMiss a b k) : ∀ x ∈ m, x ∈ k := by
  intro x hx
  refine Classical.byContradiction fun hxk => ?_
  obtain ⟨h1, h2⟩ := hk.rest x (hm.mem x hx) hxk
  have h3 : ∀ y ∈ k, y ∈ m := fun y hy => Classical.byContradiction fun hym => by
    obtain ⟨-, h4⟩ := hm.rest y (hk.mem y hy) hym
    have h5 := ltD_asym (h4 x hx)
    rw [h2 y hy] at h5
    cases h5
  have h6 : (x :: k).length ≤ m.length := by
    refine nodup_len (List.nodup_cons.2 ⟨hxk, rise_nodup hk.rise⟩) fun y hy => ?_
    rcases List.mem_cons.1 hy with rfl | hy
    · exact hx
    · exact h3 y hy
  have := hm.len
  simp only [List.length_cons] at h6
  omega
theorem IsMiss.same {a b : Cx} {m k : List Dt} (hm : IsMiss a b m) (hk : IsMiss a b k) : m = k :=
  rise_same hm.rise hk.rise fun z => ⟨hm.sub hk z, hk.sub hm z⟩
theorem IsMiss.any {a b : Cx} {m : List Dt} (hm : IsMiss a b m) : 0 < m.length ↔ ∃ d, Lacks a b d := by
  constructor
  · intro h
    exact ⟨m[0], hm.mem _ (List.getElem_mem _)⟩
  · rintro ⟨d, hd⟩
    refine Nat.pos_of_ne_zero fun h0 => ?_
    have hn : d ∉ m := by rw [List.length_eq_zero_iff.1 h0]; simp
    have := (hm.rest d hd hn).1
    omega
theorem miss_add {a b j o : Cx} {m : List Dt} (hm : IsMiss a b m) (hl : m.length < 4096) (ho : AddOf a m o) (hj : JoinOf a b j) : o = j :=
  clean_same ho.clean hj.clean fun d => by
    rw [ho.has, hj.has]
    cases ha : hasC a d with
    | true => rfl
    | false =>
      simp only [Bool.false_or]
      cases hb : hasC b d with
      | true =>
        have hd : d ∈ m := Classical.byContradiction fun hn => by
          have := (hm.rest d ⟨hb, ha⟩ hn).1
          omega
        have := (hasC_iff.1 hb).1
        simp [hd, this]
      | false =>
        have hd : d ∉ m := fun hd => by
          have := (hm.mem d hd).1
          rw [hb] at this
          cases this
        simp [hd]
theorem Lacks.clean {a b a' b' : Cx} (ha : CleanOf a a') (hb : CleanOf b b') (d : Dt) : Lacks a' b' d ↔ Lacks a b d := by
  unfold Lacks; rw [ha.has, hb.has]
theorem IsMiss.clean {a b a' b' : Cx} {m : List Dt} (ha : CleanOf a a') (hb : CleanOf b b') (h : IsMiss a' b' m) : IsMiss a b m :=
  ⟨h.rise, h.len, fun d hd => (Lacks.clean ha hb d).1 (h.mem d hd), fun d hd hn => h.rest d ((Lacks.clean ha hb d).2 hd) hn⟩

open Classical in
noncomputable def cmpC (a b : Cx) : Int := if ∃ d, Lacks a b d then (if ∃ d, Lacks b a d then 2 else -1) else if ∃ d, Lacks b a d then 1 else 0
theorem cmpC_miss {a b : Cx} {m k : List Dt} (hm : IsMiss a b m) (hk : IsMiss b a k) : cmpC a b = if 0 < m.length then (if 0 < k.length then 2 else -1) else if 0 < k.length then 1 else 0 := by
  unfold cmpC
  by_cases h1 : 0 < m.length
  · rw [if_pos (hm.any.1 h1), if_pos h1]
    by_cases h2 : 0 < k.length
    · rw [if_pos (hk.any.1 h2), if_pos h2]
    · rw [if_neg (fun h => h2 (hk.any.2 h)), if_neg h2]
  · rw [if_neg (fun h => h1 (hm.any.2 h)), if_neg h1]
    by_cases h2 : 0 < k.length
    · rw [if_pos (hk.any.1 h2), if_pos h2]
    · rw [if_neg (fun h => h2 (hk.any.2 h)), if_neg h2]

open Classical in
noncomputable def chkC (c : Cx) : Int := if chkV c.v ≠ 0 then 2 else if IsClean c then 0 else 5
theorem chkC_ok {c : Cx} (h : chkC c = 0) : IsClean c := by
  unfold chkC at h
  split at h
  · cases h
  · split at h
    · assumption
    · cases h
theorem chkC_clean {c : Cx} (h : IsClean c) : chkC c = 0 := by
  have hv : chkV c.v = 0 := chkV_all fun j hj => h.ok j (by rw [h.len] at hj; exact hj)
  unfold chkC
  rw [if_neg (by rw [hv]; simp), if_pos h]
theorem chkC_vec {c : Cx} (h : chkV c.v ≠ 0) : chkC c = 2 := by unfold chkC; rw [if_pos h]
theorem chkC_form {c : Cx} (h : chkV c.v = 0) (hn : ¬ IsClean c) : chkC c = 5 := by unfold chkC; rw [if_neg (by rw [h]; simp), if_neg hn]
theorem chkC_cases (c : Cx) : chkC c = 0 ∨ chkC c = 2 ∨ chkC c = 5 := by
  unfold chkC
  split
  · exact .inr (.inl rfl)
  · split
    · exact .inl rfl
    · exact .inr (.inr rfl)
theorem IsClean.vec {c : Cx} (h : IsClean c) : chkV c.v = 0 := chkV_all fun j hj => h.ok j (by rw [h.len] at hj; exact hj)
theorem IsClean.list {c : Cx} (h : IsClean c) : chkL c.l = 0 := chkL_good (fun d hd => (h.out d hd).1) h.rise

/-! bytes -/
theorem uv_small (n : Nat) (h : n ≤ 15) : (Lib.uvarint n).length ≤ 1 := Nat.le_trans (uv_mono 15 n h) (by rw [Lib.uvarint_small (by omega)]; simp)
theorem uv_six (n : Nat) (h : n ≤ 1099511627776) : (Lib.uvarint n).length ≤ 6 := Lib.uvarint_length 5 n (by omega)
theorem encD_len7 : ∀ (l : List Dt), (∀ d ∈ l, chkD d = 0) → (encD l).length ≤ l.length * 7 := by
  intro l
  induction l with
  | nil => intro _; simp [encD]
  | cons d r ih =>
    intro h
    have h1 := ih (fun x hx => h x (by simp [hx]))
    obtain ⟨a, b, c, e⟩ := chkD_ok (h d (by simp))
    have h2 := uv_small d.1.toNat (by omega)
    have h3 := uv_six d.2.toNat (by omega)
    simp only [encD, List.length_append, List.length_cons]
    omega
/-- a cloud's bytes, and those of a context -/
def encT (l : List Dt) : ByteArray := ⟨(encDs l).toArray⟩
theorem encT_size {l : List Dt} (h : chkL l = 0) (hl : l.length ≤ 4096) : (encT l).size ≤ 65536 := by
  have h1 := encD_len7 l (chkL_ok h).1
  have h2 := uv_six l.length (by omega)
  show (encDs l).length ≤ 65536
  unfold encDs
  rw [List.length_append]
  omega
def encC (c : Cx) : List UInt8 := encN (natV c.v) ++ (Lib.uvarint (encT c.l).size ++ (encT c.l).data.toList)
noncomputable def putC (c : Cx) : ByteArray × Int := if chkC c ≠ 0 then (⟨#[]⟩, chkC c) else if 4096 < c.l.length then (⟨#[]⟩, 3) else (⟨(encC c).toArray⟩, 0)
/-- the state behind a vector and a text -/
def rdC (s : ByteArray) : ByteArray × (ByteArray × Int) := sText (stN 16 (s, 0))
noncomputable def readC (s : ByteArray) : Cx × Int :=
  if doneS (rdC s).2 ≠ 0 then (zC, doneS (rdC s).2)
  else if chkV (vecN 16 (s, 0)) ≠ 0 then (zC, 2)
  else if (readD (rdC s).1).2 ≠ 0 then (zC, (readD (rdC s).1).2)
  else if chkC ⟨vecN 16 (s, 0), (readD (rdC s).1).1⟩ ≠ 0 then (zC, chkC ⟨vecN 16 (s, 0), (readD (rdC s).1).1⟩)
  else (⟨vecN 16 (s, 0), (readD (rdC s).1).1⟩, 0)
theorem readC_len (s : ByteArray) : (readC s).1.v.length = 16 := by
  unfold readC
  split
  · rfl
  · split
    · rfl
    · split
      · rfl
      · split
        · rfl
        · exact vecN_len _ _

theorem read_putC {c : Cx} {b : ByteArray} (h : putC c = (b, 0)) : readC b = (c, 0) := by
  unfold putC at h
  split at h
  · rename_i hc; exact absurd (Prod.ext_iff.1 h).2 hc
  · rename_i hc
    split at h
    · exact absurd (Prod.ext_iff.1 h).2 (by simp)
    · rename_i hl
      have hc' : chkC c = 0 := Classical.byContradiction hc
      have hcl := chkC_ok hc'
      cases h
      have e1 := stN_enc (natV_small hcl.vec) (Lib.uvarint (encT c.l).size ++ (encT c.l).data.toList) 16 (by rw [natV_len, hcl.len]; exact Nat.le_refl _)
      have e2 := vecN_enc hcl.len hcl.vec (Lib.uvarint (encT c.l).size ++ (encT c.l).data.toList)
      rw [List.drop_of_length_le (by rw [natV_len, hcl.len]; exact Nat.le_refl _)] at e1
      have e3 := sText_enc (encT c.l) (encT_size hcl.list (by omega)) []
      rw [List.append_nil] at e3
      have e4 : rdC ⟨(encC c).toArray⟩ = (encT c.l, (⟨#[]⟩, 0)) := by
        unfold rdC encC
        rw [e1]
        exact e3
      have e5 : putD c.l = (encT c.l, 0) := by
        unfold putD
        rw [if_neg hl, if_pos hcl.list]
        rfl
      have e6 := read_put e5
      unfold readC
      rw [e4]
      simp only [e6]
      unfold encC
      rw [e2, if_neg (by simp [doneS, ByteArray.size]), if_neg (by rw [hcl.vec]; simp), if_neg (by simp), if_neg (by rw [hc']; simp)]
theorem sText_put {st : ByteArray × Int} {t s1 : ByteArray} (h : sText st = (t, (s1, 0))) : st.2 = 0 ∧ st.1.data.toList = Lib.uvarint t.size ++ t.data.toList ++ s1.data.toList := by
  unfold sText at h
  split at h
  · rename_i hc
    exfalso
    unfold sCount at hc h
    split at hc
    · rename_i he
      rw [if_pos he] at h
      exact he (by have := (Prod.ext_iff.1 (Prod.ext_iff.1 h).2).2; simpa using this)
    · rename_i he
      split at hc
      · rename_i hb
        rw [if_neg he, if_pos hb] at h
        have := (Prod.ext_iff.1 (Prod.ext_iff.1 h).2).2
        simp at this
      · cases hc
  · rename_i hc
    split at h
    · have := (Prod.ext_iff.1 (Prod.ext_iff.1 h).2).2
      simp at this
    · rename_i hsz
      have hcount : sCount 65536 st = ((sNum st).1, true, (sNum st).2) := by
        unfold sCount at hc ⊢
        split
        · rename_i he; rw [if_pos he] at hc; simp at hc
        · rename_i he
          split
          · rename_i hb; rw [if_neg he, if_pos hb] at hc; simp at hc
          · rfl
      have herr : (sNum st).2.2 = 0 := by
        refine Classical.byContradiction fun he => ?_
        unfold sCount at hc
        rw [if_pos he] at hc
        simp at hc
      rw [hcount] at h hsz
      simp only at h hsz
      obtain ⟨h1, h2⟩ := sNum_put (st := st) (n := (sNum st).1) (s1 := (sNum st).2.1) (Prod.ext rfl (Prod.ext rfl herr))
      refine ⟨h1, ?_⟩
      obtain ⟨rfl, h3⟩ := Prod.mk.inj h
      obtain ⟨rfl, -⟩ := Prod.mk.inj h3
      generalize hS : (sNum st).2.1 = S at *
      generalize (sNum st).1 = n at *
      have e1 : (S.extract 0 n).size = n := by rw [ByteArray.size_extract]; omega
      have e2 : (S.extract 0 n).data.toList = S.data.toList.take n := by rw [Lib.extract_data]; simp
      rw [h2, e1, e2, drop_str, List.append_assoc, List.take_append_drop]
theorem put_readC {s : ByteArray} {c : Cx} (h : readC s = (c, 0)) : putC c = (s, 0) := by
  unfold readC at h
  split at h
  · rename_i hd; exact absurd (Prod.ext_iff.1 h).2 hd
  · rename_i hd
    split at h
    · exact absurd (Prod.ext_iff.1 h).2 (by simp)
    · split at h
      · rename_i he; exact absurd (Prod.ext_iff.1 h).2 he
      · rename_i he
        split at h
        · rename_i hc; exact absurd (Prod.ext_iff.1 h).2 hc
        · rename_i hc
          have hd' := done_ok (by simpa using hd)
          have he' : (readD (rdC s).1).2 = 0 := by simpa using he
          have hc' : chkC ⟨vecN 16 (s, 0), (readD (rdC s).1).1⟩ = 0 := by simpa using hc
          have hcl := chkC_ok hc'
          obtain ⟨rfl, -⟩ := Prod.mk.inj h
          have e1 : putD (readD (rdC s).1).1 = ((rdC s).1, 0) := put_read (Prod.ext rfl he')
          obtain ⟨h1, h2⟩ := sText_put (st := stN 16 (s, 0)) (t := (rdC s).1) (s1 := ⟨#[]⟩) (Prod.ext rfl hd')
          obtain ⟨-, h4⟩ := stN_put 16 (s, 0) (stN 16 (s, 0)).1 (Prod.ext rfl h1)
          have e2 : encT (readD (rdC s).1).1 = (rdC s).1 ∧ ¬ 4096 < (readD (rdC s).1).1.length := by
            unfold putD at e1
            split at e1
            · exact absurd (Prod.ext_iff.1 e1).2 (by simp)
            · rename_i hl
              split at e1
              · exact ⟨(Prod.ext_iff.1 e1).1, hl⟩
              · rename_i hx; exact absurd (Prod.ext_iff.1 e1).2 hx
          unfold putC
          rw [if_neg (by rw [hc']; simp), if_neg e2.2]
          unfold encC
          rw [e2.1, vecN_nat]
          simp only [List.append_nil] at h2
          rw [h2] at h4
          simp only at h4
          rw [← h4]
theorem putC_form (c : Cx) (h : (putC c).2 = 0) : IsClean c ∧ c.l.length ≤ 4096 := by
  unfold putC at h
  split at h
  · rename_i hc; exact absurd h hc
  · rename_i hc
    split at h
    · cases h
    · rename_i hl
      exact ⟨chkC_ok (by simpa using hc), by omega⟩
end Go.Proofs.Ytcedliaeipabnaa
