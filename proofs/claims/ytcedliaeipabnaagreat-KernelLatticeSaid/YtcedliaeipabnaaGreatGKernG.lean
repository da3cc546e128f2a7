/-
  Contexts as a vector and names beyond it: what they have, those that are clean, what lacks, their bytes. Nothing of the program.
  How a context is made clean, and what lacks is listed, step by step. Nothing of the program.
  How a context is made clean name by name: what holds behind each. Nothing of the program.
  Vectors by value and in memory: whole rows boxed, loaded, stored, compared; one place read.
  Whole vectors loaded where an operation is guarded, and in regions that draw and only read.
-/
import Derived.Test.YtcedliaeipabnaaGreatGKernF
import Derived.Test.YtcedliaeipabnaaGreatGKernA
import Derived.Deep.WholeRow
import Derived.Laws.StructEq
import Derived.Lib.QuietBelow
namespace Go.Proofs.YtcedliaeipabnaaGreat
set_option linter.unusedSimpArgs false
set_option linter.unusedVariables false

structure Cx where
  v : Vc
  l : List Dt
deriving DecidableEq

def zC : Cx := ⟨zV, []⟩
def hasC (c : Cx) (d : Dt) : Bool := decide (chkD d = 0) && (decide (d.2 ≤ c.v.getD d.1.toNat 0) || decide (d ∈ c.l))
theorem hasC_iff {c : Cx} {d : Dt} : hasC c d = true ↔ chkD d = 0 ∧ (d.2 ≤ c.v.getD d.1.toNat 0 ∨ d ∈ c.l) := by simp [hasC]
theorem hasC_no {c : Cx} {d : Dt} : hasC c d = false ↔ ¬ (chkD d = 0 ∧ (d.2 ≤ c.v.getD d.1.toNat 0 ∨ d ∈ c.l)) := by
  rw [← hasC_iff]; simp
theorem hasC_or (c : Cx) (d : Dt) : hasC c d = (hasV c.v d || (decide (chkD d = 0) && decide (d ∈ c.l))) := by
  unfold hasC hasV
  cases decide (chkD d = 0) <;> simp
theorem chkD_dot {i : Nat} {n : Int} (hi : i < 16) (h1 : 1 ≤ n) (h2 : n ≤ 1099511627776) : chkD ((i : Int), n) = 0 := by
  unfold chkD
  rw [if_neg]
  simp only
  omega

structure IsClean (c : Cx) : Prop where
  len : c.v.length = 16
  ok : ∀ i, i < 16 → okN (c.v.getD i 0)
  top : ∀ i : Nat, i < 16 → hasC c ((i : Int), c.v.getD i 0 + 1) = false
  rise : Rise c.l
  out : ∀ d ∈ c.l, chkD d = 0 ∧ c.v.getD d.1.toNat 0 < d.2

theorem IsClean.below {c : Cx} (h : IsClean c) {i : Nat} (hi : i < 16) {n : Int} (h1 : 1 ≤ n) (h2 : n ≤ c.v.getD i 0) : hasC c ((i : Int), n) = true := by
  have h3 := h.ok i hi
  unfold okN at h3
  rw [hasC_iff]
  refine ⟨chkD_dot hi h1 (by omega), .inl ?_⟩
  simp only [Int.toNat_natCast]
  exact h2
theorem clean_le {a b : Cx} (ha : IsClean a) (hb : IsClean b) (h : ∀ d, hasC b d = true → hasC a d = true) (i : Nat) (hi : i < 16) : b.v.getD i 0 ≤ a.v.getD i 0 := by
  refine Int.not_lt.1 fun hlt => ?_
  have h1 := ha.ok i hi
  unfold okN at h1
  have h2 := h _ (hb.below hi (n := a.v.getD i 0 + 1) (by omega) (by omega))
  rw [ha.top i hi] at h2
  cases h2
theorem clean_cloud {c : Cx} (h : IsClean c) (d : Dt) : d ∈ c.l ↔ hasC c d = true ∧ c.v.getD d.1.toNat 0 < d.2 := by
  rw [hasC_iff]
  constructor
  · intro hd
    obtain ⟨h1, h2⟩ := h.out d hd
    exact ⟨⟨h1, .inr hd⟩, h2⟩
  · rintro ⟨⟨-, h1 | h1⟩, h2⟩
    · omega
    · exact h1
theorem clean_same {a b : Cx} (ha : IsClean a) (hb : IsClean b) (h : ∀ d, hasC a d = hasC b d) : a = b := by
  have hv : a.v = b.v := vec_ext ha.len hb.len fun i hi => Int.le_antisymm (clean_le hb ha (fun d hd => by rw [← h d]; exact hd) i hi) (clean_le ha hb (fun d hd => by rw [h d]; exact hd) i hi)
  have hl : a.l = b.l := rise_same ha.rise hb.rise fun d => by rw [clean_cloud ha, clean_cloud hb, h d, hv]
  obtain ⟨av, al⟩ := a
  obtain ⟨bv, bl⟩ := b
  simp only at hv hl
  rw [hv, hl]

/-! what is made of contexts -/
structure CleanOf (c o : Cx) : Prop where
  clean : IsClean o
  has : ∀ d, hasC o d = hasC c d
structure AddOf (c : Cx) (m : List Dt) (o : Cx) : Prop where
  clean : IsClean o
  has : ∀ d, hasC o d = (hasC c d || (decide (chkD d = 0) && decide (d ∈ m)))
structure JoinOf (a b o : Cx) : Prop where
  clean : IsClean o
  has : ∀ d, hasC o d = (hasC a d || hasC b d)
theorem CleanOf.same {c o p : Cx} (h : CleanOf c o) (k : CleanOf c p) : o = p := clean_same h.clean k.clean fun d => by rw [h.has, k.has]
theorem CleanOf.self {c : Cx} (h : IsClean c) : CleanOf c c := ⟨h, fun _ => rfl⟩
theorem AddOf.same {c o p : Cx} {m : List Dt} (h : AddOf c m o) (k : AddOf c m p) : o = p := clean_same h.clean k.clean fun d => by rw [h.has, k.has]
theorem JoinOf.same {a b o p : Cx} (h : JoinOf a b o) (k : JoinOf a b p) : o = p := clean_same h.clean k.clean fun d => by rw [h.has, k.has]
theorem JoinOf.comm {a b o : Cx} (h : JoinOf a b o) : JoinOf b a o := ⟨h.clean, fun d => by rw [h.has, Bool.or_comm]⟩
theorem JoinOf.again {a b o : Cx} (h : JoinOf a b o) : JoinOf o b o := ⟨h.clean, fun d => by rw [h.has]; cases hasC a d <;> cases hasC b d <;> rfl⟩
theorem JoinOf.assoc {a b c j k o p : Cx} (h1 : JoinOf a b j) (h2 : JoinOf j c o) (h3 : JoinOf b c k) (h4 : JoinOf a k p) : o = p :=
  clean_same h2.clean h4.clean fun d => by rw [h2.has, h1.has, h4.has, h3.has, Bool.or_assoc]
/-- the dots that are added, as a cloud that is longer -/
theorem addOf_cloud {c o : Cx} {m : List Dt} (h : CleanOf ⟨c.v, c.l ++ m⟩ o) : AddOf c m o := ⟨h.clean, fun d => by
  rw [h.has]
  unfold hasC
  simp only [List.mem_append]
  cases decide (chkD d = 0) <;> by_cases h1 : d ∈ c.l <;> by_cases h2 : d ∈ m <;> by_cases h3 : d.2 ≤ c.v.getD d.1.toNat 0 <;> simp [h1, h2, h3]⟩
theorem hasV_join {a b : Vc} (ha : a.length = 16) (hb : b.length = 16) (d : Dt) : hasV (joinV a b) d = (hasV a d || hasV b d) := by
  unfold hasV
  by_cases h : chkD d = 0
  · have := chkD_ok h
    rw [joinV_get ha hb (i := d.1.toNat) (by omega)]
    generalize a.getD d.1.toNat 0 = x
    generalize b.getD d.1.toNat 0 = y
    by_cases h1 : d.2 ≤ x <;> by_cases h2 : d.2 ≤ y <;> simp [h, h1, h2] <;> omega
  · simp [h]
theorem joinOf_add {a b o : Cx} (ha : a.v.length = 16) (hb : b.v.length = 16) (h : AddOf ⟨joinV a.v b.v, a.l⟩ b.l o) : JoinOf a b o := ⟨h.clean, fun d => by
  rw [h.has, hasC_or, hasC_or a, hasC_or b]
  simp only
  rw [hasV_join ha hb]
  cases hasV a.v d <;> cases hasV b.v d <;> cases decide (chkD d = 0) <;> cases decide (d ∈ a.l) <;> cases decide (d ∈ b.l) <;> rfl⟩
theorem joinOf_clean {a b a' b' o : Cx} (ha : CleanOf a a') (hb : CleanOf b b') (h : JoinOf a' b' o) : JoinOf a b o := ⟨h.clean, fun d => by rw [h.has, ha.has, hb.has]⟩

/-! what lacks -/
def Lacks (a b : Cx) (d : Dt) : Prop := hasC b d = true ∧ hasC a d = false
structure IsMiss (a b : Cx) (m : List Dt) : Prop where
  rise : Rise m
  len : m.length ≤ 4096
  mem : ∀ d ∈ m, Lacks a b d
  rest : ∀ d, Lacks a b d → d ∉ m → m.length = 4096 ∧ ∀ x ∈ m, ltD x d = true
theorem rise_nodup {m : List Dt} (h : Rise m) : m.Nodup := by
  refine List.Pairwise.imp ?_ h
  intro a b hab e
  subst e
  rw [ltD_irr] at hab
  cases hab
theorem nodup_len : ∀ {k m : List Dt}, k.Nodup → (∀ y ∈ k, y ∈ m) → k.length ≤ m.length := by
  intro k
  induction k with
  | nil => intro m _ _; exact Nat.zero_le _
  | cons x r ih =>
    intro m hn hs
    obtain ⟨h1, h2⟩ := List.nodup_cons.1 hn
    have h3 := ih (m := m.erase x) h2 (fun y hy => by
      have hne : y ≠ x := fun e => h1 (e ▸ hy)
      exact (List.mem_erase_of_ne hne).2 (hs y (by simp [hy])))
    have hx : x ∈ m := hs x (by simp)
    have h4 := List.length_erase_of_mem hx
    have h5 := List.length_pos_of_mem hx
    simp only [List.length_cons]
    omega
theorem IsMiss.sub {a b : Cx} {m k : List Dt} (hm : IsMiss a b m) (hk : IsMiss a b k) : ∀ x ∈ m, x ∈ k := by
  intro x hx
  refine Classical.byContradiction fun hxk => ?_
  obtain ⟨h1, h2⟩ := hk.rest x (hm.mem x hx) hxk
  have h3 : ∀ y ∈ k, y ∈ m := fun y hy => Classical.byContradiction fun hym => by
    obtain ⟨-, h4⟩ := hm.rest y (hk.mem y hy) hym
    have h5 := ltD_asym (h4 x hx)
    rw [h2 y hy] at h5
    cases h5
  have h6 : (x :: k).length ≤ m.length := by
    refine nodup_len (List.nodup_cons.2 ⟨hxk, rise_nodup hk.rise⟩) fun y hy => ?_
    rcases List.mem_cons.1 hy with rfl | hy
    · exact hx
    · exact h3 y hy
  have := hm.len
  simp only [List.length_cons] at h6
  omega
theorem IsMiss.same {a b : Cx} {m k : List Dt} (hm : IsMiss a b m) (hk : IsMiss a b k) : m = k :=
  rise_same hm.rise hk.rise fun z => ⟨hm.sub hk z, hk.sub hm z⟩
theorem IsMiss.any {a b : Cx} {m : List Dt} (hm : IsMiss a b m) : 0 < m.length ↔ ∃ d, Lacks a b d := by
  constructor
  · intro h
    exact ⟨m[0], hm.mem _ (List.getElem_mem _)⟩
  · rintro ⟨d, hd⟩
    refine Nat.pos_of_ne_zero fun h0 => ?_
    have hn : d ∉ m := by rw [List.length_eq_zero_iff.1 h0]; simp
    have := (hm.rest d hd hn).1
    omega
theorem miss_add {a b j o : Cx} {m : List Dt} (hm : IsMiss a b m) (hl : m.length < 4096) (ho : AddOf a m o) (hj : JoinOf a b j) : o = j :=
  clean_same ho.clean hj.clean fun d => by
    rw [ho.has, hj.has]
    cases ha : hasC a d with
    | true => rfl
    | false =>
      simp only [Bool.false_or]
      cases hb : hasC b d with
      | true =>
        have hd : d ∈ m := Classical.byContradiction fun hn => by
          have := (hm.rest d ⟨hb, ha⟩ hn).1
          omega
        have := (hasC_iff.1 hb).1
        simp [hd, this]
      | false =>
        have hd : d ∉ m := fun hd => by
          have := (hm.mem d hd).1
          rw [hb] at this
          cases this
        simp [hd]
theorem Lacks.clean {a b a' b' : Cx} (ha : CleanOf a a') (hb : CleanOf b b') (d : Dt) : Lacks a' b' d ↔ Lacks a b d := by
  unfold Lacks; rw [ha.has, hb.has]
theorem IsMiss.clean {a b a' b' : Cx} {m : List Dt} (ha : CleanOf a a') (hb : CleanOf b b') (h : IsMiss a' b' m) : IsMiss a b m :=
  ⟨h.rise, h.len, fun d hd => (Lacks.clean ha hb d).1 (h.mem d hd), fun d hd hn => h.rest d ((Lacks.clean ha hb d).2 hd) hn⟩

open Classical in
noncomputable def cmpC (a b : Cx) : Int := if ∃ d, Lacks a b d then (if ∃ d, Lacks b a d then 2 else -1) else if ∃ d, Lacks b a d then 1 else 0
theorem cmpC_miss {a b : Cx} {m k : List Dt} (hm : IsMiss a b m) (hk : IsMiss b a k) : cmpC a b = if 0 < m.length then (if 0 < k.length then 2 else -1) else if 0 < k.length then 1 else 0 := by
  unfold cmpC
  by_cases h1 : 0 < m.length
  · rw [if_pos (hm.any.1 h1), if_pos h1]
    by_cases h2 : 0 < k.length
    · rw [if_pos (hk.any.1 h2), if_pos h2]
    · rw [if_neg (fun h => h2 (hk.any.2 h)), if_neg h2]
  · rw [if_neg (fun h => h1 (hm.any.2 h)), if_neg h1]
    by_cases h2 : 0 < k.length
    · rw [if_pos (hk.any.1 h2), if_pos h2]
    · rw [if_neg (fun h => h2 (hk.any.2 h)), if_neg h2]

open Classical in
noncomputable def chkC (c : Cx) : Int := if chkV c.v ≠ 0 then 2 else if IsClean c then 0 else 5
theorem chkC_ok {c : Cx} (h : chkC c = 0) : IsClean c := by
  unfold chkC at h
  split at h
  · cases h
  · split at h
    · assumption
    · cases h
theorem chkC_clean {c : Cx} (h : IsClean c) : chkC c = 0 := by
  have hv : chkV c.v = 0 := chkV_all fun j hj => h.ok j (by rw [h.len] at hj; exact hj)
  unfold chkC
  rw [if_neg (by rw [hv]; simp), if_pos h]
theorem chkC_vec {c : Cx} (h : chkV c.v ≠ 0) : chkC c = 2 := by unfold chkC; rw [if_pos h]
theorem chkC_form {c : Cx} (h : chkV c.v = 0) (hn : ¬ IsClean c) : chkC c = 5 := by unfold chkC; rw [if_neg (by rw [h]; simp), if_neg hn]
theorem chkC_cases (c : Cx) : chkC c = 0 ∨ chkC c = 2 ∨ chkC c = 5 := by
  unfold chkC
  split
  · exact .inr (.inl rfl)
  · split
    · exact .inl rfl
    · exact .inr (.inr rfl)
theorem IsClean.vec {c : Cx} (h : IsClean c) : chkV c.v = 0 := chkV_all fun j hj => h.ok j (by rw [h.len] at hj; exact hj)
theorem IsClean.list {c : Cx} (h : IsClean c) : chkL c.l = 0 := chkL_good (fun d hd => (h.out d hd).1) h.rise

/-! bytes -/
theorem uv_small (n : Nat) (h : n ≤ 15) : (Lib.uvarint n).length ≤ 1 := Nat.le_trans (uv_mono 15 n h) (by rw [Lib.uvarint_small (by omega)]; simp)
theorem uv_six (n : Nat) (h : n ≤ 1099511627776) : (Lib.uvarint n).length ≤ 6 := Lib.uvarint_length 5 n (by omega)
theorem encD_len7 : ∀ (l : List Dt), (∀ d ∈ l, chkD d = 0) → (encD l).length ≤ l.length * 7 := by
  intro l
  induction l with
  | nil => intro _; simp [encD]
  | cons d r ih =>
    intro h
    have h1 := ih (fun x hx => h x (by simp [hx]))
    obtain ⟨a, b, c, e⟩ := chkD_ok (h d (by simp))
    have h2 := uv_small d.1.toNat (by omega)
    have h3 := uv_six d.2.toNat (by omega)
    simp only [encD, List.length_append, List.length_cons]
    omega
/-- a cloud's bytes, and those of a context -/
def encT (l : List Dt) : ByteArray := ⟨(encDs l).toArray⟩
theorem encT_size {l : List Dt} (h : chkL l = 0) (hl : l.length ≤ 4096) : (encT l).size ≤ 65536 := by
  have h1 := encD_len7 l (chkL_ok h).1
  have h2 := uv_six l.length (by omega)
  show (encDs l).length ≤ 65536
  unfold encDs
  rw [List.length_append]
  omega
def encC (c : Cx) : List UInt8 := encN (natV c.v) ++ (Lib.uvarint (encT c.l).size ++ (encT c.l).data.toList)
noncomputable def putC (c : Cx) : ByteArray × Int := if chkC c ≠ 0 then (⟨#[]⟩, chkC c) else if 4096 < c.l.length then (⟨#[]⟩, 3) else (⟨(encC c).toArray⟩, 0)
/-- the state behind a vector and a text -/
def rdC (s : ByteArray) : ByteArray × (ByteArray × Int) := sText (stN 16 (s, 0))
noncomputable def readC (s : ByteArray) : Cx × Int :=
  if doneS (rdC s).2 ≠ 0 then (zC, doneS (rdC s).2)
  else if chkV (vecN 16 (s, 0)) ≠ 0 then (zC, 2)
  else if (readD (rdC s).1).2 ≠ 0 then (zC, (readD (rdC s).1).2)
  else if chkC ⟨vecN 16 (s, 0), (readD (rdC s).1).1⟩ ≠ 0 then (zC, chkC ⟨vecN 16 (s, 0), (readD (rdC s).1).1⟩)
  else (⟨vecN 16 (s, 0), (readD (rdC s).1).1⟩, 0)
theorem readC_len (s : ByteArray) : (readC s).1.v.length = 16 := by
  unfold readC
  split
  · rfl
  · split
    · rfl
    · split
      · rfl
      · split
        · rfl
        · exact vecN_len _ _

theorem read_putC {c : Cx} {b : ByteArray} (h : putC c = (b, 0)) : readC b = (c, 0) := by
  unfold putC at h
  split at h
  · rename_i hc; exact absurd (Prod.ext_iff.1 h).2 hc
  · rename_i hc
    split at h
    · exact absurd (Prod.ext_iff.1 h).2 (by simp)
    · rename_i hl
      have hc' : chkC c = 0 := Classical.byContradiction hc
      have hcl := chkC_ok hc'
      cases h
      have e1 := stN_enc (natV_small hcl.vec) (Lib.uvarint (encT c.l).size ++ (encT c.l).data.toList) 16 (by rw [natV_len, hcl.len]; exact Nat.le_refl _)
      have e2 := vecN_enc hcl.len hcl.vec (Lib.uvarint (encT c.l).size ++ (encT c.l).data.toList)
      rw [List.drop_of_length_le (by rw [natV_len, hcl.len]; exact Nat.le_refl _)] at e1
      have e3 := sText_enc (encT c.l) (encT_size hcl.list (by omega)) []
      rw [List.append_nil] at e3
      have e4 : rdC ⟨(encC c).toArray⟩ = (encT c.l, (⟨#[]⟩, 0)) := by
        unfold rdC encC
        rw [e1]
        exact e3
      have e5 : putD c.l = (encT c.l, 0) := by
        unfold putD
        rw [if_neg hl, if_pos hcl.list]
        rfl
      have e6 := read_put e5
      unfold readC
      rw [e4]
      simp only [e6]
      unfold encC
      rw [e2, if_neg (by simp [doneS, ByteArray.size]), if_neg (by rw [hcl.vec]; simp), if_neg (by simp), if_neg (by rw [hc']; simp)]
theorem sText_put {st : ByteArray × Int} {t s1 : ByteArray} (h : sText st = (t, (s1, 0))) : st.2 = 0 ∧ st.1.data.toList = Lib.uvarint t.size ++ t.data.toList ++ s1.data.toList := by
  unfold sText at h
  split at h
  · rename_i hc
    exfalso
    unfold sCount at hc h
    split at hc
    · rename_i he
      rw [if_pos he] at h
      exact he (by have := (Prod.ext_iff.1 (Prod.ext_iff.1 h).2).2; simpa using this)
    · rename_i he
      split at hc
      · rename_i hb
        rw [if_neg he, if_pos hb] at h
        have := (Prod.ext_iff.1 (Prod.ext_iff.1 h).2).2
        simp at this
      · cases hc
  · rename_i hc
    split at h
    · have := (Prod.ext_iff.1 (Prod.ext_iff.1 h).2).2
      simp at this
    · rename_i hsz
      have hcount : sCount 65536 st = ((sNum st).1, true, (sNum st).2) := by
        unfold sCount at hc ⊢
        split
        · rename_i he; rw [if_pos he] at hc; simp at hc
        · rename_i he
          split
          · rename_i hb; rw [if_neg he, if_pos hb] at hc; simp at hc
          · rfl
      have herr : (sNum st).2.2 = 0 := by
        refine Classical.byContradiction fun he => ?_
        unfold sCount at hc
        rw [if_pos he] at hc
        simp at hc
      rw [hcount] at h hsz
      simp only at h hsz
      obtain ⟨h1, h2⟩ := sNum_put (st := st) (n := (sNum st).1) (s1 := (sNum st).2.1) (Prod.ext rfl (Prod.ext rfl herr))
      refine ⟨h1, ?_⟩
      obtain ⟨rfl, h3⟩ := Prod.mk.inj h
      obtain ⟨rfl, -⟩ := Prod.mk.inj h3
      generalize hS : (sNum st).2.1 = S at *
      generalize (sNum st).1 = n at *
      have e1 : (S.extract 0 n).size = n := by rw [ByteArray.size_extract]; omega
      have e2 : (S.extract 0 n).data.toList = S.data.toList.take n := by rw [Lib.extract_data]; simp
      rw [h2, e1, e2, drop_str, List.append_assoc, List.take_append_drop]
theorem put_readC {s : ByteArray} {c : Cx} (h : readC s = (c, 0)) : putC c = (s, 0) := by
  unfold readC at h
  split at h
  · rename_i hd; exact absurd (Prod.ext_iff.1 h).2 hd
  · rename_i hd
    split at h
    · exact absurd (Prod.ext_iff.1 h).2 (by simp)
    · split at h
      · rename_i he; exact absurd (Prod.ext_iff.1 h).2 he
      · rename_i he
        split at h
        · rename_i hc; exact absurd (Prod.ext_iff.1 h).2 hc
        · rename_i hc
          have hd' := done_ok (by simpa using hd)
          have he' : (readD (rdC s).1).2 = 0 := by simpa using he
          have hc' : chkC ⟨vecN 16 (s, 0), (readD (rdC s).1).1⟩ = 0 := by simpa using hc
          have hcl := chkC_ok hc'
          obtain ⟨rfl, -⟩ := Prod.mk.inj h
          have e1 : putD (readD (rdC s).1).1 = ((rdC s).1, 0) := put_read (Prod.ext rfl he')
          obtain ⟨h1, h2⟩ := sText_put (st := stN 16 (s, 0)) (t := (rdC s).1) (s1 := ⟨#[]⟩) (Prod.ext rfl hd')
          obtain ⟨-, h4⟩ := stN_put 16 (s, 0) (stN 16 (s, 0)).1 (Prod.ext rfl h1)
          have e2 : encT (readD (rdC s).1).1 = (rdC s).1 ∧ ¬ 4096 < (readD (rdC s).1).1.length := by
            unfold putD at e1
            split at e1
            · exact absurd (Prod.ext_iff.1 e1).2 (by simp)
            · rename_i hl
              split at e1
              · exact ⟨(Prod.ext_iff.1 e1).1, hl⟩
              · rename_i hx; exact absurd (Prod.ext_iff.1 e1).2 hx
          unfold putC
          rw [if_neg (by rw [hc']; simp), if_neg e2.2]
          unfold encC
          rw [e2.1, vecN_nat]
          simp only [List.append_nil] at h2
          rw [h2] at h4
          simp only at h4
          rw [← h4]
theorem putC_form (c : Cx) (h : (putC c).2 = 0) : IsClean c ∧ c.l.length ≤ 4096 := by
  unfold putC at h
  split at h
  · rename_i hc; exact absurd h hc
  · rename_i hc
    split at h
    · cases h
    · rename_i hl
      exact ⟨chkC_ok (by simpa using hc), by omega⟩
end Go.Proofs.YtcedliaeipabnaaGreat

namespace Go.Proofs.YtcedliaeipabnaaGreat

/-! the vector as great as can be -/
structure TopAt (c : Cx) (i : Nat) (x : Int) : Prop where
  ok : okN x
  all : ∀ n : Int, 1 ≤ n → n ≤ x → hasC c ((i : Int), n) = true
  no : hasC c ((i : Int), x + 1) = false
/-- on the way there -/
structure TopTo (c : Cx) (i : Nat) (x : Int) : Prop where
  ok : okN x
  all : ∀ n : Int, 1 ≤ n → n ≤ x → hasC c ((i : Int), n) = true
theorem TopTo.start (c : Cx) {i : Nat} (hi : i < 16) : TopTo c i (max 0 (min (c.v.getD i 0) 1099511627776)) := by
  generalize hx : c.v.getD i 0 = x
  refine ⟨by unfold okN; omega, fun n h1 h2 => ?_⟩
  rw [hasC_iff]
  refine ⟨chkD_dot hi h1 (by omega), .inl ?_⟩
  simp only [Int.toNat_natCast, hx]
  omega
theorem TopTo.more {c : Cx} {i : Nat} {x : Int} (h : TopTo c i x) (hn : hasC c ((i : Int), x + 1) = true) : TopTo c i (x + 1) := by
  have h1 := chkD_ok (hasC_iff.1 hn).1
  have h2 := h.ok
  unfold okN at h2
  refine ⟨by unfold okN; simp only at h1; omega, fun n h3 h4 => ?_⟩
  by_cases e : n = x + 1
  · rw [e]; exact hn
  · exact h.all n h3 (by omega)
theorem TopTo.less {c : Cx} {i : Nat} {x : Int} (hn : hasC c ((i : Int), x + 1) = true) : x + 1 ≤ 1099511627776 := (chkD_ok (hasC_iff.1 hn).1).2.2.2
theorem TopTo.done {c : Cx} {i : Nat} {x : Int} (h : TopTo c i x) (hn : hasC c ((i : Int), x + 1) = false) : TopAt c i x := ⟨h.ok, h.all, hn⟩
theorem TopAt.same {c : Cx} {i : Nat} {x y : Int} (hx : TopAt c i x) (hy : TopAt c i y) : x = y := by
  have h1 := hx.ok
  have h2 := hy.ok
  unfold okN at h1 h2
  refine Int.le_antisymm (Int.not_lt.1 fun h => ?_) (Int.not_lt.1 fun h => ?_)
  · have := hx.all (y + 1) (by omega) (by omega)
    rw [hy.no] at this
    cases this
  · have := hy.all (x + 1) (by omega) (by omega)
    rw [hx.no] at this
    cases this
/-- what is had stands at or below the top, or in the cloud above it -/
theorem TopAt.cover {c : Cx} {d : Dt} {x : Int} (hd : hasC c d = true) (h : TopAt c d.1.toNat x) (hx : x < d.2) : d ∈ c.l := by
  obtain ⟨h1, h2 | h2⟩ := hasC_iff.1 hd
  · exfalso
    have h3 := chkD_ok h1
    have h4 := h.ok
    unfold okN at h4
    have h5 := h.no
    rw [hasC_no] at h5
    refine h5 ⟨chkD_dot (by omega) (by omega) (by omega), .inl ?_⟩
    simp only [Int.toNat_natCast]
    omega
  · exact h2

/-- beyond the vector: what stays of a cloud -/
def beyond (v : Vc) (d : Dt) : Bool := decide (chkD d = 0) && !hasV v d
theorem beyond_iff {v : Vc} {d : Dt} : beyond v d = true ↔ chkD d = 0 ∧ v.getD d.1.toNat 0 < d.2 := by
  unfold beyond hasV
  by_cases h : chkD d = 0 <;> simp [h]
theorem cleanOf_top {c : Cx} {v : Vc} {m : List Dt} (hl : v.length = 16) (ht : ∀ i : Nat, i < 16 → TopAt c i (v.getD i 0)) (hr : Rise m) (hm : ∀ d, d ∈ m ↔ d ∈ c.l ∧ beyond v d = true) : CleanOf c ⟨v, m⟩ := by
  have hhas : ∀ d, hasC ⟨v, m⟩ d = hasC c d := by
    intro d
    rw [Bool.eq_iff_iff]
    constructor
    · intro h
      obtain ⟨h1, h2 | h2⟩ := hasC_iff.1 h
      · have h3 := chkD_ok h1
        have h4 := (ht d.1.toNat (by omega)).all d.2 (by omega) h2
        have e : ((d.1.toNat : Int), d.2) = d := by ext <;> simp <;> omega
        rwa [e] at h4
      · exact hasC_iff.2 ⟨h1, .inr ((hm d).1 h2).1⟩
    · intro h
      have h1 := (hasC_iff.1 h).1
      have h3 := chkD_ok h1
      refine hasC_iff.2 ⟨h1, ?_⟩
      by_cases hx : d.2 ≤ v.getD d.1.toNat 0
      · exact .inl hx
      · have hx' : v.getD d.1.toNat 0 < d.2 := by omega
        exact .inr ((hm d).2 ⟨TopAt.cover h (ht d.1.toNat (by omega)) hx', beyond_iff.2 ⟨h1, hx'⟩⟩)
  refine ⟨⟨hl, fun i hi => (ht i hi).ok, fun i hi => ?_, hr, fun d hd => beyond_iff.1 ((hm d).1 hd).2⟩, hhas⟩
  rw [hhas]
  exact (ht i hi).no
theorem rise_filter {m : List Dt} (h : Rise m) (p : Dt → Bool) : Rise (m.filter p) := List.Pairwise.sublist List.filter_sublist h
theorem cleanOf_filter {c : Cx} {v : Vc} (hl : v.length = 16) (ht : ∀ i : Nat, i < 16 → TopAt c i (v.getD i 0)) : CleanOf c ⟨v, (sortD c.l).filter (beyond v)⟩ :=
  cleanOf_top hl ht (rise_filter (rise_sortD _) _) fun d => by rw [List.mem_filter, mem_sortD]
theorem filter_take_succ {l : List Dt} (p : Dt → Bool) {k : Nat} {d : Dt} (hd : l[k]? = some d) : (l.take (k + 1)).filter p = (l.take k).filter p ++ (if p d = true then [d] else []) := by
  obtain ⟨hk, rfl⟩ := List.getElem?_eq_some_iff.1 hd
  rw [List.take_succ_eq_append_getElem hk, List.filter_append]
  congr 1
  by_cases h : p l[k] = true <;> simp [h]

/-- a context that is clean, told by a comparison with what is made of it -/
theorem clean_iff {c o : Cx} (h : CleanOf c o) : (c.v = o.v ∧ c.l = o.l) ↔ IsClean c := by
  constructor
  · rintro ⟨h1, h2⟩
    have e : c = o := by
      obtain ⟨cv, cl⟩ := c
      obtain ⟨ov, ol⟩ := o
      simp only at h1 h2
      rw [h1, h2]
    rw [e]
    exact h.clean
  · intro hc
    have e : c = o := (CleanOf.self hc).same h
    rw [← e]
    exact ⟨rfl, rfl⟩

/-! what lacks, listed -/
/-- of the names that P tells -/
structure MissIn (a b : Cx) (P : Dt → Prop) (m : List Dt) : Prop where
  rise : Rise m
  len : m.length ≤ 4096
  mem : ∀ d ∈ m, Lacks a b d ∧ P d
  rest : ∀ d, Lacks a b d → P d → d ∉ m → m.length = 4096 ∧ ∀ x ∈ m, ltD x d = true
theorem MissIn.start (a b : Cx) (P : Dt → Prop) (h : ∀ d, Lacks a b d → ¬ P d) : MissIn a b P [] :=
  ⟨.nil, by simp, fun d hd => by simp at hd, fun d h1 h2 _ => absurd h2 (h d h1)⟩
theorem MissIn.turn {a b : Cx} {P R : Dt → Prop} {m : List Dt} (h : MissIn a b P m) (he : ∀ d, Lacks a b d → (P d ↔ R d)) : MissIn a b R m :=
  ⟨h.rise, h.len, fun d hd => ⟨(h.mem d hd).1, (he d (h.mem d hd).1).1 (h.mem d hd).2⟩, fun d h1 h2 h3 => h.rest d h1 ((he d h1).2 h2) h3⟩
theorem MissIn.more {a b : Cx} {P R : Dt → Prop} {m : List Dt} (h : MissIn a b P m) {d : Dt} (hd : Lacks a b d) (hl : m.length < 4096) (hx : ∀ x ∈ m, ltD x d = true) (he : ∀ x, Lacks a b x → (R x ↔ P x ∨ x = d)) : MissIn a b R (m ++ [d]) := by
  refine ⟨?_, by simp; omega, fun x hxm => ?_, fun x h1 h2 h3 => ?_⟩
  · unfold Rise
    rw [List.pairwise_append]
    exact ⟨h.rise, by simp, fun x hx1 y hy => by obtain rfl := List.mem_singleton.1 hy; exact hx x hx1⟩
  · rcases List.mem_append.1 hxm with hxm | hxm
    · exact ⟨(h.mem x hxm).1, (he x (h.mem x hxm).1).2 (.inl (h.mem x hxm).2)⟩
    · obtain rfl := List.mem_singleton.1 hxm
      exact ⟨hd, (he x hd).2 (.inr rfl)⟩
  · exfalso
    rw [List.mem_append, List.mem_singleton] at h3
    rcases (he x h1).1 h2 with h4 | h4
    · have := (h.rest x h1 h4 (fun h5 => h3 (.inl h5))).1
      omega
    · exact h3 (.inr h4)
theorem MissIn.full {a b : Cx} {P R : Dt → Prop} {m : List Dt} (h : MissIn a b P m) (hl : m.length = 4096) (hs : ∀ d, Lacks a b d → P d → R d) (hx : ∀ d, Lacks a b d → R d → ¬ P d → ∀ x ∈ m, ltD x d = true) : MissIn a b R m :=
  ⟨h.rise, h.len, fun d hd => ⟨(h.mem d hd).1, hs d (h.mem d hd).1 (h.mem d hd).2⟩, fun d h1 h2 h3 => by
    by_cases hp : P d
    · exact h.rest d h1 hp h3
    · exact ⟨hl, hx d h1 h2 hp⟩⟩
theorem MissIn.all {a b : Cx} {P : Dt → Prop} {m : List Dt} (h : MissIn a b P m) (hp : ∀ d, Lacks a b d → P d) : IsMiss a b m :=
  ⟨h.rise, h.len, fun d hd => (h.mem d hd).1, fun d h1 h2 => h.rest d h1 (hp d h1) h2⟩
theorem IsMiss.miss {a b : Cx} {m : List Dt} (h : IsMiss a b m) : MissIn a b (fun _ => True) m := ⟨h.rise, h.len, fun d hd => ⟨h.mem d hd, trivial⟩, fun d h1 _ h3 => h.rest d h1 h3⟩

/-- the names ahead of one -/
def Ahead (i : Int) (n : Int) (d : Dt) : Prop := d.1 < i ∨ (d.1 = i ∧ d.2 < n)
theorem ahead_lt {i n : Int} {d : Dt} : Ahead i n d ↔ ltD d (i, n) = true := by rw [ltD_iff]; rfl
theorem Lacks.dot {a b : Cx} {d : Dt} (h : Lacks a b d) : 0 ≤ d.1 ∧ d.1 ≤ 15 ∧ 1 ≤ d.2 ∧ d.2 ≤ 1099511627776 := chkD_ok (hasC_iff.1 h.1).1
/-- one name further: it lacks and there is room; or it does not lack; or there is no room -/
theorem MissIn.step {a b : Cx} {i n : Int} {m : List Dt} (h : MissIn a b (Ahead i n) m) (hd : Lacks a b (i, n)) (hl : m.length < 4096) : MissIn a b (Ahead i (n + 1)) (m ++ [(i, n)]) :=
  h.more hd hl (fun x hx => ahead_lt.1 (h.mem x hx).2) fun x _ => by
    unfold Ahead
    constructor
    · rintro (h1 | ⟨h1, h2⟩)
      · exact .inl (.inl h1)
      · by_cases e : x.2 = n
        · exact .inr (Prod.ext h1 e)
        · exact .inl (.inr ⟨h1, by omega⟩)
    · rintro ((h1 | ⟨h1, h2⟩) | rfl)
      · exact .inl h1
      · exact .inr ⟨h1, by omega⟩
      · exact .inr ⟨rfl, by simp only; omega⟩
theorem MissIn.skip {a b : Cx} {i n : Int} {m : List Dt} (h : MissIn a b (Ahead i n) m) (hd : ¬ Lacks a b (i, n)) : MissIn a b (Ahead i (n + 1)) m :=
  h.turn fun x hx => by
    unfold Ahead
    constructor
    · rintro (h1 | ⟨h1, h2⟩)
      · exact .inl h1
      · exact .inr ⟨h1, by omega⟩
    · rintro (h1 | ⟨h1, h2⟩)
      · exact .inl h1
      · by_cases e : x.2 = n
        · exact absurd (show Lacks a b (i, n) by rw [← h1, ← e]; exact hx) hd
        · exact .inr ⟨h1, by omega⟩
/-- none lacks from one to another -/
theorem MissIn.jump {a b : Cx} {i n j k : Int} {m : List Dt} (h : MissIn a b (Ahead i n) m) (hle : ∀ d, Ahead i n d → Ahead j k d) (hno : ∀ d, Lacks a b d → Ahead j k d → Ahead i n d) : MissIn a b (Ahead j k) m :=
  h.turn fun x hx => ⟨hle x, hno x hx⟩
/-- there is no room any more -/
theorem MissIn.rest_full {a b : Cx} {i n j k : Int} {m : List Dt} (h : MissIn a b (Ahead i n) m) (hl : m.length = 4096) (hle : ∀ d, Ahead i n d → Ahead j k d) : MissIn a b (Ahead j k) m :=
  h.full hl (fun d _ hp => hle d hp) fun d _ _ hn x hx => by
    have h1 := ahead_lt.1 (h.mem x hx).2
    rcases ltD_tri d (i, n) with h2 | h2 | h2
    · exact absurd (ahead_lt.2 h2) hn
    · rw [h2]; exact h1
    · exact ltD_trans h1 h2
theorem MissIn.begin (a b : Cx) : MissIn a b (Ahead 0 1) [] := MissIn.start a b _ fun d hd h => by
  have := hd.dot
  unfold Ahead at h
  omega
theorem MissIn.ends {a b : Cx} {m : List Dt} (h : MissIn a b (Ahead 16 1) m) : IsMiss a b m := h.all fun d hd => by
  have := hd.dot
  exact .inl (by omega)

/-! a replica's part of a cloud, one name behind the other -/
/-- of the first k names of the cloud those of replica i are less than n, of the others none is -/
def Seen (b : Cx) (i k : Nat) (n : Int) : Prop := b.v.getD i 0 < n ∧ ∀ (j : Nat) (d : Dt), b.l[j]? = some d → d.1 = (i : Int) → (j < k → d.2 < n) ∧ (k ≤ j → n ≤ d.2)
theorem Seen.start {b : Cx} (hb : IsClean b) (i : Nat) : Seen b i 0 (b.v.getD i 0 + 1) := ⟨by omega, fun j d hd he => ⟨fun h => by omega, fun _ => by
  have h1 := (hb.out d (List.mem_of_getElem? hd)).2
  have h2 : d.1.toNat = i := by omega
  rw [h2] at h1
  omega⟩⟩
theorem Seen.other {b : Cx} {i k : Nat} {n : Int} (h : Seen b i k n) {d : Dt} (hd : b.l[k]? = some d) (hne : d.1 ≠ (i : Int)) : Seen b i (k + 1) n :=
  ⟨h.1, fun j x hx he => by
    have hjk : j ≠ k := fun e => by
      subst e
      rw [hd] at hx
      obtain rfl := Option.some.inj hx
      exact hne he
    exact ⟨fun hj => (h.2 j x hx he).1 (by omega), fun hj => (h.2 j x hx he).2 (by omega)⟩⟩
theorem Seen.next {b : Cx} (hb : IsClean b) {i k : Nat} {n : Int} (h : Seen b i k n) {d : Dt} (hd : b.l[k]? = some d) (he : d.1 = (i : Int)) : Seen b i (k + 1) (d.2 + 1) := by
  have h0 := (h.2 k d hd he).2 (Nat.le_refl _)
  obtain ⟨hk, hkd⟩ := List.getElem?_eq_some_iff.1 hd
  refine ⟨by have := h.1; omega, fun j x hx hxe => ⟨fun hj => ?_, fun hj => ?_⟩⟩
  · by_cases e : j = k
    · subst e
      rw [hd] at hx
      obtain rfl := Option.some.inj hx
      omega
    · have := (h.2 j x hx hxe).1 (by omega)
      omega
  · obtain ⟨hj2, hjd⟩ := List.getElem?_eq_some_iff.1 hx
    have hlt := List.pairwise_iff_getElem.1 hb.rise k j hk hj2 (by omega)
    rw [hkd, hjd, ltD_iff] at hlt
    omega
theorem Seen.reach {a b : Cx} (hb : IsClean b) {i k : Nat} {n : Int} {m : List Dt} (h : Seen b i k n) {d : Dt} (hd : b.l[k]? = some d) (he : d.1 = (i : Int)) (hm : MissIn a b (Ahead i n) m) : MissIn a b (Ahead i d.2) m := by
  have h0 := (h.2 k d hd he).2 (Nat.le_refl _)
  obtain ⟨hk, hkd⟩ := List.getElem?_eq_some_iff.1 hd
  refine hm.jump (fun x hx => ?_) (fun x hx hxa => ?_)
  · unfold Ahead at *; omega
  · refine Classical.byContradiction fun hno => ?_
    have hx1 : x.1 = (i : Int) ∧ n ≤ x.2 ∧ x.2 < d.2 := by unfold Ahead at *; omega
    have hxi : x.1.toNat = i := by omega
    obtain ⟨-, h2 | h2⟩ := hasC_iff.1 hx.1
    · rw [hxi] at h2
      have := h.1
      omega
    · obtain ⟨j, hj, hjx⟩ := List.mem_iff_getElem.1 h2
      have hxj : b.l[j]? = some x := by rw [List.getElem?_eq_getElem hj, hjx]
      have h3 := h.2 j x hxj hx1.1
      by_cases hjk : j < k
      · have := h3.1 hjk
        omega
      · by_cases e : j = k
        · subst e
          rw [hd] at hxj
          obtain rfl := Option.some.inj hxj
          omega
        · have hlt := List.pairwise_iff_getElem.1 hb.rise k j hk hj (by omega)
          rw [hkd, hjx, ltD_iff] at hlt
          omega
theorem Seen.over {a b : Cx} {i : Nat} {n : Int} {m : List Dt} (h : Seen b i b.l.length n) (hm : MissIn a b (Ahead i n) m) : MissIn a b (Ahead ((i : Int) + 1) 1) m := by
  refine hm.jump (fun x hx => ?_) (fun x hx hxa => ?_)
  · unfold Ahead at *; omega
  · refine Classical.byContradiction fun hno => ?_
    have hd := hx.dot
    have hx1 : x.1 = (i : Int) ∧ n ≤ x.2 := by unfold Ahead at *; omega
    have hxi : x.1.toNat = i := by omega
    obtain ⟨-, h2 | h2⟩ := hasC_iff.1 hx.1
    · rw [hxi] at h2
      have := h.1
      omega
    · obtain ⟨j, hj, hjx⟩ := List.mem_iff_getElem.1 h2
      have hxj : b.l[j]? = some x := by rw [List.getElem?_eq_getElem hj, hjx]
      have := (h.2 j x hxj hx1.1).1 hj
      omega
/-- the first part of a replica: what the first one's vector has does not lack -/
theorem MissIn.enter {a b : Cx} {i : Nat} {m : List Dt} (h : MissIn a b (Ahead i 1) m) (ha : okN (a.v.getD i 0)) : MissIn a b (Ahead i (a.v.getD i 0 + 1)) m := by
  unfold okN at ha
  refine h.jump (fun x hx => ?_) (fun x hx hxa => ?_)
  · unfold Ahead at *; omega
  · refine Classical.byContradiction fun hno => ?_
    have hd := hx.dot
    have hx1 : x.1 = (i : Int) ∧ x.2 ≤ a.v.getD i 0 := by unfold Ahead at *; omega
    have hxi : x.1.toNat = i := by omega
    have h1 := hx.2
    rw [hasC_no] at h1
    refine h1 ⟨(hasC_iff.1 hx.1).1, .inl ?_⟩
    rw [hxi]
    exact hx1.2
end Go.Proofs.YtcedliaeipabnaaGreat

namespace Go.Proofs.YtcedliaeipabnaaGreat

def clm (x : Int) : Int := min (max x 0) 1099511627776
def mixK (v : Vc) (k : Nat) : Vc := (v.map clm).take k ++ List.replicate (16 - k) 0
theorem mixK_len {v : Vc} (hv : v.length = 16) {k : Nat} (hk : k ≤ 16) : (mixK v k).length = 16 := by
  unfold mixK
  rw [List.length_append, List.length_take, List.length_map, List.length_replicate, hv]
  omega
theorem mixK_zero (v : Vc) : mixK v 0 = zV := by
  unfold mixK
  rw [List.take_zero]
  rfl
theorem mixK_all {v : Vc} (hv : v.length = 16) : mixK v 16 = v.map clm := by
  unfold mixK
  rw [List.take_of_length_le (by rw [List.length_map, hv]; exact Nat.le_refl _)]
  simp
theorem mixK_succ {v : Vc} (hv : v.length = 16) {k : Nat} (hk : k < 16) : mixK v (k + 1) = (mixK v k).set k (clm (v.getD k 0)) := by
  unfold mixK
  have hl : ((v.map clm).take k).length = k := by rw [List.length_take, List.length_map, hv]; omega
  have hr : List.replicate (16 - k) (0 : Int) = 0 :: List.replicate (16 - (k + 1)) 0 := by
    rw [show 16 - k = (16 - (k + 1)) + 1 by omega]; rfl
  rw [hr, List.set_append_right _ _ (by rw [hl]; exact Nat.le_refl _), hl, Nat.sub_self, List.set_cons_zero, List.take_succ_eq_append_getElem (by rw [List.length_map, hv]; exact hk), List.append_assoc]
  congr 2
  rw [List.getElem_map, List.getD_eq_getElem?_getD, List.getElem?_eq_getElem (by omega)]
  rfl
theorem clm_at {v : Vc} (hv : v.length = 16) {i : Nat} (hi : i < 16) : (v.map clm).getD i 0 = clm (v.getD i 0) := by
  rw [List.getD_eq_getElem?_getD, List.getD_eq_getElem?_getD, List.getElem?_map, List.getElem?_eq_getElem (by omega)]
  rfl

theorem beyond_no {v : Vc} {d : Dt} (h : beyond v d = false) : chkD d ≠ 0 ∨ d.2 ≤ v.getD d.1.toNat 0 := by
  refine Classical.byContradiction fun hn => ?_
  have : beyond v d = true := beyond_iff.2 ⟨Classical.byContradiction fun h1 => hn (.inl h1), by have : ¬ d.2 ≤ v.getD d.1.toNat 0 := fun h1 => hn (.inr h1); omega⟩
  rw [h] at this
  cases this

structure Cleaning (c : Cx) (s : List Dt) (k : Nat) (v : Vc) (out : List Dt) : Prop where
  len : v.length = 16
  ge : ∀ i, i < 16 → clm (c.v.getD i 0) ≤ v.getD i 0
  top : ∀ i, i < 16 → TopTo c i (v.getD i 0)
  eq : out = (s.take k).filter (beyond v)
  gap : ∀ d ∈ out, v.getD d.1.toNat 0 + 1 < d.2
theorem Cleaning.start {c : Cx} (hv : c.v.length = 16) (s : List Dt) : Cleaning c s 0 (c.v.map clm) [] :=
  ⟨by rw [List.length_map, hv], fun i hi => by rw [clm_at hv hi]; exact Int.le_refl _, fun i hi => by
    rw [clm_at hv hi]
    have h := TopTo.start c hi
    have e : clm (c.v.getD i 0) = max 0 (min (c.v.getD i 0) 1099511627776) := by unfold clm; omega
    rw [e]; exact h, by rw [List.take_zero]; rfl, fun d hd => by simp at hd⟩
theorem Cleaning.skip {c : Cx} {s : List Dt} {k : Nat} {v : Vc} {out : List Dt} (h : Cleaning c s k v out) {d : Dt} (hd : s[k]? = some d) (hb : beyond v d = false) : Cleaning c s (k + 1) v out :=
  ⟨h.len, h.ge, h.top, by rw [filter_take_succ _ hd, hb, h.eq]; simp, h.gap⟩
theorem Cleaning.add {c : Cx} {s : List Dt} {k : Nat} {v : Vc} {out : List Dt} (h : Cleaning c s k v out) {d : Dt} (hd : s[k]? = some d) (hb : beyond v d = true) (hn : d.2 ≠ v.getD d.1.toNat 0 + 1) : Cleaning c s (k + 1) v (out ++ [d]) :=
  ⟨h.len, h.ge, h.top, by rw [filter_take_succ _ hd, hb, h.eq]; simp, fun x hx => by
    rcases List.mem_append.1 hx with hx | hx
    · exact h.gap x hx
    · obtain rfl := List.mem_singleton.1 hx
      have := (beyond_iff.1 hb).2
      omega⟩
theorem Cleaning.bump {c : Cx} {s : List Dt} {k : Nat} {v : Vc} {out : List Dt} (h : Cleaning c s k v out) (hs : Rise s) (hm : ∀ x ∈ s, x ∈ c.l) {d : Dt} (hd : s[k]? = some d) (hb : beyond v d = true) (hn : d.2 = v.getD d.1.toNat 0 + 1) :
    Cleaning c s (k + 1) (v.set d.1.toNat d.2) out := by
  obtain ⟨hck, -⟩ := beyond_iff.1 hb
  obtain ⟨e1, e2, e3, e4⟩ := chkD_ok hck
  obtain ⟨hk, hkd⟩ := List.getElem?_eq_some_iff.1 hd
  have hr : d.1.toNat < 16 := by omega
  have hg : ∀ i, (v.set d.1.toNat d.2).getD i 0 = if i = d.1.toNat then d.2 else v.getD i 0 := fun i => by
    rw [List.getD_eq_getElem?_getD, List.getElem?_set, List.getD_eq_getElem?_getD]
    by_cases e : i = d.1.toNat
    · rw [if_pos e.symm, if_pos e, if_pos (by rw [h.len]; exact hr)]; rfl
    · rw [if_neg (fun x => e x.symm), if_neg e]
  have hno : ∀ x ∈ s.take k, x.1.toNat = d.1.toNat → chkD x = 0 → x.2 < d.2 := fun x hx hxr hxc => by
    obtain ⟨j, hj, hjx⟩ := List.mem_iff_getElem.1 hx
    rw [List.length_take] at hj
    have hlt := List.pairwise_iff_getElem.1 hs j k (by omega) hk (by omega)
    rw [List.getElem_take] at hjx
    rw [hjx, hkd, ltD_iff] at hlt
    have := chkD_ok hxc
    omega
  refine ⟨by rw [List.length_set, h.len], fun i hi => ?_, fun i hi => ?_, ?_, fun x hx => ?_⟩
  · have := h.ge i hi
    rw [hg]
    split
    · rename_i e; subst e; omega
    · exact this
  · rw [hg]
    split
    · rename_i e; subst e
      rw [hn]
      refine (h.top _ hr).more ?_
      have e5 : ((d.1.toNat : Int), v.getD d.1.toNat 0 + 1) = d := Prod.ext (by show (d.1.toNat : Int) = d.1; omega) hn.symm
      rw [e5]
      exact hasC_iff.2 ⟨hck, .inr (hm d (List.mem_of_getElem? hd))⟩
    · exact h.top i hi
  · rw [filter_take_succ _ hd, if_neg (by rw [beyond_iff, hg, if_pos rfl]; simp), List.append_nil, h.eq]
    apply List.filter_congr
    intro x hx
    by_cases e : x.1.toNat = d.1.toNat
    · by_cases hxc : chkD x = 0
      · have h1 := hno x hx e hxc
        have e6 : beyond v x = false := Bool.eq_false_iff.2 fun hh => by have := (beyond_iff.1 hh).2; rw [e] at this; omega
        have e7 : beyond (v.set d.1.toNat d.2) x = false := Bool.eq_false_iff.2 fun hh => by have := (beyond_iff.1 hh).2; rw [hg, if_pos e] at this; omega
        rw [e6, e7]
      · have e6 : beyond v x = false := Bool.eq_false_iff.2 fun hh => hxc (beyond_iff.1 hh).1
        have e7 : beyond (v.set d.1.toNat d.2) x = false := Bool.eq_false_iff.2 fun hh => hxc (beyond_iff.1 hh).1
        rw [e6, e7]
    · rw [Bool.eq_iff_iff, beyond_iff, beyond_iff, hg, if_neg e]
  · have h1 := h.gap x hx
    rw [hg]
    split
    · rename_i e
      exfalso
      rw [h.eq, List.mem_filter] at hx
      have h2 := hno x hx.1 e (beyond_iff.1 hx.2).1
      rw [e] at h1
      omega
    · exact h1
theorem Cleaning.done {c : Cx} {v : Vc} {out : List Dt} {k : Nat} (h : Cleaning c (sortD c.l) k v out) (hk : (sortD c.l).length ≤ k) : CleanOf c ⟨v, out⟩ := by
  have he := h.eq
  rw [List.take_of_length_le hk] at he
  rw [he]
  refine cleanOf_filter h.len fun i hi => (h.top i hi).done (Bool.eq_false_iff.2 fun hh => ?_)
  obtain ⟨h1, h2⟩ := hasC_iff.1 hh
  have h3 := chkD_ok h1
  have h4 := h.ge i hi
  simp only [Int.toNat_natCast] at h2 h3
  rcases h2 with h2 | h2
  · unfold clm at h4
    omega
  · have hm : ((i : Int), v.getD i 0 + 1) ∈ out := by
      rw [he, List.mem_filter, mem_sortD]
      exact ⟨h2, beyond_iff.2 ⟨h1, by simp only [Int.toNat_natCast]; omega⟩⟩
    have h5 := h.gap _ hm
    simp only [Int.toNat_natCast] at h5
    omega
theorem Cleaning.le {c : Cx} {s : List Dt} {k : Nat} {v : Vc} {out : List Dt} (h : Cleaning c s k v out) : out.length ≤ s.length := by
  rw [h.eq]
  refine Nat.le_trans (List.length_filter_le _ _) ?_
  rw [List.length_take]
  exact Nat.min_le_right _ _
theorem beyond_parts (v : Vc) (d : Dt) : beyond v d = (decide (chkD d = 0) && !hasV v d) := rfl
end Go.Proofs.YtcedliaeipabnaaGreat

namespace Go.Proofs.YtcedliaeipabnaaGreat
set_option maxRecDepth 100000
open Go.RowKit

def ics (l : Vc) : Array Value := (l.map (Value.int .i64)).toArray
theorem ics_size (l : Vc) : (ics l).size = l.length := by simp [ics]
theorem ics_get (l : Vc) (j : Nat) (h : j < l.length) : (ics l)[j]? = some (.int .i64 (l.getD j 0)) := by
  simp [ics, List.getD_eq_getElem?_getD, List.getElem?_eq_getElem h]
theorem ics_set (l : Vc) (j : Nat) (x : Int) : (ics l).setIfInBounds j (.int .i64 x) = ics (l.set j x) := by
  unfold ics
  apply Array.ext'
  simp [List.map_set]
theorem ics_inj {a b : Vc} (h : ics a = ics b) : a = b := by
  have h1 := congrArg Array.toList h
  simp only [ics] at h1
  exact (List.map_inj_right (fun x y e => by cases e; rfl)).1 h1
theorem ics_one (l : Vc) : (ics l).all (·.oneCell') = true := by
  simp [ics]; intro x _; rfl

theorem vecArr : (Tryz.prog.info? 24).map (·.size) = some 16 := by kernel_rfl
theorem infoV {l : Vc} (h : l.length = 16) : (Tryz.prog.info? 24).map (·.size) = some (ics l).size := by rw [ics_size, h]; exact vecArr

/-- a block of sixteen numbers -/
def VRow (w : World) (b : Nat) (l : Vc) : Prop := w.heap[b]? = some (.cells (ics l) 24 (0, 0))
theorem VRow.cell {w : World} {b : Nat} {l : Vc} (h : VRow w b l) (j : Nat) (hj : j < l.length) : w.cell? ⟨b, j, none⟩ = some (.int .i64 (l.getD j 0)) := by
  rw [Joins.cell_of_block h, ics_get l j hj]
theorem VRow.free {w : World} {b : Nat} {l : Vc} (h : VRow w b l) (j : Nat) : w.frozen? ⟨b, j, none⟩ = false := Joins.unfrozen_of_block h j
theorem VRow.lt {w : World} {b : Nat} {l : Vc} (h : VRow w b l) : b < w.heap.size := (Array.getElem?_eq_some_iff.1 h).1
theorem VRow.set {w : World} {b : Nat} {l : Vc} (h : VRow w b l) (j : Nat) (x : Int) : VRow (w.setCell ⟨b, j, none⟩ (.int .i64 x)) b (l.set j x) := by
  have := Joins.block_setCell (i := j) h (.int .i64 x)
  rw [ics_set] at this
  exact this
theorem VRow.other {w : World} {b c : Nat} {l : Vc} (h : VRow w b l) (hc : b ≠ c) (j : Nat) (x : Value) : VRow (w.setCell ⟨c, j, none⟩ x) b l := by
  unfold VRow; rw [Below.heap_setCell _ _ _ _ hc]; exact h
theorem VRow.drew {w : World} {b : Nat} {l : Vc} (h : VRow w b l) : VRow w.drew b l := h
theorem VRow.drewN {w : World} {b : Nat} {l : Vc} (h : VRow w b l) (n : Nat) : VRow (w.drewN n) b l := h
theorem VRow.below {w w' : World} {b B : Nat} {l : Vc} (h : VRow w b l) (hb : Below B w w') (hB : b < B) : VRow w' b l := by
  unfold VRow; rw [hb.block b hB]; exact h
theorem VRow.keep {w w' : World} {b : Nat} {l : Vc} (h : VRow w b l) (hb : Below w.heap.size w w') : VRow w' b l := h.below hb h.lt
theorem VRow.alloc {w : World} {b : Nat} {l : Vc} (h : VRow w b l) (o : Obj) : VRow (w.alloc o) b l := by
  unfold VRow; rw [Below.heap_alloc _ _ _ h.lt]; exact h
theorem VRow.of_set {w : World} {b c : Nat} {l : Vc} (h : VRow w b l) (hc : b ≠ c) (C : Array Value) : VRow (w.setRow c C) b l := by
  unfold VRow; rw [setRow_other _ _ _ _ hc]; exact h
theorem VRow.of_put {w : World} {b : Nat} {old : Array Value} (h : w.heap[b]? = some (.cells old 24 (0, 0))) (l : Vc) : VRow (w.setRow b (ics l)) b l := setRow_heap _ _ _ _ _ _ h
theorem VRow.new (w : World) (l : Vc) : VRow (w.alloc (.cells (ics l) 24)) w.heap.size l := heap_alloc_new w _
theorem VRow.drewBelow {w w' : World} {b : Nat} {l : Vc} (h : VRow w b l) (hb : Below w.drew.heap.size w.drew w') : VRow w' b l := h.keep (undrew hb)

/-- a whole row boxed, stored, loaded -/
theorem wl_box {ops : Array Oper} {rest : List Oper} {o : Oper} {a : Act} {w : World} {Q : Exit → Act → World → Prop} (hgd : o.guard = none) (ty : TypeId) (x : Operand) (ho : o.op = .box ty x) (cs : Array Value)
    (hx : a.eval x = .agg cs) (h : wpList Tryz.prog ops Q rest (a.put o.dst (.pointer (some ⟨w.heap.size, 0, none⟩))) (w.alloc (.cells cs ty))) : wpList Tryz.prog ops Q (o :: rest) a w := by
  refine wpList_plain hgd fun _ hK => ?_
  unfold Oper.wp execOp
  simp only [ho, hx, Instr.box, newVar, newRow, Sem.run_bind, Sem.run_pure, Value.cells]
  exact hK _ _ h
theorem vl_store {ops : Array Oper} {rest : List Oper} {o : Oper} {a : Act} {w : World} {Q : Exit → Act → World → Prop} (hgd : o.guard = none) (x y : Operand) (ho : o.op = .store 24 x y) (g : Nat) (l : Vc)
    (hx : a.eval x = .pointer (some ⟨g, 0, none⟩)) (hy : a.eval y = .agg (ics l)) (hg : ∃ old : Vc, VRow w g old ∧ old.length = l.length) (hl : l.length = 16)
    (h : wpList Tryz.prog ops Q rest (a.put o.dst undef) (w.setRow g (ics l))) : wpList Tryz.prog ops Q (o :: rest) a w := by
  obtain ⟨old, hg, ho2⟩ := hg
  exact wpList_store_row hgd 24 x y ho g (ics l) hx hy 24 (ics old) hg (infoV hl) (by rw [ics_size, ics_size]; exact ho2) (ics_one _) h
theorem vl_load {ops : Array Oper} {rest : List Oper} {o : Oper} {a : Act} {w : World} {Q : Exit → Act → World → Prop} (hgd : o.guard = none) (x : Operand) (ho : o.op = .load 24 x) (g : Nat) (l : Vc)
    (hx : a.eval x = .pointer (some ⟨g, 0, none⟩)) (hg : VRow w g l) (hl : l.length = 16)
    (h : wpList Tryz.prog ops Q rest (a.put o.dst (.agg (ics l))) w) : wpList Tryz.prog ops Q (o :: rest) a w :=
  wpList_load_row hgd 24 x ho g hx 24 (ics l) (0, 0) _ hg Tryz.underlying24 rfl (infoV hl) h

theorem partI (w : World) (l : Vc) (k : Nat) (hk : k < l.length) : (part 3 (ics l) k).run Tryz.prog w = .ok (.int .i64 (l.getD k 0)) w := by
  have hagg : (isAgg 3).run Tryz.prog w = .ok false w := by kernel_rfl
  unfold part
  simp [Sem.run_bind, hagg, ics_get l k hk]
/-- one place of a vector by value -/
theorem indexV {l : Vc} (hl : l.length = 16) (k : Nat) (hk : k < 16) (w : World) : (Instr.index 24 (.agg (ics l)) (.int .i64 (k : Int))).run Tryz.prog w = .ok (.int .i64 (l.getD k 0)) w := by
  have hu := run_underlying (P := Tryz.prog) Tryz.underlying24 w
  have hs : (sizeOf 3).run Tryz.prog w = .ok 1 w := by kernel_rfl
  unfold Instr.index
  simp [Sem.run_bind, asIntOf, hu, hs, hk, partI w l k (by omega)]

theorem eqs_step {a b : Vc} (ha : a.length = 16) (hb : b.length = 16) (W : World) : ∀ (n s : Nat), s + n ≤ 16 →
    Sem.run Tryz.prog (forIn (List.range' s n) ((none, ()) : Option Bool × Unit) fun i (__s : Option Bool × Unit) => do
      let x ← part 3 (ics a) i
      let y ← part 3 (ics b) i
      let q ← Op.equalIn 9999 3 x y
      if q = false then pure (ForInStep.done (some false, ())) else pure (ForInStep.yield (none, ()))) W
    = .ok (if ∀ i, i < n → a.getD (s + i) 0 = b.getD (s + i) 0 then (none, ()) else (some false, ())) W := by
  intro n
  induction n with
  | zero => intro s _; rw [if_pos (fun i h2 => by omega)]; simp
  | succ n ih =>
    intro s hs
    have hq : (Op.equalIn 9999 3 (.int .i64 (a.getD s 0)) (.int .i64 (b.getD s 0))).run Tryz.prog W = .ok (a.getD s 0 == b.getD s 0) W := by
      rw [show (9999 : Nat) = 9998 + 1 from rfl, run_equalIn_int (P := Tryz.prog) W 9998 3 .i64 .i64 _ _ Tryz.underlying3]
    rw [List.range'_succ, List.forIn_cons]
    have hpa := partI W a s (by omega)
    have hpb := partI W b s (by omega)
    generalize hx : a.getD s 0 = x at *
    generalize hy : b.getD s 0 = y at *
    by_cases h : x = y
    · have hxy : (x == y) = true := by simp [h]
      rw [hxy] at hq
      simp only [Sem.run_bind, hpa, hpb, hq, Result.andThen_ok, Bool.true_eq_false, if_false, Sem.run_pure]
      rw [ih (s + 1) (by omega)]
      congr 1
      by_cases hall : ∀ i, i < n → a.getD (s + 1 + i) 0 = b.getD (s + 1 + i) 0
      · rw [if_pos hall, if_pos (fun i h2 => by
          cases i with
          | zero => rw [Nat.add_zero, hx, hy, h]
          | succ i => rw [show s + (i + 1) = s + 1 + i by omega]; exact hall i (by omega))]
      · rw [if_neg hall, if_neg (fun hc => hall (fun i h2 => by have := hc (i + 1) (by omega); rwa [show s + (i + 1) = s + 1 + i by omega] at this))]
    · have hxy : (x == y) = false := by simp [h]
      rw [hxy] at hq
      simp only [Sem.run_bind, hpa, hpb, hq, Result.andThen_ok, if_true, Sem.run_pure]
      rw [if_neg (fun hc => h (by have := hc 0 (by omega); rwa [Nat.add_zero, hx, hy] at this))]
/-- two vectors compared -/
theorem eqlV {a b : Vc} (ha : a.length = 16) (hb : b.length = 16) (W : World) : (binOp .eql 24 (.agg (ics a)) (.agg (ics b))).run Tryz.prog W = .ok (.bool (decide (a = b))) W := by
  rw [run_eql_struct]
  have hu := run_underlying (P := Tryz.prog) Tryz.underlying24 W
  have hs : (sizeOf 3).run Tryz.prog W = .ok 1 W := by kernel_rfl
  have e : Op.equalIn 10000 = Op.equalIn (9998 + 1 + 1) := rfl
  rw [e]
  unfold Op.equalIn
  have h := eqs_step ha hb W 16 0 (by omega)
  simp [Sem.run_bind, hu, hs]
  rw [h]
  by_cases hab : a = b
  · subst hab
    rw [if_pos (fun i _ => rfl)]
    simp
  · rw [if_neg (fun hc => hab (vec_ext ha hb fun i hi => by have := hc i hi; rwa [Nat.zero_add] at this))]
    simp [hab]
end Go.Proofs.YtcedliaeipabnaaGreat

namespace Go.Proofs.YtcedliaeipabnaaGreat
set_option maxRecDepth 100000
open Go.RowKit Go.Sort

theorem vl_loadg {ops : Array Oper} {rest : List Oper} {o : Oper} {a : Act} {w : World} {Q : Exit → Act → World → Prop} (hw : Region.wanted o (yielded ops a.tmps) = true) (x : Operand) (ho : o.op = .load 24 x) (g : Nat) (l : Vc)
    (hx : a.eval x = .pointer (some ⟨g, 0, none⟩)) (hg : VRow w g l) (hl : l.length = 16)
    (h : wpList Tryz.prog ops Q rest (a.put o.dst (.agg (ics l))) w) : wpList Tryz.prog ops Q (o :: rest) a w := by
  unfold wpList
  rw [if_pos hw]
  exact .inl (wp_load_row 24 x ho g hx 24 (ics l) (0, 0) _ hg Tryz.underlying24 rfl (infoV hl) h)
theorem vl_build {ops : Array Oper} {rest : List Oper} {o : Oper} {a : Act} {w : World} {Q : Exit → Act → World → Prop} (hw : Region.wanted o (yielded ops a.tmps) = true) (t : TypeId) (parts : Array (Nat × Operand)) (ho : o.op = .build t parts) (cs : Array Value)
    (hb : Tryz.prog.built t (parts.map fun (i, x) => (i, a.eval x)).toList = some cs)
    (h : wpList Tryz.prog ops Q rest (a.put o.dst (.agg cs)) w) : wpList Tryz.prog ops Q (o :: rest) a w := by
  unfold wpList
  rw [if_pos hw]
  refine .inl ?_
  refine wp_build t parts ho (by rw [hb]; rfl) ?_
  rw [hb]
  exact h
theorem VRow.load {w : World} {b : Nat} {l : Vc} (h : VRow w b l) (hl : l.length = 16) : (loadVar 24 ⟨b, 0, none⟩).run Tryz.prog w = .ok (.agg (ics l)) w :=
  run_loadVar_row w b 24 24 (ics l) (0, 0) _ h Tryz.underlying24 rfl (infoV hl)
theorem VRow.store {w : World} {b : Nat} {l m : Vc} (h : VRow w b l) (hl : l.length = 16) (hm : m.length = 16) : (storeVar 24 ⟨b, 0, none⟩ (.agg (ics m))).run Tryz.prog w = .ok () (w.setRow b (ics m)) :=
  run_storeVar_row w b 24 24 (ics l) (ics m) h (infoV hm) (by rw [ics_size, ics_size, hl, hm]) (ics_one _)
theorem vq_load {ops : Array Oper} {C : World → Prop} {Q : Act → Prop} {rest : List Oper} {o : Oper} {a : Act} (hw : Region.wanted o (yielded ops a.tmps) = true) (x : Operand) (ho : o.op = .load 24 x) (g : Nat) (l : Vc)
    (hx : a.eval x = .pointer (some ⟨g, 0, none⟩)) (hg : ∀ w, C w → VRow w g l) (hl : l.length = 16)
    (h : wpQuiet Tryz.prog ops C Q rest (a.put o.dst (.agg (ics l)))) : wpQuiet Tryz.prog ops C Q (o :: rest) a := by
  refine wpQuiet_step fun K hK => ?_
  rw [if_pos hw]
  refine ⟨_, fun w hC => ?_, hK _ h⟩
  unfold Oper.quietAt execOp
  simp only [ho, hx, Instr.loadAt, Instr.sureAddr, Sem.run_bind, Sem.run_pure, Result.andThen_ok, (hg w hC).load hl]
  exact ⟨rfl, rfl⟩
theorem VRow.regrown {W : World} {b : Nat} {l : Vc} (h : VRow W b l) : ∀ w, (∃ p : Regrown, w = grow (redrawn W p.d) p.os) → VRow w b l := by
  rintro w ⟨p, rfl⟩
  exact h.keep (below_regrown W p.d p.os)
end Go.Proofs.YtcedliaeipabnaaGreat
