/-
  Vectors as lists of sixteen numbers: whether they may be, the greater and the smaller ones, which is less, their bytes.
-/
import Derived.Test.YtoiafhbembhppaaEncN
import Derived.Test.YtoiafhbembhppaaDotPlain
namespace Go.Proofs.Ytoiafhbembhppaa

abbrev Vc := List Int
abbrev zV : Vc := List.replicate 16 0
def okN (x : Int) : Prop := 0 ≤ x ∧ x ≤ 1099511627776
instance (x : Int) : Decidable (okN x) := inferInstanceAs (Decidable (_ ∧ _))
def chkV (l : Vc) : Int := if ∀ x ∈ l, okN x then 0 else 2
def joinV (a b : Vc) : Vc := List.zipWith max a b
def meetV (a b : Vc) : Vc := List.zipWith min a b
def cmpV (a b : Vc) : Int := if a = b then 0 else if joinV a b = b then -1 else if joinV a b = a then 1 else 2
def hasV (v : Vc) (d : Dt) : Bool := decide (chkD d = 0) && decide (d.2 ≤ v.getD d.1.toNat 0)

theorem chkV_cases (l : Vc) : chkV l = 0 ∨ chkV l = 2 := by unfold chkV; split <;> simp
theorem chkV_ok {l : Vc} (h : chkV l = 0) : ∀ x ∈ l, okN x := by
  unfold chkV at h
  split at h
  · assumption
  · cases h
theorem chkV_good {l : Vc} (h : ∀ x ∈ l, okN x) : chkV l = 0 := by unfold chkV; rw [if_pos h]
theorem chkV_bad {l : Vc} {k : Nat} (hk : k < l.length) (h : ¬ okN (l.getD k 0)) : chkV l = 2 := by
  unfold chkV
  rw [if_neg]
  intro hc
  refine h (hc _ ?_)
  rw [List.getD_eq_getElem?_getD, List.getElem?_eq_getElem hk]
  exact List.getElem_mem _
theorem chkV_all {l : Vc} (h : ∀ j, j < l.length → okN (l.getD j 0)) : chkV l = 0 := chkV_good fun x hx => by
  obtain ⟨i, hi, rfl⟩ := List.mem_iff_getElem.1 hx
  have := h i hi
  rwa [List.getD_eq_getElem?_getD, List.getElem?_eq_getElem hi] at this

theorem joinV_len {a b : Vc} {n : Nat} (ha : a.length = n) (hb : b.length = n) : (joinV a b).length = n := by simp [joinV, ha, hb]
theorem meetV_len {a b : Vc} {n : Nat} (ha : a.length = n) (hb : b.length = n) : (meetV a b).length = n := by simp [meetV, ha, hb]

theorem vec_ext {a b : Vc} {n : Nat} (ha : a.length = n) (hb : b.length = n) (h : ∀ i, i < n → a.getD i 0 = b.getD i 0) : a = b := by
  apply List.ext_getElem (by omega)
  intro i h1 h2
  have := h i (by omega)
  rwa [List.getD_eq_getElem?_getD, List.getElem?_eq_getElem h1, List.getD_eq_getElem?_getD, List.getElem?_eq_getElem h2] at this
theorem joinV_get {a b : Vc} {n i : Nat} (ha : a.length = n) (hb : b.length = n) (hi : i < n) : (joinV a b).getD i 0 = max (a.getD i 0) (b.getD i 0) := by
  simp only [joinV, List.getD_eq_getElem?_getD, List.getElem?_zipWith, List.getElem?_eq_getElem (show i < a.length by omega), List.getElem?_eq_getElem (show i < b.length by omega)]
  rfl
theorem meetV_get {a b : Vc} {n i : Nat} (ha : a.length = n) (hb : b.length = n) (hi : i < n) : (meetV a b).getD i 0 = min (a.getD i 0) (b.getD i 0) := by
  simp only [meetV, List.getD_eq_getElem?_getD, List.getElem?_zipWith, List.getElem?_eq_getElem (show i < a.length by omega), List.getElem?_eq_getElem (show i < b.length by omega)]
  rfl
theorem joinV_iff {a b : Vc} {n : Nat} (ha : a.length = n) (hb : b.length = n) : joinV a b = b ↔ ∀ i, i < n → a.getD i 0 ≤ b.getD i 0 := by
  constructor
  · intro h i hi
    have := joinV_get ha hb hi
    rw [h] at this
    omega
  · intro h
    exact vec_ext (joinV_len ha hb) hb fun i hi => by rw [joinV_get ha hb hi]; have := h i hi; omega
theorem joinV_comm {a b : Vc} {n : Nat} (ha : a.length = n) (hb : b.length = n) : joinV a b = joinV b a :=
  vec_ext (joinV_len ha hb) (joinV_len hb ha) fun i hi => by rw [joinV_get ha hb hi, joinV_get hb ha hi]; omega
theorem joinV_self (a : Vc) : joinV a a = a := vec_ext (joinV_len rfl rfl) rfl fun i hi => by rw [joinV_get rfl rfl hi]; omega
theorem joinV_assoc {a b c : Vc} {n : Nat} (ha : a.length = n) (hb : b.length = n) (hc : c.length = n) : joinV a (joinV b c) = joinV (joinV a b) c :=
  vec_ext (joinV_len ha (joinV_len hb hc)) (joinV_len (joinV_len ha hb) hc) fun i hi => by
    rw [joinV_get ha (joinV_len hb hc) hi, joinV_get hb hc hi, joinV_get (joinV_len ha hb) hc hi, joinV_get ha hb hi]; omega

theorem cmpV_lt {a b : Vc} : cmpV a b < 1 ↔ joinV a b = b := by
  unfold cmpV
  constructor
  · intro h
    split at h
    · rename_i e; subst e; exact joinV_self a
    · split at h
      · assumption
      · split at h <;> simp at h
  · intro h
    rw [if_pos h]
    split <;> decide
theorem cmpV_zero {a b : Vc} : cmpV a b = 0 ↔ a = b := by
  unfold cmpV
  constructor
  · intro h
    split at h
    · assumption
    · split at h
      · simp at h
      · split at h <;> simp at h
  · intro h; rw [if_pos h]
theorem up_left {a b : Vc} {n : Nat} (ha : a.length = n) (hb : b.length = n) : cmpV a (joinV a b) < 1 := by
  rw [cmpV_lt, joinV_assoc ha ha hb, joinV_self]
theorem up_right {a b : Vc} {n : Nat} (ha : a.length = n) (hb : b.length = n) : cmpV b (joinV a b) < 1 := by
  rw [joinV_comm ha hb]; exact up_left hb ha
theorem down_left {a b : Vc} {n : Nat} (ha : a.length = n) (hb : b.length = n) : cmpV (meetV a b) a < 1 := by
  rw [cmpV_lt, joinV_iff (meetV_len ha hb) ha]
  intro i hi
  rw [meetV_get ha hb hi]; omega
theorem down_right {a b : Vc} {n : Nat} (ha : a.length = n) (hb : b.length = n) : cmpV (meetV a b) b < 1 := by
  rw [cmpV_lt, joinV_iff (meetV_len ha hb) hb]
  intro i hi
  rw [meetV_get ha hb hi]; omega
theorem least {a b c : Vc} {n : Nat} (ha : a.length = n) (hb : b.length = n) (hc : c.length = n) : (cmpV a c < 1 ∧ cmpV b c < 1) ↔ cmpV (joinV a b) c < 1 := by
  rw [cmpV_lt, cmpV_lt, cmpV_lt, joinV_iff ha hc, joinV_iff hb hc, joinV_iff (joinV_len ha hb) hc]
  constructor
  · rintro ⟨h1, h2⟩ i hi
    rw [joinV_get ha hb hi]
    have := h1 i hi
    have := h2 i hi
    omega
  · intro h
    refine ⟨fun i hi => ?_, fun i hi => ?_⟩ <;>
    · have := h i hi
      rw [joinV_get ha hb hi] at this
      omega

/-! the document's Compare -/
def lessN (a b : Vc) : Nat → Bool
  | 0 => false
  | k + 1 => lessN a b k || decide (a.getD k 0 < b.getD k 0)
theorem lessN_iff (a b : Vc) : ∀ k, lessN a b k = false ↔ ∀ i, i < k → b.getD i 0 ≤ a.getD i 0 := by
  intro k
  induction k with
  | zero => simp [lessN]
  | succ k ih =>
    unfold lessN
    rw [Bool.or_eq_false_iff, ih, decide_eq_false_iff_not]
    constructor
    · rintro ⟨h1, h2⟩ i hi
      by_cases e : i = k
      · subst e; omega
      · exact h1 i (by omega)
    · intro h
      exact ⟨fun i hi => h i (by omega), by have := h k (by omega); omega⟩
theorem cmpV_ref {a b : Vc} {n : Nat} (ha : a.length = n) (hb : b.length = n) :
    cmpV a b = if lessN a b n = true then (if lessN b a n = true then 2 else -1) else if lessN b a n = true then 1 else 0 := by
  have h1 : lessN a b n = false ↔ joinV b a = a := by rw [lessN_iff, joinV_iff hb ha]
  have h2 : lessN b a n = false ↔ joinV a b = b := by rw [lessN_iff, joinV_iff ha hb]
  rw [joinV_comm hb ha] at h1
  have hall : joinV a b = a → joinV a b = b → a = b := fun h3 h4 => h3.symm.trans h4
  unfold cmpV
  cases e1 : lessN a b n with
  | false =>
    have e3 := h1.1 e1
    cases e2 : lessN b a n with
    | false => rw [if_pos (hall e3 (h2.1 e2))]; simp
    | true =>
      have e4 : ¬ joinV a b = b := fun h => by rw [h2.2 h] at e2; cases e2
      have e5 : a ≠ b := fun h => e4 (by rw [← h, joinV_self])
      rw [if_neg e5, if_neg e4, if_pos e3]; simp
  | true =>
    have e3 : ¬ joinV a b = a := fun h => by rw [h1.2 h] at e1; cases e1
    have e5 : a ≠ b := fun h => e3 (by rw [← h, joinV_self])
    cases e2 : lessN b a n with
    | false => rw [if_neg e5, if_pos (h2.1 e2)]; simp
    | true =>
      have e4 : ¬ joinV a b = b := fun h => by rw [h2.2 h] at e2; cases e2
      rw [if_neg e5, if_neg e4, if_neg e3]; simp

/-- the greater ones of the first k places -/
def mixJ (a b : Vc) (k : Nat) : Vc := joinV (a.take k) (b.take k) ++ a.drop k
def mixM (a b : Vc) (k : Nat) : Vc := meetV (a.take k) (b.take k) ++ a.drop k
theorem mixJ_zero (a b : Vc) : mixJ a b 0 = a := by simp [mixJ, joinV]
theorem mixM_zero (a b : Vc) : mixM a b 0 = a := by simp [mixM, meetV]
theorem mixJ_len {a b : Vc} {n : Nat} (ha : a.length = n) (hb : b.length = n) (k : Nat) : (mixJ a b k).length = n := by simp [mixJ, joinV, ha, hb]; omega
theorem mixM_len {a b : Vc} {n : Nat} (ha : a.length = n) (hb : b.length = n) (k : Nat) : (mixM a b k).length = n := by simp [mixM, meetV, ha, hb]; omega
theorem mixJ_all {a b : Vc} {n : Nat} (ha : a.length = n) (hb : b.length = n) : mixJ a b n = joinV a b := by
  unfold mixJ
  rw [List.take_of_length_le (by omega), List.take_of_length_le (by omega), List.drop_of_length_le (by omega), List.append_nil]
theorem mixM_all {a b : Vc} {n : Nat} (ha : a.length = n) (hb : b.length = n) : mixM a b n = meetV a b := by
  unfold mixM
  rw [List.take_of_length_le (by omega), List.take_of_length_le (by omega), List.drop_of_length_le (by omega), List.append_nil]
theorem mix_at {f : Int → Int → Int} {a b : Vc} {n k : Nat} (ha : a.length = n) (hb : b.length = n) (hk : k < n) : (List.zipWith f (a.take k) (b.take k) ++ a.drop k).getD k 0 = a.getD k 0 := by
  have h1 : (List.zipWith f (a.take k) (b.take k)).length = k := by simp; omega
  rw [List.getD_eq_getElem?_getD, List.getD_eq_getElem?_getD, List.getElem?_append_right (by omega), h1, Nat.sub_self, List.getElem?_drop, Nat.add_zero]
theorem mix_succ {f : Int → Int → Int} {a b : Vc} {n k : Nat} (ha : a.length = n) (hb : b.length = n) (hk : k < n) :
    List.zipWith f (a.take (k + 1)) (b.take (k + 1)) ++ a.drop (k + 1) = (List.zipWith f (a.take k) (b.take k) ++ a.drop k).set k (f (a.getD k 0) (b.getD k 0)) := by
  have h1 : (List.zipWith f (a.take k) (b.take k)).length = k := by simp; omega
  rw [List.set_append_right _ _ (by omega), h1, Nat.sub_self, List.drop_eq_getElem_cons (show k < a.length by omega), List.set_cons_zero,
    List.take_succ_eq_append_getElem (show k < a.length by omega), List.take_succ_eq_append_getElem (show k < b.length by omega), List.zipWith_append (by simp; omega)]
  simp [List.getD_eq_getElem?_getD, List.getElem?_eq_getElem (show k < a.length by omega), List.getElem?_eq_getElem (show k < b.length by omega)]
theorem mixJ_at {a b : Vc} {n k : Nat} (ha : a.length = n) (hb : b.length = n) (hk : k < n) : (mixJ a b k).getD k 0 = a.getD k 0 := mix_at ha hb hk
theorem mixM_at {a b : Vc} {n k : Nat} (ha : a.length = n) (hb : b.length = n) (hk : k < n) : (mixM a b k).getD k 0 = a.getD k 0 := mix_at ha hb hk
theorem mixJ_succ {a b : Vc} {n k : Nat} (ha : a.length = n) (hb : b.length = n) (hk : k < n) : mixJ a b (k + 1) = (mixJ a b k).set k (max (a.getD k 0) (b.getD k 0)) := mix_succ ha hb hk
theorem mixM_succ {a b : Vc} {n k : Nat} (ha : a.length = n) (hb : b.length = n) (hk : k < n) : mixM a b (k + 1) = (mixM a b k).set k (min (a.getD k 0) (b.getD k 0)) := mix_succ ha hb hk

/-! bytes -/
def natV (l : Vc) : List Nat := l.map Int.toNat
theorem natV_len (l : Vc) : (natV l).length = l.length := by simp [natV]
def putV (l : Vc) : ByteArray × Int := if chkV l = 0 then (⟨(encN (natV l)).toArray⟩, 0) else (⟨#[]⟩, 2)
/-- the state behind n numbers, and the next number -/
def stN : Nat → ByteArray × Int → ByteArray × Int
  | 0, st => st
  | n + 1, st => (sNum (stN n st)).2
def numN (n : Nat) (st : ByteArray × Int) : Nat := (sNum (stN n st)).1
theorem stN_succ (n : Nat) (st : ByteArray × Int) : stN (n + 1) st = (sNum (stN n st)).2 := rfl
theorem stN_size (st : ByteArray × Int) : ∀ n, (stN n st).1.size ≤ st.1.size := by
  intro n
  induction n with
  | zero => exact Nat.le_refl _
  | succ n ih => exact Nat.le_trans (sNum_size _) ih
/-- the first k numbers of sixteen -/
def vecN (k : Nat) (st : ByteArray × Int) : Vc := (List.range 16).map fun i => if i < k then ((numN i st : Nat) : Int) else 0
theorem vecN_len (k : Nat) (st : ByteArray × Int) : (vecN k st).length = 16 := by simp [vecN]
theorem vecN_zero (st : ByteArray × Int) : vecN 0 st = zV := by
  apply List.ext_getElem (by simp [vecN])
  intro i h1 h2
  simp [vecN]
theorem vecN_succ (k : Nat) (st : ByteArray × Int) : vecN (k + 1) st = (vecN k st).set k ((numN k st : Nat) : Int) := by
  apply List.ext_getElem (by simp [vecN])
  intro i h1 h2
  rw [List.getElem_set]
  simp only [vecN, List.getElem_map, List.getElem_range]
  by_cases e : k = i
  · subst e; rw [if_pos (by omega), if_pos rfl]
  · rw [if_neg e]
    by_cases h : i < k
    · rw [if_pos h, if_pos (by omega)]
    · rw [if_neg h, if_neg (by omega)]
def readV (s : ByteArray) : Vc × Int :=
  if doneS (stN 16 (s, 0)) ≠ 0 then (zV, doneS (stN 16 (s, 0))) else if chkV (vecN 16 (s, 0)) ≠ 0 then (zV, 2) else (vecN 16 (s, 0), 0)
theorem readV_len (s : ByteArray) : (readV s).1.length = 16 := by
  unfold readV
  split
  · rfl
  · split
    · rfl
    · exact vecN_len _ _

theorem stN_enc {ns : List Nat} (h : ∀ n ∈ ns, n ≤ 9007199254740992) (r : List UInt8) : ∀ k, k ≤ ns.length → stN k (⟨(encN ns ++ r).toArray⟩, 0) = (⟨(encN (ns.drop k) ++ r).toArray⟩, 0) := by
  intro k
  induction k with
  | zero => intro _; rfl
  | succ k ih =>
    intro hk
    have h1 := ih (by omega)
    rw [stN_succ, h1, List.drop_eq_getElem_cons (show k < ns.length by omega)]
    have := sNum_uv ns[k] (h _ (List.getElem_mem _)) (encN (ns.drop (k + 1)) ++ r)
    simp only [encN, List.append_assoc]
    rw [this]
theorem numN_enc {ns : List Nat} (h : ∀ n ∈ ns, n ≤ 9007199254740992) (r : List UInt8) (k : Nat) (hk : k < ns.length) : numN k (⟨(encN ns ++ r).toArray⟩, 0) = ns[k] := by
  unfold numN
  rw [stN_enc h r k (by omega), List.drop_eq_getElem_cons hk]
  have := sNum_uv ns[k] (h _ (List.getElem_mem _)) (encN (ns.drop (k + 1)) ++ r)
  simp only [encN, List.append_assoc]
  rw [this]
theorem natV_small {l : Vc} (h : chkV l = 0) : ∀ n ∈ natV l, n ≤ 9007199254740992 := by
  intro n hn
  obtain ⟨x, hx, rfl⟩ := List.mem_map.1 hn
  have := (chkV_ok h x hx).2
  omega
theorem vecN_enc {l : Vc} (hl : l.length = 16) (h : chkV l = 0) (r : List UInt8) : vecN 16 (⟨(encN (natV l) ++ r).toArray⟩, 0) = l := by
  apply List.ext_getElem (by simp [vecN, hl])
  intro i h1 h2
  have hi : i < 16 := by omega
  simp only [vecN, List.getElem_map, List.getElem_range]
  rw [if_pos hi, numN_enc (natV_small h) r i (by rw [natV_len]; omega)]
  have := (chkV_ok h l[i] (List.getElem_mem _)).1
  simp only [natV, List.getElem_map]
  omega
theorem read_putV {l : Vc} {c : ByteArray} (hl : l.length = 16) (h : putV l = (c, 0)) : readV c = (l, 0) := by
  unfold putV at h
  split at h
  · rename_i hc
    cases h
    have e1 := stN_enc (natV_small hc) [] 16 (by rw [natV_len]; omega)
    have e2 := vecN_enc hl hc []
    rw [List.drop_of_length_le (by rw [natV_len]; omega)] at e1
    rw [List.append_nil] at e1 e2
    unfold readV
    rw [e1, e2, if_neg (by simp [doneS, encN, ByteArray.size]), if_neg (by rw [hc]; simp)]
  · exact absurd (Prod.ext_iff.1 h).2 (by simp)
theorem stN_put : ∀ (n : Nat) (st : ByteArray × Int) (s1 : ByteArray), stN n st = (s1, 0) → st.2 = 0 ∧ st.1.data.toList = encN ((List.range n).map fun i => numN i st) ++ s1.data.toList := by
  intro n
  induction n with
  | zero => intro st s1 h; simp only [stN] at h; subst h; simp [encN]
  | succ n ih =>
    intro st s1 h
    rw [stN_succ] at h
    obtain ⟨h1, h2⟩ := sNum_put (st := stN n st) (n := numN n st) (s1 := s1) (Prod.ext rfl h)
    obtain ⟨h3, h4⟩ := ih st (stN n st).1 (Prod.ext rfl h1)
    refine ⟨h3, ?_⟩
    rw [h4, h2, List.range_succ, List.map_append, encN_append]
    simp [encN]
theorem vecN_nat (st : ByteArray × Int) : natV (vecN 16 st) = (List.range 16).map fun i => numN i st := by
  apply List.ext_getElem (by simp [natV, vecN])
  intro i h1 h2
  have hi : i < 16 := by simpa using h2
  simp only [natV, vecN, List.getElem_map, List.getElem_range]
  rw [if_pos hi]
  omega
theorem put_readV {s : ByteArray} {l : Vc} (h : readV s = (l, 0)) : putV l = (s, 0) := by
  unfold readV at h
  split at h
  · rename_i hd; exact absurd (Prod.ext_iff.1 h).2 hd
  · rename_i hd
    split at h
    · exact absurd (Prod.ext_iff.1 h).2 (by simp)
    · rename_i hc
      have hd' := done_ok (by simpa using hd)
      have hc' : chkV (vecN 16 (s, 0)) = 0 := by simpa using hc
      obtain ⟨rfl, -⟩ := Prod.ext_iff.1 h
      simp only
      obtain ⟨-, h2⟩ := stN_put 16 (s, 0) ⟨#[]⟩ hd'
      unfold putV
      rw [if_pos hc', vecN_nat]
      simp only [List.append_nil] at h2
      rw [← h2]
theorem putV_form (l : Vc) : (putV l).2 = chkV l := by
  unfold putV
  split
  · rename_i h; exact h.symm
  · rename_i h
    rcases chkV_cases l with h1 | h1
    · exact absurd h1 h
    · exact h1.symm
end Go.Proofs.Ytoiafhbembhppaa
