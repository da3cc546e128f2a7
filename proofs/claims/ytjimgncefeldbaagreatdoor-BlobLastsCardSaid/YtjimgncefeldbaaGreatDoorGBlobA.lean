/-
  Plain facts: what records tell of chunks.
  Plain facts: each act on a disk whose files are told by rows ahead and behind; where power goes.
  A slice of texts that came in, with its capacity; a row of numbers that a call owns.
  blob.Store in memory.
-/
import Derived.Test.YtjimgncefeldbaaGreatDoorGFrame
import Derived.Test.YtjimgncefeldbaaGreatDoorGShaC
import Derived.Maps.OwnSet
import Derived.Test.YtjimgncefeldbaaGreatDoorGDiskF
import Derived.Test.YtjimgncefeldbaaGreatDoorKit
import Derived.Test.YtjimgncefeldbaaGreatDoorGWireB
import Derived.Laws.OwnMore
import Derived.Test.YtjimgncefeldbaaGreatDoorGSerA
import Derived.Test.YtjimgncefeldbaaGreatDoorShaLaid
import Derived.Maps.AppendAt
namespace Go.Proofs.YtjimgncefeldbaaGreatDoor
open Go.Lib Go.RowKit Go.Maps Go.WideShapes

abbrev DU := DataW Unit
/-- a text as a key, and as what stands under it -/
def kL (b : ByteArray) : Lit := .string b.data.toList
def vL (b : ByteArray) : DU := .lit (.string b.data.toList)
/-- the record of a chunk, and that of an ID that is gone -/
def cameB (b : ByteArray) : ByteArray := ⟨(0 :: b.data.toList).toArray⟩
def wentB (b : ByteArray) : ByteArray := ⟨(1 :: b.data.toList).toArray⟩
/-- what a record tells -/
def hearS (M : DU) (t : ByteArray) : DU :=
  match t.data.toList with
  | [] => M
  | c :: r => if c = 0 then M.put (kL (idS ⟨r.toArray⟩)) (.lit (.string r)) else if c = 1 then M.del (.string r) else M
def replay (M : DU) (l : List ByteArray) : DU := l.foldl hearS M
/-- is the chunk of an ID there? -/
def hasC (M : DU) (id : ByteArray) : Bool := Maps.has M (kL id)

theorem ba_of (b : ByteArray) : (⟨b.data.toList.toArray⟩ : ByteArray) = b := ba_eq (by simp)
theorem kL_key (b : ByteArray) : WideAt.IsKeyLit (kL b) := trivial
theorem kL_inj {a b : ByteArray} (h : kL a = kL b) : a = b := by unfold kL at h; exact ba_eq (Lit.string.inj h)
theorem hear_came (M : DU) (b : ByteArray) : hearS M (cameB b) = M.put (kL (idS b)) (vL b) := by
  have e : (cameB b).data.toList = 0 :: b.data.toList := by simp [cameB]
  unfold hearS
  rw [e]
  simp only [if_true]
  rw [ba_of]; rfl
theorem hear_went (M : DU) (b : ByteArray) : hearS M (wentB b) = M.del (kL b) := by
  have e : (wentB b).data.toList = 1 :: b.data.toList := by simp [wentB]
  unfold hearS
  rw [e]
  simp [kL]
theorem replay_app (M : DU) (a b : List ByteArray) : replay M (a ++ b) = replay (replay M a) b := by unfold replay; rw [List.foldl_append]
theorem replay_cons (M : DU) (t : ByteArray) (l : List ByteArray) : replay M (t :: l) = replay (hearS M t) l := rfl

/-- a record that a store puts: of a chunk of P, or of the ID of some bytes -/
def TextOk (P : ByteArray → Prop) (t : ByteArray) : Prop := (∃ b, P b ∧ t = cameB b) ∨ ∃ b, t = wentB (idS b)

/-- each chunk that is there is of P, and stands under its ID -/
structure MOk (P : ByteArray → Prop) (M : DU) : Prop where
  tidy : Tidy M
  at' : ∀ id : ByteArray, hasC M id = true → ∃ b, P b ∧ idS b = id ∧ ∀ z, M.atKey (kL id) z = vL b
theorem mok_empty (P : ByteArray → Prop) : MOk P (.map []) := ⟨tidy_empty, fun id h => by simp [hasC, Maps.has] at h⟩
theorem mok_put {P : ByteArray → Prop} {M : DU} (h : MOk P M) {b : ByteArray} (hb : P b) : MOk P (M.put (kL (idS b)) (vL b)) := by
  refine ⟨h.tidy.put (kL_key _) _, fun id hh => ?_⟩
  by_cases e : id = idS b
  · subst e
    exact ⟨b, hb, rfl, fun z => atKey_put_same h.tidy.isMap (kL_key _) _ _⟩
  · have hne : kL id ≠ kL (idS b) := fun e' => e (kL_inj e')
    unfold hasC at hh
    rw [has_put_other hne] at hh
    obtain ⟨c, h1, h2, h3⟩ := h.at' id hh
    exact ⟨c, h1, h2, fun z => by rw [atKey_put_other hne]; exact h3 z⟩
theorem mok_del {P : ByteArray → Prop} {M : DU} (h : MOk P M) (i : ByteArray) : MOk P (M.del (kL i)) := by
  refine ⟨h.tidy.del _, fun id hh => ?_⟩
  by_cases e : id = i
  · subst e
    unfold hasC at hh
    rw [has_del_same] at hh; cases hh
  · have hne : kL id ≠ kL i := fun e' => e (kL_inj e')
    unfold hasC at hh
    rw [has_del_other hne] at hh
    obtain ⟨c, h1, h2, h3⟩ := h.at' id hh
    exact ⟨c, h1, h2, fun z => by rw [atKey_del_other hne]; exact h3 z⟩
theorem mok_replay {P : ByteArray → Prop} : ∀ (l : List ByteArray) {M : DU}, MOk P M → (∀ t ∈ l, TextOk P t) → MOk P (replay M l)
  | [], _, h, _ => h
  | t :: l, M, h, ht => by
    rw [replay_cons]
    refine mok_replay l ?_ (fun x hx => ht x (List.mem_cons_of_mem _ hx))
    rcases ht t (List.mem_cons_self ..) with ⟨b, hb, rfl⟩ | ⟨b, rfl⟩
    · rw [hear_came]; exact mok_put h hb
    · rw [hear_went]; exact mok_del h _

theorem has_came {M : DU} (h : IsMap M) (b id : ByteArray) : hasC (hearS M (cameB b)) id = (hasC M id || decide (idS b = id)) := by
  rw [hear_came]
  unfold hasC
  by_cases e : idS b = id
  · rw [e, has_put_same h (kL_key _)]; simp
  · rw [has_put_other (fun e' => e (kL_inj e').symm)]; simp [e]
theorem has_went (M : DU) (b id : ByteArray) : hasC (hearS M (wentB b)) id = (hasC M id && !decide (b = id)) := by
  rw [hear_went]
  unfold hasC
  by_cases e : b = id
  · rw [e, has_del_same]; simp
  · rw [has_del_other (fun e' => e (kL_inj e').symm)]; simp [e]
theorem hear_map {M : DU} (h : IsMap M) (t : ByteArray) : IsMap (hearS M t) := by
  unfold hearS
  split
  · exact h
  · split
    · exact h.put _ _
    · split
      · exact h.del _
      · exact h
theorem replay_map : ∀ (l : List ByteArray) {M : DU}, IsMap M → IsMap (replay M l)
  | [], _, h => h
  | t :: l, _, h => replay_map l (hear_map h t)

/-- chunks that come take nothing away -/
theorem cames_keep : ∀ (l : List ByteArray) {M : DU}, IsMap M → (∀ t ∈ l, ∃ b, t = cameB b) → ∀ id, hasC M id = true → hasC (replay M l) id = true
  | [], _, _, _, _, h => h
  | t :: l, M, hm, hl, id, h => by
    obtain ⟨b, rfl⟩ := hl t (List.mem_cons_self ..)
    refine cames_keep l (hear_map hm _) (fun x hx => hl x (List.mem_cons_of_mem _ hx)) id ?_
    rw [has_came hm, h]; rfl
/-- chunks that come are there -/
theorem cames_there : ∀ (l : List ByteArray) {M : DU}, IsMap M → (∀ t ∈ l, ∃ b, t = cameB b) → ∀ b, cameB b ∈ l → hasC (replay M l) (idS b) = true
  | [], _, _, _, _, h => by simp at h
  | t :: l, M, hm, hl, b, h => by
    rcases List.mem_cons.1 h with e | h
    · refine cames_keep l (hear_map hm _) (fun x hx => hl x (List.mem_cons_of_mem _ hx)) _ ?_
      rw [← e, has_came hm]; simp
    · exact cames_there l (hear_map hm _) (fun x hx => hl x (List.mem_cons_of_mem _ hx)) b h
/-- what is let go takes no other one away -/
theorem went_keep {M : DU} {i id : ByteArray} (hne : i ≠ id) (h : hasC M id = true) (m : Nat) : hasC (replay M ([wentB i].take m)) id = true := by
  cases m with
  | zero => exact h
  | succ m =>
    have e : [wentB i].take (m + 1) = [wentB i] := by simp
    rw [e]
    show hasC (hearS M (wentB i)) id = true
    rw [has_went, h]; simp [hne]

theorem encRecs_app (a b : List ByteArray) : encRecs (a ++ b) = encRecs a ++ encRecs b := by simp [encRecs]
theorem fallS_whole (l : List ByteArray) (hl : ∀ t ∈ l, t.size ≤ 65536) (s : ByteArray) (h : s.data.toList = encRecs l) : fall (s.size + 1) s = (l, s.size) := by
  have hlen : (encRecs l).length = s.size := by rw [← h, ba_len]
  have hn : l.length ≤ (encRecs l).length := by
    clear h hlen hl
    induction l with
    | nil => simp
    | cons t l ih => rw [encRecs_cons, List.length_append, List.length_cons]; have := recF_pos t; omega
  have := fall_recs l l.length (s.size + 1) s hl (Nat.le_refl _) (by rw [List.take_length]; omega) (fun h => absurd h (by omega)) ⟨[], by rw [h]; simp⟩ (by omega)
  rw [List.take_length, hlen] at this
  exact this
/-- of bytes with which records begin some of the first ones are read -/
theorem fallS_part (l : List ByteArray) (hl : ∀ t ∈ l, t.size ≤ 65536) (s : ByteArray) (h : ∃ q, encRecs l = s.data.toList ++ q) : ∃ m, m ≤ l.length ∧ (fall (s.size + 1) s).1 = l.take m ∧ (encRecs (l.take m)).length ≤ s.size ∧ (m < l.length → s.size < (encRecs (l.take (m + 1))).length) := by
  have hex : ∃ m, m ≤ l.length ∧ (encRecs (l.take m)).length ≤ s.size ∧ (m < l.length → s.size < (encRecs (l.take (m + 1))).length) := by
    have key : ∀ n, n ≤ l.length → (∃ m, m ≤ n ∧ (encRecs (l.take m)).length ≤ s.size ∧ (m < n → s.size < (encRecs (l.take (m + 1))).length)) := by
      intro n
      induction n with
      | zero => intro _; exact ⟨0, Nat.le_refl _, by simp [encRecs], fun h => absurd h (by omega)⟩
      | succ n ih =>
        intro hn
        obtain ⟨m, h1, h2, h3⟩ := ih (by omega)
        by_cases hm : m < n
        · exact ⟨m, by omega, h2, fun _ => h3 hm⟩
        · obtain rfl : m = n := by omega
          by_cases hs : (encRecs (l.take (m + 1))).length ≤ s.size
          · exact ⟨m + 1, Nat.le_refl _, hs, fun h => absurd h (by omega)⟩
          · exact ⟨m, by omega, h2, fun _ => by omega⟩
    exact key l.length (Nat.le_refl _)
  obtain ⟨m, h1, h2, h3⟩ := hex
  have hlen : m ≤ (encRecs (l.take m)).length := by
    have : ∀ l : List ByteArray, l.length ≤ (encRecs l).length := by
      intro l
      induction l with
      | nil => simp
      | cons t l ih => rw [encRecs_cons, List.length_append, List.length_cons]; have := recF_pos t; omega
    have := this (l.take m)
    rw [List.length_take] at this
    omega
  have := fall_recs l m (s.size + 1) s hl h1 h2 h3 h (by omega)
  exact ⟨m, h1, by rw [this], h2, h3⟩
end Go.Proofs.YtjimgncefeldbaaGreatDoor

namespace Go.Proofs.YtjimgncefeldbaaGreatDoor
open Go.Lib Go.RowKit

def nmLt (a b : ByteArray) : Prop := compareBytes a.data.toList b.data.toList < 0
/-- it is on, and has these files -/
structure On (room : Nat) (fz : Bool) (l : List FS) (s : DS) : Prop where
  off : s.off = false
  room : s.room = room
  fused : s.fused = fz
  l : s.l = l
/-- power is gone, and these files are there -/
structure Dark (room : Nat) (l : List FS) (s : DS) : Prop where
  off : s.off = true
  room : s.room = room
  l : s.l = l

theorem act_cases {room : Nat} {fz : Bool} {l : List FS} {s : DS} (h : On room fz l s) (l' : List FS) : (∃ s', actS s l' = (0, s') ∧ On room fz l' s') ∨ (fz = true ∧ ∃ s', actS s l' = (10, s') ∧ Dark room l s') := by
  unfold actS
  cases ho : s.out
  · left
    refine ⟨{ s.pay with l := l' }, rfl, ⟨h.off, h.room, h.fused, rfl⟩⟩
  · right
    refine ⟨?_, s.dark, rfl, ⟨rfl, h.room, h.l⟩⟩
    unfold DS.out at ho
    rw [← h.fused]
    simp at ho
    exact ho.1

theorem spos_split (n : ByteArray) : ∀ (A B : List FS), (∀ a ∈ A, nmLt a.name n) → (∀ b, B.head? = some b → ¬ nmLt b.name n) → spos (A ++ B) n = A.length
  | [], B, _, hB => by
    cases B with
    | nil => rfl
    | cons b B =>
      have h1 := hB b rfl
      unfold nmLt at h1
      have : decide (0 ≤ cmpS n b) = true := by unfold cmpS; simp; omega
      unfold spos
      rw [List.nil_append, List.findIdx_cons, this]; rfl
  | a :: A, B, hA, hB => by
    have h1 := hA a (List.mem_cons_self ..)
    unfold nmLt at h1
    have : decide (0 ≤ cmpS n a) = false := by unfold cmpS; simp; omega
    have ih := spos_split n A B (fun x hx => hA x (List.mem_cons_of_mem _ hx)) hB
    unfold spos at ih ⊢
    rw [List.cons_append, List.findIdx_cons, this, cond_false, ih, List.length_cons]

theorem nmLt_self {a b : ByteArray} (h : a = b) : ¬ nmLt a b := by subst h; unfold nmLt; rw [(cmp_zero _ _).2 rfl]; omega
theorem nmLt_asymm {a b : ByteArray} (h : nmLt a b) : ¬ nmLt b a := by unfold nmLt at *; rw [cmp_swap]; omega
theorem head_mid {A B : List FS} {f : FS} {i : Nat} (hi : i = A.length) : (A ++ f :: B)[i]? = some f := by
  subst hi; rw [List.getElem?_append_right (Nat.le_refl _), Nat.sub_self]; rfl

section
variable {room : Nat} {fz : Bool} {s : DS} {A B : List FS} {n t : ByteArray} {f : FS}

theorem pos_hit (hA : ∀ a ∈ A, nmLt a.name f.name) : spos (A ++ f :: B) f.name = A.length := spos_split _ A (f :: B) hA (fun b hb => by simp at hb; subst hb; exact nmLt_self rfl)
theorem there_hit (hA : ∀ a ∈ A, nmLt a.name f.name) : sthere (A ++ f :: B) f.name = true := by
  unfold sthere
  rw [pos_hit hA, head_mid rfl]
  simp [cmpS, (cmp_zero _ _).2]
theorem pos_miss (hA : ∀ a ∈ A, nmLt a.name n) (hB : ∀ b, B.head? = some b → nmLt n b.name) : spos (A ++ B) n = A.length := spos_split _ A B hA (fun b hb => nmLt_asymm (hB b hb))
theorem there_miss (hA : ∀ a ∈ A, nmLt a.name n) (hB : ∀ b, B.head? = some b → nmLt n b.name) : sthere (A ++ B) n = false := by
  unfold sthere
  rw [pos_miss hA hB, List.getElem?_append_right (Nat.le_refl _), Nat.sub_self]
  cases B with
  | nil => rfl
  | cons b B =>
    have h1 := hB b rfl
    unfold nmLt at h1
    rw [cmp_swap] at h1
    have : cmpS n b ≠ 0 := by unfold cmpS; omega
    simp [this]
theorem mod_hit (hA : ∀ a ∈ A, nmLt a.name f.name) (g : FS → FS) : smod (A ++ f :: B) (spos (A ++ f :: B) f.name) g = A ++ g f :: B := by
  unfold smod
  rw [pos_hit hA, head_mid rfl]
  simp
theorem ins_miss (hA : ∀ a ∈ A, nmLt a.name n) (hB : ∀ b, B.head? = some b → nmLt n b.name) (x : FS) : sins (A ++ B) (spos (A ++ B) n) x = A ++ x :: B := by
  unfold sins
  rw [pos_miss hA hB]; simp
theorem del_hit (hA : ∀ a ∈ A, nmLt a.name f.name) : sdel (A ++ f :: B) (spos (A ++ f :: B) f.name) = A ++ B := by
  unfold sdel
  rw [pos_hit hA]
  rw [List.take_left]
  congr 1
  rw [List.drop_append, List.drop_eq_nil_of_le (by omega), List.nil_append, show A.length + 1 - A.length = 1 by omega]; rfl

theorem append_new (h : On room fz (A ++ B) s) (hnm : isNm n = true) (hA : ∀ a ∈ A, nmLt a.name n) (hB : ∀ b, B.head? = some b → nmLt n b.name) (hr : stotal (A ++ B) + t.size ≤ room) (hl : (A ++ B).length < 1024) :
    (∃ s', appendS s n t = (0, s') ∧ On room fz (A ++ ⟨n, t.data.toList, 0⟩ :: B) s') ∨ (fz = true ∧ ∃ s', appendS s n t = (10, s') ∧ Dark room (A ++ B) s') := by
  unfold appendS
  have hf : sfull s n t.size = false := by
    unfold sfull
    rw [h.l, there_miss hA hB, h.room]
    have h1 : ¬ ((room : Int) - (stotal (A ++ B) : Int) < (t.size : Int)) := by omega
    have h2 : ((A ++ B).length == 1024) = false := by simp at hl ⊢; omega
    rw [h2]; simp; omega
  rw [h.off, hnm, hf, h.l, there_miss hA hB, ins_miss hA hB]
  simp only [Bool.false_eq_true, if_false, Bool.not_true]
  exact act_cases h _
theorem append_old (h : On room fz (A ++ f :: B) s) (hnm : isNm f.name = true) (hA : ∀ a ∈ A, nmLt a.name f.name) (hr : stotal (A ++ f :: B) + t.size ≤ room) :
    (∃ s', appendS s f.name t = (0, s') ∧ On room fz (A ++ { f with body := f.body ++ t.data.toList } :: B) s') ∨ (fz = true ∧ ∃ s', appendS s f.name t = (10, s') ∧ Dark room (A ++ f :: B) s') := by
  unfold appendS
  have hf : sfull s f.name t.size = false := by
    unfold sfull
    rw [h.l, there_hit hA, h.room]
    simp; omega
  rw [h.off, hnm, hf, h.l, there_hit hA, mod_hit hA]
  simp only [Bool.false_eq_true, if_false, Bool.not_true, if_true]
  exact act_cases h _
theorem sync_at (h : On room fz (A ++ f :: B) s) (hA : ∀ a ∈ A, nmLt a.name f.name) :
    (∃ s', syncS s f.name = (0, s') ∧ On room fz (A ++ { f with sure := f.body.length } :: B) s') ∨ (fz = true ∧ ∃ s', syncS s f.name = (10, s') ∧ Dark room (A ++ f :: B) s') := by
  unfold syncS
  rw [h.off, h.l, there_hit hA, mod_hit hA]
  simp only [Bool.false_eq_true, if_false, Bool.not_true]
  exact act_cases h _
theorem remove_at (h : On room fz (A ++ f :: B) s) (hA : ∀ a ∈ A, nmLt a.name f.name) :
    (∃ s', removeS s f.name = (0, s') ∧ On room fz (A ++ B) s') ∨ (fz = true ∧ ∃ s', removeS s f.name = (10, s') ∧ Dark room (A ++ f :: B) s') := by
  unfold removeS
  rw [h.off, h.l, there_hit hA, del_hit hA]
  simp only [Bool.false_eq_true, if_false, Bool.not_true]
  exact act_cases h _
theorem remove_none (h : On room fz (A ++ B) s) (hA : ∀ a ∈ A, nmLt a.name n) (hB : ∀ b, B.head? = some b → nmLt n b.name) : removeS s n = (7, s) := by
  unfold removeS
  rw [h.off, h.l, there_miss hA hB]
  rfl
/-- a file at the end gets a name ahead of its own -/
theorem rename_last (h : On room fz (A ++ [f]) s) (hA : ∀ a ∈ A, nmLt a.name f.name) (hnm : isNm n = true) (hn : ∀ a ∈ A, nmLt a.name n) :
    (∃ s', renameS s f.name n = (0, s') ∧ On room fz (A ++ [{ f with name := n }]) s') ∨ (fz = true ∧ ∃ s', renameS s f.name n = (10, s') ∧ Dark room (A ++ [f]) s') := by
  unfold renameS
  have hd : sren (A ++ [f]) f.name n = A ++ [{ f with name := n }] := by
    unfold sren
    rw [del_hit hA, pos_hit hA, head_mid rfl]
    simp only
    unfold slay
    simp only
    rw [show A ++ [] = A ++ ([] : List FS) from rfl, there_miss hn (fun b hb => by cases hb), ins_miss hn (fun b hb => by cases hb)]
    rfl
  rw [h.off, h.l, there_hit hA, hnm, hd]
  simp only [Bool.false_eq_true, if_false, Bool.not_true]
  exact act_cases h _
end
end Go.Proofs.YtjimgncefeldbaaGreatDoor

namespace Go.Proofs.YtjimgncefeldbaaGreatDoor
open Go.ChangeShapes Go.WideShapes Go.ChangeAt Go.RowKit
open Go.ChangeMaps (open_string shut_string)

/-- A slice of texts that came in: its elements are the texts ss, and it has room for cap. -/
def StrArgC (w : World) (a : Option Addr) (len cap : Nat) (ss : List ByteArray) : Prop := StrArg w a len ss ∧ len ≤ cap ∧ cap ≤ maxLen

theorem strArgC_of {H : Type} {enc : TypeId × Value → H} {P : Program} {w : World} {t e : TypeId} {a : Option Addr} {len cap : Nat} {d : DataW H} {p : List MemPlace}
    (ht : P.underlying t = some (.slice e)) (he : P.underlying e = some .string) (hc : P.cellsOf e = 1)
    (h : DataW.Trod enc P w 0 (fun _ => true) true t (.slice a len cap) d p) : ∃ ss, StrArgC w a len cap ss := by
  obtain ⟨ss, hs⟩ := strArg_of ht he hc h
  refine ⟨ss, hs, ?_⟩
  obtain ⟨fuel, hf⟩ := h
  rcases open_strings ht he hc hf with ⟨hcs, _⟩ | ⟨x, l, c, ss, hcs, _, hl, hm, _⟩
  · simp [Value.cells] at hcs
    obtain ⟨rfl, rfl, rfl⟩ := hcs
    simp
  · simp [Value.cells] at hcs
    obtain ⟨rfl, rfl, rfl⟩ := hcs
    exact ⟨hl, hm⟩

theorem intInfo : (Tryz.prog.info? 3).map (fun i => (i.zero, i.size, i.bytes)) = some (some (.int .i64 0), 1, 8) := by kernel_rfl

/-- The slice v is the call's own, and holds the numbers zs. -/
def OwnI (B : Nat) (v : Value) (zs : List Nat) (w : World) : Prop := w.ownsRow B 3 1 v zs.length (zs.map fun z => Value.int .i64 (z : Nat))
theorem ownI_nil (B : Nat) (w : World) : OwnI B (.slice none 0 0) [] w := World.ownsRow_nil _ _ _ _
/-- The slice's elements are the numbers zs. -/
def IntRow (w : World) (a : Option Addr) (zs : List Nat) : Prop :=
  zs = [] ∨ ∃ g, a = some ⟨g, 0, none⟩ ∧ g < w.heap.size ∧ ∀ j, j < zs.length → w.cell? ⟨g, j, none⟩ = some (.int .i64 (zs.getD j 0 : Nat))
theorem ownI_row {B : Nat} {v : Value} {zs : List Nat} {w : World} (h : OwnI B v zs w) : ∃ a cap, v = .slice a zs.length cap ∧ IntRow w a zs ∧ zs.length ≤ cap ∧ cap ≤ maxLen := by
  have h' := h
  obtain ⟨_, hv⟩ := h
  rcases hv with ⟨rfl, h0⟩ | ⟨g, cap, cur, rfl, hB, hg, hn, hm, hs, htk⟩
  · exact ⟨none, 0, by rw [h0], .inl (List.length_eq_zero_iff.1 h0), by omega, by simp [maxLen]⟩
  · refine ⟨_, cap, rfl, .inr ⟨g, rfl, lt_of_block hg, fun j hj => ?_⟩, hn, hm⟩
    rw [World.ownsRow.cellAt h' j (by omega), List.getElem?_map, List.getD_eq_getElem?_getD, List.getElem?_eq_getElem hj]; rfl
theorem IntRow.below {w w' : World} {a : Option Addr} {zs : List Nat} (h : IntRow w a zs) (hb : Below w.heap.size w w') : IntRow w' a zs := by
  rcases h with h | ⟨g, rfl, hlt, hc⟩
  · exact .inl h
  · exact .inr ⟨g, rfl, Nat.lt_of_lt_of_le hlt hb.size, fun j hj => by rw [hb.cell (p := ⟨g, j, none⟩) hlt]; exact hc j hj⟩
theorem OwnI.below {B C : Nat} {v : Value} {zs : List Nat} {w w' : World} (h : OwnI B v zs w) (hb : Below C w w') (hC : w.heap.size ≤ C) : OwnI B v zs w' := by
  obtain ⟨h1, h2⟩ := h
  refine ⟨h1, ?_⟩
  rcases h2 with h2 | ⟨g, cap, cur, hv, hg, hh, r⟩
  · exact .inl h2
  · exact .inr ⟨g, cap, cur, hv, hg, by rw [hb.block g (by have := lt_of_block hh; omega)]; exact hh, r⟩
theorem texts_same_n (n : Nat) (a b : Option Addr) (ca cb : Nat) (xs : List ByteArray) (w : World) (hn : xs.length = n) (ha : StrRow w a xs) (hb : StrRow w b xs) (hl : xs.length ≤ maxLen) :
    Calls Tryz.prog 12 #[.slice a n ca, .slice b n cb] w fun e w' => e = .returned (.bool true) ∧ ∃ n, w' = w.drewN n := by
  subst hn; exact texts_same a b ca cb xs w ha hb hl
theorem StrRow.take {w : World} {a : Option Addr} {ss : List ByteArray} (h : StrRow w a ss) (m : Nat) : StrRow w a (ss.take m) := by
  rcases h with h | ⟨b, off, rfl, hlt, hc⟩
  · exact .inl (by rw [h]; simp)
  · exact .inr ⟨b, off, rfl, hlt, fun j hj => by
      rw [List.length_take] at hj
      rw [hc j (by omega), List.getD_eq_getElem?_getD, List.getD_eq_getElem?_getD, List.getElem?_take_of_lt (by omega)]⟩
end Go.Proofs.YtjimgncefeldbaaGreatDoor

namespace Go.Proofs.YtjimgncefeldbaaGreatDoor
open Go.RowKit Go.Sort Go.Maps

/-- how a chunk under its ID reads -/
def pieceE : Value → Option (DU × List MemPlace)
  | .agg cs => match cs.toList with
    | [.string s] => some (vL s, [])
    | _ => none
  | _ => none
theorem pieceE_mk (s : ByteArray) : pieceE (.agg #[.string s]) = some (vL s, []) := rfl
theorem pieceE_inv {v : Value} {z : DU × List MemPlace} (h : pieceE v = some z) : ∃ s, v = .agg #[.string s] ∧ z = (vL s, []) := by
  unfold pieceE at h
  split at h
  · rename_i cs
    split at h
    · rename_i s hs
      simp at h
      refine ⟨s, ?_, h.symm⟩
      congr 1
      exact Array.toList_inj.1 hs
    · cases h
  · cases h
theorem strKeyed : Keyed Tryz.prog 9 := string_keyed Tryz.underlying9
theorem strKey {s : ByteArray} (hs : s.size ≤ maxLen) : keyOf Tryz.prog 9 (.string s) = some (kL s) := Go.WideMaps.keyOf_string_mk Tryz.underlying9 hs
theorem zeroPiece (w : World) : (zeroValue 83).run Tryz.prog w = .ok (.agg #[.string ByteArray.empty]) w := by kernel_rfl
/-- Block m is a map of at most N chunks that reads as M. -/
abbrev OM (w : World) (m N : Nat) (M : DU) : Prop := w.ownsMap Tryz.prog 9 pieceE m N M
theorem OM.of_block {w w' : World} {m N : Nat} {M : DU} (h : OM w m N M) (hb : w'.heap[m]? = w.heap[m]?) : OM w' m N M := by
  obtain ⟨es, clock, h1, r⟩ := h
  exact ⟨es, clock, hb.trans h1, r⟩

/-- the chunk under an ID -/
def strAt (M : DU) (id : ByteArray) : ByteArray := match M.atKey (kL id) (vL ByteArray.empty) with | .lit (.string l) => ⟨l.toArray⟩ | _ => ByteArray.empty
theorem vL_inj {a b : ByteArray} (h : vL a = vL b) : a = b := by
  unfold vL at h
  exact ba_eq (Lit.string.inj (DataW.lit.inj h))
theorem strAt_eq {M : DU} {id s : ByteArray} (h : M.atKey (kL id) (vL ByteArray.empty) = vL s) : strAt M id = s := by
  unfold strAt; rw [h]; exact ba_of s

/-- Block S is a store. -/
def StoC (S D seg m : Nat) (va : Option Addr) (n vc : Nat) (torn en : Bool) (w : World) : Prop :=
  w.heap[S]? = some (.cells #[.pointer (some ⟨D, 0, none⟩), .pointer (some ⟨D, 0, none⟩), .string blobB, .int .i64 (seg : Int), .map (some m), .slice va n vc, .bool torn, .bool en] 80 (0, 0))

section
variable {S D seg m n vc : Nat} {va : Option Addr} {torn en : Bool} {w w' : World}
theorem StoC.lt (h : StoC S D seg m va n vc torn en w) : S < w.heap.size := lt_of_block h
theorem StoC.c0 (h : StoC S D seg m va n vc torn en w) : w.cell? ⟨S, 0, none⟩ = some (.pointer (some ⟨D, 0, none⟩)) := by rw [Joins.cell_of_block h]; rfl
theorem StoC.c1 (h : StoC S D seg m va n vc torn en w) : w.cell? ⟨S, 1, none⟩ = some (.pointer (some ⟨D, 0, none⟩)) := by rw [Joins.cell_of_block h]; rfl
theorem StoC.c2 (h : StoC S D seg m va n vc torn en w) : w.cell? ⟨S, 2, none⟩ = some (.string blobB) := by rw [Joins.cell_of_block h]; rfl
theorem StoC.c3 (h : StoC S D seg m va n vc torn en w) : w.cell? ⟨S, 3, none⟩ = some (.int .i64 (seg : Int)) := by rw [Joins.cell_of_block h]; rfl
theorem StoC.c4 (h : StoC S D seg m va n vc torn en w) : w.cell? ⟨S, 4, none⟩ = some (.map (some m)) := by rw [Joins.cell_of_block h]; rfl
theorem StoC.c5 (h : StoC S D seg m va n vc torn en w) : w.cell? ⟨S, 5, none⟩ = some (.slice va n vc) := by rw [Joins.cell_of_block h]; rfl
theorem StoC.c6 (h : StoC S D seg m va n vc torn en w) : w.cell? ⟨S, 6, none⟩ = some (.bool torn) := by rw [Joins.cell_of_block h]; rfl
theorem StoC.c7 (h : StoC S D seg m va n vc torn en w) : w.cell? ⟨S, 7, none⟩ = some (.bool en) := by rw [Joins.cell_of_block h]; rfl
theorem StoC.free (h : StoC S D seg m va n vc torn en w) (i : Nat) : w.frozen? ⟨S, i, none⟩ = false := Joins.unfrozen_of_block h i
theorem StoC.of_block (h : StoC S D seg m va n vc torn en w) (hb : w'.heap[S]? = w.heap[S]?) : StoC S D seg m va n vc torn en w' := by unfold StoC; rw [hb]; exact h
theorem StoC.setSegs (h : StoC S D seg m va n vc torn en w) (va' : Option Addr) (n' vc' : Nat) : StoC S D seg m va' n' vc' torn en (w.setCell ⟨S, 5, none⟩ (.slice va' n' vc')) := by
  have := Joins.block_setCell h (i := 5) (.slice va' n' vc'); simpa [StoC] using this
theorem StoC.setTorn (h : StoC S D seg m va n vc torn en w) (b : Bool) : StoC S D seg m va n vc b en (w.setCell ⟨S, 6, none⟩ (.bool b)) := by
  have := Joins.block_setCell h (i := 6) (.bool b); simpa [StoC] using this
theorem StoC.setEnd (h : StoC S D seg m va n vc torn en w) (b : Bool) : StoC S D seg m va n vc torn b (w.setCell ⟨S, 7, none⟩ (.bool b)) := by
  have := Joins.block_setCell h (i := 7) (.bool b); simpa [StoC] using this
end

theorem Tab.kept {B : Nat} {w w' : World} (h : Tab w) (hb : Below B w w') (hg : 2 < B) : Tab w' := fun j hj => by
  rw [hb.cell (p := ⟨2, j, none⟩) hg]; exact h j hj
theorem OwnI.of_block {B : Nat} {va : Option Addr} {n vc : Nat} {zs : List Nat} {w w' : World} (h : OwnI B (.slice va n vc) zs w) (hb : ∀ g, va = some ⟨g, 0, none⟩ → w'.heap[g]? = w.heap[g]?) : OwnI B (.slice va n vc) zs w' := by
  obtain ⟨h1, h2⟩ := h
  refine ⟨h1, ?_⟩
  rcases h2 with h2 | ⟨g, cap, cur, hv, hg, hh, r⟩
  · exact .inl h2
  · obtain ⟨rfl, e1, e2⟩ : va = some ⟨g, 0, none⟩ ∧ n = zs.length ∧ vc = cap := by simpa using hv
    exact .inr ⟨g, cap, cur, hv, hg, by rw [hb g rfl]; exact hh, r⟩
theorem ownI_lt {B : Nat} {g n vc : Nat} {zs : List Nat} {w : World} (h : OwnI B (.slice (some ⟨g, 0, none⟩) n vc) zs w) : B ≤ g ∧ g < w.heap.size := World.ownsRow.lt h g rfl
theorem Fr.wide {b0 b1 c0 c1 : List Nat} {w w' : World} (h : Fr b0 b1 w w') (h0 : ∀ k ∈ b0, k ∈ c0) (h1 : ∀ k ∈ c1, k ∈ c0 ∨ k ∈ b1 ∨ w.heap.size ≤ k) : Fr c0 c1 w w' :=
  ⟨h.os, h.tape, h.output, h.size, fun k hk hn => h.block k hk (fun hb => hn (h0 k hb)), fun k hk => by
    rcases h1 k hk with h2 | h2 | h2
    · exact .inl h2
    · rcases h.fresh k h2 with h3 | h3
      · exact .inl (h0 k h3)
      · exact .inr h3
    · exact .inr h2⟩
theorem Fr.grown {w w' : World} {m : Nat} (h : w.grownBy w' (some m)) : Fr [m] [m] w w' :=
  ⟨h.os, h.tape, h.output, h.size, fun k hk hn => h.block k hk (fun e => hn (by cases e; simp)), fun k hk => .inl hk⟩

/-- A store, and its disk. -/
structure ST (a : Addr) (B D : Nat) (s : DS) (bl : List Nat) (S seg m N : Nat) (M : DU) (va : Option Addr) (vc : Nat) (zs : List Nat) (torn en : Bool) (w : World) : Prop where
  sw : SW a B D s bl w
  blk : StoC S D seg m va zs.length vc torn en w
  map : OM w m N M
  own : OwnI B (.slice va zs.length vc) zs w
  sha : Tab w
  g3 : 2 < B
  sb : B ≤ S
  mb : B ≤ m
  so : S ∉ bl
  mo : m ∉ bl
  sm : S ≠ m
  vo : ∀ g, va = some ⟨g, 0, none⟩ → g ∉ bl ∧ g ≠ S ∧ g ≠ m
/-- all blocks of a store and its disk -/
def sal (S m : Nat) (va : Option Addr) (bl : List Nat) : List Nat := S :: m :: ((va.map (·.block)).toList ++ bl)

section
variable {a : Addr} {B D S seg m N vc : Nat} {s s' : DS} {bl bl' : List Nat} {M M' : DU} {va va' : Option Addr} {zs zs' : List Nat} {torn en b : Bool} {w w' : World}

theorem mem_sal {k : Nat} : k ∈ sal S m va bl ↔ k = S ∨ k = m ∨ (∃ ad, va = some ad ∧ k = ad.block) ∨ k ∈ bl := by
  unfold sal
  cases va with
  | none => simp
  | some ad => simp
theorem ST.size (h : ST a B D s bl S seg m N M va vc zs torn en w) : B ≤ w.heap.size := h.sw.size
theorem ST.lt (h : ST a B D s bl S seg m N M va vc zs torn en w) : ∀ k ∈ sal S m va bl, B ≤ k ∧ k < w.heap.size := fun k hk => by
  rcases mem_sal.1 hk with rfl | rfl | ⟨ad, rfl, rfl⟩ | h1
  · exact ⟨h.sb, h.blk.lt⟩
  · exact ⟨h.mb, h.map.lt⟩
  · exact World.ownsRow.lt h.own ad.block (by cases ad; rfl)
  · exact h.sw.disk.lt k h1
theorem ST.below {al : List Nat} (h : ST a B D s bl S seg m N M va vc zs torn en w) (hf : Fr (sal S m va bl) al w w') : Below B w w' := hf.below (fun k hk => (h.lt k hk).1) h.size
theorem ST.keep (h : ST a B D s bl S seg m N M va vc zs torn en w) (hb : Below w.heap.size w w') : ST a B D s bl S seg m N M va vc zs torn en w' :=
  ⟨h.sw.keep hb, h.blk.of_block (hb.block S h.blk.lt), h.map.of_block (hb.block m h.map.lt), h.own.of_block (fun g e => hb.block g (by subst e; exact (ownI_lt h.own).2)), h.sha.kept (hb.mono h.size) h.g3, h.g3, h.sb, h.mb, h.so, h.mo, h.sm, h.vo⟩
theorem ST.step (h : ST a B D s bl S seg m N M va vc zs torn en w) (hd : Disk B D s' bl' w') (hf : Fr bl bl' w w') : ST a B D s' bl' S seg m N M va vc zs torn en w' :=
  have hb : Below B w w' := hf.below (fun k hk => (h.sw.disk.lt k hk).1) h.size
  ⟨h.sw.step hd hf, h.blk.of_block (hf.block S h.blk.lt h.so), h.map.of_block (hf.block m h.map.lt h.mo), h.own.of_block (fun g e => hf.block g (by subst e; exact (ownI_lt h.own).2) (h.vo g e).1), h.sha.kept hb h.g3, h.g3, h.sb, h.mb,
    hf.out h.blk.lt h.so, hf.out h.map.lt h.mo, h.sm, fun g e => ⟨hf.out (by subst e; exact (ownI_lt h.own).2) (h.vo g e).1, (h.vo g e).2⟩⟩
theorem ST.stepFr (_h : ST a B D s bl S seg m N M va vc zs torn en w) (hf : Fr bl bl' w w') : Fr (sal S m va bl) (sal S m va bl') w w' :=
  hf.wide (fun k hk => mem_sal.2 (.inr (.inr (.inr hk)))) (fun k hk => by
    rcases mem_sal.1 hk with h1 | h1 | h1 | h1
    · exact .inl (mem_sal.2 (.inl h1))
    · exact .inl (mem_sal.2 (.inr (.inl h1)))
    · exact .inl (mem_sal.2 (.inr (.inr (.inl h1))))
    · exact .inr (.inl h1))
theorem ST.fr_set (_h : ST a B D s bl S seg m N M va vc zs torn en w) (i : Nat) (v : Value) : Fr (sal S m va bl) (sal S m va bl) w (w.setCell ⟨S, i, none⟩ v) :=
  (Fr.set S i v w).wide (fun k hk => mem_sal.2 (.inl (by simpa using hk))) (fun _ hk => .inl hk)
theorem ST.setTorn (h : ST a B D s bl S seg m N M va vc zs torn en w) (b : Bool) : ST a B D s bl S seg m N M va vc zs b en (w.setCell ⟨S, 6, none⟩ (.bool b)) :=
  have hf := Fr.set S 6 (.bool b) w
  have hne : ∀ k, k < w.heap.size → k ≠ S → (w.setCell ⟨S, 6, none⟩ (.bool b)).heap[k]? = w.heap[k]? := fun k hk hn => hf.block k hk (by simpa using hn)
  ⟨h.sw.other hf (fun k hk => by simp at hk; subst hk; exact h.sb) (fun k hk e => by simp at e; subst e; exact h.so hk), h.blk.setTorn b, h.map.of_block (hne m h.map.lt (Ne.symm h.sm)),
    h.own.of_block (fun g e => hne g (by subst e; exact (ownI_lt h.own).2) (h.vo g e).2.1), h.sha.kept (hf.below (B := B) (fun k hk => by simp at hk; subst hk; exact h.sb) h.size) h.g3, h.g3, h.sb, h.mb, h.so, h.mo, h.sm, h.vo⟩
theorem ST.setEnd (h : ST a B D s bl S seg m N M va vc zs torn en w) (b : Bool) : ST a B D s bl S seg m N M va vc zs torn b (w.setCell ⟨S, 7, none⟩ (.bool b)) :=
  have hf := Fr.set S 7 (.bool b) w
  have hne : ∀ k, k < w.heap.size → k ≠ S → (w.setCell ⟨S, 7, none⟩ (.bool b)).heap[k]? = w.heap[k]? := fun k hk hn => hf.block k hk (by simpa using hn)
  ⟨h.sw.other hf (fun k hk => by simp at hk; subst hk; exact h.sb) (fun k hk e => by simp at e; subst e; exact h.so hk), h.blk.setEnd b, h.map.of_block (hne m h.map.lt (Ne.symm h.sm)),
    h.own.of_block (fun g e => hne g (by subst e; exact (ownI_lt h.own).2) (h.vo g e).2.1), h.sha.kept (hf.below (B := B) (fun k hk => by simp at hk; subst hk; exact h.sb) h.size) h.g3, h.g3, h.sb, h.mb, h.so, h.mo, h.sm, h.vo⟩
/-- the row of the segments' numbers is another one, which lies where the old one lay, or in a block of its own -/
theorem ST.setSegs (h : ST a B D s bl S seg m N M va vc zs torn en w) {va' : Option Addr} {vc' : Nat} (hown : OwnI B (.slice va' zs'.length vc') zs' w) (hv : ∀ g, va' = some ⟨g, 0, none⟩ → g ∉ bl ∧ g ≠ S ∧ g ≠ m) :
    ST a B D s bl S seg m N M va' vc' zs' torn en (w.setCell ⟨S, 5, none⟩ (.slice va' zs'.length vc')) :=
  have hf := Fr.set S 5 (.slice va' zs'.length vc') w
  have hne : ∀ k, k < w.heap.size → k ≠ S → (w.setCell ⟨S, 5, none⟩ (.slice va' zs'.length vc')).heap[k]? = w.heap[k]? := fun k hk hn => hf.block k hk (by simpa using hn)
  ⟨h.sw.other hf (fun k hk => by simp at hk; subst hk; exact h.sb) (fun k hk e => by simp at e; subst e; exact h.so hk), h.blk.setSegs va' zs'.length vc', h.map.of_block (hne m h.map.lt (Ne.symm h.sm)),
    hown.of_block (fun g e => hne g (by subst e; exact (ownI_lt hown).2) (hv g e).2.1), h.sha.kept (hf.below (B := B) (fun k hk => by simp at hk; subst hk; exact h.sb) h.size) h.g3, h.g3, h.sb, h.mb, h.so, h.mo, h.sm, hv⟩
/-- what another call leaves of a store whose map it turned -/
theorem ST.setMap {N' : Nat} (h : ST a B D s bl S seg m N M va vc zs torn en w) (hm : OM w' m N' M') (hg : w.grownBy w' (some m)) : ST a B D s bl S seg m N' M' va vc zs torn en w' :=
  have hf := Fr.grown hg
  have hne : ∀ k, k < w.heap.size → k ≠ m → w'.heap[k]? = w.heap[k]? := fun k hk hn => hf.block k hk (by simpa using hn)
  ⟨h.sw.other hf (fun k hk => by simp at hk; subst hk; exact h.mb) (fun k hk e => by simp at e; subst e; exact h.mo hk), h.blk.of_block (hne S h.blk.lt h.sm), hm,
    h.own.of_block (fun g e => hne g (by subst e; exact (ownI_lt h.own).2) (h.vo g e).2.2), h.sha.kept (hf.below (B := B) (fun k hk => by simp at hk; subst hk; exact h.mb) h.size) h.g3, h.g3, h.sb, h.mb, h.so, h.mo, h.sm, h.vo⟩
theorem ST.fr_map (_h : ST a B D s bl S seg m N M va vc zs torn en w) (hg : w.grownBy w' (some m)) : Fr (sal S m va bl) (sal S m va bl) w w' :=
  (Fr.grown hg).wide (fun k hk => mem_sal.2 (.inr (.inl (by simpa using hk)))) (fun _ hk => .inl hk)
end
end Go.Proofs.YtjimgncefeldbaaGreatDoor
