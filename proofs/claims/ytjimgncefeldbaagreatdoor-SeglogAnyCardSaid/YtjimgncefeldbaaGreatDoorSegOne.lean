/-
  Plain facts: Open, of a disk with one file of the log, with none, with any.
-/
import Derived.Test.YtjimgncefeldbaaGreatDoorSegOpen
namespace Go.Proofs.YtjimgncefeldbaaGreatDoor
open Go.Lib Go.RowKit

theorem cmp_gn {a : Nat} (ha : a < 12) (b : List UInt8) (k : Nat) : cmpS newB ⟨genB a, b, k⟩ = -1 := gen_new ⟨a, ha⟩
theorem cmp_nn (b : List UInt8) (k : Nat) : cmpS newB ⟨newB, b, k⟩ = 0 := new_new
theorem cmp_gg {a c : Nat} (ha : a < 12) (hc : c < 12) (b : List UInt8) (k : Nat) : cmpS (genB c) ⟨genB a, b, k⟩ = sgn a c := gen_cmp ⟨a, ha⟩ ⟨c, hc⟩
theorem sgn_lt (a : Nat) : sgn a (a + 1) = -1 := by unfold sgn; rw [if_pos (by omega)]
theorem sgn_eq (a : Nat) : sgn a a = 0 := by unfold sgn; rw [if_neg (by omega), if_pos rfl]

def withL (s : DS) (l : List FS) : DS := { s with l := l }
theorem withL_calm {s : DS} (c : Calm s) (l : List FS) : Calm (withL s l) := ⟨c.off, c.fused⟩
theorem act_calm {s : DS} (c : Calm s) (l : List FS) : actS s l = (0, withL s l) := c.act l

theorem drop_no {s s' : DS} {n : ByteArray} (h : removeS s n = (7, s')) : dropS s n = (0, s') := by unfold dropS; rw [h, if_pos rfl]
theorem drop_yes {s s' : DS} {n : ByteArray} (h : removeS s n = (0, s')) : dropS s n = (0, s') := by unfold dropS; rw [h, if_neg (show ¬ ((0 : Int) = 7) by decide)]

/-- a body is made a file -/
theorem lay_one {s : DS} (c : Calm s) {g : Nat} (hg : g + 1 < 12) (b : List UInt8) (k : Nat) (hl : s.l = [⟨genB g, b, k⟩]) (body : ByteArray) (hr : b.length + body.size ≤ s.room) (_hroom : s.room ≤ 65536) :
    LayS s body (genB (g + 1)) (withL s [⟨genB g, b, k⟩, ⟨genB (g + 1), body.data.toList, body.data.toList.length⟩]) ∧
    (1 ≤ g → AheadS g (withL s [⟨genB g, b, k⟩, ⟨genB (g + 1), body.data.toList, body.data.toList.length⟩]) (withL s [⟨genB (g + 1), body.data.toList, body.data.toList.length⟩])) := by
  have e1 := cmp_gn (show g < 12 by omega) b k
  have e2 := fun b k => cmp_nn b k
  have e3 := cmp_gg (show g < 12 by omega) hg b k
  rw [sgn_lt] at e3
  have p1 : spos [⟨genB g, b, k⟩] newB = 1 := by simp [spos, List.findIdx_cons, e1]
  have t1 : sthere [⟨genB g, b, k⟩] newB = false := by unfold sthere; rw [p1]; rfl
  have p2 : ∀ b2 k2, spos [⟨genB g, b, k⟩, ⟨newB, b2, k2⟩] newB = 1 := fun b2 k2 => by simp [spos, List.findIdx_cons, e1, e2]
  have t2 : ∀ b2 k2, sthere [⟨genB g, b, k⟩, ⟨newB, b2, k2⟩] newB = true := fun b2 k2 => by unfold sthere; rw [p2]; simp [e2]
  have p3 : spos [⟨genB g, b, k⟩] (genB (g + 1)) = 1 := by simp [spos, List.findIdx_cons, e3]
  have t3 : sthere [⟨genB g, b, k⟩] (genB (g + 1)) = false := by unfold sthere; rw [p3]; rfl
  have hn := new_nm
  have hgn := gen_nm ⟨g + 1, hg⟩
  simp only at hgn
  refine ⟨⟨s, withL s [⟨genB g, b, k⟩, ⟨newB, body.data.toList, 0⟩], withL s [⟨genB g, b, k⟩, ⟨newB, body.data.toList, body.data.toList.length⟩], ?_, ?_, ?_, ?_⟩, fun hg1 => ?_⟩
  · refine drop_no ?_
    unfold removeS
    rw [hl, t1, if_neg (by rw [c.off]; simp)]
    rfl
  · unfold appendS
    rw [if_neg (by rw [c.off]; simp), if_neg (by rw [hn]; simp), hl, t1, p1]
    rw [if_neg (by
      unfold sfull
      rw [hl, t1]
      simp only [stotal, List.map_cons, List.map_nil, List.sum_cons, List.sum_nil, List.length_cons, List.length_nil, Bool.or_eq_true, decide_eq_true_eq, Bool.not_false, Bool.true_and, beq_iff_eq]
      omega)]
    rw [if_neg (by simp), act_calm c]
    rfl
  · unfold syncS
    have ho : (withL s [⟨genB g, b, k⟩, ⟨newB, body.data.toList, 0⟩]).l = [⟨genB g, b, k⟩, ⟨newB, body.data.toList, 0⟩] := rfl
    rw [if_neg (by rw [(withL_calm c _).off]; simp), ho, t2, p2, act_calm (withL_calm c _)]
    rfl
  · unfold renameS
    have ho : (withL s [⟨genB g, b, k⟩, ⟨newB, body.data.toList, body.data.toList.length⟩]).l = [⟨genB g, b, k⟩, ⟨newB, body.data.toList, body.data.toList.length⟩] := rfl
    rw [if_neg (by rw [(withL_calm c _).off]; simp), ho, t2, hgn, act_calm (withL_calm c _)]
    unfold sren
    rw [p2]
    simp only [List.getElem?_cons_succ, List.getElem?_cons_zero, Bool.not_true, Bool.false_eq_true, if_false]
    have hd : sdel [⟨genB g, b, k⟩, ⟨newB, body.data.toList, body.data.toList.length⟩] 1 = [⟨genB g, b, k⟩] := rfl
    rw [hd]
    unfold slay
    simp only
    rw [t3, p3]
    rfl
  · right
    refine ⟨hg1, ?_⟩
    have e4 := cmp_gg (show g < 12 by omega) (show g < 12 by omega) b k
    rw [sgn_eq] at e4
    have p4 : ∀ x, spos [⟨genB g, b, k⟩, x] (genB g) = 0 := fun x => by simp [spos, List.findIdx_cons, e4]
    have t4 : ∀ x, sthere [⟨genB g, b, k⟩, x] (genB g) = true := fun x => by unfold sthere; rw [p4]; simp [e4]
    refine drop_yes ?_
    unfold removeS
    have ho : (withL s [⟨genB g, b, k⟩, ⟨genB (g + 1), body.data.toList, body.data.toList.length⟩]).l = [⟨genB g, b, k⟩, ⟨genB (g + 1), body.data.toList, body.data.toList.length⟩] := rfl
    rw [if_neg (by rw [(withL_calm c _).off]; simp), ho, t4, p4, act_calm (withL_calm c _)]
    rfl

theorem lay_none {s : DS} (c : Calm s) (hl : s.l = []) (body : ByteArray) (hr : body.size ≤ s.room) :
    LayS s body (genB 1) (withL s [⟨genB 1, body.data.toList, body.data.toList.length⟩]) := by
  have e2 := fun b k => cmp_nn b k
  have p1 : spos [] newB = 0 := rfl
  have t1 : sthere [] newB = false := rfl
  have p2 : ∀ b2 k2, spos [⟨newB, b2, k2⟩] newB = 0 := fun b2 k2 => by simp [spos, List.findIdx_cons, e2]
  have t2 : ∀ b2 k2, sthere [⟨newB, b2, k2⟩] newB = true := fun b2 k2 => by unfold sthere; rw [p2]; simp [e2]
  have hn := new_nm
  have hgn : isNm (genB 1) = true := gen_nm ⟨1, by omega⟩
  refine ⟨s, withL s [⟨newB, body.data.toList, 0⟩], withL s [⟨newB, body.data.toList, body.data.toList.length⟩], ?_, ?_, ?_, ?_⟩
  · refine drop_no ?_
    unfold removeS
    rw [hl, t1, if_neg (by rw [c.off]; simp)]
    rfl
  · unfold appendS
    rw [if_neg (by rw [c.off]; simp), if_neg (by rw [hn]; simp), hl, t1, p1]
    rw [if_neg (by
      unfold sfull
      rw [hl, t1]
      simp only [stotal, List.map_nil, List.sum_nil, List.length_nil, Bool.or_eq_true, decide_eq_true_eq, Bool.not_false, Bool.true_and, beq_iff_eq]
      omega)]
    rw [if_neg (by simp), act_calm c]
    rfl
  · unfold syncS
    have ho : (withL s [⟨newB, body.data.toList, 0⟩]).l = [⟨newB, body.data.toList, 0⟩] := rfl
    rw [if_neg (by rw [(withL_calm c _).off]; simp), ho, t2, p2, act_calm (withL_calm c _)]
    rfl
  · unfold renameS
    have ho : (withL s [⟨newB, body.data.toList, body.data.toList.length⟩]).l = [⟨newB, body.data.toList, body.data.toList.length⟩] := rfl
    rw [if_neg (by rw [(withL_calm c _).off]; simp), ho, t2, hgn, act_calm (withL_calm c _)]
    unfold sren
    rw [p2]
    rfl
end Go.Proofs.YtjimgncefeldbaaGreatDoor
