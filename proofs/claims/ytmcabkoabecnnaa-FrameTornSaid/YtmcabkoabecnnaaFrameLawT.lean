/-
  almonrylaw07: the walk of FrameTorn.
-/
import Derived.Test.YtmcabkoabecnnaaFrameLaws
import Derived.Test.YtmcabkoabecnnaaTextArg
namespace Go.Proofs.Ytmcabkoabecnnaa
open Go.RowKit

/-- where the first j records end -/
def endF (ss : List ByteArray) (j : Nat) : Nat := (encRecs (ss.take j)).length
theorem endF_zero (ss : List ByteArray) : endF ss 0 = 0 := rfl
theorem take_snocT (ss : List ByteArray) (j : Nat) (h : j < ss.length) : ss.take (j + 1) = ss.take j ++ [ss.getD j ByteArray.empty] := by
  rw [List.take_succ_eq_append_getElem h, List.getD_eq_getElem?_getD, List.getElem?_eq_getElem h]; rfl
theorem endF_succ (ss : List ByteArray) (j : Nat) (h : j < ss.length) : endF ss (j + 1) = endF ss j + (recF (ss.getD j ByteArray.empty)).length := by
  unfold endF; rw [take_snocT ss j h, encRecs_snoc, List.length_append]
theorem recF_len (s : ByteArray) (h : s.size ≤ 300) : (recF s).length ≤ 400 := by
  have hlen := Lib.uvarint_length64 (x := s.size) (by omega)
  unfold recF encT
  rw [List.length_append, List.length_append, sumF_len, ba_len]; omega
theorem endF_le (ss : List ByteArray) : ∀ j, j ≤ ss.length → (∀ t ∈ ss.take j, t.size ≤ 300) → endF ss j ≤ j * 400 := by
  intro j
  induction j with
  | zero => intro _ _; simp [endF_zero]
  | succ j ih =>
    intro hj hb
    have h1 := ih (by omega) (fun t ht => hb t (by rw [take_snocT ss j (by omega)]; exact List.mem_append_left _ ht))
    have h2 := recF_len (ss.getD j ByteArray.empty) (hb _ (by rw [take_snocT ss j (by omega)]; simp))
    rw [endF_succ ss j (by omega)]; omega
theorem endF_ge (ss : List ByteArray) : ∀ j, j ≤ ss.length → j ≤ endF ss j := by
  intro j
  induction j with
  | zero => intro _; omega
  | succ j ih =>
    intro hj
    have h1 := ih (by omega)
    have h2 := recF_pos (ss.getD j ByteArray.empty)
    rw [endF_succ ss j (by omega)]; omega
def endsF (ss : List ByteArray) (j : Nat) : List Nat := (List.range j).map fun i => endF ss (i + 1)
theorem endsF_succ (ss : List ByteArray) (j : Nat) : endsF ss (j + 1) = endsF ss j ++ [endF ss (j + 1)] := by simp [endsF, List.range_succ]
theorem endsF_len (ss : List ByteArray) (j : Nat) : (endsF ss j).length = j := by simp [endsF]
theorem endsF_at (ss : List ByteArray) (n j : Nat) (h : j < n) : (endsF ss n).getD j 0 = endF ss (j + 1) := by
  simp [endsF, h, List.getD_eq_getElem?_getD]

theorem torn_fall (ss : List ByteArray) (m k : Nat) (S : ByteArray) (hb : ∀ t ∈ ss, t.size ≤ 300) (hm : m ≤ ss.length) (hk : k ≤ S.size) (hS : S.data.toList = encRecs ss) (h1 : endF ss m ≤ k) (h2 : m < ss.length → k < endF ss (m + 1)) :
    fallS (S.extract 0 k) = (ss.take m, endF ss m) := by
  have hz : (S.extract 0 k).size = k := by rw [ByteArray.size_extract]; omega
  refine fall_recs ss m _ _ (fun t ht => by have := hb t ht; omega) hm (by rw [hz]; exact h1) (fun h => by rw [hz]; exact h2 h) ?_ ?_
  · refine ⟨S.data.toList.drop k, ?_⟩
    rw [← hS, Lib.extract_data]
    simp [List.take_append_drop]
  · have := endF_ge ss m hm
    rw [hz]; omega

set_option maxHeartbeats 4000000 in
set_option maxRecDepth 100000 in
theorem ftorn_walk (a : Option Addr) (cap : Nat) (ss : List ByteArray) (cut : Nat) (hcut : cut < 65536) (w : World) (hcap : ss.length ≤ cap) (hcm : cap ≤ maxLen) (hrow : StrRow w a ss) :
    Calls Try.prog 4 #[.slice a ss.length cap, .int .u16 cut] w fun e w' => e = .returned (.bool true) ∧ Below w.heap.size w w' := by
  obtain ⟨i0, hi, hz0, hz1, hz2⟩ := info_parts intInfo
  unfold maxLen at hcm
  by_cases hl : ss.length ≤ 20
  · have h1 : decide ((20 : Int) < (ss.length : Int)) = false := by simp; omega
    have HROW := Lib.hid hrow
    clear hrow
    go_enter Try.func4, Try.ntmps4
    go_wp2_with fail
    go_loopw [5, 6, 7] (fun s v i wr => ∃ k : Nat, i = .int .i64 k ∧ k ≤ ss.length ∧ (∀ t ∈ ss.take k, t.size ≤ 300) ∧ s = .string ⟨(encRecs (ss.take k)).toArray⟩ ∧ OwnI w.heap.size v (endsF ss k) wr ∧ Below w.heap.size w wr) (fun _ _ i _ => ss.length - (intOf i).toNat)
    case atStart => exact ⟨0, rfl, Nat.zero_le _, by simp, rfl, ownI_nil _ _, Below.refl _ _⟩
    case round =>
      obtain ⟨k, rfl, hk, hbd, rfl, hown, hb⟩ := hrel
      have HB := Lib.hid hb
      have HBD := Lib.hid hbd
      have hbs := hb.size
      have hle := endF_le ss k hk hbd
      have hSz : (ByteArray.mk (encRecs (ss.take k)).toArray).size = endF ss k := rfl
      by_cases hlt : k < ss.length
      · have hrow2 := HROW.out.below HB.out
        obtain ⟨b, off, rfl, hlt', hc⟩ : ∃ b off, a = some ⟨b, off, none⟩ ∧ b < wr.heap.size ∧ ∀ j, j < ss.length → wr.cell? ⟨b, off + j, none⟩ = some (.string (ss.getD j ByteArray.empty)) := by
          rcases hrow2 with h | h
          · rw [h] at hlt; simp at hlt
          · exact h
        have hck := hc k hlt
        have hts := take_snocT ss k hlt
        have hes := endF_succ ss k hlt
        have hen := endsF_succ ss k
        have hel := endsF_len ss k
        have her : encRecs (ss.take (k + 1)) = encRecs (ss.take k) ++ recF (ss.getD k ByteArray.empty) := by rw [hts, encRecs_snoc]
        clear hc
        generalize ss.getD k ByteArray.empty = t at *
        by_cases ht : t.size ≤ 300
        · have h2 : decide ((300 : Int) < (t.size : Int)) = false := by simp; omega
          have hput := fun W => fputC t (by omega) W
          have hrl := recF_len t ht
          have hRz : (recB t).size = (recF t).length := rfl
          have hadd := fun W => run_string_add_sum (P := Try.prog) (w := W) ⟨(encRecs (ss.take k)).toArray⟩ (recB t) (by rw [hSz, hRz]; omega)
          rw [show (ByteArray.mk (encRecs (ss.take k)).toArray) ++ recB t = ⟨(encRecs (ss.take (k + 1))).toArray⟩ by rw [her]; exact append_str _ _] at hadd
          have hSz2 : (ByteArray.mk (encRecs (ss.take (k + 1))).toArray).size = endF ss (k + 1) := rfl
          have HN := Lib.hid (And.intro hts (And.intro hen hel))
          have HP := Lib.hid hput
          obtain ⟨S', hS'⟩ : ∃ S', (ByteArray.mk (encRecs (ss.take (k + 1))).toArray) = S' := ⟨_, rfl⟩
          rw [hS'] at hadd hSz2
          have HS := Lib.hid hS'
          clear hS'
          generalize (ByteArray.mk (encRecs (ss.take k)).toArray) = S at *
          have hS2I : (S'.size : Int) = ((endF ss (k + 1) : Nat) : Int) := by omega
          clear hts hen hel hput her hbd hrow2 hSz hes
          go_wp2_with fail
          refine (HP.out _).mono ?_
          rintro e w2 ⟨rfl, hb2⟩
          have hown2 := hown.below hb2 (Nat.le_refl _)
          have HB2 := Lib.hid (HB.out.trans (hb2.mono hbs))
          have hbs2 := HB2.out.size
          clear hown hb2 hck
          go_wp2_with (at_builtin; refine wpList_append_own _ rfl _ _ 38 rfl w.heap.size 3 i0 (.int .i64 0) 1 8 Try.underlying38 hi hz0 hz1 hz2 rfl (by decide) _ _ _ rfl (World.ownsRow.alloc hown2 _) ⟨w2.heap.size, 0, none⟩ 1 1 [Value.int .i64 (endF ss (k + 1) : Nat)] rfl rfl ?c1 ?c2 ?c3 ?c4 ?c5 ?_)
          case c1 =>
            intro j u hj
            match j, hj with
            | 0, hj => simp at hj; subst hj; simp [Addr.add, hSz2]
          case c2 => intro u hu; simp at hu; subst hu; rfl
          case c3 => rw [endsF_len]; unfold maxLen; omega
          case c4 => rw [endsF_len]; omega
          case c5 => simp; omega
          intro v' w3 hown3 hg3 _
          have hown4 : OwnI w.heap.size v' (endsF ss (k + 1)) w3 := by unfold OwnI; rw [HN.out.2.1, List.length_append, List.map_append]; exact hown3
          have hB3 : Below w.heap.size w w3 := (HB2.out.alloc (by omega) _).grown hg3 (by simp; omega) (fun j hj => (World.ownsRow.lt hown2 j hj).1)
          have H4 := Lib.hid hown4
          have HB3 := Lib.hid hB3
          clear hown3 hown2 hown4 hg3 hB3
          go_wp2_with fail
          go_roundw
          case rel =>
            refine ⟨k + 1, by go_num, by omega, ?_, by rw [HS.out], H4.out, HB3.out⟩
            intro x hx
            rw [HN.out.1] at hx
            rcases List.mem_append.1 hx with hx | hx
            · exact HBD.out x hx
            · simp at hx; subst hx; exact ht
          case measure => simp [intOf]; omega
        · have h2 : decide ((300 : Int) < (t.size : Int)) = true := by simp; omega
          go_wp2_with fail
          refine (frameAwake _).mono ?_
          rintro e w8 ⟨rfl, hb8⟩
          go_wp2_with fail
          go_ret
          exact ⟨rfl, HB.out.trans (hb8.mono hbs)⟩
      · obtain rfl : k = ss.length := by omega
        rw [List.take_length] at *
        have hrow2 := HROW.out.below HB.out
        have HTF := Lib.hid (fun m kk hm hk => torn_fall ss m kk ⟨(encRecs ss).toArray⟩ hbd hm hk rfl)
        have hSE : ss.take ss.length = ss := List.take_length
        obtain ⟨E, hE⟩ : ∃ E, endF ss ss.length = E := ⟨_, rfl⟩
        rw [hE] at hle hSz
        have HE := Lib.hid hE
        obtain ⟨S, hS⟩ : ∃ S, (ByteArray.mk (encRecs ss).toArray) = S := ⟨_, rfl⟩
        rw [hS] at hSz HTF ⊢
        obtain ⟨a6, cap6, rfl, hir, hc6, hm6⟩ := ownI_row hown
        rw [endsF_len] at *
        obtain ⟨kk, hkk⟩ : ∃ kk, cut % (E + 1) = kk := ⟨_, rfl⟩
        have hkE : kk ≤ E := by rw [← hkk]; have := Nat.mod_lt cut (show 0 < E + 1 by omega); omega
        have hrem : (cut : Int) % ((E : Int) + 1) = (kk : Int) := by rw [← hkk]; simp
        have hkI : (kk : Int) ≤ (E : Int) := by omega
        have hSI : (S.size : Int) = (E : Int) := by omega
        have hSz2 : (S.extract 0 kk).size ≤ 1000000 := by rw [ByteArray.size_extract]; omega
        have hall := fun W => fallC (S.extract 0 kk) W hSz2
        have HALL := Lib.hid hall
        have HIR := Lib.hid hir
        have HR2 := Lib.hid hrow2
        clear hall hbd hE hS hkk hSz hSz2 hown hir hrow2 hb hSE
        go_wp2_with fail
        obtain ⟨x, n, hfx⟩ : ∃ x, ∃ n : Nat, fallS (S.extract 0 kk) = (x, n) := ⟨_, _, rfl⟩
        have HFX := Lib.hid hfx
        rw [hfx] at HALL
        clear hfx
        refine (HALL.out _).mono ?_
        rintro e w2 ⟨v2, rfl, hown2, hb2⟩
        simp only at hown2 ⊢
        have HB2 := Lib.hid (HB.out.trans (hb2.mono hbs))
        have HIR2 := Lib.hid (HIR.out.below hb2)
        have HR3 := Lib.hid (HR2.out.below hb2)
        obtain ⟨a2, cap2, rfl, hrow2, hmax2⟩ := ownS_row hown2
        have HR4 := Lib.hid hrow2
        have HL2 := Lib.hid hmax2
        clear hown2 hrow2 hmax2 hb2
        go_wp2_with fail
        go_loopw [13] (fun mv wr => ∃ m : Nat, mv = .int .i64 m ∧ m ≤ ss.length ∧ endF ss m ≤ kk ∧ w2 = wr) (fun mv _ => ss.length - (intOf mv).toNat)
        case atStart => exact ⟨0, rfl, Nat.zero_le _, Nat.zero_le _, rfl⟩
        case round =>
          obtain ⟨m, rfl, hm, hmE, rfl⟩ := hrel
          by_cases hmN : m < ss.length
          · obtain ⟨g, rfl, hgl, hc⟩ : ∃ g, a6 = some ⟨g, 0, none⟩ ∧ g < w2.heap.size ∧ ∀ j, j < ss.length → w2.cell? ⟨g, j, none⟩ = some (.int .i64 (endF ss (j + 1) : Nat)) := by
              rcases HIR2.out with h | ⟨g, h1, h2, h3⟩
              · have := congrArg List.length h; rw [endsF_len, List.length_nil] at this; omega
              · exact ⟨g, h1, h2, fun j hj => by rw [h3 j (by rw [endsF_len]; exact hj), endsF_at ss _ j hj]⟩
            have hcm' := hc m hmN
            have HC := Lib.hid hc
            clear hc
            by_cases hgo : endF ss (m + 1) ≤ kk
            · have hd : decide (((endF ss (m + 1) : Nat) : Int) ≤ (kk : Int)) = true := by simp; omega
              go_wp2_with fail
              exact ⟨⟨m + 1, by go_num, by omega, hgo, trivial⟩, by simp [intOf]; omega⟩
            · have hd : decide (((endF ss (m + 1) : Nat) : Int) ≤ (kk : Int)) = false := by simp; omega
              have hf := HTF.out m kk hm (by omega) hmE (by omega)
              rw [HFX.out] at hf
              obtain ⟨rfl, rfl⟩ := Prod.mk.inj hf
              have hlen : (ss.take m).length = m := by rw [List.length_take]; omega
              rw [hlen]
              have hmc : (m : Int) ≤ (cap : Int) := by omega
              have hrT := HR3.out.take m
              have HLN := Lib.hid hlen
              clear hf hlen
              go_wp2_with fail
              refine (texts_same_n m a2 a cap2 cap (ss.take m) w2 HLN.out HR4.out hrT (by rw [HLN.out]; unfold maxLen; omega)).mono ?_
              rintro e w7 ⟨rfl, q, rfl⟩
              have HB7 := Lib.hid (belowN HB2.out q)
              clear hrT
              by_cases hm0 : m = 0
              · subst hm0
                rw [endF_zero]
                go_wp2_with fail
                refine (frameAwake _).mono ?_
                rintro e w8 ⟨rfl, hb8⟩
                have HB8 := Lib.hid (HB7.out.trans (hb8.mono HB7.out.size))
                go_wp2_with fail
                go_ret
                exact ⟨rfl, HB8.out⟩
              · have hcl : w2.cell? ⟨g, m - 1, none⟩ = some (.int .i64 (endF ss m : Nat)) := by rw [HC.out (m - 1) (by omega), show m - 1 + 1 = m by omega]
                have hp1 : ((m : Int) - 1).toNat = m - 1 := by omega
                have hp2 : (0 : Int) ≤ (m : Int) - 1 := by omega
                have hp3 : (m : Int) - 1 < (ss.length : Int) := by omega
                have hp4 : ((m : Int) == 0) = false := by simp; omega
                have hp5 : decide ((0 : Int) < (m : Int)) = true := by simp; omega
                have hp6 : IntKind.i64.wrap ((m : Int) - 1) = (m : Int) - 1 := by rw [IntKind.wrap_i64]; omega
                have hp7 : (((endF ss m : Nat) : Int) == ((endF ss m : Nat) : Int)) = true := by simp
                go_wp2_with fail
                refine (frameAwake _).mono ?_
                rintro e w8 ⟨rfl, hb8⟩
                have HB8 := Lib.hid (HB7.out.trans (hb8.mono HB7.out.size))
                go_wp2_with fail
                go_ret
                exact ⟨rfl, HB8.out⟩
          · have hmm : ss.length ≤ m := by omega
            have hmf : decide ((m : Int) < (ss.length : Int)) = false := by simp; omega
            have hf := HTF.out m kk hm (by omega) hmE (by omega)
            rw [HFX.out] at hf
            obtain ⟨rfl, rfl⟩ := Prod.mk.inj hf
            have hlen : (ss.take m).length = m := by rw [List.length_take]; omega
            rw [hlen]
            have hmc : (m : Int) ≤ (cap : Int) := by omega
            have hrT := HR3.out.take m
            have HLN := Lib.hid hlen
            clear hf hlen
            go_wp2_with fail
            refine (texts_same_n m a2 a cap2 cap (ss.take m) w2 HLN.out HR4.out hrT (by rw [HLN.out]; unfold maxLen; omega)).mono ?_
            rintro e w7 ⟨rfl, q, rfl⟩
            have HB7 := Lib.hid (belowN HB2.out q)
            clear hrT
            by_cases hm0 : m = 0
            · clear hmm hmN hmf
              subst hm0
              rw [endF_zero]
              go_wp2_with fail
              refine (frameAwake _).mono ?_
              rintro e w8 ⟨rfl, hb8⟩
              have HB8 := Lib.hid (HB7.out.trans (hb8.mono HB7.out.size))
              go_wp2_with fail
              go_ret
              exact ⟨rfl, HB8.out⟩
            · obtain ⟨g1, hg1, hcl⟩ : ∃ g1, a6 = some ⟨g1, 0, none⟩ ∧ w2.cell? ⟨g1, m - 1, none⟩ = some (.int .i64 (endF ss m : Nat)) := by
                rcases HIR2.out with h | ⟨g, h1, h2, h3⟩
                · have := congrArg List.length h; rw [endsF_len, List.length_nil] at this; omega
                · exact ⟨g, h1, by rw [h3 (m - 1) (by rw [endsF_len]; omega), endsF_at ss _ (m - 1) (by omega), show m - 1 + 1 = m by omega]⟩
              subst hg1
              have hp1 : ((m : Int) - 1).toNat = m - 1 := by omega
              have hp2 : (0 : Int) ≤ (m : Int) - 1 := by omega
              have hp3 : (m : Int) - 1 < (ss.length : Int) := by omega
              have hp4 : ((m : Int) == 0) = false := by simp; omega
              have hp5 : decide ((0 : Int) < (m : Int)) = true := by simp; omega
              have hp6 : IntKind.i64.wrap ((m : Int) - 1) = (m : Int) - 1 := by rw [IntKind.wrap_i64]; omega
              clear hmm
              have hp7 : (((endF ss m : Nat) : Int) == ((endF ss m : Nat) : Int)) = true := by simp
              go_wp2_with fail
              refine (frameAwake _).mono ?_
              rintro e w8 ⟨rfl, hb8⟩
              have HB8 := Lib.hid (HB7.out.trans (hb8.mono HB7.out.size))
              go_wp2_with fail
              go_ret
              exact ⟨rfl, HB8.out⟩
  · have h1 : decide ((20 : Int) < (ss.length : Int)) = true := by simp; omega
    go_enter Try.func4, Try.ntmps4
    go_wp2_with fail
    refine (frameAwake _).mono ?_
    rintro e w8 ⟨rfl, hb8⟩
    go_wp2_with fail
    go_ret
    exact ⟨rfl, hb8⟩

theorem ftorn_law (a0 : Option Addr) (len0 cap0 : Nat) (z0 : List ByteArray) (a1 : Int) (w : World) (w0 : StrArgC w a0 len0 cap0 z0) (w1 : (Lit.int .u16 a1).wf = true) :
    Calls Try.prog 4 #[.slice a0 len0 cap0, .int .u16 a1] w fun e w' => e = .returned (.bool true) ∧ Below w.heap.size w w' := by
  obtain ⟨⟨rfl, _, hrow, _⟩, hcap, hcm⟩ := w0
  have h0 := Go.bounds_u16 w1
  obtain ⟨c, rfl⟩ := Int.eq_ofNat_of_zero_le h0.1
  exact ftorn_walk a0 cap0 z0 c (by omega) w hcap hcm hrow
end Go.Proofs.Ytmcabkoabecnnaa
