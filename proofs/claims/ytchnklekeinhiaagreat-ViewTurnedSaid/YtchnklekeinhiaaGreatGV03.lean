/-
  Chapter 17 in plain words: one of some, and all (ahead of its code).
  wire.number: what it answers of every text.
-/
import Derived.Test.YtchnklekeinhiaaGreatGV02
import Derived.Test.YtchnklekeinhiaaGreatGV01
namespace Go.Proofs.YtchnklekeinhiaaGreat
set_option linter.unusedSimpArgs false
set_option linter.unusedVariables false

/-- two lists of the same elements that rise weakly are one -/
theorem weak_same {α : Type} {lt : α → α → Bool} (h : TotO lt) : ∀ {a b : List α}, a.Perm b → a.Pairwise (fun x y => lt y x = false) → b.Pairwise (fun x y => lt y x = false) → a = b
  | [], b, hp, _, _ => (List.nil_perm.1 hp).symm
  | x :: a, b, hp, ha, hb => by
    cases b with
    | nil => exact absurd hp.length_eq (by simp)
    | cons y b =>
      have hx : x ∈ y :: b := hp.subset (by simp)
      have hy : y ∈ x :: a := hp.symm.subset (by simp)
      have e : x = y := by
        rw [List.pairwise_cons] at ha hb
        rcases List.mem_cons.1 hx with e | hx
        · exact e
        · rcases List.mem_cons.1 hy with e | hy
          · exact e.symm
          · have h1 := ha.1 y hy
            have h2 := hb.1 x hx
            rcases h.tri x y with k | k | k
            · rw [h2] at k; cases k
            · exact k
            · rw [h1] at k; cases k
      subst e
      rw [weak_same h (List.perm_cons x |>.1 hp) (List.pairwise_cons.1 ha).2 (List.pairwise_cons.1 hb).2]

/-- when a fact was made, by which name, and what it says -/
def keyR (f : Ft) : St × Dt × ByteArray := (f.s, f.d, f.v)
def ltK : St × Dt × ByteArray → St × Dt × ByteArray → Bool := lexL ltS (lexL ltD ltX)
theorem totR : TotO ltK := totS.lex (totD.lex totX)
def ltR (a b : Ft) : Bool := ltK (keyR a) (keyR b)
theorem ltR_if (a b : Ft) : ltR a b = if a.s ≠ b.s then ltS a.s b.s else if a.d ≠ b.d then ltD a.d b.d else ltX a.v b.v := rfl
theorem ltR_irr (a : Ft) : ltR a a = false := totR.irr _
theorem ltR_trans {a b c : Ft} (h1 : ltR a b = true) (h2 : ltR b c = true) : ltR a c = true := totR.trans h1 h2
theorem ltR_tri (a b : Ft) : ltR a b = true ∨ keyR a = keyR b ∨ ltR b a = true := totR.tri _ _
theorem ltR_asym {a b : Ft} (h : ltR a b = true) : ltR b a = false := by
  cases k : ltR b a with
  | false => rfl
  | true => have := ltR_trans h k; rw [ltR_irr] at this; cases this
/-- the facts by rising keys -/
def WeakR (l : List Ft) : Prop := l.Pairwise (fun a b => ltR b a = false)
/-- what chapter 17 lists: the facts in some order that rises -/
structure OrderR (l m : List Ft) : Prop where
  perm : m.Perm l
  weak : WeakR m
theorem OrderR.nil : OrderR [] [] := ⟨.refl _, .nil⟩
/-- a fact set behind all that are not later -/
theorem OrderR.put {l m : List Ft} (h : OrderR l m) (f : Ft) (k : Nat) (hk : k ≤ m.length) (h1 : ∀ x ∈ m.take k, ltR f x = false) (h2 : ∀ x ∈ m.drop k, ltR f x = true ∨ keyR f = keyR x) : OrderR (l ++ [f]) (m.take k ++ f :: m.drop k) := by
  constructor
  · refine (List.perm_middle).trans ?_
    rw [List.take_append_drop]
    exact (List.Perm.cons f h.perm).trans (List.perm_append_singleton f l).symm
  · have hw := h.weak
    unfold WeakR at hw ⊢
    rw [← List.take_append_drop k m, List.pairwise_append] at hw
    obtain ⟨ha, hb, hc⟩ := hw
    rw [List.pairwise_append, List.pairwise_cons]
    refine ⟨ha, ⟨fun x hx => ?_, hb⟩, fun a hin b hb2 => ?_⟩
    · rcases h2 x hx with k | k
      · exact ltR_asym k
      · show ltK _ _ = false
        rw [k]
        exact totR.irr _
    · rcases List.mem_cons.1 hb2 with rfl | hb2
      · exact h1 a hin
      · exact hc a hin b hb2
/-- among facts that rise, once one isn't later none ahead is -/
theorem WeakR.ahead {m : List Ft} (h : WeakR m) {f : Ft} {k : Nat} (hk : k < m.length) (hf : ltR f m[k] = false) : ∀ x ∈ m.take (k + 1), ltR f x = false := by
  intro x hx
  obtain ⟨j, hj, rfl⟩ := List.mem_iff_getElem.1 hx
  rw [List.length_take] at hj
  rw [List.getElem_take]
  by_cases e : j = k
  · subst e; exact hf
  · have hw := List.pairwise_iff_getElem.1 h j k (by omega) hk (by omega)
    cases q : ltR f m[j] with
    | false => rfl
    | true =>
      rcases ltR_tri m[j] m[k] with t | t | t
      · have := ltR_trans q t; rw [hf] at this; cases this
      · have : ltR f m[k] = true := by unfold ltR at q ⊢; rw [← t]; exact q
        rw [hf] at this; cases this
      · rw [hw] at t; cases t
theorem OrderR.keys {l k m n : List Ft} (hl : l.Perm k) (h : OrderR l m) (h2 : OrderR k n) : m.map keyR = n.map keyR := by
  refine weak_same totR (((h.perm.trans hl).trans h2.perm.symm).map _) ?_ ?_
  · rw [List.pairwise_map]; exact h.weak
  · rw [List.pairwise_map]; exact h2.weak
/-- their values do not hang on the order in which they stood -/
theorem OrderR.vals {l k m n : List Ft} (hl : l.Perm k) (h : OrderR l m) (h2 : OrderR k n) : m.map (·.v) = n.map (·.v) := by
  have := congrArg (List.map (fun x => x.2.2)) (h.keys hl h2)
  rw [List.map_map, List.map_map] at this
  exact this
/-- values, each once, rising -/
def RiseX (l : List ByteArray) : Prop := l.Pairwise (fun a b => ltX a b = true)
theorem riseX_same {a b : List ByteArray} (ha : RiseX a) (hb : RiseX b) (h : ∀ x, x ∈ a ↔ x ∈ b) : a = b := by
  have nd : ∀ {c : List ByteArray}, RiseX c → c.Nodup := fun hc => List.Pairwise.imp (fun {x y} k e => by subst e; rw [totX.irr] at k; cases k) hc
  have wk : ∀ {c : List ByteArray}, RiseX c → c.Pairwise (fun x y => ltX y x = false) := fun hc => List.Pairwise.imp (fun {x y} k => by
    cases q : ltX y x with
    | false => rfl
    | true => have := totX.trans k q; rw [totX.irr] at this; cases this) hc
  refine weak_same totX ?_ (wk ha) (wk hb)
  exact (List.perm_ext_iff_of_nodup (nd ha) (nd hb)).2 h
structure ElemsR (l : List Ft) (out : List ByteArray) : Prop where
  rise : RiseX out
  mem : ∀ x, x ∈ out ↔ ∃ f ∈ l, f.v = x
theorem ElemsR.same {l k : List Ft} {a b : List ByteArray} (hl : ∀ f, f ∈ l ↔ f ∈ k) (h : ElemsR l a) (h2 : ElemsR k b) : a = b :=
  riseX_same h.rise h2.rise fun x => by
    rw [h.mem, h2.mem]
    constructor
    · rintro ⟨f, hf, e⟩; exact ⟨f, (hl f).1 hf, e⟩
    · rintro ⟨f, hf, e⟩; exact ⟨f, (hl f).2 hf, e⟩
theorem ElemsR.nil : ElemsR [] [] := ⟨.nil, fun x => by simp⟩
theorem ElemsR.skip {l : List Ft} {out : List ByteArray} (h : ElemsR l out) {f : Ft} (hf : f.v ∈ out) : ElemsR (l ++ [f]) out :=
  ⟨h.rise, fun x => by
    rw [h.mem]
    constructor
    · rintro ⟨g, hg, e⟩; exact ⟨g, List.mem_append_left _ hg, e⟩
    · rintro ⟨g, hg, e⟩
      rcases List.mem_append.1 hg with hg | hg
      · exact ⟨g, hg, e⟩
      · obtain rfl := List.mem_singleton.1 hg
        subst e
        exact (h.mem _).1 hf⟩
theorem ElemsR.put {l : List Ft} {out : List ByteArray} (h : ElemsR l out) (f : Ft) (k : Nat) (h1 : ∀ x ∈ out.take k, ltX x f.v = true) (h2 : ∀ x ∈ out.drop k, ltX f.v x = true) : ElemsR (l ++ [f]) (out.take k ++ f.v :: out.drop k) := by
  constructor
  · have hw := h.rise
    unfold RiseX at hw ⊢
    rw [← List.take_append_drop k out, List.pairwise_append] at hw
    obtain ⟨ha, hb, hc⟩ := hw
    rw [List.pairwise_append, List.pairwise_cons]
    refine ⟨ha, ⟨h2, hb⟩, fun a hin b hb2 => ?_⟩
    rcases List.mem_cons.1 hb2 with rfl | hb2
    · exact h1 a hin
    · exact hc a hin b hb2
  · intro x
    rw [List.mem_append, List.mem_cons]
    have hm : x ∈ out ↔ x ∈ out.take k ∨ x ∈ out.drop k := by rw [← List.mem_append, List.take_append_drop]
    constructor
    · rintro (hx | rfl | hx)
      · obtain ⟨g, hg, e⟩ := (h.mem x).1 (hm.2 (.inl hx)); exact ⟨g, List.mem_append_left _ hg, e⟩
      · exact ⟨f, by simp, rfl⟩
      · obtain ⟨g, hg, e⟩ := (h.mem x).1 (hm.2 (.inr hx)); exact ⟨g, List.mem_append_left _ hg, e⟩
    · rintro ⟨g, hg, e⟩
      rcases List.mem_append.1 hg with hg | hg
      · rcases hm.1 ((h.mem x).2 ⟨g, hg, e⟩) with k | k
        · exact .inl k
        · exact .inr (.inr k)
      · obtain rfl := List.mem_singleton.1 hg
        exact .inr (.inl e.symm)
/-- the facts of a kind and a name -/
def ofR (k : Int) (n : ByteArray) (l : List Ft) : List Ft := l.filter (fun f => (decide (k = 0) || decide (f.k = k)) && decide (f.n = n))
/-- the latest value: the last of those that rise -/
def lastR (m : List Ft) : ByteArray × Bool := match m.getLast? with
  | none => (⟨#[]⟩, false)
  | some f => (f.v, true)
theorem lastR_vals (m : List Ft) : lastR m = match (m.map (·.v)).getLast? with
    | none => (⟨#[]⟩, false)
    | some v => (v, true) := by
  unfold lastR
  rw [List.getLast?_map]
  cases m.getLast? <;> rfl
theorem OrderR.last {l k m n : List Ft} (hl : l.Perm k) (h : OrderR l m) (h2 : OrderR k n) : lastR m = lastR n := by rw [lastR_vals, lastR_vals, h.vals hl h2]
end Go.Proofs.YtchnklekeinhiaaGreat

namespace Go.Proofs.YtchnklekeinhiaaGreat
open Go.RowKit

theorem take_snoc8 (l : List UInt8) (k : Nat) (h : k < l.length) : l.take (k + 1) = l.take k ++ [l[k]] := by
  rw [List.take_succ_eq_append_getElem h]

set_option maxHeartbeats 2000000 in
set_option maxRecDepth 100000 in
theorem number_any (s : ByteArray) (hs : s.size ≤ 9223372036854775807) (w : World) :
    Calls Tryz.prog 114 #[.string s] w fun e w' => e = .returned (.tuple #[.int .i64 (numR s.data.toList).1, .int .i64 (numR s.data.toList).2.1, .int .i64 (numR s.data.toList).2.2]) ∧ w = w' := by
  have hsz : s.data.toList.length = s.size := by simp
  go_enter Tryz.func114, Tryz.ntmps114
  go_wp2
  refine wp_scope_head 0 (fun a' w' => ∃ (k : Nat) (d u8 u9 u10 u11 u12 u13 u14 u15 u16 u17 u18 u19 u20 u21 u22 u23 u24 u25 u26 u27 u28 u29 u30 u31 u32 u33 u34 u35 u36 u37 u38 u39 u40 u41 u42 : Value), a' = { tmps := #[.string s, undef, .int .i64 0, .int .i64 0, .int .i64 0, .int .i64 (lev ((s.data.toList.take k).take 8) : Nat), .int .i64 k, d, u8, u9, u10, u11, u12, u13, u14, u15, u16, u17, u18, u19, u20, u21, u22, u23, u24, u25, u26, u27, u28, u29, u30, u31, u32, u33, u34, u35, u36, u37, u38, u39, u40, u41, u42], defers := [] } ∧ k ≤ s.size ∧ (∀ j (h : j < s.data.toList.length), j < k → 128 ≤ s.data.toList[j].toNat) ∧ w = w') (fun a' _ => s.size - (intOf (a'.tmps.getD 6 undef)).toNat) rfl { tmps := #[.string s, undef, .int .i64 0, .int .i64 0, .int .i64 0, .int .i64 0, .int .i64 0, undef, undef, undef, undef, undef, undef, undef, undef, undef, undef, undef, undef, undef, undef, undef, undef, undef, undef, undef, undef, undef, undef, undef, undef, undef, undef, undef, undef, undef, undef, undef, undef, undef, undef, undef, undef], defers := [] } w ?_ ?_ ?_
  · exact ⟨0, _, _, _, _, _, _, _, _, _, _, _, _, _, _, _, _, _, _, _, _, _, _, _, _, _, _, _, _, _, _, _, _, _, _, _, _, rfl, by omega, by omega, rfl⟩
  · intro Q' h
    go_wp2
    go_step3
    rename_i hK
    exact hK _ _ h
  · rintro a' wr ⟨k, d, u8, u9, u10, u11, u12, u13, u14, u15, u16, u17, u18, u19, u20, u21, u22, u23, u24, u25, u26, u27, u28, u29, u30, u31, u32, u33, u34, u35, u36, u37, u38, u39, u40, u41, u42, rfl, hk, hall, rfl⟩
    by_cases hend : k = s.size
    · have hne : ((k : Int) == (s.size : Int)) = true := by simp; omega
      have hrun : run s.data.toList = s.data.toList.length := run_all _ (fun j h => hall j h (by omega))
      have hfin : numR s.data.toList = (0, 0, 4) := by unfold numR; rw [if_pos hrun]
      have HF := Lib.hid hfin
      have HA := Lib.hid hall
      clear hall hfin hend hrun
      generalize lev ((s.data.toList.take k).take 8) = n
      go_wp2
      simp only [Exit.jump]
      go_ret3
      rw [HF.out]
      exact ⟨rfl, rfl⟩
    · have hlt : k < s.size := by omega
      have hne : ((k : Int) == (s.size : Int)) = false := by simp; omega
      have hlt' : k < s.data.toList.length := by omega
      have hdat : s.data.toList[k] = s[k] := rfl
      have hb : s[k].toNat < 256 := UInt8.toNat_lt _
      have htk := take_snoc8 s.data.toList k hlt'
      have hlk : (s.data.toList.take k).length = k := by rw [List.length_take]; omega
      by_cases h8 : k < 8
      · have hn := lev_lt (s.data.toList.take k)
        rw [hlk] at hn
        have e8 : (s.data.toList.take k).take 8 = s.data.toList.take k := List.take_of_length_le (by omega)
        have e9 : (s.data.toList.take (k + 1)).take 8 = s.data.toList.take (k + 1) := List.take_of_length_le (by rw [List.length_take]; omega)
        have hlv : lev (s.data.toList.take (k + 1)) = lev (s.data.toList.take k) + s[k].toNat % 128 * 128 ^ k := by rw [htk, lev_snoc, hlk, hdat]
        have hor := or_step (lev (s.data.toList.take k)) k (s[k].toNat % 128) h8 hn (by omega)
        rw [← hlv] at hor
        have hcast : ((s[k].toNat % 128 : Nat) : Int) = (s[k].toNat : Int) % 128 := by omega
        rw [hcast] at hor
        rw [e8]
        obtain ⟨m, hm⟩ : ∃ m, m = lev (s.data.toList.take (k + 1)) := ⟨_, rfl⟩
        rw [← hm] at hor
        have HM := Lib.hid hm
        have HE9 := Lib.hid e9
        have HA := Lib.hid hall
        clear hm hall e8 e9 hlv hcast htk hn hdat
        generalize lev (s.data.toList.take k) = n at hor
        by_cases hd : 128 ≤ (s[k].toNat : Int)
        · go_wp2
          go_step3
          refine ⟨rfl, ⟨k + 1, _, _, _, _, _, _, _, _, _, _, _, _, _, _, _, _, _, _, _, _, _, _, _, _, _, _, _, _, _, _, _, _, _, _, _, _, by rw [HE9.out, ← HM.out]; rfl, by omega, ?_, rfl⟩, ?_⟩
          · intro j h hj
            by_cases e : j = k
            · subst e; have : s.data.toList[j] = s[j] := rfl; rw [this]; omega
            · exact HA.out j h (by omega)
          · simp [intOf]; omega
        · have hrun : run s.data.toList = k := run_of _ k hlt' HA.out (by have : s.data.toList[k] = s[k] := rfl; rw [this]; omega)
          have hget : s.data.toList.getD k 0 = s[k] := by rw [List.getD_eq_getElem?_getD, List.getElem?_eq_getElem hlt']; rfl
          by_cases hbig : 9007199254740992 < m
          · have hfin : numR s.data.toList = (0, 0, 2) := by unfold numR; rw [hrun, if_neg (by omega), if_pos (.inr (by rw [← HM.out]; exact hbig))]
            have HF := Lib.hid hfin
            clear hfin hrun hget
            go_wp2
            simp only [Exit.jump]
            go_ret3
            rw [HF.out]
            exact ⟨rfl, rfl⟩
          · by_cases hz : s[k].toNat = 0
            · have hz' : s[k] = 0 := UInt8.toNat_inj.1 (by simpa using hz)
              have hzb : ((s[k].toNat : Int) == 0) = true := by simp; omega
              by_cases hk0 : 0 < k
              · have hfin : numR s.data.toList = (0, 0, 5) := by unfold numR; rw [hrun, if_neg (by omega), if_neg (by rw [← HM.out]; omega), if_pos ⟨by rw [hget, hz'], hk0⟩]
                have HF := Lib.hid hfin
                clear hfin hrun hget hz' hz
                go_wp2
                simp only [Exit.jump]
                go_ret3
                rw [HF.out]
                exact ⟨rfl, rfl⟩
              · have hfin : numR s.data.toList = (m, k + 1, 0) := by unfold numR; rw [hrun, if_neg (by omega), if_neg (by rw [← HM.out]; omega), if_neg (by omega), ← HM.out]
                have HF := Lib.hid hfin
                clear hfin hrun hget hz' hz
                go_wp2
                simp only [Exit.jump]
                go_ret3
                rw [HF.out]
                exact ⟨rfl, rfl⟩
            · have hz' : s[k] ≠ 0 := fun h => hz (by rw [h]; rfl)
              have hzb : ((s[k].toNat : Int) == 0) = false := by simp; omega
              have hfin : numR s.data.toList = (m, k + 1, 0) := by unfold numR; rw [hrun, if_neg (by omega), if_neg (by rw [← HM.out]; omega), if_neg (by rw [hget]; exact fun h => hz' h.1), ← HM.out]
              have HF := Lib.hid hfin
              clear hfin hrun hget hz'
              go_wp2
              simp only [Exit.jump]
              go_ret3
              rw [HF.out]
              exact ⟨rfl, rfl⟩
      · have e8 : (s.data.toList.take (k + 1)).take 8 = (s.data.toList.take k).take 8 := by rw [List.take_take, List.take_take]; congr 1; omega
        have HE := Lib.hid e8
        have HA := Lib.hid hall
        clear e8 hall htk hdat
        generalize hn : lev ((s.data.toList.take k).take 8) = n
        have HN := Lib.hid hn
        clear hn
        by_cases hd : 128 ≤ (s[k].toNat : Int)
        · go_wp2
          go_step3
          refine ⟨rfl, ⟨k + 1, _, _, _, _, _, _, _, _, _, _, _, _, _, _, _, _, _, _, _, _, _, _, _, _, _, _, _, _, _, _, _, _, _, _, _, _, by rw [HE.out, HN.out]; rfl, by omega, ?_, rfl⟩, ?_⟩
          · intro j h hj
            by_cases e : j = k
            · subst e; have : s.data.toList[j] = s[j] := rfl; rw [this]; omega
            · exact HA.out j h (by omega)
          · simp [intOf]; omega
        · have hrun : run s.data.toList = k := run_of _ k hlt' HA.out (by have : s.data.toList[k] = s[k] := rfl; rw [this]; omega)
          have hfin : numR s.data.toList = (0, 0, 2) := by unfold numR; rw [hrun, if_neg (by omega), if_pos (.inl (by omega))]
          have HF := Lib.hid hfin
          clear hfin hrun
          go_wp2
          simp only [Exit.jump]
          go_ret3
          rw [HF.out]
          exact ⟨rfl, rfl⟩
end Go.Proofs.YtchnklekeinhiaaGreat
