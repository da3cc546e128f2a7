/-
  almonrylaw08.awake returns true.
-/
import Derived.Test.YtjimgncefeldbaaGreatDoorSegAwk
import Derived.Test.YtjimgncefeldbaaGreatDoorSegSnap
namespace Go.Proofs.YtjimgncefeldbaaGreatDoor
open Go.RowKit Go.Sort

theorem fr_belowL {a : Addr} {B D L g : Nat} {s : DS} {ex bl b2 : List Nat} {base : ByteArray} {rv : Value} {en : Bool} {w w' : World} (h : LW a B D s bl L g base rv en w) (hex : ∀ k ∈ ex, B ≤ k) (hf : Fr (ex ++ L :: bl) b2 w w') : Below B w w' :=
  hf.below (fun k hk => by
    rcases List.mem_append.1 hk with hk | hk
    · exact hex k hk
    · rcases List.mem_cons.1 hk with rfl | hk
      · exact h.lb
      · exact (h.sw.disk.lt k hk).1) h.sw.size
theorem strRow_two (w : World) (s t : ByteArray) : StrRow (w.alloc (.cells #[.string s, .string t] 9)) (some ⟨w.heap.size, 0, none⟩) [s, t] :=
  .inr ⟨w.heap.size, 0, rfl, by simp, fun j hj => by
    match j, hj with
    | 0, _ => rw [Joins.cell_of_block (heap_alloc_new w _)]; rfl
    | 1, _ => rw [Joins.cell_of_block (heap_alloc_new w _)]; rfl⟩

set_option maxHeartbeats 8000000 in
set_option maxRecDepth 100000 in
theorem seglogAwake (a : Addr) (w : World) (hp : Pow a w) (ht : Pows w) (g1 : 0 < w.heap.size) (g2 : 5 < w.heap.size) :
    Calls Tryz.prog 5 #[] w fun e w' => e = .returned (.bool true) ∧ Below w.heap.size w w' := by
  have HP := Lib.hid (And.intro hp (And.intro ht (And.intro g1 g2)))
  clear hp ht g1 g2
  go_enter Tryz.func5, Tryz.ntmps5
  go_wp2_with fail
  refine (dNew 1000 w (by omega)).mono ?_
  rintro e w1 ⟨bl, rfl, hm⟩
  have HS1 := Lib.hid (show SW a w.heap.size w.heap.size (newS 1000) bl w1 ∧ Below w.heap.size w w1 from ⟨⟨hm.1, HP.out.1.below hm.2 HP.out.2.2.1, HP.out.2.1.kept hm.2 HP.out.2.2.2, HP.out.2.2.1, HP.out.2.2.2⟩, hm.2⟩)
  clear hm
  go_wp2_with fail
  refine (open_any w1 HS1.out.1 rfl (by decide) 1 ⟨#[]⟩ [] _ aw1).mono ?_
  rintro e w2 ⟨L1, bl1, ra1, cap1, rfl, hL1, hl1, hf1, -, -, -, -, hn1⟩
  obtain ⟨rfl, rfl⟩ := hn1 rfl
  have hb2 := HS1.out.2.trans (hf1.below (fun k hk => (HS1.out.1.disk.lt k hk).1) HS1.out.2.size)
  have HL1 := Lib.hid (And.intro hl1 hb2)
  clear hl1 hb2 hf1 hn1 hL1
  go_wp2_with fail
  refine (open_Log w2 HL1.out.1.sw rfl).mono ?_
  rintro e w3 ⟨rfl, rfl⟩
  go_wp2_with fail
  refine (append_any' [] w2 HL1.out.1 (by omega) (ownS_nil w.heap.size w2) HL1.out.2.size (Nat.le_refl _) (fun k hk => by cases hk) (by simp) ⟨#[97]⟩ (by decide) _ _ aw2 aw3).mono ?_
  rintro e w3 ⟨bl3, ra3, cap3, rfl, hl3, ho3, hv3, hf3⟩
  have HL3 := Lib.hid (And.intro hl3 (And.intro (HL1.out.2.trans (fr_belowL HL1.out.1 (fun k hk => by simp [Value.ownBlock] at hk) hf3)) (And.intro ho3 hv3)))
  clear hl3 ho3 hv3 hf3
  go_wp2_with fail
  refine (append_any' ([] ++ [⟨#[97]⟩]) w3 HL3.out.1 (by omega) HL3.out.2.2.1 HL3.out.2.1.size (Nat.le_refl _) HL3.out.2.2.2 (by simp) ⟨#[98]⟩ (by decide) _ _ aw4 aw5).mono ?_
  rintro e w4 ⟨bl4, ra4, cap4, rfl, hl4, ho4, hv4, hf4⟩
  have HL4 := Lib.hid (And.intro hl4.sw (HL3.out.2.1.trans (fr_belowL HL3.out.1 (fun k hk => (World.ownsRow.lt HL3.out.2.2.1 k (by simpa using hk)).1) hf4)))
  clear hl4 ho4 hv4 hf4
  have hdx := dAppend HL4.out.1.disk ⟨#[108, 111, 103, 45, 48, 48, 48, 48, 48, 48, 48, 49]⟩ ⟨#[120]⟩ a HL4.out.1.pow HL4.out.1.g1 (by decide) (by decide)
  rw [aw6] at hdx
  have HDX := Lib.hid hdx
  clear hdx
  go_wp2_with fail
  refine HDX.out.mono ?_
  rintro e w5 ⟨bl5, rfl, hd5, hf5⟩
  have HS5 := Lib.hid (And.intro (HL4.out.1.step hd5 hf5) (HL4.out.2.trans (hf5.below (fun k hk => (HL4.out.1.disk.lt k hk).1) HL4.out.2.size)))
  clear hd5 hf5 HDX
  go_wp2_with fail
  refine (open_any w5 HS5.out.1 rfl (by decide) 2 ⟨#[]⟩ [⟨#[97]⟩, ⟨#[98]⟩] _ aw7).mono ?_
  rintro e w6 ⟨L2, bl6, ra6, cap6, rfl, hL6, hl6, hf6, hrow6, hra6, hc6, hx6, -⟩
  have HL6 := Lib.hid (And.intro hl6 (And.intro (HS5.out.2.trans (hf6.below (fun k hk => (HS5.out.1.disk.lt k hk).1) HS5.out.2.size)) (And.intro hrow6 (And.intro hc6 hx6))))
  clear hl6 hf6 hrow6 hra6 hc6 hx6 hL6
  go_wp2_with fail
  refine (records_any [⟨#[97]⟩, ⟨#[98]⟩] w6 HL6.out.1.log HL6.out.2.2.1 (by decide) HL6.out.2.2.2.1 HL6.out.2.2.2.2).mono ?_
  rintro e w7 ⟨ra7, cap7, rfl, hrow7, hb7, hbs7⟩
  have hl7 := HL6.out.1.keep hb7
  obtain ⟨b7, o7, rfl, hlt7⟩ : ∃ b7 o7, ra7 = some ⟨b7, o7, none⟩ ∧ b7 < w7.heap.size := by
    rcases hrow7 with h | ⟨b', off', e', hlt, _⟩
    · cases h
    · exact ⟨b', off', e', hlt⟩
  have HL7 := Lib.hid (show LW a w.heap.size w.heap.size (sG 2 (r0 ++ rA ++ rB) 17) bl6 L2 2 ⟨#[]⟩ (.slice ra6 [(⟨#[97]⟩ : ByteArray), ⟨#[98]⟩].length cap6) false w7 ∧ Below w.heap.size w w7 ∧ StrRow w7 (some ⟨b7, o7, none⟩) [⟨#[97]⟩, ⟨#[98]⟩] ∧ b7 < w7.heap.size ∧ b7 ∉ L2 :: bl6 from
    ⟨hl7, HL6.out.2.1.trans (hb7.mono HL6.out.2.1.size), hrow7, hlt7, fun hin => by
      have h1 := hbs7 b7 o7 rfl
      rcases List.mem_cons.1 hin with rfl | h2
      · have := HL6.out.1.log.lt; omega
      · have := (HL6.out.1.sw.disk.lt b7 h2).2; omega⟩)
  clear hrow7 hb7 hbs7 hl7 hlt7
  obtain ⟨s8, h8a, h8b⟩ := aw8
  have H8 := Lib.hid (And.intro h8a h8b)
  clear h8a h8b
  go_wp2_with fail
  refine (snapshot_any w7 HL7.out.1 (by omega) baseB (by decide) s8 (sG 3 rX 9) H8.out.1 H8.out.2).mono ?_
  rintro e w8 ⟨bl8, rfl, hl8, hf8⟩
  have HL8 := Lib.hid (show LW a w.heap.size w.heap.size (sG 3 rX 9) bl8 L2 3 baseB (.slice none 0 0) false w8 ∧ Below w.heap.size w w8 ∧ StrRow w8 (some ⟨b7, o7, none⟩) [⟨#[97]⟩, ⟨#[98]⟩] ∧ b7 < w8.heap.size ∧ b7 ∉ L2 :: bl8 from
    ⟨hl8, HL7.out.2.1.trans (fr_belowL (ex := []) HL7.out.1 (fun k hk => by simp at hk) hf8), strRow_fr HL7.out.2.2.1 hf8 (fun b off e => by cases e; exact HL7.out.2.2.2.2), Nat.lt_of_lt_of_le HL7.out.2.2.2.1 hf8.size, hf8.out HL7.out.2.2.2.1 HL7.out.2.2.2.2⟩)
  clear hl8 hf8
  go_wp2_with fail
  refine (append_any' [] w8 HL8.out.1 (by omega) (ownS_nil w.heap.size w8) HL8.out.2.1.size (Nat.le_refl _) (fun k hk => by cases hk) (by simp) ⟨#[99]⟩ (by decide) _ _ aw9 aw10).mono ?_
  rintro e w9 ⟨bl9, ra9, cap9, rfl, hl9, ho9, hv9, hf9⟩
  have HL9 := Lib.hid (show SW a w.heap.size w.heap.size (sG 3 (rX ++ rC) 15) bl9 w9 ∧ Below w.heap.size w w9 ∧ StrRow w9 (some ⟨b7, o7, none⟩) [⟨#[97]⟩, ⟨#[98]⟩] ∧ b7 < w9.heap.size ∧ b7 ∉ bl9 from
    ⟨hl9.sw, HL8.out.2.1.trans (fr_belowL HL8.out.1 (fun k hk => by simp [Value.ownBlock] at hk) hf9), strRow_fr HL8.out.2.2.1 hf9 (fun b off e => by cases e; simpa [Value.ownBlock] using HL8.out.2.2.2.2), Nat.lt_of_lt_of_le HL8.out.2.2.2.1 hf9.size,
      fun hin => hf9.out HL8.out.2.2.2.1 (by simpa [Value.ownBlock] using HL8.out.2.2.2.2) (List.mem_append.2 (.inr (List.mem_cons_of_mem _ hin)))⟩)
  clear hl9 ho9 hv9 hf9
  go_wp2_with fail
  refine (open_any w9 HL9.out.1 rfl (by decide) 3 baseB [⟨#[99]⟩] _ aw11).mono ?_
  rintro e w10 ⟨L3, bl10, ra10, cap10, rfl, hL10, hl10, hf10, hrow10, hra10, hc10, hx10, -⟩
  have HL10 := Lib.hid (And.intro hl10 (And.intro (HL9.out.2.1.trans (hf10.below (fun k hk => (HL9.out.1.disk.lt k hk).1) HL9.out.2.1.size)) (And.intro hrow10 (And.intro hc10 (And.intro hx10 (strRow_fr HL9.out.2.2.1 hf10 (fun b off e => by cases e; exact HL9.out.2.2.2.2)))))))
  clear hl10 hf10 hrow10 hra10 hc10 hx10 hL10
  go_wp2_with fail
  refine (texts_same (some ⟨b7, o7, none⟩) (some ⟨w10.heap.size, 0, none⟩) cap7 2 [⟨#[97]⟩, ⟨#[98]⟩] _ (strRow_alloc HL10.out.2.2.2.2.2 _) (strRow_two w10 ⟨#[97]⟩ ⟨#[98]⟩) (by unfold maxLen; simp)).mono ?_
  rintro e w11 ⟨rfl, n, rfl⟩
  have hb11 : Below w10.heap.size w10 ((w10.alloc (.cells #[.string ⟨#[97]⟩, .string ⟨#[98]⟩] 9)).drewN n) := belowN ((Below.refl _ _).alloc (Nat.le_refl _) _) n
  obtain ⟨w11, hw11⟩ : ∃ w11, (w10.alloc (.cells #[.string ⟨#[97]⟩, .string ⟨#[98]⟩] 9)).drewN n = w11 := ⟨_, rfl⟩
  rw [hw11] at hb11 ⊢
  have HL11 := Lib.hid (And.intro (HL10.out.1.keep hb11) (And.intro (HL10.out.2.1.trans (hb11.mono HL10.out.2.1.size)) (HL10.out.2.2.1.below hb11)))
  clear hb11 hw11
  go_wp2_with fail
  refine (show Calls Tryz.prog 11 #[.pointer (some ⟨L3, 0, none⟩)] w11 fun e w' => e = .returned (.string ⟨#[98, 97, 115, 101]⟩) ∧ w11 = w' from base_any w11 HL11.out.1.log).mono ?_
  rintro e w12 ⟨rfl, rfl⟩
  go_wp2_with fail
  refine (records_any [⟨#[99]⟩] w11 HL11.out.1.log HL11.out.2.2 (by decide) HL10.out.2.2.2.1 HL10.out.2.2.2.2.1).mono ?_
  rintro e w12 ⟨ra12, cap12, rfl, hrow12, hb12, hbs12⟩
  have HL12 := Lib.hid (And.intro (HL11.out.1.keep hb12) (And.intro (HL11.out.2.1.trans (hb12.mono HL11.out.2.1.size)) hrow12))
  clear hrow12 hb12 hbs12
  go_wp2_with fail
  refine (texts_same ra12 (some ⟨w12.heap.size, 0, none⟩) cap12 1 [⟨#[99]⟩] _ (strRow_alloc HL12.out.2.2 _) (strRow_one w12 ⟨#[99]⟩) (by unfold maxLen; simp)).mono ?_
  rintro e w13 ⟨rfl, m, rfl⟩
  have hb13 : Below w12.heap.size w12 ((w12.alloc (.cells #[.string ⟨#[99]⟩] 9)).drewN m) := belowN ((Below.refl _ _).alloc (Nat.le_refl _) _) m
  obtain ⟨w13, hw13⟩ : ∃ w13, (w12.alloc (.cells #[.string ⟨#[99]⟩] 9)).drewN m = w13 := ⟨_, rfl⟩
  rw [hw13] at hb13 ⊢
  have HL13 := Lib.hid (And.intro (HL12.out.1.keep hb13) (HL12.out.2.1.trans (hb13.mono HL12.out.2.1.size)))
  clear hb13 hw13
  go_wp2_with fail
  refine (len_any w13 HL13.out.1.log).mono ?_
  rintro e w14 ⟨rfl, rfl⟩
  go_wp2_with fail
  go_ret
  exact ⟨rfl, HL13.out.2⟩
end Go.Proofs.YtjimgncefeldbaaGreatDoor
