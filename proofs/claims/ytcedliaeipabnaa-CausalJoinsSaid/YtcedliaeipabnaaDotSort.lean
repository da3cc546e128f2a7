/-
  slices.Clone and slices.SortFunc of names; Sort, the program's.
-/
import Derived.Test.YtcedliaeipabnaaGCauG
import Derived.BigQuiet
namespace Go.Proofs.Ytcedliaeipabnaa
set_option maxRecDepth 100000
open Go.RowKit Go.Shelf Go.Lib Go.Sort

theorem rowD_get : ∀ (l : List Dt) (j : Nat) (u : Value), (rowD l)[j]? = some u → ∃ i d, l[i]? = some d ∧ ((j = i * 2 ∧ u = .int .i64 d.1) ∨ (j = i * 2 + 1 ∧ u = .int .i64 d.2)) := by
  intro l j u h
  have hl : j < l.length * 2 := by rw [← rowD_len]; exact (List.getElem?_eq_some_iff.1 h).1
  obtain ⟨i, hi⟩ : ∃ i, j = i * 2 ∨ j = i * 2 + 1 := ⟨j / 2, by omega⟩
  have hil : i < l.length := by omega
  obtain ⟨h1, h2⟩ := rowD_at l i l[i] (List.getElem?_eq_getElem hil)
  refine ⟨i, l[i], List.getElem?_eq_getElem hil, ?_⟩
  rcases hi with rfl | rfl
  · rw [h1] at h; exact .inl ⟨rfl, (Option.some.inj h).symm⟩
  · rw [h2] at h; exact .inr ⟨rfl, (Option.some.inj h).symm⟩

theorem DIn.cells {w : World} {a : Option Addr} {l : List Dt} (h : DIn w a l) {x : Addr} (hx : a = some x) : ∀ j u, (rowD l)[j]? = some u → w.cell? (x.add j) = some u := by
  intro j u hj
  rcases h with rfl | ⟨b, off, ha, hlt, hc⟩
  · simp [rowD] at hj
  · obtain rfl := Option.some.inj (hx.symm.trans ha)
    have e1 : ∀ k, (⟨b, off, none⟩ : Addr).add k = ⟨b, off + k, none⟩ := fun k => by cases k <;> simp [Addr.add]
    rw [e1]
    obtain ⟨i, d, hi, h⟩ := rowD_get l j u hj
    obtain ⟨h1, h2⟩ := hc i d hi
    rcases h with ⟨rfl, rfl⟩ | ⟨rfl, rfl⟩
    · exact h1
    · rw [← Nat.add_assoc]; exact h2

theorem own_empty0 (w : World) (e : TypeId) (sz : Nat) : (w.alloc (.cells #[] e)).ownsRow w.heap.size e sz (.slice (some ⟨w.heap.size, 0, none⟩) 0 0) 0 [] :=
  ⟨by simp, .inr ⟨w.heap.size, 0, #[], rfl, Nat.le_refl _, heap_alloc_new w _, Nat.le_refl _, by simp [maxLen], by simp, by simp⟩⟩

set_option maxHeartbeats 1000000 in
set_option maxRecDepth 100000 in
theorem cloneD (l : List Dt) (a : Option Addr) (cap : Nat) (w : World) (h : DIn w a l) (hl : l.length ≤ 65536) :
    Calls Try.prog 64 #[.slice a l.length cap] w fun e w' => ∃ v', e = .returned v' ∧ OwnD w.heap.size v' l w' ∧ Below w.heap.size w w' := by
  obtain ⟨i0, hi, hz0, hz1, hz2⟩ := info_parts dotInfo
  have hq := fun (w : World) (a : Option Addr) (n c : Nat) => Lib.run_eql_slice_nil (P := Try.prog) w 24 31 a n c 0 0 Try.underlying24
  cases a with
  | none =>
    have hl0 : l = [] := by
      rcases h with h | ⟨b, off, ha, _⟩
      · exact h
      · cases ha
    subst hl0
    clear h
    go_enter Try.func64, Try.ntmps64
    go_wp2_with fail
    go_ret
    exact ⟨_, rfl, ownD_nil _ _, Below.refl _ _⟩
  | some x =>
    have hcells := (h.alloc (.cells #[] 31)).cells rfl
    obtain ⟨v', W', hr, ho, hgr, hsf, hform⟩ := run_append_sf (P := Try.prog) (w.alloc (.cells #[] 31)) w.heap.size 24 24 24 31 i0 _ 2 16 Try.underlying24 hi hz0 hz1 hz2 rfl _ 0 [] (own_empty0 w _ _)
      (.slice (some x) l.length cap) l.length (rowD l) (Src.ofSlice _ Try.underlying24 x l.length cap _ (rowD_len l) hcells (rowD_cell l)) (by unfold maxLen; omega) (by omega) (by simp)
    simp only [Nat.zero_add, List.nil_append] at ho
    have hbel : Below w.heap.size w W' := (Joins.below_alloc1 w _).grown hgr (by simp) (fun k hk => by simp [Value.ownBlock] at hk; omega)
    have HF := Lib.hid (show OwnD w.heap.size v' l W' ∧ Below w.heap.size w W' from ⟨ho, hbel⟩)
    clear h hcells ho hgr hsf hform hbel hi hz0 hz1 hz2
    generalize l.length = n at *
    go_enter Try.func64, Try.ntmps64
    go_wp2_with (at_builtin; refine wpList_append_run rfl _ _ 24 24 rfl (.slice (some ⟨w.heap.size, 0, none⟩) 0 0) (.slice (some x) n cap) _ W' rfl rfl hr ?_)
    go_ret
    exact ⟨_, rfl, HF.out.1, HF.out.2⟩

/-! the order, as sorting asks for it -/
theorem lt_cmpD (a b : Dt) : ltOf cmpD a b = ltD a b := by
  unfold ltOf cmpD
  by_cases h : a = b
  · subst h; simp [ltD_irr]
  · rw [if_neg h]
    by_cases h2 : ltD a b = true
    · simp [h2]
    · simp [h2]
theorem swoD : SWO (ltOf cmpD) := {
  irrefl := fun x => by rw [lt_cmpD]; exact ltD_irr x
  trans := fun x y z h1 h2 => by rw [lt_cmpD] at *; exact ltD_trans h1 h2
  ntrans := fun x y z h1 h2 => by
    rw [lt_cmpD] at *
    rw [ltD_no] at *
    omega }
theorem cmpLaysD (blk off size : Nat) (w : World) : CmpLays Try.prog 66 #[] dcs 2 cmpD blk off size w := fun _ _ _ _ x y => orderC x y _

theorem below_sortedK (w : World) (B blk off n : Nat) (d : Array Dt) (os : Array Obj) (hB : B ≤ blk) (hblk : blk < w.heap.size) : Go.RowKit.Below B w (sortWorldK dcs 2 w blk off n d os) := by
  refine ⟨rfl, rfl, rfl, ?_, fun k hk => ?_⟩
  · unfold sortWorldK putRowK; rw [size_grow, Sort.size_putRow]; exact Nat.le_add_right _ _
  · unfold sortWorldK putRowK
    rw [heap_grow_old _ _ (by rw [Sort.size_putRow]; show k < w.heap.size; omega)]
    unfold putRow mapBlock
    rw [Array.getElem?_modify, if_neg (by omega)]
    rfl

theorem holds_own {w : World} {B g cap : Nat} {l : List Dt} (h : OwnD B (.slice (some ⟨g, 0, none⟩) l.length cap) l w) : HoldsK dcs 2 w g 0 l.toArray := by
  intro t ht
  have ht2 : t < l.length * 2 := by rw [size_flatK] at ht; simpa using ht
  have hil : t / 2 < l.length := by omega
  rw [get_flatK _ _ _ _ (by simpa using ht2)]
  have hg : l.toArray[t / 2]! = l[t / 2] := by rw [getElem!_pos l.toArray (t / 2) (by simpa using hil)]; simp
  rw [hg]
  unfold OwnD at h
  refine ⟨?_, World.ownsRow.frozenAt h _⟩
  rw [Nat.zero_add, World.ownsRow.cellAt h t ht2]
  obtain ⟨h1, h2⟩ := rowD_at l (t / 2) l[t / 2] (List.getElem?_eq_getElem hil)
  rcases Nat.mod_two_eq_zero_or_one t with hm | hm
  · have e : t / 2 * 2 = t := by omega
    rw [e] at h1
    rw [h1, hm]; rfl
  · have e : t / 2 * 2 + 1 = t := by omega
    rw [e] at h2
    rw [h2, hm]; rfl

theorem sortCallD (l : List Dt) (v : Value) (B : Nat) (w : World) (hlen : l.length ≤ 65536) (hown : OwnD B v l w) (hB : B ≤ w.heap.size) :
    Calls Try.prog 65 #[v, .func (.func 66) #[] #[]] w fun e w' =>
      e = .returned (.tuple #[]) ∧ ∃ (s : List Dt) (a : Option Addr) (cap : Nat), v = .slice a s.length cap ∧ s.length = l.length ∧ s.Perm l ∧ s.Pairwise (fun a b => ltD b a = false) ∧ DIn w' a s ∧ Go.RowKit.Below B w w' := by
  obtain ⟨hl, hv⟩ := id hown
  rcases hv with ⟨rfl, h0⟩ | ⟨g, cap, cur, rfl, hBg, hg, hn, hm, hs, htk⟩
  · have hl0 : l = [] := List.length_eq_zero_iff.1 h0
    subst hl0
    have hcon := AnyF.slices_SortFunc_none (P := Try.prog) (ρ := sortDl_ren) sortDl none 0 (.func (.func 66) #[] #[]) w
    exact Calls.mono (f := 65) hcon fun e w' h => by
      obtain ⟨he, hw⟩ := h
      subst hw
      exact ⟨he, [], none, 0, rfl, rfl, List.Perm.refl _, .nil, .inl rfl, Go.RowKit.Below.refl _ _⟩
  · have hH := holds_own hown
    have hlt : g < w.heap.size := lt_of_block hg
    have eg : ∀ args w, (callFunc 66 args).run Try.prog w = .ok (.enter 66 args) w := enters_of Try.func66 (by kernel_rfl) rfl
    have hsz : l.toArray.size = l.length := by simp
    have hcon := AnyQ.slices_SortFunc sortDl 2 Try.isAgg31 Try.sizeOf31 dcs (fun _ => rfl) (fun x u hu => by simp [dcs] at hu; rcases hu with rfl | rfl <;> rfl) cmpD swoD 66 #[] g 0 cap l.toArray w eg (cmpLaysD g 0 _ w) hH hlt (by omega)
    rw [hsz] at hcon
    refine Calls.mono (f := 65) hcon ?_
    rintro e w' ⟨rfl, d', n, os, hp, hsd, rfl⟩
    obtain ⟨hp1, _, hp2⟩ := hp
    have e1 : d'.extract 0 l.length = d' := by rw [← hsz, ← hp1]; exact Array.extract_size
    have e2 : l.toArray.extract 0 l.length = l.toArray := by rw [← hsz]; exact Array.extract_size
    rw [e1, e2] at hp2
    have hdl : d'.toList.length = l.length := by simp; omega
    refine ⟨rfl, d'.toList, some ⟨g, 0, none⟩, cap, by rw [hdl], hdl, by simpa using hp2, ?_, .inr ⟨g, 0, rfl, lt_sortWorldK dcs 2 w g 0 n d' os hlt, fun j d hj => ?_⟩, below_sortedK w B g 0 n d' os hBg hlt⟩
    · rw [List.pairwise_iff_getElem]
      intro i j hi hj hij
      have h := hsd i j (Nat.zero_le _) hij (by omega)
      rw [lt_cmpD] at h
      rw [getElem!_pos d' j (by simpa using hj), getElem!_pos d' i (by simpa using hi)] at h
      simpa using h
    · have hjl : j < d'.size := by have := (List.getElem?_eq_some_iff.1 hj).1; simpa using this
      have hK := holdsK_sortWorldK dcs 2 w g 0 n l.toArray d' os hlt hH (by omega)
      have c0 := (hK.cell (i := j) (c := 0) hjl (by omega)).1
      have c1 := (hK.cell (i := j) (c := 1) hjl (by omega)).1
      have hd : d'[j]! = d := by
        rw [getElem!_pos d' j hjl]
        have := hj
        rw [Array.getElem?_toList, Array.getElem?_eq_getElem hjl] at this
        exact Option.some.inj this
      rw [hd] at c0 c1
      exact ⟨c0, c1⟩

set_option maxHeartbeats 4000000 in
set_option maxRecDepth 100000 in
theorem sortC (l : List Dt) (a : Option Addr) (cap : Nat) (w : World) (h : DIn w a l) (hl : l.length ≤ 65536) :
    Calls Try.prog 32 #[.slice a l.length cap] w fun e w' => ∃ v', e = .returned v' ∧ OwnD w.heap.size v' (sortD l) w' ∧ Below w.heap.size w w' := by
  obtain ⟨i0, hi, hz0, hz1, hz2⟩ := info_parts dotInfo
  have H := Lib.hid h
  clear h
  go_enter Try.func32, Try.ntmps32
  go_wp2_with fail
  refine (cloneD l a cap w H.out hl).mono ?_
  rintro e w1 ⟨v1, rfl, hown1, hb1⟩
  have hs1 := hb1.size
  have HO1 := Lib.hid hown1
  have HB1 := Lib.hid hb1
  clear hown1 hb1
  go_wp2_with fail
  refine (sortCallD l v1 w.heap.size w1 hl HO1.out hs1).mono ?_
  rintro e w2 ⟨rfl, s, sa, sc, rfl, hsl, hperm, hsort, hdin, hb2⟩
  have hs2 := hb2.size
  have hsl' : s.length ≤ 65536 := by omega
  have HB2 := Lib.hid (HB1.out.trans hb2)
  have HP := Lib.hid hperm
  have HS := Lib.hid hsort
  have HD := Lib.hid hdin
  clear hsl hperm hsort hdin hb2 HO1 HB1 H
  go_wp2_with fail
  go_loopw [4, 13] (fun v i wr => ∃ (k : Nat) (out : List Dt), k ≤ s.length ∧ i = .int .i64 k ∧ Kept s k out ∧ OwnD w2.heap.size v out wr ∧ Below w2.heap.size w2 wr) (fun _ i _ => s.length - (intOf i).toNat)
  case atStart => exact ⟨0, [], Nat.zero_le _, rfl, Kept.start s, ownD_nil _ _, Below.refl _ _⟩
  case round =>
    obtain ⟨k, out, hk, rfl, hkept, hown, hb⟩ := hrel
    have hol := hkept.len
    have HK := Lib.hid hkept
    have HOWN := Lib.hid hown
    have HB := Lib.hid hb
    have hbs := hb.size
    clear hkept hown hb
    by_cases hlt : k < s.length
    · obtain ⟨d, hd⟩ : ∃ d, s[k]? = some d := ⟨_, List.getElem?_eq_getElem hlt⟩
      obtain ⟨b, off, rfl, hbl, c0, c1⟩ := (HD.out.below HB.out).at hd
      have hde : s[k] = d := by rw [List.getElem?_eq_getElem hlt] at hd; exact Option.some.inj hd
      have HDE := Lib.hid hde
      obtain ⟨r, q⟩ := d
      simp only at c0 c1
      have hi1 : (k : Int) < (s.length : Int) := by omega
      clear hd hde
      by_cases hk0 : k = 0
      · have hk2 : Kept s (k + 1) (out ++ [(r, q)]) := by rw [← HDE.out]; exact HK.out.more HS.out hlt (fun j hj => by omega)
        have HK2 := Lib.hid hk2
        have hg : ((k : Int) == 0) = true := by simp; omega
        clear hk2 hk0
        go_wp2_with fail
        go_quiet (fail)
        go_wp2_with (at_builtin; refine wpList_append_own _ rfl _ _ 24 rfl w2.heap.size 31 i0 (.agg #[.int .i64 0, .int .i64 0]) 2 16 Try.underlying24 hi hz0 hz1 hz2 rfl (by decide) _ _ _ rfl ((World.ownsRow.alloc (HOWN.out) _).alloc _) ⟨wr.heap.size + 1, 0, none⟩ 1 1 [Value.int .i64 r, Value.int .i64 q] rfl rfl ?c1 ?c2 ?c3 ?c4 ?c5 ?_)
        case c1 =>
          intro j u hj
          match j, hj with
          | 0, hj => simp at hj; subst hj; simp [Addr.add, go_sem]
          | 1, hj => simp at hj; subst hj; simp [Addr.add, go_sem]
        case c2 => intro u hu; simp at hu; rcases hu with rfl | rfl <;> rfl
        case c3 => unfold maxLen; omega
        case c4 => omega
        case c5 => simp; omega
        intro v' w3 hown4 hg3 _
        have hB3 : Below w2.heap.size w2 w3 := ((belowN (HB.out.alloc hbs _) _).alloc (by simp; omega) _).grown hg3 (by simp; omega) (fun j hj => (World.ownsRow.lt HOWN.out j hj).1)
        have hown5 : OwnD w2.heap.size v' (out ++ [(r, q)]) w3 := by unfold OwnD; rw [List.length_append, rowD_append]; exact hown4
        have HOWN5 := Lib.hid hown5
        have HB3 := Lib.hid hB3
        clear hown4 hg3 hown5 hB3
        go_wp2_with fail
        go_roundw
        case rel => exact ⟨k + 1, _, by omega, by go_num, HK2.out, HOWN5.out, HB3.out⟩
        case measure => simp [intOf]; omega
      · obtain ⟨m, rfl⟩ : ∃ m, k = m + 1 := ⟨k - 1, by omega⟩
        obtain ⟨d', hd'⟩ : ∃ d, s[m]? = some d := ⟨_, List.getElem?_eq_getElem (by omega)⟩
        obtain ⟨b', off', hbe, hbl', p0, p1⟩ := (HD.out.below HB.out).at hd'
        have hbe2 := Option.some.inj hbe
        obtain ⟨rfl, rfl⟩ : b = b' ∧ off = off' := by injection hbe2 with h1 h2; exact ⟨h1, h2⟩
        have hde' : s[m]'(by omega) = d' := by rw [List.getElem?_eq_getElem (by omega)] at hd'; exact Option.some.inj hd'
        have HDE' := Lib.hid hde'
        obtain ⟨r', q'⟩ := d'
        simp only at p0 p1
        have hg : ((m : Int) + 1 == 0) = false := by simp; omega
        have hm0 : (0 : Int) ≤ (m : Int) := by omega
        have hm1 : (m : Int) < (s.length : Int) := by omega
        have hm2 : IntKind.i64.wrap (m : Int) = m := by simp [IntKind.wrap, IntKind.bits, IntKind.signed]; omega
        clear hbe hbe2 hbl' hd' hde'
        by_cases he : (r, q) = (r', q')
        · have hnq := fun W => neqD (r, q) (r', q') W
          rw [decide_eq_true he] at hnq
          have hk2 : Kept s (m + 1 + 1) out := HK.out.same hlt (by rw [HDE.out, HDE'.out, he])
          have HK2 := Lib.hid hk2
          have HE := Lib.hid he
          clear hk2 he
          go_wp2_with fail
          go_quiet (fail)
          go_wp2_with fail
          go_roundw
          case rel => exact ⟨m + 1 + 1, _, by omega, by go_num, HK2.out, HOWN.out.alloc _, belowN (HB.out.alloc hbs _) _⟩
          case measure => simp [intOf]; omega
        · have hnq := fun W => neqD (r, q) (r', q') W
          rw [decide_eq_false he] at hnq
          have hk2 : Kept s (m + 1 + 1) (out ++ [(r, q)]) := by rw [← HDE.out]; exact HK.out.more HS.out hlt (fun j hj => by
            obtain rfl : j = m := by omega
            rw [HDE.out, HDE'.out]; exact he)
          have HK2 := Lib.hid hk2
          clear hk2 he
          go_wp2_with fail
          go_quiet (fail)
          go_wp2_with (at_builtin; refine wpList_append_own _ rfl _ _ 24 rfl w2.heap.size 31 i0 (.agg #[.int .i64 0, .int .i64 0]) 2 16 Try.underlying24 hi hz0 hz1 hz2 rfl (by decide) _ _ _ rfl ((World.ownsRow.alloc (HOWN.out) _).alloc _) ⟨wr.heap.size + 1, 0, none⟩ 1 1 [Value.int .i64 r, Value.int .i64 q] rfl rfl ?c1 ?c2 ?c3 ?c4 ?c5 ?_)
          case c1 =>
            intro j u hj
            match j, hj with
            | 0, hj => simp at hj; subst hj; simp [Addr.add, go_sem]
            | 1, hj => simp at hj; subst hj; simp [Addr.add, go_sem]
          case c2 => intro u hu; simp at hu; rcases hu with rfl | rfl <;> rfl
          case c3 => unfold maxLen; omega
          case c4 => omega
          case c5 => simp; omega
          intro v' w3 hown4 hg3 _
          have hB3 : Below w2.heap.size w2 w3 := ((belowN (HB.out.alloc hbs _) _).alloc (by simp; omega) _).grown hg3 (by simp; omega) (fun j hj => (World.ownsRow.lt HOWN.out j hj).1)
          have hown5 : OwnD w2.heap.size v' (out ++ [(r, q)]) w3 := by unfold OwnD; rw [List.length_append, rowD_append]; exact hown4
          have HOWN5 := Lib.hid hown5
          have HB3 := Lib.hid hB3
          clear hown4 hg3 hown5 hB3
          go_wp2_with fail
          go_roundw
          case rel => exact ⟨m + 1 + 1, _, by omega, by go_num, HK2.out, HOWN5.out, HB3.out⟩
          case measure => simp [intOf]; omega
    · have hk' : s.length ≤ k := by omega
      have hfin : out = sortD l := HK.out.all hk' (fun z => HP.out.mem_iff)
      have hown' := HOWN.out.mono (show w.heap.size ≤ w2.heap.size by omega)
      rw [hfin] at hown'
      have HF := Lib.hid (And.intro hown' (HB2.out.trans (HB.out.mono (by omega))))
      clear hfin hown'
      go_wp2_with fail
      go_ret
      exact ⟨_, rfl, HF.out.1, HF.out.2⟩
end Go.Proofs.Ytcedliaeipabnaa
