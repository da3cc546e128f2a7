/-
  Read: the program's and the document's.
  Updates as bytes, in plain words (chapter 18): whether an update may be, its bytes, and what is read of bytes. What 9.2's Read tells of a list of chunks is handed in (rd): its error.
  A name by value: Check, of the program and of the document.
  Rows of elements of any size that a call owns: append, copy, clear; each as one step of a walk, and of a region that draws its order.
  Rows of names: how they lie, are read, and are appended to; names compared.
-/
import Derived.Test.YtchnklekeinhiaaGreatGV07
import Derived.Test.YtchnklekeinhiaaGreatGV09
import Derived.Test.YtchnklekeinhiaaGreatGV04
import Derived.Test.YtchnklekeinhiaaGreatGV02
import Derived.Test.YtchnklekeinhiaaGreatGV01
import Derived.Deep.AppendSrc
import Derived.Deep.RegionLaw
import Derived.Laws.CopyRow
import Derived.Laws.OwnMore
import Derived.Laws.StructEq
namespace Go.Proofs.YtchnklekeinhiaaGreat
open Go.RowKit Go.Sort

/-- what is read: the two numbers, the IDs, the reader's state behind them -/
def rSt (s : ByteArray) : ByteArray × Int := (sList (sNum (sNum (s, 0)).2).2).2
def rMan (s : ByteArray) : Man := ⟨(sNum (s, 0)).1, (sNum (sNum (s, 0)).2).1, (sList (sNum (sNum (s, 0)).2).2).1⟩
def readM (s : ByteArray) : Man × Int :=
  if doneS (rSt s) ≠ 0 then (⟨0, 0, []⟩, doneS (rSt s)) else if manE (rMan s) ≠ 0 then (⟨0, 0, []⟩, manE (rMan s)) else (rMan s, 0)

theorem sTexts_mem : ∀ (n : Nat) (st : ByteArray × Int) (acc : List ByteArray), ∀ x ∈ (sTexts n st acc).1, x ∈ acc ∨ x.size ≤ st.1.size := by
  intro n
  induction n with
  | zero => intro st acc x hx; exact .inl (by simpa [sTexts] using hx)
  | succ n ih =>
    intro st acc x hx
    have hz := sText_size st
    simp only [sTexts] at hx
    split at hx
    · simp at hx
    · rcases ih _ _ x hx with h | h
      · rcases List.mem_append.1 h with h | h
        · exact .inl h
        · right
          simp at h
          subst h
          unfold sText
          split
          · simp
          · split
            · simp
            · have h1 := sCount_size 65536 st
              have h2 := extract_size_le (sCount 65536 st).2.2.1 0 (sCount 65536 st).1
              simp only
              omega
      · exact .inr (by omega)

theorem sList_mem (st : ByteArray × Int) : ∀ x ∈ (sList st).1, x.size ≤ st.1.size := fun x hx => by
  have h := sCount_size 4096 st
  unfold sList at hx
  split at hx
  · simp at hx
  · rcases sTexts_mem _ _ _ x hx with h' | h'
    · simp at h'
    · omega

theorem rMan_short {s : ByteArray} (hs : s.size ≤ 5000) : ∀ x ∈ (rMan s).ids, x.size ≤ 5000 := fun x hx => by
  have h1 := sNum_size (s, 0)
  have h2 := sNum_size (sNum (s, 0)).2
  have h3 := sList_mem (sNum (sNum (s, 0)).2).2 x hx
  simp only at h1
  omega

set_option maxHeartbeats 4000000 in
set_option maxRecDepth 100000 in
theorem readMC (s : ByteArray) (hs : s.size ≤ 9223372036854775807) (hsh : ∀ x ∈ (rMan s).ids, x.size ≤ 5000) (w : World) :
    Calls Tryz.prog 51 #[.string s] w fun e w' => ∃ v, e = .returned (.tuple #[mv (readM s).1 v, .int .i64 (readM s).2]) ∧ OwnS w.heap.size v (readM s).1.ids w' ∧ Below w.heap.size w w' := by
  have r0 := MBox.new w ⟨0, 0, []⟩ (.slice none 0 0)
  have hb0 : Below w.heap.size w (w.alloc (.cells #[.int .i64 0, .int .i64 0, .slice none 0 0] 27)) := (Below.refl _ w).alloc (Nat.le_refl _) _
  have R0 := Lib.hid r0
  have HB0 := Lib.hid hb0
  have hlt0 := r0.lt
  clear r0 hb0
  go_enter Tryz.func51, Tryz.ntmps51
  go_wp2_with fail
  refine (new_any s _).mono ?_
  rintro e w1 ⟨rfl, hw1⟩
  have hrd : Rd (w.heap.size + 1) (s, 0) w1 := by
    rw [← hw1]
    have h := heap_alloc_new (w.alloc (.cells #[.int .i64 0, .int .i64 0, .slice none 0 0] 27)) (.cells #[.string s, .int .i64 0] 142)
    rw [World.size_alloc] at h
    exact h
  have r1 : MBox w1 w.heap.size ⟨0, 0, []⟩ (.slice none 0 0) := by rw [← hw1]; exact R0.out.alloc _
  have hB1 : Below w.heap.size w w1 := by rw [← hw1]; exact HB0.out.alloc HB0.out.size _
  have H1 := Lib.hid (And.intro r1 hB1)
  have HR1 := Lib.hid hrd
  clear hrd r1 hB1 R0 HB0 hw1
  simp only [World.size_alloc]
  go_wp2_with fail
  refine (rnum_any (w.heap.size + 1) (s, 0) w1 HR1.out hs).mono ?_
  rintro e w2 ⟨rfl, hrd2, hg2⟩
  have z1 : (sNum (s, 0)).2.1.size ≤ s.size := sNum_size (s, 0)
  have hsz1 := H1.out.2.size
  have H2 := Lib.hid (And.intro (H1.out.1.kept hg2 (fun e => by have : w.heap.size = w.heap.size + 1 := Option.some.inj e; omega)) (H1.out.2.grown hg2 hsz1 (fun k e => by have : w.heap.size + 1 = k := Option.some.inj e; omega)))
  have HR2 := Lib.hid hrd2
  clear hrd2 hg2 H1 HR1
  go_wp2_with fail
  refine (rnum_any (w.heap.size + 1) _ w2 HR2.out (by omega)).mono ?_
  rintro e w3 ⟨rfl, hrd3, hg3⟩
  have z2 := sNum_size (sNum (s, 0)).2
  have hsz2 := H2.out.2.size
  have H3 := Lib.hid (And.intro (H2.out.1.kept hg3 (fun e => by have : w.heap.size = w.heap.size + 1 := Option.some.inj e; omega)) (H2.out.2.grown hg3 hsz2 (fun k e => by have : w.heap.size + 1 = k := Option.some.inj e; omega)))
  have HR3 := Lib.hid hrd3
  clear hrd3 hg3 H2 HR2
  go_wp2_with fail
  refine (rlist_any (w.heap.size + 1) _ w3 HR3.out (by omega)).mono ?_
  rintro e w4 ⟨v, rfl, hown, hrd4, hg4⟩
  have hsz3 := H3.out.2.size
  have hlt3 := H3.out.1.lt
  have H4 := Lib.hid (And.intro (H3.out.1.kept hg4 (fun e => by have : w.heap.size = w.heap.size + 1 := Option.some.inj e; omega)) (H3.out.2.grown hg4 hsz3 (fun k e => by have : w.heap.size + 1 = k := Option.some.inj e; omega)))
  have HR4 := Lib.hid (show Rd (w.heap.size + 1) (rSt s) w4 from hrd4)
  have HO4 := Lib.hid (show OwnS w3.heap.size v (rMan s).ids w4 from hown)
  have hm0 : (((sNum (s, 0)).1 : Nat) : Int) = (rMan s).size := rfl
  have hm1 : (((sNum (sNum (s, 0)).2).1 : Nat) : Int) = (rMan s).chunk := rfl
  rw [hm0, hm1]
  have zR : (rSt s).1.size ≤ s.size := by
    have z3 := sList_size (sNum (sNum (s, 0)).2).2
    unfold rSt
    omega
  clear hrd4 hg4 H3 HR3 hown hm0 hm1
  have hRM : readM s = if doneS (rSt s) ≠ 0 then (⟨0, 0, []⟩, doneS (rSt s)) else if manE (rMan s) ≠ 0 then (⟨0, 0, []⟩, manE (rMan s)) else (rMan s, 0) := rfl
  have HRM := Lib.hid hRM
  clear hRM z1 z2
  generalize rMan s = M at *
  generalize rSt s = st at *
  obtain ⟨la, lc, rfl, hrow, hlm⟩ := ownS_row HO4.out
  have hdn := fun W (h : Rd (w.heap.size + 1) st W) => done_any (w.heap.size + 1) st W h (by omega)
  have hd2 : (if st.2 ≠ 0 then st.2 else if 0 < st.1.size then (5 : Int) else 0) = doneS st := rfl
  rw [hd2] at hdn
  generalize doneS st = D at *
  have hg := MBox.new w4 M (.slice la M.ids.length lc)
  have hg0 := hg.c0
  have hg1 := hg.c1
  have hg2 := hg.c2
  have hgl := hg.lt
  have hb5 : Below w4.heap.size w4 (w4.alloc (.cells #[.int .i64 M.size, .int .i64 M.chunk, .slice la M.ids.length lc] 27)) := (Below.refl _ w4).alloc (Nat.le_refl _) _
  have HR5 := Lib.hid (HR4.out.below hb5 HR4.out.lt)
  have hs4 := H4.out.2.size
  have r5 := H4.out.1.below hb5 H4.out.1.lt
  have hr5l := r5.lt
  have H5 := Lib.hid (And.intro r5 (H4.out.2.trans (hb5.mono hs4)))
  have HA5 := Lib.hid (show MArg _ M la from ⟨hrow.below hb5, by unfold maxLen at hlm; omega, hsh⟩)
  have HG5 := Lib.hid hg
  have HO5 := Lib.hid (row_below HO4.out hb5)
  clear hb5 hg r5 hrow HR4 HO4 H4 hd2
  go_wp2_with fail
  generalize w4.alloc (.cells #[.int .i64 M.size, .int .i64 M.chunk, .slice la M.ids.length lc] 27) = w5 at *
  refine (hdn w5 HR5.out).mono ?_
  rintro e w6 ⟨rfl, rfl⟩
  have f0 := H5.out.1.free 0
  have f1 := H5.out.1.free 1
  have f2 := H5.out.1.free 2
  have k0 := H5.out.1.c0
  have k1 := H5.out.1.c1
  have k2 := H5.out.1.c2
  by_cases hD : D = 0
  case neg =>
    have hj := HRM.out
    rw [if_pos hD] at hj
    have hne : (D != 0) = true := by simp [hD]
    have HJ := Lib.hid hj
    have hput := Lib.hid (H5.out.1.put ⟨0, 0, []⟩ (.slice none 0 0))
    clear hj hD
    go_wp2_with fail
    refine bodyPost_ret (results_man rfl _ _ w.heap.size 27 _ _ _ (0, 0) _ rfl hput.out Tryz.underlying27 rfl manInfo) rfl ?_
    rw [HJ.out]
    exact ⟨_, rfl, ownS_nil _ _, below_put3 H5.out.2 (Nat.le_refl _) _ _ _⟩
  case pos =>
    have hj := HRM.out
    rw [if_neg (fun hh => hh hD)] at hj
    have HJ := Lib.hid hj
    subst hD
    clear hj HRM
    have hck := fun W (hW : MArg W M la) => checkMC M la lc W hW
    go_wp2_with fail
    refine (hck _ HA5.out).mono ?_
    rintro e w6 ⟨rfl, hb6⟩
    have hs5 := H5.out.2.size
    have r6 := H5.out.1.below hb6 hr5l
    have g6 := HG5.out.below hb6 hgl
    have l0 := r6.c0
    have l1 := r6.c1
    have l2 := r6.c2
    have u0 := r6.free 0
    have u1 := r6.free 1
    have u2 := r6.free 2
    have n0 := g6.c0
    have n1 := g6.c1
    have n2 := g6.c2
    have HB6 := Lib.hid (H5.out.2.trans (hb6.mono hs5))
    by_cases hE : manE M = 0
    · have hj := HJ.out
      rw [if_neg (fun hh => hh hE)] at hj
      have HJ2 := Lib.hid hj
      have hput := Lib.hid (r6.put M (.slice la M.ids.length lc))
      have hO := Lib.hid (row_put3 (row_below HO5.out hb6) (G := w.heap.size) (by omega) (.int .i64 M.size) (.int .i64 M.chunk) (.slice la M.ids.length lc))
      clear hj HJ hb6 r6 g6 k0 k1 k2 f0 f1 f2 hg0 hg1 hg2
      go_wp2_with fail
      refine bodyPost_ret (results_man rfl _ _ w.heap.size 27 _ _ _ (0, 0) _ rfl hput.out Tryz.underlying27 rfl manInfo) rfl ?_
      rw [HJ2.out]
      exact ⟨_, rfl, row_mono hO.out (by omega), below_put3 HB6.out (Nat.le_refl _) _ _ _⟩
    · have hj := HJ.out
      rw [if_pos hE] at hj
      have hne : (manE M != 0) = true := by simp [hE]
      have HJ2 := Lib.hid hj
      have hput := Lib.hid (r6.put ⟨0, 0, []⟩ (.slice none 0 0))
      clear hj hE HJ hb6 r6 g6 k0 k1 k2 f0 f1 f2 hg0 hg1 hg2
      generalize manE M = E at *
      go_wp2_with fail
      refine bodyPost_ret (results_man rfl _ _ w.heap.size 27 _ _ _ (0, 0) _ rfl hput.out Tryz.underlying27 rfl manInfo) rfl ?_
      rw [HJ2.out]
      exact ⟨_, rfl, ownS_nil _ _, below_put3 HB6.out (Nat.le_refl _) _ _ _⟩
end Go.Proofs.YtchnklekeinhiaaGreat

namespace Go.Proofs.YtchnklekeinhiaaGreat
set_option linter.unusedSimpArgs false
set_option linter.unusedVariables false

/-- an update -/
structure Dl where
  d : Dt
  s : St
  l : List Ft
  g : List Dt
deriving DecidableEq
/-- all say the update's name and time, and rise -/
def OwnDl (e : Dl) : Prop := (∀ f ∈ e.l, f.d = e.d ∧ f.s = e.s) ∧ RiseF e.l
instance (e : Dl) : Decidable (OwnDl e) := inferInstanceAs (Decidable (_ ∧ _))
end Go.Proofs.YtchnklekeinhiaaGreat

namespace Go.Proofs.YtchnklekeinhiaaGreat
open Go.RowKit

def dcs (d : Dt) : List Value := [.int .i64 d.1, .int .i64 d.2]
def boxD (w : World) (d : Dt) : World := w.alloc (.cells #[.int .i64 d.1, .int .i64 d.2] 44)
theorem boxD_below (w : World) (d : Dt) : Below w.heap.size w (boxD w d) := (Below.refl _ _).alloc (Nat.le_refl _) _
theorem boxD_size (w : World) (d : Dt) : (boxD w d).heap.size = w.heap.size + 1 := by simp [boxD]
theorem boxD2_below (w : World) (a b : Dt) : Below w.heap.size w (boxD (boxD w a) b) := (boxD_below w a).trans ((boxD_below _ b).mono (by rw [boxD_size]; omega))

end Go.Proofs.YtchnklekeinhiaaGreat

namespace Go.Proofs.YtchnklekeinhiaaGreat
set_option maxRecDepth 100000
open Go.RowKit

/-- The row's block is the one it was, or a new one. -/
def SF (w : World) (v v' : Value) : Prop := v'.ownBlock = v.ownBlock ∨ ∃ g, v'.ownBlock = some g ∧ w.heap.size ≤ g

section
variable {P : Program}

theorem run_append_room_row (w : World) (t tx ty e : TypeId) (i : TypeInfo) (ht : P.underlying t = some (.slice e)) (hi : P.info? e = some i) (g n cap : Nat) (cur : Array Value) (hg : w.heap[g]? = some (.cells cur e (0, 0)))
    (x : Value) (m : Nat) (news : List Value) (hs : Src P i.size tx x m news w) (hroom : n + m ≤ cap) (hfit : n * i.size + news.length ≤ cur.size) :
    (Builtin.append_ #[t, tx] ty #[.slice (some ⟨g, 0, none⟩) n cap, x]).run P w =
      .ok (.slice (some ⟨g, 0, none⟩) (n + m) cap) (w.setRow g (cur.toList.take (n * i.size) ++ news ++ cur.toList.drop (n * i.size + news.length)).toArray) := by
  have hst := run_storeCells_at P g (n * i.size) e news 0 cur w hg (by simpa using hfit) hs.one
  simp only [Nat.add_zero] at hst
  rcases hs.kind with ⟨e', hk⟩ | hk <;> simp [Builtin.append_, run_underlying ht, run_underlying hk, sizeOf, typeInfo, hi, hs.len, hroom, hs.cells, Addr.add_lit, hst]

theorem run_append_sf (w : World) (B : Nat) (t tx ty e : TypeId) (i : TypeInfo) (z : Value) (size bytes : Nat) (ht : P.underlying t = some (.slice e)) (hi : P.info? e = some i) (hz : i.zero = some z)
    (hsize : i.size = size) (hby : i.bytes = bytes) (hzs : z.cells.size = size)
    (v : Value) (n : Nat) (xs : List Value) (hown : w.ownsRow B e size v n xs) (x : Value) (m : Nat) (news : List Value) (hs : Src P size tx x m news w)
    (h63 : n + m ≤ maxLen) (hbytes : (n + m) * bytes ≤ 140737488355328) (hB : B ≤ w.heap.size) :
    ∃ v' w', (Builtin.append_ #[t, tx] ty #[v, x]).run P w = .ok v' w' ∧ w'.ownsRow B e size v' (n + m) (xs ++ news) ∧ w.grownBy w' v.ownBlock ∧ SF w v v' ∧ (0 < m → ∃ g c, v' = .slice (some ⟨g, 0, none⟩) (n + m) c) := by
  subst hsize
  subst hby
  have hl := hs.newsLen
  have hsmall : ((n + m : Nat) : Int) ≤ 9223372036854775807 := by simp only [maxLen] at h63; omega
  have hlen : (xs ++ news).length = (n + m) * i.size := by rw [List.length_append, hown.1, hl, Nat.add_mul]
  have grown : ∀ (old : Nat), old < n + m → ∀ (row : Option Nat),
      (w.drew.alloc (.cells ((xs ++ news).toArray ++ Builtin.zeroCells z.cells (grownCap w (n + m) old e - (n + m))) e)).ownsRow B e i.size
        (.slice (some ⟨w.heap.size, 0, none⟩) (n + m) (grownCap w (n + m) old e)) (n + m) (xs ++ news) ∧
      w.grownBy (w.drew.alloc (.cells ((xs ++ news).toArray ++ Builtin.zeroCells z.cells (grownCap w (n + m) old e - (n + m))) e)) row := by
    intro old ho row
    have hge := grownCap_ge w (n + m) old e
    have hcm : grownCap w (n + m) old e ≤ maxLen := grownCap_le_maxLen w (n + m) old e h63
    refine ⟨⟨hlen, .inr ⟨w.heap.size, _, _, rfl, hB, heap_alloc_new w.drew _, hge, hcm, ?_, ?_⟩⟩, ⟨rfl, rfl, rfl, by simp, fun k hk _ => Below.heap_alloc w.drew _ k hk⟩⟩
    · simp only [Array.size_append, List.size_toArray, size_zeroCells, hzs, hlen, ← Nat.add_mul]
      congr 1
      omega
    · simp only [Array.toList_append]
      rw [← hlen]
      exact List.take_left
  rcases hown.2 with ⟨rfl, rfl⟩ | ⟨g, cap, cur, rfl, hbg, hg, hnc, hcm, hcs, htake⟩
  · have hx : xs = [] := List.eq_nil_of_length_eq_zero (by simpa using hown.1)
    subst hx
    by_cases hm : m = 0
    · subst hm
      have hn : news = [] := List.eq_nil_of_length_eq_zero (by simpa using hl)
      subst hn
      refine ⟨.slice none 0 0, w, ?_, World.ownsRow_nil w B e i.size, ⟨rfl, rfl, rfl, Nat.le_refl _, fun _ _ _ => rfl⟩, .inl rfl, fun h => absurd h (Nat.lt_irrefl _)⟩
      rcases hs.kind with ⟨e', hk⟩ | hk <;> simp [Builtin.append_, run_underlying ht, run_underlying hk, sizeOf, typeInfo, hi, hs.len, hs.cells]
    · have hr := run_append_grow_src (P := P) w t tx ty e i z ht hi hz none 0 0 [] (run_firstCells_none w.drew i.size 0 0 0) x m news hs (by omega) (by omega) (growslice_fits (by omega) hbytes)
      have hgr := grown 0 (by omega) (Value.ownBlock (.slice none 0 0))
      exact ⟨_, _, hr, hgr.1, hgr.2, .inr ⟨w.heap.size, rfl, Nat.le_refl _⟩, fun _ => ⟨_, _, rfl⟩⟩
  · by_cases hroom : n + m ≤ cap
    · have hfit : n * i.size + news.length ≤ cur.size := by rw [hl, hcs, ← Nat.add_mul]; exact Nat.mul_le_mul_right _ hroom
      have hr := run_append_room_row (P := P) w t tx ty e i ht hi g n cap cur hg x m news hs hroom hfit
      refine ⟨_, _, hr, ⟨hlen, .inr ⟨g, cap, _, rfl, hbg, setRow_heap w g cur _ e _ hg, hroom, hcm, ?_, ?_⟩⟩, ⟨rfl, rfl, rfl, by simp, fun k _ hk => setRow_other w g k _ (fun e => hk (by simp [Value.ownBlock, e]))⟩, .inl rfl, fun _ => ⟨_, _, rfl⟩⟩
      · simp only [List.size_toArray, List.length_append, List.length_take, List.length_drop, Array.length_toList]
        omega
      · rw [htake, ← hlen]
        exact List.take_left
    · have holds : ∀ j u, xs[j]? = some u → w.drew.cell? ((⟨g, 0, none⟩ : Addr).add j) = some u := hown.cells (g := g) rfl
      have hr := run_append_grow_src (P := P) w t tx ty e i z ht hi hz (some ⟨g, 0, none⟩) n cap xs (run_firstCells_some w.drew i.size n ⟨g, 0, none⟩ n cap xs hown.1 holds) x m news hs (by omega) (by omega) (growslice_fits (by omega) hbytes)
      have hgr := grown cap (by omega) (Value.ownBlock (.slice (some ⟨g, 0, none⟩) n cap))
      exact ⟨_, _, hr, hgr.1, hgr.2, .inr ⟨w.heap.size, rfl, Nat.le_refl _⟩, fun _ => ⟨_, _, rfl⟩⟩

theorem wpList_append_run {w : World} {ops : Array Oper} {rest : List Oper} {o : Oper} {a : Act} {Q : Exit → Act → World → Prop} (hgd : o.guard = none) (s x : Operand) (t tx : TypeId)
    (ho : o.op = .call { callee := .builtin .append, args := #[s, x], argTypes := #[t, tx] }) (vs vx v : Value) (w' : World) (hs : a.eval s = vs) (hx : a.eval x = vx)
    (hrun : (Builtin.append_ #[t, tx] o.type #[vs, vx]).run P w = .ok v w') (h : wpList P ops Q rest (a.put o.dst v) w') : wpList P ops Q (o :: rest) a w := by
  refine wpList_plain hgd fun K hK => ?_
  unfold Oper.wp
  simp [execOp, ho, resolve, invoke, builtin, hs, hx, hrun, Result.andThen]
  exact hK _ _ h

end
end Go.Proofs.YtchnklekeinhiaaGreat

namespace Go.Proofs.YtchnklekeinhiaaGreat
set_option maxRecDepth 100000
open Go.RowKit

theorem dotInfo : (Tryz.prog.info? 44).map (fun i => (i.zero, i.size, i.bytes)) = some (some (.agg #[.int .i64 0, .int .i64 0]), 2, 16) := by kernel_rfl

def rowD (l : List Dt) : List Value := l.flatMap dcs
theorem rowD_len (l : List Dt) : (rowD l).length = l.length * 2 := by
  induction l with
  | nil => rfl
  | cons d r ih => simp only [rowD, List.flatMap_cons, List.length_append, List.length_cons] at ih ⊢; rw [ih]; simp [dcs]; omega
theorem rowD_append (a b : List Dt) : rowD (a ++ b) = rowD a ++ rowD b := by simp [rowD]
theorem rowD_at : ∀ (l : List Dt) (j : Nat) (d : Dt), l[j]? = some d → (rowD l)[j * 2]? = some (.int .i64 d.1) ∧ (rowD l)[j * 2 + 1]? = some (.int .i64 d.2) := by
  intro l
  induction l with
  | nil => intro j d h; simp at h
  | cons x r ih =>
    intro j d h
    cases j with
    | zero => simp at h; subst h; exact ⟨rfl, rfl⟩
    | succ j =>
      obtain ⟨h1, h2⟩ := ih j d (by simpa using h)
      have e : rowD (x :: r) = .int .i64 x.1 :: .int .i64 x.2 :: rowD r := rfl
      rw [e, show (j + 1) * 2 = j * 2 + 1 + 1 from by omega]
      exact ⟨by simpa using h1, by simpa using h2⟩
theorem rowD_cell (l : List Dt) : ∀ u ∈ rowD l, u.oneCell' = true := by
  intro u hu
  simp only [rowD, List.mem_flatMap] at hu
  obtain ⟨d, _, hd⟩ := hu
  simp [dcs] at hd
  rcases hd with rfl | rfl <;> rfl

/-- The slice v is the call's own, and holds the names l. -/
def OwnD (B : Nat) (v : Value) (l : List Dt) (w : World) : Prop := w.ownsRow B 44 2 v l.length (rowD l)
/-- At a stand the names l, to be read. -/
def DIn (w : World) (a : Option Addr) (l : List Dt) : Prop :=
  l = [] ∨ ∃ b off, a = some ⟨b, off, none⟩ ∧ b < w.heap.size ∧ ∀ j d, l[j]? = some d → w.cell? ⟨b, off + j * 2, none⟩ = some (.int .i64 d.1) ∧ w.cell? ⟨b, off + j * 2 + 1, none⟩ = some (.int .i64 d.2)

theorem DIn.below {w w' : World} {a : Option Addr} {l : List Dt} (h : DIn w a l) (hb : Below w.heap.size w w') : DIn w' a l := by
  rcases h with h | ⟨b, off, rfl, hlt, hc⟩
  · exact .inl h
  · refine .inr ⟨b, off, rfl, Nat.lt_of_lt_of_le hlt hb.size, fun j d hj => ?_⟩
    obtain ⟨h0, h1⟩ := hc j d hj
    exact ⟨by rw [hb.cell (p := ⟨b, off + j * 2, none⟩) hlt]; exact h0, by rw [hb.cell (p := ⟨b, off + j * 2 + 1, none⟩) hlt]; exact h1⟩
theorem DIn.alloc {w : World} {a : Option Addr} {l : List Dt} (h : DIn w a l) (o : Obj) : DIn (w.alloc o) a l := h.below ((Below.refl _ _).alloc (Nat.le_refl _) o)
/-- one of them, at its place -/
theorem DIn.at {w : World} {a : Option Addr} {l : List Dt} (h : DIn w a l) {j : Nat} {d : Dt} (hj : l[j]? = some d) :
    ∃ b off, a = some ⟨b, off, none⟩ ∧ b < w.heap.size ∧ w.cell? ⟨b, off + j * 2, none⟩ = some (.int .i64 d.1) ∧ w.cell? ⟨b, off + j * 2 + 1, none⟩ = some (.int .i64 d.2) := by
  rcases h with rfl | ⟨b, off, rfl, hlt, hc⟩
  · simp at hj
  · exact ⟨b, off, rfl, hlt, hc j d hj⟩

theorem ownD_nil (B : Nat) (w : World) : OwnD B (.slice none 0 0) [] w := World.ownsRow_nil _ _ _ _
theorem OwnD.din {B : Nat} {v : Value} {l : List Dt} {w : World} (h : OwnD B v l w) : ∃ a cap, v = .slice a l.length cap ∧ DIn w a l ∧ l.length ≤ maxLen := by
  obtain ⟨hl, hv⟩ := h
  rcases hv with ⟨rfl, h0⟩ | ⟨g, cap, cur, rfl, hB, hg, hn, hm, hs, htk⟩
  · exact ⟨none, 0, by rw [h0], .inl (List.length_eq_zero_iff.1 h0), by rw [h0]; simp [maxLen]⟩
  · refine ⟨_, cap, rfl, .inr ⟨g, 0, rfl, lt_of_block hg, fun j d hj => ?_⟩, by omega⟩
    obtain ⟨h1, h2⟩ := rowD_at l j d hj
    have hjl : j < l.length := (List.getElem?_eq_some_iff.1 hj).1
    have c1 := Lib.cells_of_row hg (l.length * 2) (j * 2) _ (by rw [htk]; exact h1)
    have c2 := Lib.cells_of_row hg (l.length * 2) (j * 2 + 1) _ (by rw [htk]; exact h2)
    have e1 : ∀ k, (⟨g, 0, none⟩ : Addr).add k = ⟨g, 0 + k, none⟩ := fun k => by cases k <;> simp [Addr.add]
    rw [e1] at c1 c2
    exact ⟨c1, by rw [← Nat.add_assoc] at c2; exact c2⟩
theorem OwnD.below {B C : Nat} {v : Value} {l : List Dt} {w w' : World} (h : OwnD B v l w) (hb : Below C w w') (hC : w.heap.size ≤ C) : OwnD B v l w' := by
  unfold OwnD at *
  refine ⟨h.1, ?_⟩
  rcases h.2 with hn | ⟨g, cap, cur, hv, hB, hg, rest⟩
  · exact .inl hn
  · exact .inr ⟨g, cap, cur, hv, hB, by rw [hb.block g (Nat.lt_of_lt_of_le (lt_of_block hg) hC)]; exact hg, rest⟩
theorem OwnD.mono {B C : Nat} {v : Value} {l : List Dt} {w : World} (h : OwnD B v l w) (hC : C ≤ B) : OwnD C v l w := by
  unfold OwnD at *
  refine ⟨h.1, ?_⟩
  rcases h.2 with hn | ⟨g, cap, cur, hv, hB, rest⟩
  · exact .inl hn
  · exact .inr ⟨g, cap, cur, hv, by omega, rest⟩
theorem OwnD.alloc {B : Nat} {v : Value} {l : List Dt} {w : World} (h : OwnD B v l w) (o : Obj) : OwnD B v l (w.alloc o) := World.ownsRow.alloc h o

/-! names compared -/
theorem eqD_in (d : Nat) (a b : Dt) (W : World) : (Op.equalIn (d + 2) 44 (.agg #[.int .i64 a.1, .int .i64 a.2]) (.agg #[.int .i64 b.1, .int .i64 b.2])).run Tryz.prog W = .ok (decide (a = b)) W := by
  rw [run_equalIn_agg (P := Tryz.prog) W (d + 1) _ _ _ (by kernel_rfl) (by kernel_rfl)]
  have hf : (Tryz.prog.fieldsOf 44).toList.map (fun f => (f.name != "_", f.type, f.offset)) = [(true, 3, 0), (true, 3, 1)] := by kernel_rfl
  generalize (Tryz.prog.fieldsOf 44).toList = fs at hf
  have hfl : fs.length = 2 := by have := congrArg List.length hf; simpa using this
  match fs, hfl with
  | [f0, f1], _ =>
    simp only [List.map_cons, List.map_nil, List.cons.injEq, Prod.mk.injEq, and_true] at hf
    obtain ⟨⟨n0, t0, o0⟩, n1, t1, o1⟩ := hf
    have m0 : f0.name ≠ "_" := by simpa using n0
    have m1 : f1.name ≠ "_" := by simpa using n1
    have p0 : ∀ (x y : Value) (W : World), (part 3 #[x, y] 0).run Tryz.prog W = .ok x W := fun x y W => by rfl
    have p1 : ∀ (x y : Value) (W : World), (part 3 #[x, y] 1).run Tryz.prog W = .ok y W := fun x y W => by rfl
    have q : ∀ (x y : Int) (W : World), (Op.equalIn (d + 1) 3 (.int .i64 x) (.int .i64 y)).run Tryz.prog W = .ok (x == y) W := fun x y W => run_equalIn_int (P := Tryz.prog) W d 3 .i64 .i64 _ _ Tryz.underlying3
    simp only [Op.eqFields, m0, m1, ne_eq, not_false_eq_true, if_true, t0, t1, o0, o1, Sem.run_bind, p0, q, Result.andThen_ok]
    by_cases h1 : a.1 = b.1
    · by_cases h2 : a.2 = b.2
      · have e : a = b := Prod.ext h1 h2
        simp [e, p1, q]
      · have e : a ≠ b := fun e => h2 (by rw [e])
        simp [h1, h2, e, p1, q]
    · have e : a ≠ b := fun e => h1 (by rw [e])
      simp [h1, e]
theorem eqD (a b : Dt) (W : World) : (Op.equalIn 10000 44 (.agg #[.int .i64 a.1, .int .i64 a.2]) (.agg #[.int .i64 b.1, .int .i64 b.2])).run Tryz.prog W = .ok (decide (a = b)) W := eqD_in 9998 a b W
theorem eqlD (a b : Dt) (W : World) : (binOp .eql 44 (.agg #[.int .i64 a.1, .int .i64 a.2]) (.agg #[.int .i64 b.1, .int .i64 b.2])).run Tryz.prog W = .ok (.bool (decide (a = b))) W := by
  rw [run_eql_struct, eqD]; rfl
theorem neqD (a b : Dt) (W : World) : (binOp .neq 44 (.agg #[.int .i64 a.1, .int .i64 a.2]) (.agg #[.int .i64 b.1, .int .i64 b.2])).run Tryz.prog W = .ok (.bool (!decide (a = b))) W := by
  rw [run_neq_struct, eqD]; rfl
end Go.Proofs.YtchnklekeinhiaaGreat
