/-
  BlobLasts: what holds at the loop's head, and behind a crash.
  BlobLasts' walk.
-/
import Derived.Test.YtjimgncefeldbaaGreatDoorGBlobH
import Derived.Test.YtjimgncefeldbaaGreatDoorGBlobI
namespace Go.Proofs.YtjimgncefeldbaaGreatDoor
open Go.RowKit Go.Sort Go.Maps

/-- A row of texts that lies outside these blocks. -/
def HR (v : Value) (L : List ByteArray) (al : List Nat) (w : World) : Prop := ∃ ra cap, v = .slice ra L.length cap ∧ StrRow w ra L ∧ (L ≠ [] → ∀ b off, ra = some ⟨b, off, none⟩ → b ∉ al)
theorem HR.nil (al : List Nat) (w : World) : HR (.slice none 0 0) [] al w := ⟨none, 0, rfl, .inl rfl, fun h => absurd rfl h⟩
theorem HR.keep {v : Value} {L : List ByteArray} {al : List Nat} {w w' : World} (h : HR v L al w) (hb : Below w.heap.size w w') : HR v L al w' := by
  obtain ⟨ra, cap, e, h1, h2⟩ := h
  exact ⟨ra, cap, e, h1.below hb, h2⟩
theorem HR.fr {v : Value} {L : List ByteArray} {al al' : List Nat} {w w' : World} (h : HR v L al w) (hf : Fr al al' w w') : HR v L al' w' := by
  obtain ⟨ra, cap, e, h1, h2⟩ := h
  by_cases hL : L = []
  · exact ⟨ra, cap, e, .inl hL, fun h => absurd hL h⟩
  · refine ⟨ra, cap, e, strRow_fr h1 hf (h2 hL), fun _ b off e1 => ?_⟩
    rcases h1 with h1 | ⟨b', off', e2, hlt, hc⟩
    · exact absurd h1 hL
    · rw [e1] at e2; cases e2
      exact hf.out hlt (h2 hL b off e1)
theorem HR.sub {v : Value} {L : List ByteArray} {al bl : List Nat} {w : World} (h : HR v L al w) (hs : ∀ k ∈ bl, k ∈ al) : HR v L bl w := by
  obtain ⟨ra, cap, e, h1, h2⟩ := h
  exact ⟨ra, cap, e, h1, fun hL b off e1 hb => h2 hL b off e1 (hs b hb)⟩
theorem HR.own {v : Value} {L : List ByteArray} {al : List Nat} {B : Nat} {w : World} (h : OwnS B v L w) (hal : ∀ k ∈ al, k < B) : HR v L al w := by
  obtain ⟨ra, cap, e, h1, h2, _⟩ := ownS_from h
  exact ⟨ra, cap, e, h1, fun _ b off e1 hb => by have := h2 b off e1; have := hal b hb; omega⟩

/-- the texts with one more -/
def withL (L : List ByteArray) (s : ByteArray) : List ByteArray := (L.filter fun n => decide (n ≠ s)) ++ [s]
theorem withL_len (L : List ByteArray) (s : ByteArray) : (withL L s).length ≤ L.length + 1 := by
  unfold withL
  rw [List.length_append]
  have := List.length_filter_le (fun n => decide (n ≠ s)) L
  simp only [List.length_cons, List.length_nil]; omega
theorem withs_len : ∀ (l L : List ByteArray), (l.foldl withL L).length ≤ L.length + l.length
  | [], _ => by simp
  | s :: l, L => by
    have h1 := withs_len l (withL L s)
    have h2 := withL_len L s
    simp only [List.foldl_cons, List.length_cons]; omega
theorem withs_mem : ∀ (l L : List ByteArray), ∀ x ∈ l.foldl withL L, x ∈ L ∨ x ∈ l
  | [], _ => fun x h => .inl h
  | s :: l, L => fun x h => by
    rcases withs_mem l (withL L s) x h with h1 | h1
    · unfold withL at h1
      rcases List.mem_append.1 h1 with h2 | h2
      · exact .inl (List.mem_filter.1 h2).1
      · simp at h2; rw [h2]; exact .inr (by simp)
    · exact .inr (List.mem_cons_of_mem _ h1)

section
variable {P : ByteArray → Prop} {room : Nat} {fz : Bool} {a : Addr} {B D S seg m tot cnt lst : Nat} {M : DU} {al : List Nat}
/-- as Gone, whether or not power is there -/
def Left (P : ByteArray → Prop) (room : Nat) (a : Addr) (B D : Nat) (K : ByteArray → Prop) (bl : List Nat) (w : World) : Prop :=
  ∃ s sgb ex, SW a B D s bl w ∧ Crashed P room sgb ex s ∧ ∀ js id, K id → hasC (replay (.map []) (sgb.flatMap (cutT js))) id = true
theorem Gone.left {K : ByteArray → Prop} {w : World} (h : Gone P room a B D K al w) : ∃ bl, (∀ k ∈ bl, k ∈ al ∧ k < w.heap.size) ∧ Gone P room a B D K bl w ∧ Left P room a B D K bl w := by
  obtain ⟨s, bl, sgb, ex, h1, h2, h3, h4, h5⟩ := h
  exact ⟨bl, fun k hk => ⟨h1 k hk, (h2.disk.lt k hk).2⟩, ⟨s, bl, sgb, ex, fun k hk => hk, h2, h3, h4, h5⟩, s, sgb, ex, h2, h4, h5⟩
theorem Left.keep {K : ByteArray → Prop} {w w' : World} (h : Left P room a B D K al w) (hb : Below w.heap.size w w') : Left P room a B D K al w' := by
  obtain ⟨s, sgb, ex, h1, h2⟩ := h
  exact ⟨s, sgb, ex, h1.keep hb, h2⟩
theorem BS.left (hP : ∀ b, P b → b.size ≤ 200) {w : World} (h : BS P room fz a B D S seg m tot cnt lst M al w) : ∃ bl, (∀ k ∈ bl, k ∈ al) ∧ Left P room a B D (fun id => hasC M id = true) bl w := by
  obtain ⟨s, bl, N, va, vc, sg, rfl, hst, hli, ht, hN, hla, hsl⟩ := h
  have hle := le_last hli.rises
  have htop := hli.top
  have hlen := hli.len
  refine ⟨bl, fun k hk => mem_sal.2 (.inr (.inr (.inr hk))), s, sg.map trip, [], hst.sw, crashed_same hP hli.on.room (by rw [hli.on.l]; simp) (.inl rfl) (fun p hp => ⟨hli.pos p hp, by have := hle p hp; omega⟩) hli.texts (by omega), fun js id hid => ?_⟩
  rw [cut_trip, ← hli.like id]; exact hid
theorem BS.mono {tot' cnt' lst' : Nat} {w : World} (h : BS P room fz a B D S seg m tot cnt lst M al w) (h1 : tot ≤ tot') (h2 : cnt ≤ cnt') (h3 : lst ≤ lst') : BS P room fz a B D S seg m tot' cnt' lst' M al w := by
  obtain ⟨s, bl, N, va, vc, sg, rfl, hst, hli, ht, hN, hla, hsl⟩ := h
  exact ⟨s, bl, N, va, vc, sg, rfl, hst, hli, by omega, by omega, by omega, by omega⟩

/-- A disk that Open finds so. -/
def Found (P : ByteArray → Prop) (a : Addr) (B D : Nat) (K : ByteArray → Prop) (bl : List Nat) (w : World) : Prop :=
  ∃ s gs s', SW a B D s bl w ∧ OpenS s gs s' ∧ (∀ t ∈ textsOf gs, TextOk P t) ∧ ∀ id, K id → hasC (replay (.map []) (textsOf gs)) id = true
/-- power goes, and comes back -/
theorem leftCrash {K : ByteArray → Prop} (w : World) (h : Left P room a B D K al w) (hr : room ≤ 900000) (keep : Int) :
    Calls Tryz.prog 26 #[.pointer (some ⟨D, 0, none⟩), .int .i64 keep] w fun e w' => ∃ bl', e = .returned (.tuple #[]) ∧ Fr al bl' w w' ∧ Below B w w' ∧ Found P a B D K bl' w' := by
  obtain ⟨s, sgb, ex, hsw, hc, hall⟩ := h
  refine (dCrash hsw.disk keep).mono ?_
  rintro e w' ⟨bl', rfl, hd, hf⟩
  obtain ⟨gs, js, s', ho, ht⟩ := crash_open hc hsw.disk.1 hr keep
  refine ⟨bl', rfl, hf, hf.below (fun k hk => (hsw.disk.lt k hk).1) hsw.size, _, gs, s', hsw.step hd hf, ho, fun t hm => ?_, fun id hid => by rw [ht]; exact hall js id hid⟩
  rw [ht] at hm
  obtain ⟨p, hp, hm⟩ := List.mem_flatMap.1 hm
  refine (hc.texts p hp t ?_).1
  unfold cutT at hm
  rcases List.mem_append.1 hm with hm | hm
  · exact List.mem_append_left _ hm
  · exact List.mem_append_right _ (List.mem_of_mem_take hm)
/-- a store from which one reads -/
def GS (P : ByteArray → Prop) (a : Addr) (B D S m : Nat) (M : DU) (al : List Nat) (w : World) : Prop :=
  ∃ s bl seg N va vc zs torn, al = sal S m va bl ∧ ST a B D s bl S seg m N M va vc zs torn false w ∧ MOk P M
theorem GS.keep {w w' : World} (h : GS P a B D S m M al w) (hb : Below w.heap.size w w') : GS P a B D S m M al w' := by
  obtain ⟨s, bl, seg, N, va, vc, zs, torn, e, h1, h2⟩ := h
  exact ⟨s, bl, seg, N, va, vc, zs, torn, e, h1.keep hb, h2⟩
theorem foundOpen {K : ByteArray → Prop} (w : World) (h : Found P a B D K al w) (hT : Tab w) (g3 : 2 < B) (seg : Nat) (hs1 : 1 ≤ seg) (hs2 : seg ≤ 1048576) :
    Calls Tryz.prog 16 #[.pointer (some ⟨D, 0, none⟩), .string blobB, .int .i64 (seg : Int)] w fun e w' =>
      ∃ S m M al', e = .returned (.tuple #[.pointer (some ⟨S, 0, none⟩), .int .i64 0]) ∧ Fr al al' w w' ∧ Below B w w' ∧ GS P a B D S m M al' w' ∧ ∀ id, K id → hasC M id = true := by
  obtain ⟨s, gs, s', hsw, ho, ht, hall⟩ := h
  refine (open_any w hsw hT g3 seg hs1 hs2 gs ho).mono ?_
  rintro e w' ⟨S', m', N', bl', va', vc', rfl, hS', hN', hst', hf⟩
  exact ⟨S', m', _, _, rfl, hf, hf.below (fun k hk => (hsw.disk.lt k hk).1) hsw.size, ⟨s', bl', seg, N', va', vc', _, _, rfl, hst', mok_replay _ (mok_empty P) ht⟩, hall⟩
theorem gsGet (w : World) (h : GS P a B D S m M al w) (id : ByteArray) (hid : id.size ≤ maxLen) :
    Calls Tryz.prog 27 #[.pointer (some ⟨S, 0, none⟩), .string id] w fun e w' => e = .returned (.tuple #[.string (getS M id).1, .int .i64 (getS M id).2]) ∧ Below w.heap.size w w' := by
  obtain ⟨s, bl, seg, N, va, vc, zs, torn, e, h1, h2⟩ := h
  exact get_any w h1 id hid
theorem GS.str {w : World} (h : GS P a B D S m M al w) (hI : Inj P) {x : ByteArray} (hx : P x) (hh : hasC M (idS x) = true) : getS M (idS x) = (x, 0) := by
  obtain ⟨s, bl, seg, N, va, vc, zs, torn, e, h1, h2⟩ := h
  obtain ⟨h1, h2⟩ := strAt_mok h2 hh
  unfold getS
  rw [if_pos hh, hI _ _ h1 hx h2]
end

/-- unlike texts of these have unlike sums -/
theorem inj_of {ds : List Bd} (h : NoTwice (textsD ds)) : Inj (fun b => b ∈ textsD ds) := by
  intro x y hx hy he
  have hs : sSum x.data.toList = sSum y.data.toList := by
    have h1 := congrArg (fun b : ByteArray => b.data.toList) he
    have : putL (sSum x.data.toList) = putL (sSum y.data.toList) := by simpa [idS, idL] using h1
    exact putL_inj _ _ this
  obtain ⟨i, hi, rfl⟩ := List.mem_iff_getElem.1 hx
  obtain ⟨k, hk, rfl⟩ := List.mem_iff_getElem.1 hy
  have gi : (textsD ds).getD i ByteArray.empty = (textsD ds)[i] := by rw [List.getD_eq_getElem?_getD, List.getElem?_eq_getElem hi]; rfl
  have gk : (textsD ds).getD k ByteArray.empty = (textsD ds)[k] := by rw [List.getD_eq_getElem?_getD, List.getElem?_eq_getElem hk]; rfl
  rcases Nat.lt_trichotomy i k with h1 | h1 | h1
  · have := h k i h1 hk (by rw [gi, gk]; exact hs.symm)
    rw [gi, gk] at this; exact this.symm
  · subst h1; rfl
  · have := h i k h1 hi (by rw [gi, gk]; exact hs)
    rw [gi, gk] at this; exact this

/-- what holds at the loop's head while power is there -/
def LOn (ds : List Bd) (a : Addr) (B D S m : Nat) (k : Nat) (L : List ByteArray) (al : List Nat) (w : World) : Prop :=
  (∀ j ∈ al, j < w.heap.size) ∧ (∀ x ∈ L, x ∈ textsD ds) ∧ L.length ≤ 8 * k ∧
    ∃ M, BS (fun b => b ∈ textsD ds) 262144 true a B D S 200 m (k * 1720) (k * 8) k M al w ∧ (Inj (fun b => b ∈ textsD ds) → ∀ x ∈ L, hasC M (idS x) = true)
/-- and when it has gone -/
def LOff (ds : List Bd) (a : Addr) (B D : Nat) (k : Nat) (L : List ByteArray) (al : List Nat) (w : World) : Prop :=
  (∀ j ∈ al, j < w.heap.size) ∧ (∀ x ∈ L, x ∈ textsD ds) ∧ L.length ≤ 8 * k ∧
    Gone (fun b => b ∈ textsD ds) 262144 a B D (fun id => Inj (fun b => b ∈ textsD ds) ∧ ∃ x ∈ L, idS x = id) al w

section
variable {ds : List Bd} {a : Addr} {B D S m k : Nat} {al : List Nat}
theorem Gone.keep {P : ByteArray → Prop} {room : Nat} {K : ByteArray → Prop} {w w' : World} (h : Gone P room a B D K al w) (hb : Below w.heap.size w w') : Gone P room a B D K al w' := by
  obtain ⟨s, bl, sgb, ex, h1, h2, h3⟩ := h
  exact ⟨s, bl, sgb, ex, h1, h2.keep hb, h3⟩
theorem LOn.keep {L : List ByteArray} {w w' : World} (h : LOn ds a B D S m k L al w) (hb : Below w.heap.size w w') : LOn ds a B D S m k L al w' := by
  obtain ⟨h1, h2, h3, M, h4, h5⟩ := h
  exact ⟨fun j hj => Nat.lt_of_lt_of_le (h1 j hj) hb.size, h2, h3, M, h4.keep hb, h5⟩
theorem LOff.keep {L : List ByteArray} {w w' : World} (h : LOff ds a B D k L al w) (hb : Below w.heap.size w w') : LOff ds a B D k L al w' := by
  obtain ⟨h1, h2, h3, h4⟩ := h
  exact ⟨fun j hj => Nat.lt_of_lt_of_le (h1 j hj) hb.size, h2, h3, h4.keep hb⟩
theorem LOn.power {L : List ByteArray} {w : World} (h : LOn ds a B D S m k L al w) : Calls Tryz.prog 18 #[.pointer (some ⟨D, 0, none⟩)] w fun e w' => e = .returned (.bool false) ∧ w = w' := by
  obtain ⟨h1, h2, h3, M, ⟨s, bl, N, va, vc, sg, rfl, hst, hli, _⟩, h5⟩ := h
  have := dOff hst.sw.disk
  rw [hli.on.off] at this
  exact this
theorem LOff.power {L : List ByteArray} {w : World} (h : LOff ds a B D k L al w) : Calls Tryz.prog 18 #[.pointer (some ⟨D, 0, none⟩)] w fun e w' => e = .returned (.bool true) ∧ w = w' := by
  obtain ⟨h1, h2, h3, s, bl, sgb, ex, hs, hsw, ho, _⟩ := h
  have := dOff hsw.disk
  rw [ho] at this
  exact this
theorem Fr.sub {al al' bl : List Nat} {w w' : World} (hf : Fr al al' w w') (hs : ∀ k ∈ bl, k ∈ al') : Fr al bl w w' := ⟨hf.os, hf.tape, hf.output, hf.size, hf.block, fun k hk => hf.fresh k (hs k hk)⟩
theorem gone_mono {P : ByteArray → Prop} {room : Nat} {K K' : ByteArray → Prop} {w : World} (h : Gone P room a B D K al w) (hK : ∀ id, K' id → K id) : Gone P room a B D K' al w := by
  obtain ⟨s, bl, sgb, ex, h1, h2, h3, h4, h5⟩ := h
  exact ⟨s, bl, sgb, ex, h1, h2, h3, h4, fun js id hid => h5 js id (hK id hid)⟩

theorem lawPut (hF : ∀ d ∈ ds, bfewB d = true) {L : List ByteArray} {d : Bd} (hd : d ∈ ds) (w : World) (h : LOn ds a B D S m k L al w) (hk : k < 20) (ra : Option Addr) (cap : Nat) (hrow : StrRow w ra d.l) :
    Calls Tryz.prog 19 #[.pointer (some ⟨S, 0, none⟩), .slice ra d.l.length cap] w fun e w' => ∃ al', Fr al al' w w' ∧ Below B w w' ∧
      ((e = .returned (.int .i64 0) ∧ LOn ds a B D S m (k + 1) (d.l.foldl withL L) al' w') ∨ (e = .returned (.int .i64 10) ∧ LOff ds a B D (k + 1) L al' w')) := by
  obtain ⟨h1, h2, h3, M, hbs, hal⟩ := h
  have hl8 : d.l.length ≤ 8 := by have := hF d hd; simp [bfewB] at this; exact this.2.1
  have hmem : ∀ b ∈ d.l, b ∈ textsD ds := fun b hb => List.mem_flatMap.2 ⟨d, hd, List.mem_cons_of_mem _ hb⟩
  refine (bsPut (fun b hb => textsD_size hF b hb) w hbs ra cap d.l hrow (by omega) hmem (by omega) (by omega) (by omega)).mono ?_
  rintro e w' (⟨M', al', rfl, hf, hbs', k1, k2, -⟩ | ⟨-, al', rfl, hf, hg⟩)
  · have hwl := withs_len d.l L
    refine ⟨al', hf, hbs.below hf, .inl ⟨rfl, fun j hj => (hbs'.lt j hj).2, fun x hx => ?_, by omega, M', hbs'.mono (by omega) (by omega) (Nat.le_refl _), fun hI x hx => ?_⟩⟩
    · rcases withs_mem d.l L x hx with h4 | h4
      · exact h2 x h4
      · exact hmem x h4
    · rcases withs_mem d.l L x hx with h4 | h4
      · exact k1 _ (hal hI x h4)
      · exact k2 x h4
  · obtain ⟨bl, g1, g2, -⟩ := hg.left
    refine ⟨bl, hf.sub (fun j hj => (g1 j hj).1), hbs.below hf, .inr ⟨rfl, fun j hj => (g1 j hj).2, h2, by omega, gone_mono g2 ?_⟩⟩
    rintro id ⟨hI, x, hx, rfl⟩
    exact hal hI x hx

theorem lawDel (hF : ∀ d ∈ ds, bfewB d = true) {L : List ByteArray} {d : Bd} (hd : d ∈ ds) (w : World) (h : LOn ds a B D S m k L al w) (hk : k < 20) :
    Calls Tryz.prog 21 #[.pointer (some ⟨S, 0, none⟩), .string (idS d.s)] w fun e w' => ∃ al' r, e = .returned (.int .i64 r) ∧ Fr al al' w w' ∧ Below B w w' ∧
      (((r = 0 ∨ r = 7) ∧ LOn ds a B D S m (k + 1) (L.filter fun n => decide (n ≠ d.s)) al' w') ∨ (r = 10 ∧ LOff ds a B D (k + 1) (L.filter fun n => decide (n ≠ d.s)) al' w')) := by
  obtain ⟨h1, h2, h3, M, hbs, hal⟩ := h
  have hmem : d.s ∈ textsD ds := List.mem_flatMap.2 ⟨d, hd, List.mem_cons_self ..⟩
  have hll := List.length_filter_le (fun n => decide (n ≠ d.s)) L
  have hsub : ∀ x ∈ L.filter (fun n => decide (n ≠ d.s)), x ∈ L ∧ x ≠ d.s := fun x hx => by have := List.mem_filter.1 hx; exact ⟨this.1, by simpa using this.2⟩
  refine (bsDel (fun b hb => textsD_size hF b hb) w hbs d.s (by omega) (by omega)).mono ?_
  rintro e w' (⟨hno, rfl, hb⟩ | ⟨hyes, al', rfl, hf, hbs'⟩ | ⟨-, al', rfl, hf, hg⟩)
  · exact ⟨al, 7, rfl, Fr.of_below hb, hb.mono hbs.size, .inl ⟨.inr rfl, fun j hj => Nat.lt_of_lt_of_le (h1 j hj) hb.size, fun x hx => h2 x (hsub x hx).1, by omega, M, (hbs.keep hb).mono (by omega) (by omega) (by omega), fun hI x hx => hal hI x (hsub x hx).1⟩⟩
  · refine ⟨al', 0, rfl, hf, hbs.below hf, .inl ⟨.inl rfl, fun j hj => (hbs'.lt j hj).2, fun x hx => h2 x (hsub x hx).1, by omega, _, hbs'.mono (by omega) (by omega) (Nat.le_refl _), fun hI x hx => ?_⟩⟩
    rw [del_has, hal hI x (hsub x hx).1]
    simp only [Bool.true_and, Bool.not_eq_true', decide_eq_false_iff_not]
    exact fun e => (hsub x hx).2 (hI _ _ (h2 x (hsub x hx).1) hmem e.symm)
  · obtain ⟨bl, g1, g2, -⟩ := hg.left
    refine ⟨bl, 10, rfl, hf.sub (fun j hj => (g1 j hj).1), hbs.below hf, .inr ⟨rfl, fun j hj => (g1 j hj).2, fun x hx => h2 x (hsub x hx).1, by omega, gone_mono g2 ?_⟩⟩
    rintro id ⟨hI, x, hx, rfl⟩
    exact ⟨hal hI x (hsub x hx).1, fun e => (hsub x hx).2 (hI _ _ (h2 x (hsub x hx).1) hmem e)⟩

theorem lawComp (hF : ∀ d ∈ ds, bfewB d = true) {L : List ByteArray} (w : World) (h : LOn ds a B D S m k L al w) (hk : k < 20) :
    Calls Tryz.prog 24 #[.pointer (some ⟨S, 0, none⟩)] w fun e w' => ∃ al', Fr al al' w w' ∧ Below B w w' ∧
      ((e = .returned (.int .i64 0) ∧ LOn ds a B D S m (k + 1) L al' w') ∨ (e = .returned (.int .i64 10) ∧ LOff ds a B D (k + 1) L al' w')) := by
  obtain ⟨h1, h2, h3, M, hbs, hal⟩ := h
  refine (bsComp (fun b hb => textsD_size hF b hb) w hbs (k * 8) hbs.msize (by omega) (by omega) (by omega)).mono ?_
  rintro e w' (⟨al', rfl, hf, hbs', -⟩ | ⟨-, al', rfl, hf, hg⟩)
  · exact ⟨al', hf, hbs.below hf, .inl ⟨rfl, fun j hj => (hbs'.lt j hj).2, h2, by omega, M, hbs'.mono (by omega) (by omega) (Nat.le_refl _), hal⟩⟩
  · obtain ⟨bl, g1, g2, -⟩ := hg.left
    refine ⟨bl, hf.sub (fun j hj => (g1 j hj).1), hbs.below hf, .inr ⟨rfl, fun j hj => (g1 j hj).2, h2, by omega, gone_mono g2 ?_⟩⟩
    rintro id ⟨hI, x, hx, rfl⟩
    exact hal hI x hx

theorem LOn.left (hF : ∀ d ∈ ds, bfewB d = true) {L : List ByteArray} {w : World} (h : LOn ds a B D S m k L al w) :
    ∃ bl, (∀ j ∈ bl, j ∈ al) ∧ Left (fun b => b ∈ textsD ds) 262144 a B D (fun id => Inj (fun b => b ∈ textsD ds) ∧ ∃ x ∈ L, idS x = id) bl w := by
  obtain ⟨h1, h2, h3, M, hbs, hal⟩ := h
  obtain ⟨bl, g1, s, sgb, ex, g2, g3, g4⟩ := hbs.left (fun b hb => textsD_size hF b hb)
  exact ⟨bl, g1, s, sgb, ex, g2, g3, fun js id hid => by obtain ⟨hI, x, hx, rfl⟩ := hid; exact g4 js _ (hal hI x hx)⟩
theorem LOff.left {L : List ByteArray} {w : World} (h : LOff ds a B D k L al w) :
    ∃ bl, (∀ j ∈ bl, j ∈ al) ∧ Left (fun b => b ∈ textsD ds) 262144 a B D (fun id => Inj (fun b => b ∈ textsD ds) ∧ ∃ x ∈ L, idS x = id) bl w := by
  obtain ⟨h1, h2, h3, hg⟩ := h
  obtain ⟨bl, g1, -, g3⟩ := hg.left
  exact ⟨bl, fun j hj => (g1 j hj).1, g3⟩
end
end Go.Proofs.YtjimgncefeldbaaGreatDoor

namespace Go.Proofs.YtjimgncefeldbaaGreatDoor
open Go.RowKit Go.Sort Go.Maps

/-- the tables that the walk reads -/
structure LB (a : Addr) (w : World) : Prop where
  p : Pow a w
  t : Pows w
  T : Tab w
  g1 : 0 < w.heap.size
  g2 : 5 < w.heap.size
  g3 : 2 < w.heap.size
theorem LB.kept {a : Addr} {w w' : World} (h : LB a w) (hb : Below w.heap.size w w') : LB a w' := by
  have := hb.size
  have h1 := h.g1
  have h2 := h.g2
  have h3 := h.g3
  exact ⟨h.p.below hb h.g1, h.t.kept hb h.g2, h.T.kept hb h.g3, by omega, by omega, by omega⟩
theorem lbAwake {a : Addr} {w0 w : World} (h : LB a w0) (hb : Below w0.heap.size w0 w) : Calls Tryz.prog 14 #[] w fun e w' => e = .returned (.bool true) ∧ Below w0.heap.size w0 w' := by
  have h' := h.kept hb
  refine (blobAwake a w h'.p h'.t h'.T h'.g1 h'.g2 h'.g3).mono ?_
  rintro e w' ⟨rfl, h2⟩
  exact ⟨rfl, hb.trans (h2.mono hb.size)⟩

theorem withs_take (l L : List ByteArray) {n : Nat} (h : n < l.length) : (l.take (n + 1)).foldl withL L = withL ((l.take n).foldl withL L) (l.getD n ByteArray.empty) := by
  rw [List.take_succ_eq_append_getElem h, List.foldl_append, List.getD_eq_getElem?_getD, List.getElem?_eq_getElem h]; rfl

set_option maxHeartbeats 16000000 in
set_option maxRecDepth 100000 in
theorem lasts_law (p : Option Addr) (len cap : Nat) (ds : List Bd) (fz keep : Int) (a : Addr) (w : World) (hd : BdArg w p len ds) (hL : LB a w) (hf0 : 0 ≤ fz) (hf1 : fz < 256) :
    Calls Tryz.prog 4 #[.slice p len cap, .int .u8 fz, .int .i64 keep] w fun e w' => e = .returned (.bool true) ∧ Below w.heap.size w w' := by
  obtain ⟨hlen, hmx, hrow, hok⟩ := hd
  unfold maxLen at hmx
  have HP := Lib.hid hL
  have HL := Lib.hid hlen
  have HR0 := Lib.hid hrow
  have HO := Lib.hid hok
  clear hL hlen hrow hok
  by_cases hbig : 20 < len
  · have hd1 : decide ((20 : Int) < (len : Int)) = true := by simp; omega
    clear hbig
    go_enter Tryz.func4, Tryz.ntmps4
    go_wp2_with fail
    refine (lbAwake HP.out (Below.refl _ _)).mono ?_
    rintro e w1 ⟨rfl, hb⟩
    have HB := Lib.hid hb; clear hb
    go_wp2_with fail
    go_ret
    exact ⟨rfl, HB.out⟩
  · have hd1 : decide ((20 : Int) < (len : Int)) = false := by simp; omega
    go_enter Tryz.func4, Tryz.ntmps4
    go_wp2_with fail
    go_loopw [7] (fun i wr => ∃ m : Nat, m ≤ len ∧ i = .int .i64 m ∧ Hid (∀ j d, j < m → ds[j]? = some d → bfewB d = true) ∧ Below w.heap.size w wr) (fun i _ => len - (intOf i).toNat)
    case atStart => exact ⟨0, Nat.zero_le _, rfl, Lib.hid (fun j d h => absurd h (by omega)), Below.refl _ _⟩
    case round =>
      rename World => w0
      obtain ⟨m, hm, rfl, hall, hb⟩ := hrel
      by_cases hlt : m < len
      · obtain ⟨d, hdk⟩ : ∃ d, ds[m]? = some d := ⟨_, List.getElem?_eq_getElem (by rw [HL.out]; exact hlt)⟩
        obtain ⟨b, off, rfl, hbl, hcs⟩ : ∃ b off, p = some ⟨b, off, none⟩ ∧ b < w.heap.size ∧ ∀ i u, d.cells[i]? = some u → w0.cell? ⟨b, off + m * 8 + i, none⟩ = some u := by
          rcases HR0.out with h | ⟨b, off, rfl, h1, hc⟩
          · rw [h] at hdk; simp at hdk
          · exact ⟨b, off, rfl, h1, fun i u hu => by rw [hb.cell (p := ⟨b, off + m * 8 + i, none⟩) h1]; exact hc m d hdk i u hu⟩
        have hfew := bfew_any d w0 ((HO.out d (List.mem_of_getElem? hdk)).below hb).1
        have HNX := Lib.hid (show bfewB d = true → ∀ j d', j < m + 1 → ds[j]? = some d' → bfewB d' = true from fun h j d' hj hd' => by
          rcases Nat.lt_or_ge j m with h1 | h1
          · exact hall.out j d' h1 hd'
          · obtain rfl : j = m := by omega
            rw [hdk] at hd'; cases hd'; exact h)
        have hbs := hb.size
        have HB := Lib.hid hb
        clear hb hall hdk
        obtain ⟨res, hres⟩ : ∃ res, bfewB d = res := ⟨_, rfl⟩
        rw [hres] at hfew HNX
        clear hres
        obtain ⟨kd, la, ll, lc, l, s, dk, dn, db, dd, dm⟩ := d
        have c0 : w0.cell? ⟨b, off + m * 8, none⟩ = some (.int .i64 kd) := hcs 0 _ rfl
        have c1 : w0.cell? ⟨b, off + m * 8 + 1, none⟩ = some (.slice la ll lc) := hcs 1 _ rfl
        have c2 : w0.cell? ⟨b, off + m * 8 + 2, none⟩ = some (.string s) := hcs 2 _ rfl
        have c3 : w0.cell? ⟨b, off + m * 8 + 3, none⟩ = some (.int .i64 dk) := hcs 3 _ rfl
        have c4 : w0.cell? ⟨b, off + m * 8 + 4, none⟩ = some (.string dn) := hcs 4 _ rfl
        have c5 : w0.cell? ⟨b, off + m * 8 + 5, none⟩ = some (.string db) := hcs 5 _ rfl
        have c6 : w0.cell? ⟨b, off + m * 8 + 6, none⟩ = some (.string dd) := hcs 6 _ rfl
        have c7 : w0.cell? ⟨b, off + m * 8 + 7, none⟩ = some (.int .i64 dm) := hcs 7 _ rfl
        have HFW := Lib.hid (show Calls Tryz.prog 15 #[.agg #[.int .i64 kd, .slice la ll lc, .string s, .int .i64 dk, .string dn, .string db, .string dd, .int .i64 dm]] w0 fun e w' => e = .returned (.bool res) ∧ Below w0.heap.size w0 w' from hfew)
        clear hcs hfew
        have hbw : b < w0.heap.size := by omega
        cases res
        · go_wp2_with fail
          refine HFW.out.mono ?_
          rintro e w1 ⟨rfl, hb1⟩
          have HAW := Lib.hid (lbAwake HP.out (HB.out.trans (hb1.mono hbs)))
          clear hb1 c0 c1 c2 c3 c4 c5 c6 c7
          go_wp2_with fail
          refine HAW.out.mono ?_
          rintro e w2 ⟨rfl, hb2⟩
          have HB2 := Lib.hid hb2
          clear hb2
          go_wp2_with fail
          go_ret
          exact ⟨rfl, HB2.out⟩
        · go_wp2_with fail
          refine HFW.out.mono ?_
          rintro e w1 ⟨rfl, hb1⟩
          have HB1 := Lib.hid (HB.out.trans (hb1.mono hbs))
          have HN := Lib.hid (HNX.out (by trivial))
          clear hb1 c0 c1 c2 c3 c4 c5 c6 c7 HNX
          go_wp2_with fail
          go_roundw
          case rel => exact ⟨m + 1, by omega, by go_num, HN, HB1.out⟩
          case measure => simp [intOf]; omega
      · obtain rfl : len = m := by omega
        have hF : ∀ d ∈ ds, bfewB d = true := fun d hd => by
          obtain ⟨j, hj, e⟩ := List.mem_iff_getElem.1 hd
          exact hall.out j d (by rw [← HL.out]; exact hj) (by rw [List.getElem?_eq_getElem hj, e])
        have HF := Lib.hid hF
        have HB := Lib.hid hb
        clear hall hF hb hlt
        obtain ⟨q, hq⟩ : ∃ q : Nat, fz.toNat % 64 = q := ⟨_, rfl⟩
        have hq9 : q < 64 := by omega
        have hmod : fz.tmod 64 = (q : Int) := by rw [Int.tmod_eq_emod_of_nonneg hf0]; omega
        have hw1 : IntKind.u8.wrap (q : Int) = (q : Int) := by rw [IntKind.wrap_u8]; omega
        have hw2 : IntKind.i64.wrap (q : Int) = (q : Int) := by rw [IntKind.wrap_i64]; omega
        have HLB := Lib.hid (HP.out.kept HB.out)
        clear hq hd1
        go_wp2_with fail
        refine (dNew 262144 w0 (by omega)).mono ?_
        rintro e w1 ⟨bl, rfl, hm⟩
        have HS1 := Lib.hid (show SW a w0.heap.size w0.heap.size (newS 262144) bl w1 ∧ Below w0.heap.size w0 w1 ∧ Tab w1 from ⟨⟨hm.1, HLB.out.p.below hm.2 HLB.out.g1, HLB.out.t.kept hm.2 HLB.out.g2, HLB.out.g1, HLB.out.g2⟩, hm.2, HLB.out.T.kept hm.2 HLB.out.g3⟩)
        clear hm
        go_wp2_with fail
        refine (bsFirst (fun b => b ∈ textsD ds) 262144 w1 bl HS1.out.1 HS1.out.2.2 HLB.out.g3 (by omega) 200 (by omega) (by omega)).mono ?_
        rintro e w2 ⟨S, m, al2, rfl, hb2, hbs⟩
        have H2 := Lib.hid (And.intro hbs (HS1.out.2.1.trans hb2))
        clear hbs hb2 HS1
        go_wp2_with fail
        refine (bsFuse w2 H2.out.1 q (by omega) (by omega)).mono ?_
        rintro e w3 ⟨al3, rfl, hb3, hbs3⟩
        have H3 := Lib.hid (show LOn ds a w0.heap.size w0.heap.size S m 0 [] al3 w3 ∧ Below w0.heap.size w0 w3 from ⟨⟨fun j hj => (hbs3.lt j hj).2, by simp, by simp, _, hbs3, by simp⟩, H2.out.2.trans hb3⟩)
        clear hbs3 hb3 H2
        go_wp2_with fail
        clear hmod hw1 hw2 hf0 hf1 hq9
        go_loopw [12, 13] (fun hv i wk => ∃ (k : Nat) (L : List ByteArray) (al : List Nat), k ≤ len ∧ i = .int .i64 k ∧ Hid ((LOn ds a w0.heap.size w0.heap.size S m k L al wk ∨ LOff ds a w0.heap.size w0.heap.size k L al wk) ∧ HR hv L al wk ∧ Below w0.heap.size w0 wk)) (fun _ i _ => len - (intOf i).toNat)
        case atStart => exact ⟨0, [], al3, Nat.zero_le _, rfl, Lib.hid ⟨.inl H3.out.1, HR.nil _ _, H3.out.2⟩⟩
        case round =>
          rename World => wk
          obtain ⟨k, L, al, hk, rfl, hh⟩ := hrel
          by_cases hlt : k < len
          · rcases hh.out.1 with hon | hoff
            · have HON := Lib.hid hon
              have HHR := Lib.hid hh.out.2.1
              have HBW := Lib.hid (HB.out.trans (hh.out.2.2.mono HB.out.size))
              have HBR := Lib.hid hh.out.2.2
              clear hh hon
              obtain ⟨d, hdk⟩ : ∃ d, ds[k]? = some d := ⟨_, List.getElem?_eq_getElem (by rw [HL.out]; exact hlt)⟩
              have hmem := List.mem_of_getElem? hdk
              obtain ⟨b, off, rfl, hbl, hcs⟩ : ∃ b off, p = some ⟨b, off, none⟩ ∧ b < w.heap.size ∧ ∀ i u, d.cells[i]? = some u → w.cell? ⟨b, off + k * 8 + i, none⟩ = some u := by
                rcases HR0.out with h | ⟨b, off, rfl, h1, hc⟩
                · rw [h] at hdk; simp at hdk
                · exact ⟨b, off, rfl, h1, hc k d hdk⟩
              have HW0 := Lib.hid (hcs 0 _ rfl)
              have HW1 := Lib.hid (hcs 1 _ rfl)
              have HW2 := Lib.hid (hcs 2 _ rfl)
              have HOK := Lib.hid (HO.out d hmem)
              have HPUT := Lib.hid (fun W (hW : LOn ds a w0.heap.size w0.heap.size S m k L al W) ra cap hrow => lawPut HF.out hmem W hW (by omega) ra cap hrow)
              have HDEL := Lib.hid (fun W (hW : LOn ds a w0.heap.size w0.heap.size S m k L al W) => lawDel HF.out hmem W hW (by omega))
              have HCOM := Lib.hid (fun W (hW : LOn ds a w0.heap.size w0.heap.size S m k L al W) => lawComp HF.out W hW (by omega))
              have hl8 : d.l.length ≤ 8 := by have := HF.out d hmem; simp [bfewB] at this; exact this.2.1
              have hs2 : d.s.size ≤ 200 := by have := HF.out d hmem; simp [bfewB] at this; exact this.2.2.1
              have hll := HOK.out.1.1
              clear hcs hdk hmem
              obtain ⟨kd, la, ll, lc, l, s, dd⟩ := d
              simp only at hl8 hs2 hll HPUT HDEL
              subst hll
              have hbw : b < wk.heap.size := Nat.lt_of_lt_of_le hbl HBW.out.size
              have c0 : wk.cell? ⟨b, off + k * 8, none⟩ = some (.int .i64 kd) := by rw [HBW.out.cell (p := ⟨b, off + k * 8, none⟩) hbl]; exact HW0.out
              have c1 : wk.cell? ⟨b, off + k * 8 + 1, none⟩ = some (.slice la l.length lc) := by rw [HBW.out.cell (p := ⟨b, off + k * 8 + 1, none⟩) hbl]; exact HW1.out
              have c2 : wk.cell? ⟨b, off + k * 8 + 2, none⟩ = some (.string s) := by rw [HBW.out.cell (p := ⟨b, off + k * 8 + 2, none⟩) hbl]; exact HW2.out
              have hpow := HON.out.power
              go_wp2_with fail
              refine hpow.mono ?_
              rintro e w4 ⟨rfl, rfl⟩
              clear hpow
              by_cases h0 : kd = 0
              · subst h0
                have hrl := HOK.out.1.2.2.1.below HBW.out
                have HC := Lib.hid (HPUT.out wk HON.out la lc hrl)
                have HLL := Lib.hid (show L.length ≤ 160 from by have := HON.out.2.2.1; omega)
                clear hrl HPUT HDEL HCOM
                go_wp2_with fail
                refine HC.out.mono ?_
                rintro e w5 ⟨al5, hf5, hb5, hcase⟩
                have HB5 := Lib.hid (HBW.out.trans (hb5.mono HB.out.size))
                have HBR5 := Lib.hid (HBR.out.trans hb5)
                have HHR5 := Lib.hid (HHR.out.fr hf5)
                clear hb5 hf5 HC c0 c1 c2
                rcases hcase with ⟨rfl, hst5⟩ | ⟨rfl, hst5⟩
                · have HST := Lib.hid hst5
                  clear hst5
                  go_wp2_with fail
                  go_loopw [12, 16] (fun hv j wi => ∃ n : Nat, n ≤ l.length ∧ j = .int .i64 n ∧ Hid (HR hv ((l.take n).foldl withL L) al5 wi ∧ Below w5.heap.size w5 wi)) (fun _ j _ => l.length - (intOf j).toNat)
                  case atStart => exact ⟨0, Nat.zero_le _, rfl, Lib.hid ⟨HHR5.out, Below.refl _ _⟩⟩
                  case round =>
                    rename World => wi
                    obtain ⟨n, hn, rfl, hh⟩ := hrel
                    obtain ⟨⟨ra, cp, rfl, hr, hra⟩, hbi⟩ := hh.out
                    clear hh
                    have hW5 : Below w.heap.size w wi := HB5.out.trans (hbi.mono HB5.out.size)
                    by_cases hln : n < l.length
                    · obtain ⟨bl, ol, rfl, hlbl, hcl⟩ : ∃ bl ol, la = some ⟨bl, ol, none⟩ ∧ bl < wi.heap.size ∧ ∀ j, j < l.length → wi.cell? ⟨bl, ol + j, none⟩ = some (.string (l.getD j ByteArray.empty)) := by
                        rcases HOK.out.1.2.2.1.below hW5 with h | h
                        · exact absurd (show l = [] from h) (fun e => by rw [e] at hln; simp at hln)
                        · exact h
                      have hcx := hcl n hln
                      have c1 : wi.cell? ⟨b, off + k * 8 + 1, none⟩ = some (.slice (some ⟨bl, ol, none⟩) l.length lc) := by rw [hW5.cell (p := ⟨b, off + k * 8 + 1, none⟩) hbl]; exact HW1.out
                      have hbwi : b < wi.heap.size := Nat.lt_of_lt_of_le hbl hW5.size
                      have hlen1 := withs_len (l.take n) L
                      have hlen2 : ((l.take n).foldl withL L).length ≤ 100000 := by have := HLL.out; rw [List.length_take] at hlen1; omega
                      have HWT := Lib.hid (with_any ra cp _ (l.getD n ByteArray.empty) wi hr hlen2)
                      have HNX := Lib.hid (show withL ((l.take n).foldl withL L) (l.getD n ByteArray.empty) = (l.take (n + 1)).foldl withL L from (withs_take l L hln).symm)
                      have HBI := Lib.hid hbi
                      clear hcl hlen1 hlen2 hr hra hW5 hbi
                      generalize hLn : (l.take n).foldl withL L = Ln at *
                      generalize hxn : l.getD n ByteArray.empty = x at *
                      clear hLn hxn
                      go_wp2_with fail
                      refine HWT.out.mono ?_
                      rintro e w6 ⟨v, rfl, hown, hb6⟩
                      have H6 := Lib.hid (show HR v ((l.take (n + 1)).foldl withL L) al5 w6 ∧ Below w5.heap.size w5 w6 from ⟨by rw [← HNX.out]; exact HR.own hown (fun j hj => Nat.lt_of_lt_of_le (HST.out.1 j hj) HBI.out.size), HBI.out.trans (hb6.mono HBI.out.size)⟩)
                      clear hown hb6
                      go_wp2_with fail
                      go_roundw
                      case rel => exact ⟨n + 1, by omega, by go_num, H6⟩
                      case measure => simp [intOf]; omega
                    · obtain rfl : n = l.length := by omega
                      rw [List.take_length] at hr hra
                      have HFIN := Lib.hid (show (LOn ds a w0.heap.size w0.heap.size S m (k + 1) (l.foldl withL L) al5 wi ∨ LOff ds a w0.heap.size w0.heap.size (k + 1) (l.foldl withL L) al5 wi) ∧ HR (.slice ra (l.foldl withL L).length cp) (l.foldl withL L) al5 wi ∧ Below w0.heap.size w0 wi from ⟨.inl (HST.out.keep hbi), ⟨ra, cp, rfl, hr, hra⟩, HBR5.out.trans (hbi.mono HBR5.out.size)⟩)
                      rw [List.take_length] at *
                      have c1 : wi.cell? ⟨b, off + k * 8 + 1, none⟩ = some (.slice la l.length lc) := by rw [hW5.cell (p := ⟨b, off + k * 8 + 1, none⟩) hbl]; exact HW1.out
                      have hbwi : b < wi.heap.size := Nat.lt_of_lt_of_le hbl hW5.size
                      clear hr hra hbi hW5
                      go_wp2_with fail
                      go_roundw
                      case rel => exact ⟨k + 1, _, al5, by omega, by go_num, HFIN⟩
                      case measure => simp [intOf]; omega
                · have HST := Lib.hid hst5
                  clear hst5
                  go_wp2_with fail
                  go_loopw [12, 16] (fun hv j wi => ∃ n : Nat, n ≤ l.length ∧ j = .int .i64 n ∧ Hid (HR hv ((l.take n).foldl withL L) al5 wi ∧ Below w5.heap.size w5 wi)) (fun _ j _ => l.length - (intOf j).toNat)
                  case atStart => exact ⟨0, Nat.zero_le _, rfl, Lib.hid ⟨HHR5.out, Below.refl _ _⟩⟩
                  case round =>
                    rename World => wi
                    obtain ⟨n, hn, rfl, hh⟩ := hrel
                    obtain ⟨⟨ra, cp, rfl, hr, hra⟩, hbi⟩ := hh.out
                    clear hh
                    have hW5 : Below w.heap.size w wi := HB5.out.trans (hbi.mono HB5.out.size)
                    by_cases hln : n < l.length
                    · obtain ⟨bl, ol, rfl, hlbl, hcl⟩ : ∃ bl ol, la = some ⟨bl, ol, none⟩ ∧ bl < wi.heap.size ∧ ∀ j, j < l.length → wi.cell? ⟨bl, ol + j, none⟩ = some (.string (l.getD j ByteArray.empty)) := by
                        rcases HOK.out.1.2.2.1.below hW5 with h | h
                        · exact absurd (show l = [] from h) (fun e => by rw [e] at hln; simp at hln)
                        · exact h
                      have hcx := hcl n hln
                      have c1 : wi.cell? ⟨b, off + k * 8 + 1, none⟩ = some (.slice (some ⟨bl, ol, none⟩) l.length lc) := by rw [hW5.cell (p := ⟨b, off + k * 8 + 1, none⟩) hbl]; exact HW1.out
                      have hbwi : b < wi.heap.size := Nat.lt_of_lt_of_le hbl hW5.size
                      have hlen1 := withs_len (l.take n) L
                      have hlen2 : ((l.take n).foldl withL L).length ≤ 100000 := by have := HLL.out; rw [List.length_take] at hlen1; omega
                      have HWT := Lib.hid (with_any ra cp _ (l.getD n ByteArray.empty) wi hr hlen2)
                      have HNX := Lib.hid (show withL ((l.take n).foldl withL L) (l.getD n ByteArray.empty) = (l.take (n + 1)).foldl withL L from (withs_take l L hln).symm)
                      have HBI := Lib.hid hbi
                      clear hcl hlen1 hlen2 hr hra hW5 hbi
                      generalize hLn : (l.take n).foldl withL L = Ln at *
                      generalize hxn : l.getD n ByteArray.empty = x at *
                      clear hLn hxn
                      go_wp2_with fail
                      refine HWT.out.mono ?_
                      rintro e w6 ⟨v, rfl, hown, hb6⟩
                      have H6 := Lib.hid (show HR v ((l.take (n + 1)).foldl withL L) al5 w6 ∧ Below w5.heap.size w5 w6 from ⟨by rw [← HNX.out]; exact HR.own hown (fun j hj => Nat.lt_of_lt_of_le (HST.out.1 j hj) HBI.out.size), HBI.out.trans (hb6.mono HBI.out.size)⟩)
                      clear hown hb6
                      go_wp2_with fail
                      go_roundw
                      case rel => exact ⟨n + 1, by omega, by go_num, H6⟩
                      case measure => simp [intOf]; omega
                    · obtain rfl : n = l.length := by omega
                      rw [List.take_length] at hr hra
                      have HFIN := Lib.hid (show (LOn ds a w0.heap.size w0.heap.size S m (k + 1) L al5 wi ∨ LOff ds a w0.heap.size w0.heap.size (k + 1) L al5 wi) ∧ HR u12 L al5 wi ∧ Below w0.heap.size w0 wi from ⟨.inr (HST.out.keep hbi), HHR5.out.keep hbi, HBR5.out.trans (hbi.mono HBR5.out.size)⟩)
                      rw [List.take_length] at *
                      have c0 : wi.cell? ⟨b, off + k * 8, none⟩ = some (.int .i64 0) := by rw [hW5.cell (p := ⟨b, off + k * 8, none⟩) hbl]; exact HW0.out
                      have c1 : wi.cell? ⟨b, off + k * 8 + 1, none⟩ = some (.slice la l.length lc) := by rw [hW5.cell (p := ⟨b, off + k * 8 + 1, none⟩) hbl]; exact HW1.out
                      have hbwi : b < wi.heap.size := Nat.lt_of_lt_of_le hbl hW5.size
                      have HPW := Lib.hid (HST.out.keep hbi).power
                      clear hr hra hbi hW5
                      go_wp2_with fail
                      refine HPW.out.mono ?_
                      rintro e w7 ⟨rfl, rfl⟩
                      go_wp2_with fail
                      go_roundw
                      case rel => exact ⟨k + 1, L, al5, by omega, by go_num, HFIN⟩
                      case measure => simp [intOf]; omega
              · have hq0 : decide (kd = 0) = false := by simpa using h0
                have hq1 : (kd == 0) = false := by simpa using h0
                have HLL := Lib.hid (show L.length ≤ 160 from by have := HON.out.2.2.1; omega)
                by_cases h1 : kd = 1
                · subst h1
                  have HID := Lib.hid (idR s wk (by omega))
                  clear HPUT HCOM
                  go_wp2_with fail
                  refine HID.out.mono ?_
                  rintro e w4 ⟨rfl, hb4⟩
                  have HC := Lib.hid (HDEL.out w4 (HON.out.keep hb4))
                  have HB4 := Lib.hid (HBW.out.trans (hb4.mono HBW.out.size))
                  have HBR4 := Lib.hid (HBR.out.trans (hb4.mono HBR.out.size))
                  have HHR4 := Lib.hid (HHR.out.keep hb4)
                  clear hb4 HID HDEL c0 c1 c2
                  go_wp2_with fail
                  refine HC.out.mono ?_
                  rintro e w5 ⟨al5, r, rfl, hf5, hb5, hcase⟩
                  have HB5 := Lib.hid (HB4.out.trans (hb5.mono HB.out.size))
                  have HBR5 := Lib.hid (HBR4.out.trans hb5)
                  obtain ⟨ra, cp, rfl, hr, hra⟩ := HHR4.out.fr hf5
                  have HWO := Lib.hid (without_any ra cp L s w5 hr (by have := HLL.out; omega))
                  have c2 : w5.cell? ⟨b, off + k * 8 + 2, none⟩ = some (.string s) := by rw [HB5.out.cell (p := ⟨b, off + k * 8 + 2, none⟩) hbl]; exact HW2.out
                  have hbw5 : b < w5.heap.size := Nat.lt_of_lt_of_le hbl HB5.out.size
                  clear hf5 hb5 hr hra HC
                  rcases hcase with ⟨rfl | rfl, hst5⟩ | ⟨rfl, hst5⟩
                  · have HST := Lib.hid hst5
                    clear hst5
                    go_wp2_with fail
                    refine HWO.out.mono ?_
                    rintro e w6 ⟨v, rfl, hown, hb6⟩
                    have HFIN := Lib.hid (show (LOn ds a w0.heap.size w0.heap.size S m (k + 1) (L.filter fun n => decide (n ≠ s)) al5 w6 ∨ LOff ds a w0.heap.size w0.heap.size (k + 1) (L.filter fun n => decide (n ≠ s)) al5 w6) ∧ HR v (L.filter fun n => decide (n ≠ s)) al5 w6 ∧ Below w0.heap.size w0 w6 from ⟨.inl (HST.out.keep hb6), HR.own hown HST.out.1, HBR5.out.trans (hb6.mono HBR5.out.size)⟩)
                    clear hown hb6
                    go_wp2_with fail
                    go_roundw
                    case rel => exact ⟨k + 1, _, al5, by omega, by go_num, HFIN⟩
                    case measure => simp [intOf]; omega
                  · have HST := Lib.hid hst5
                    clear hst5
                    go_wp2_with fail
                    refine HWO.out.mono ?_
                    rintro e w6 ⟨v, rfl, hown, hb6⟩
                    have HFIN := Lib.hid (show (LOn ds a w0.heap.size w0.heap.size S m (k + 1) (L.filter fun n => decide (n ≠ s)) al5 w6 ∨ LOff ds a w0.heap.size w0.heap.size (k + 1) (L.filter fun n => decide (n ≠ s)) al5 w6) ∧ HR v (L.filter fun n => decide (n ≠ s)) al5 w6 ∧ Below w0.heap.size w0 w6 from ⟨.inl (HST.out.keep hb6), HR.own hown HST.out.1, HBR5.out.trans (hb6.mono HBR5.out.size)⟩)
                    clear hown hb6
                    go_wp2_with fail
                    go_roundw
                    case rel => exact ⟨k + 1, _, al5, by omega, by go_num, HFIN⟩
                    case measure => simp [intOf]; omega
                  · have HST := Lib.hid hst5
                    clear hst5
                    go_wp2_with fail
                    refine HWO.out.mono ?_
                    rintro e w6 ⟨v, rfl, hown, hb6⟩
                    have HFIN := Lib.hid (show (LOn ds a w0.heap.size w0.heap.size S m (k + 1) (L.filter fun n => decide (n ≠ s)) al5 w6 ∨ LOff ds a w0.heap.size w0.heap.size (k + 1) (L.filter fun n => decide (n ≠ s)) al5 w6) ∧ HR v (L.filter fun n => decide (n ≠ s)) al5 w6 ∧ Below w0.heap.size w0 w6 from ⟨.inr (HST.out.keep hb6), HR.own hown HST.out.1, HBR5.out.trans (hb6.mono HBR5.out.size)⟩)
                    have hW6 := HB5.out.trans (hb6.mono HB5.out.size)
                    have c0 : w6.cell? ⟨b, off + k * 8, none⟩ = some (.int .i64 1) := by rw [hW6.cell (p := ⟨b, off + k * 8, none⟩) hbl]; exact HW0.out
                    have hbw6 : b < w6.heap.size := Nat.lt_of_lt_of_le hbl hW6.size
                    have HPW := Lib.hid (HST.out.keep hb6).power
                    clear hown hb6 hW6
                    go_wp2_with fail
                    refine HPW.out.mono ?_
                    rintro e w7 ⟨rfl, rfl⟩
                    go_wp2_with fail
                    go_roundw
                    case rel => exact ⟨k + 1, _, al5, by omega, by go_num, HFIN⟩
                    case measure => simp [intOf]; omega
                · have hq2 : decide (kd = 1) = false := by simpa using h1
                  have hq3 : (kd == 1) = false := by simpa using h1
                  have HC := Lib.hid (HCOM.out wk HON.out)
                  clear HPUT HDEL HCOM c1 c2
                  go_wp2_with fail
                  refine HC.out.mono ?_
                  rintro e w5 ⟨al5, hf5, hb5, hcase⟩
                  have HB5 := Lib.hid (HBW.out.trans (hb5.mono HB.out.size))
                  have HBR5 := Lib.hid (HBR.out.trans hb5)
                  have HHR5 := Lib.hid (HHR.out.fr hf5)
                  have c0' : w5.cell? ⟨b, off + k * 8, none⟩ = some (.int .i64 kd) := by rw [HB5.out.cell (p := ⟨b, off + k * 8, none⟩) hbl]; exact HW0.out
                  have hbw5 : b < w5.heap.size := Nat.lt_of_lt_of_le hbl HB5.out.size
                  clear hf5 hb5 HC c0
                  rcases hcase with ⟨rfl, hst5⟩ | ⟨rfl, hst5⟩
                  · have HFIN := Lib.hid (show (LOn ds a w0.heap.size w0.heap.size S m (k + 1) L al5 w5 ∨ LOff ds a w0.heap.size w0.heap.size (k + 1) L al5 w5) ∧ HR u12 L al5 w5 ∧ Below w0.heap.size w0 w5 from ⟨.inl hst5, HHR5.out, HBR5.out⟩)
                    clear hst5
                    go_wp2_with fail
                    go_roundw
                    case rel => exact ⟨k + 1, _, al5, by omega, by go_num, HFIN⟩
                    case measure => simp [intOf]; omega
                  · have HFIN := Lib.hid (show (LOn ds a w0.heap.size w0.heap.size S m (k + 1) L al5 w5 ∨ LOff ds a w0.heap.size w0.heap.size (k + 1) L al5 w5) ∧ HR u12 L al5 w5 ∧ Below w0.heap.size w0 w5 from ⟨.inr hst5, HHR5.out, HBR5.out⟩)
                    have HPW := Lib.hid hst5.power
                    clear hst5
                    go_wp2_with fail
                    refine HPW.out.mono ?_
                    rintro e w7 ⟨rfl, rfl⟩
                    go_wp2_with fail
                    go_roundw
                    case rel => exact ⟨k + 1, _, al5, by omega, by go_num, HFIN⟩
                    case measure => simp [intOf]; omega
            · have HPW := Lib.hid hoff.power
              obtain ⟨bl0, hsub, hleft⟩ := hoff.left
              have HHR := Lib.hid hh.out.2.1
              have HBR := Lib.hid hh.out.2.2
              have hi1 : (k : Int) < (len : Int) := by omega
              clear hoff
              have HHRA := Lib.hid (HHR.out.sub hsub)
              have hlen1 : L.length ≤ 160 := by have := hh.out.1.elim (fun h => h.2.2.1) (fun h => h.2.2.1); omega
              have hmemL : ∀ x ∈ L, x ∈ textsD ds := hh.out.1.elim (fun h => h.2.1) (fun h => h.2.1)
              have HML := Lib.hid hmemL
              have HLF := Lib.hid (leftCrash wk hleft (by omega) keep)
              clear hh hsub hmemL hleft HHR
              go_wp2_with fail
              refine HPW.out.mono ?_
              rintro e w4 ⟨rfl, rfl⟩
              go_wp2_with fail
              refine HLF.out.mono ?_
              rintro e w5 ⟨al5, rfl, hf5, hb5, hfd5⟩
              have HHR5 := Lib.hid (HHRA.out.fr hf5)
              have HBR5 := Lib.hid (HBR.out.trans hb5)
              have HFO := Lib.hid (foundOpen w5 hfd5 (HLB.out.kept HBR5.out).T HLB.out.g3 200 (by omega) (by omega))
              clear hf5 hb5 hfd5 HLF
              go_wp2_with fail
              refine HFO.out.mono ?_
              rintro e w6 ⟨S2, m2, M2, al6, rfl, hf6, hb6, hgs6, hall6⟩
              have HBR6 := Lib.hid (HBR5.out.trans hb6)
              have HB6 := Lib.hid (HB.out.trans (HBR6.out.mono HB.out.size))
              have HGS6 := Lib.hid (And.intro hgs6 hall6)
              obtain ⟨ra, cp, rfl, hr, hra⟩ := HHR5.out.fr hf6
              have HROW := Lib.hid hr
              clear hf6 hb6 hgs6 hall6 hr hra HFO
              go_wp2_with fail
              go_loopw [19] (fun i wi => ∃ n : Nat, n ≤ L.length ∧ i = .int .i64 n ∧ Below w6.heap.size w6 wi) (fun i _ => L.length - (intOf i).toNat)
              case atStart => exact ⟨0, Nat.zero_le _, rfl, Below.refl _ _⟩
              case round =>
                rename World => wi
                obtain ⟨n, hn, rfl, hbi⟩ := hrel
                have hbis := hbi.size
                have HBI := Lib.hid hbi
                have HWI := Lib.hid (HB6.out.trans (hbi.mono HB6.out.size))
                clear hbi
                by_cases hln : n < L.length
                · obtain ⟨bl, ol, rfl, hlbl, hcl⟩ : ∃ bl ol, ra = some ⟨bl, ol, none⟩ ∧ bl < w6.heap.size ∧ ∀ j, j < L.length → w6.cell? ⟨bl, ol + j, none⟩ = some (.string (L.getD j ByteArray.empty)) := by
                    rcases HROW.out with h | h
                    · exact absurd h (fun e => by rw [e] at hln; simp at hln)
                    · exact h
                  have HCX := Lib.hid (hcl n hln)
                  have hcx : wi.cell? ⟨bl, ol + n, none⟩ = some (.string (L.getD n ByteArray.empty)) := by rw [HBI.out.cell (p := ⟨bl, ol + n, none⟩) hlbl]; exact HCX.out
                  have hbwi : bl < wi.heap.size := by omega
                  have HMX := Lib.hid (getD_mem hln)
                  generalize hx : L.getD n ByteArray.empty = x at *
                  have hxs : x.size ≤ 200 := textsD_size HF.out x (HML.out x HMX.out)
                  have HID := Lib.hid (idR x wi (by omega))
                  clear hcl hx
                  go_wp2_with fail
                  refine HID.out.mono ?_
                  rintro e w7 ⟨rfl, hb7⟩
                  have H7 := Lib.hid (HBI.out.trans (hb7.mono hbis))
                  have HGT := Lib.hid (gsGet w7 (HGS6.out.1.keep H7.out) (idS x) (by rw [idS_size]; decide))
                  clear hb7 hcx hbwi HID
                  by_cases hgood : getS M2 (idS x) = (x, 0)
                  · have hg1 : (getS M2 (idS x)).1 = x := by rw [hgood]
                    have hg2 : (getS M2 (idS x)).2 = 0 := by rw [hgood]
                    rw [hg1, hg2] at HGT
                    clear hg1 hg2 hgood
                    have hq := nb_eq (show x = x from rfl)
                    go_wp2_with fail
                    refine HGT.out.mono ?_
                    rintro e w8 ⟨rfl, hb8⟩
                    have H8 := Lib.hid (H7.out.trans (hb8.mono H7.out.size))
                    have hcx : w8.cell? ⟨bl, ol + n, none⟩ = some (.string x) := by rw [H8.out.cell (p := ⟨bl, ol + n, none⟩) hlbl]; exact HCX.out
                    have hbw8 : bl < w8.heap.size := Nat.lt_of_lt_of_le hlbl H8.out.size
                    clear hb8
                    go_wp2_with fail
                    go_roundw
                    case rel => exact ⟨n + 1, by omega, by go_num, H8.out⟩
                    case measure => simp [intOf]; omega
                  · have hni : ¬ Inj (fun b => b ∈ textsD ds) := fun hI => hgood (HGS6.out.1.str hI (HML.out x HMX.out) (HGS6.out.2 _ ⟨hI, x, HMX.out, rfl⟩))
                    have HNI := Lib.hid hni
                    have hbad : (getS M2 (idS x)).2 ≠ 0 ∨ ((getS M2 (idS x)).2 = 0 ∧ (getS M2 (idS x)).1 ≠ x) := by
                      by_cases h : (getS M2 (idS x)).2 = 0
                      · exact .inr ⟨h, fun e => hgood (Prod.ext e h)⟩
                      · exact .inl h
                    generalize (getS M2 (idS x)).1 = y at *
                    generalize (getS M2 (idS x)).2 = f at *
                    clear hgood hni
                    rcases hbad with hf | ⟨rfl, hy⟩
                    · have hq1 : (f != 0) = true := by simpa using hf
                      have hq2 : decide (f = 0) = false := by simpa using hf
                      have hq3 : (f == 0) = false := by simpa using hf
                      go_wp2_with fail
                      refine HGT.out.mono ?_
                      rintro e w8 ⟨rfl, hb8⟩
                      have H8 := Lib.hid (HB6.out.trans ((H7.out.trans (hb8.mono H7.out.size)).mono HB6.out.size))
                      have htw := twice_any p cap ds w8 (HR0.out.below H8.out) (fun d hd => (HO.out d hd).below H8.out) HF.out (by rw [HL.out]; omega)
                      rw [HL.out] at htw
                      have HTW := Lib.hid htw
                      clear hb8 htw
                      go_wp2_with fail
                      refine HTW.out.mono ?_
                      rintro e w9 ⟨bb, rfl, hno, hb9⟩
                      have HB9 := Lib.hid (H8.out.trans (hb9.mono H8.out.size))
                      obtain rfl : bb = true := by
                        cases bb
                        · exact absurd (inj_of (hno rfl)) HNI.out
                        · rfl
                      clear hno hb9
                      go_wp2_with fail
                      go_ret
                      exact ⟨rfl, HB9.out⟩
                    · have hq := nb_ne hy
                      go_wp2_with fail
                      refine HGT.out.mono ?_
                      rintro e w8 ⟨rfl, hb8⟩
                      have H8' := Lib.hid (H7.out.trans (hb8.mono H7.out.size))
                      have H8 := Lib.hid (HB6.out.trans (H8'.out.mono HB6.out.size))
                      have hcx : w8.cell? ⟨bl, ol + n, none⟩ = some (.string x) := by rw [H8'.out.cell (p := ⟨bl, ol + n, none⟩) hlbl]; exact HCX.out
                      have hbw8 : bl < w8.heap.size := Nat.lt_of_lt_of_le hlbl H8'.out.size
                      have htw := twice_any p cap ds w8 (HR0.out.below H8.out) (fun d hd => (HO.out d hd).below H8.out) HF.out (by rw [HL.out]; omega)
                      rw [HL.out] at htw
                      have HTW := Lib.hid htw
                      clear hb8 htw
                      go_wp2_with fail
                      refine HTW.out.mono ?_
                      rintro e w9 ⟨bb, rfl, hno, hb9⟩
                      have HB9 := Lib.hid (H8.out.trans (hb9.mono H8.out.size))
                      obtain rfl : bb = true := by
                        cases bb
                        · exact absurd (inj_of (hno rfl)) HNI.out
                        · rfl
                      clear hno hb9
                      go_wp2_with fail
                      go_ret
                      exact ⟨rfl, HB9.out⟩
                · obtain rfl : n = L.length := by omega
                  have HAW := Lib.hid (lbAwake HP.out HWI.out)
                  go_wp2_with fail
                  refine HAW.out.mono ?_
                  rintro e w7 ⟨rfl, hb7⟩
                  have HB7 := Lib.hid hb7
                  clear hb7
                  go_wp2_with fail
                  go_ret
                  exact ⟨rfl, HB7.out⟩
          · obtain ⟨bl0, hsub, hleft⟩ : ∃ bl, (∀ j ∈ bl, j ∈ al) ∧ Left (fun b => b ∈ textsD ds) 262144 a w0.heap.size w0.heap.size (fun id => Inj (fun b => b ∈ textsD ds) ∧ ∃ x ∈ L, idS x = id) bl wk := hh.out.1.elim (fun h => h.left HF.out) (fun h => h.left)
            have HHR := Lib.hid hh.out.2.1
            have HBR := Lib.hid hh.out.2.2
            obtain rfl : len = k := by omega
            have HHRA := Lib.hid (HHR.out.sub hsub)
            have hlen1 : L.length ≤ 160 := by have := hh.out.1.elim (fun h => h.2.2.1) (fun h => h.2.2.1); omega
            have hmemL : ∀ x ∈ L, x ∈ textsD ds := hh.out.1.elim (fun h => h.2.1) (fun h => h.2.1)
            have HML := Lib.hid hmemL
            have HLF := Lib.hid (leftCrash wk hleft (by omega) keep)
            clear hh hsub hmemL hleft HHR
            go_wp2_with fail
            refine HLF.out.mono ?_
            rintro e w5 ⟨al5, rfl, hf5, hb5, hfd5⟩
            have HHR5 := Lib.hid (HHRA.out.fr hf5)
            have HBR5 := Lib.hid (HBR.out.trans hb5)
            have HFO := Lib.hid (foundOpen w5 hfd5 (HLB.out.kept HBR5.out).T HLB.out.g3 200 (by omega) (by omega))
            clear hf5 hb5 hfd5 HLF
            go_wp2_with fail
            refine HFO.out.mono ?_
            rintro e w6 ⟨S2, m2, M2, al6, rfl, hf6, hb6, hgs6, hall6⟩
            have HBR6 := Lib.hid (HBR5.out.trans hb6)
            have HB6 := Lib.hid (HB.out.trans (HBR6.out.mono HB.out.size))
            have HGS6 := Lib.hid (And.intro hgs6 hall6)
            obtain ⟨ra, cp, rfl, hr, hra⟩ := HHR5.out.fr hf6
            have HROW := Lib.hid hr
            clear hf6 hb6 hgs6 hall6 hr hra HFO
            go_wp2_with fail
            go_loopw [19] (fun i wi => ∃ n : Nat, n ≤ L.length ∧ i = .int .i64 n ∧ Below w6.heap.size w6 wi) (fun i _ => L.length - (intOf i).toNat)
            case atStart => exact ⟨0, Nat.zero_le _, rfl, Below.refl _ _⟩
            case round =>
              rename World => wi
              obtain ⟨n, hn, rfl, hbi⟩ := hrel
              have hbis := hbi.size
              have HBI := Lib.hid hbi
              have HWI := Lib.hid (HB6.out.trans (hbi.mono HB6.out.size))
              clear hbi
              by_cases hln : n < L.length
              · obtain ⟨bl, ol, rfl, hlbl, hcl⟩ : ∃ bl ol, ra = some ⟨bl, ol, none⟩ ∧ bl < w6.heap.size ∧ ∀ j, j < L.length → w6.cell? ⟨bl, ol + j, none⟩ = some (.string (L.getD j ByteArray.empty)) := by
                  rcases HROW.out with h | h
                  · exact absurd h (fun e => by rw [e] at hln; simp at hln)
                  · exact h
                have HCX := Lib.hid (hcl n hln)
                have hcx : wi.cell? ⟨bl, ol + n, none⟩ = some (.string (L.getD n ByteArray.empty)) := by rw [HBI.out.cell (p := ⟨bl, ol + n, none⟩) hlbl]; exact HCX.out
                have hbwi : bl < wi.heap.size := by omega
                have HMX := Lib.hid (getD_mem hln)
                generalize hx : L.getD n ByteArray.empty = x at *
                have hxs : x.size ≤ 200 := textsD_size HF.out x (HML.out x HMX.out)
                have HID := Lib.hid (idR x wi (by omega))
                clear hcl hx
                go_wp2_with fail
                refine HID.out.mono ?_
                rintro e w7 ⟨rfl, hb7⟩
                have H7 := Lib.hid (HBI.out.trans (hb7.mono hbis))
                have HGT := Lib.hid (gsGet w7 (HGS6.out.1.keep H7.out) (idS x) (by rw [idS_size]; decide))
                clear hb7 hcx hbwi HID
                by_cases hgood : getS M2 (idS x) = (x, 0)
                · have hg1 : (getS M2 (idS x)).1 = x := by rw [hgood]
                  have hg2 : (getS M2 (idS x)).2 = 0 := by rw [hgood]
                  rw [hg1, hg2] at HGT
                  clear hg1 hg2 hgood
                  have hq := nb_eq (show x = x from rfl)
                  go_wp2_with fail
                  refine HGT.out.mono ?_
                  rintro e w8 ⟨rfl, hb8⟩
                  have H8 := Lib.hid (H7.out.trans (hb8.mono H7.out.size))
                  have hcx : w8.cell? ⟨bl, ol + n, none⟩ = some (.string x) := by rw [H8.out.cell (p := ⟨bl, ol + n, none⟩) hlbl]; exact HCX.out
                  have hbw8 : bl < w8.heap.size := Nat.lt_of_lt_of_le hlbl H8.out.size
                  clear hb8
                  go_wp2_with fail
                  go_roundw
                  case rel => exact ⟨n + 1, by omega, by go_num, H8.out⟩
                  case measure => simp [intOf]; omega
                · have hni : ¬ Inj (fun b => b ∈ textsD ds) := fun hI => hgood (HGS6.out.1.str hI (HML.out x HMX.out) (HGS6.out.2 _ ⟨hI, x, HMX.out, rfl⟩))
                  have HNI := Lib.hid hni
                  have hbad : (getS M2 (idS x)).2 ≠ 0 ∨ ((getS M2 (idS x)).2 = 0 ∧ (getS M2 (idS x)).1 ≠ x) := by
                    by_cases h : (getS M2 (idS x)).2 = 0
                    · exact .inr ⟨h, fun e => hgood (Prod.ext e h)⟩
                    · exact .inl h
                  generalize (getS M2 (idS x)).1 = y at *
                  generalize (getS M2 (idS x)).2 = f at *
                  clear hgood hni
                  rcases hbad with hf | ⟨rfl, hy⟩
                  · have hq1 : (f != 0) = true := by simpa using hf
                    have hq2 : decide (f = 0) = false := by simpa using hf
                    have hq3 : (f == 0) = false := by simpa using hf
                    go_wp2_with fail
                    refine HGT.out.mono ?_
                    rintro e w8 ⟨rfl, hb8⟩
                    have H8 := Lib.hid (HB6.out.trans ((H7.out.trans (hb8.mono H7.out.size)).mono HB6.out.size))
                    have htw := twice_any p cap ds w8 (HR0.out.below H8.out) (fun d hd => (HO.out d hd).below H8.out) HF.out (by rw [HL.out]; omega)
                    rw [HL.out] at htw
                    have HTW := Lib.hid htw
                    clear hb8 htw
                    go_wp2_with fail
                    refine HTW.out.mono ?_
                    rintro e w9 ⟨bb, rfl, hno, hb9⟩
                    have HB9 := Lib.hid (H8.out.trans (hb9.mono H8.out.size))
                    obtain rfl : bb = true := by
                      cases bb
                      · exact absurd (inj_of (hno rfl)) HNI.out
                      · rfl
                    clear hno hb9
                    go_wp2_with fail
                    go_ret
                    exact ⟨rfl, HB9.out⟩
                  · have hq := nb_ne hy
                    go_wp2_with fail
                    refine HGT.out.mono ?_
                    rintro e w8 ⟨rfl, hb8⟩
                    have H8' := Lib.hid (H7.out.trans (hb8.mono H7.out.size))
                    have H8 := Lib.hid (HB6.out.trans (H8'.out.mono HB6.out.size))
                    have hcx : w8.cell? ⟨bl, ol + n, none⟩ = some (.string x) := by rw [H8'.out.cell (p := ⟨bl, ol + n, none⟩) hlbl]; exact HCX.out
                    have hbw8 : bl < w8.heap.size := Nat.lt_of_lt_of_le hlbl H8'.out.size
                    have htw := twice_any p cap ds w8 (HR0.out.below H8.out) (fun d hd => (HO.out d hd).below H8.out) HF.out (by rw [HL.out]; omega)
                    rw [HL.out] at htw
                    have HTW := Lib.hid htw
                    clear hb8 htw
                    go_wp2_with fail
                    refine HTW.out.mono ?_
                    rintro e w9 ⟨bb, rfl, hno, hb9⟩
                    have HB9 := Lib.hid (H8.out.trans (hb9.mono H8.out.size))
                    obtain rfl : bb = true := by
                      cases bb
                      · exact absurd (inj_of (hno rfl)) HNI.out
                      · rfl
                    clear hno hb9
                    go_wp2_with fail
                    go_ret
                    exact ⟨rfl, HB9.out⟩
              · obtain rfl : n = L.length := by omega
                have HAW := Lib.hid (lbAwake HP.out HWI.out)
                go_wp2_with fail
                refine HAW.out.mono ?_
                rintro e w7 ⟨rfl, hb7⟩
                have HB7 := Lib.hid hb7
                clear hb7
                go_wp2_with fail
                go_ret
                exact ⟨rfl, HB7.out⟩
end Go.Proofs.YtjimgncefeldbaaGreatDoor
