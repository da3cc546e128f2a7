/-
  A store that no error ended: what each act leaves of it, in memory and on the disk.
  almonrylaw10.awake returns true.
-/
import Derived.Test.YtjimgncefeldbaaGreatDoorGBlobG
import Derived.Test.YtjimgncefeldbaaGreatDoorGBlobE
import Derived.Test.YtjimgncefeldbaaGreatDoorGBlobF
import Derived.Test.YtjimgncefeldbaaGreatDoorBlobScrub
namespace Go.Proofs.YtjimgncefeldbaaGreatDoor
open Go.RowKit Go.Sort Go.Maps

/-- A store that no error ended, so many bytes in its segments at most, so many chunks, and so many segments. -/
def BS (P : ByteArray → Prop) (room : Nat) (fz : Bool) (a : Addr) (B D S seg m tot cnt lst : Nat) (M : DU) (al : List Nat) (w : World) : Prop :=
  ∃ s bl N va vc sg, al = sal S m va bl ∧ ST a B D s bl S seg m N M va vc (sg.map (·.1)) false false w ∧ LInv P room fz s sg M ∧ stotal (sg.map segF) ≤ tot ∧ N ≤ cnt ∧ lastN (sg.map (·.1)) ≤ lst ∧ sg.length ≤ lst
/-- What power that went left: of these IDs a chunk is there, however much is kept. -/
def Gone (P : ByteArray → Prop) (room : Nat) (a : Addr) (B D : Nat) (K : ByteArray → Prop) (al : List Nat) (w : World) : Prop :=
  ∃ s bl sgb ex, (∀ k ∈ bl, k ∈ al) ∧ SW a B D s bl w ∧ s.off = true ∧ Crashed P room sgb ex s ∧ ∀ js id, K id → hasC (replay (.map []) (sgb.flatMap (cutT js))) id = true

section
variable {P : ByteArray → Prop} {room : Nat} {fz : Bool} {a : Addr} {B D S seg m tot cnt lst : Nat} {M : DU} {al : List Nat}

theorem BS.keep {w w' : World} (h : BS P room fz a B D S seg m tot cnt lst M al w) (hb : Below w.heap.size w w') : BS P room fz a B D S seg m tot cnt lst M al w' := by
  obtain ⟨s, bl, N, va, vc, sg, e, h1, h2⟩ := h
  exact ⟨s, bl, N, va, vc, sg, e, h1.keep hb, h2⟩
theorem BS.lt {w : World} (h : BS P room fz a B D S seg m tot cnt lst M al w) : ∀ k ∈ al, B ≤ k ∧ k < w.heap.size := by
  obtain ⟨s, bl, N, va, vc, sg, rfl, h1, h2⟩ := h
  exact h1.lt
theorem BS.size {w : World} (h : BS P room fz a B D S seg m tot cnt lst M al w) : B ≤ w.heap.size := by
  obtain ⟨s, bl, N, va, vc, sg, rfl, h1, h2⟩ := h
  exact h1.size
theorem ended_sw {s' : DS} {al' : List Nat} {w' : World} (h : Ended a B D S seg m s' al' w') : ∃ bl', (∀ k ∈ bl', k ∈ al') ∧ SW a B D s' bl' w' := by
  obtain ⟨bl', N, M, va, vc, zs, t, e, rfl, h1⟩ := h
  exact ⟨bl', fun k hk => mem_sal.2 (.inr (.inr (.inr hk))), h1.sw⟩
theorem came_inv : ∀ (T : List ByteArray) {M : DU}, IsMap M → (∀ t ∈ T, ∃ b, t = cameB b) → ∀ id, hasC (replay M T) id = true → hasC M id = true ∨ ∃ b, cameB b ∈ T ∧ idS b = id := by
  intro T
  induction T with
  | nil => intro M _ _ id h; exact .inl h
  | cons t T ih =>
    intro M hm ht id h
    obtain ⟨b, rfl⟩ := ht _ (List.mem_cons_self ..)
    rw [replay_cons] at h
    rcases ih (hear_map hm _) (fun x hx => ht x (List.mem_cons_of_mem _ hx)) id h with h1 | ⟨b', h1, h2⟩
    · rw [has_came hm] at h1
      rcases Bool.or_eq_true _ _ |>.mp h1 with h1 | h1
      · exact .inl h1
      · exact .inr ⟨b, List.mem_cons_self .., by simpa using h1⟩
    · exact .inr ⟨b', List.mem_cons_of_mem _ h1, h2⟩
theorem came_inj {a b : ByteArray} (h : cameB a = cameB b) : a = b := by
  unfold cameB at h
  have := congrArg (fun x : ByteArray => x.data.toList) h
  simp at this
  exact ByteArray.ext this
theorem putF_inv (M : DU) (l : List ByteArray) : ∀ id, hasC (putF M l).1 id = true → ∃ b ∈ l, idS b = id := by
  intro id h
  rw [putF_replay] at h
  have hc := putF_came M l
  rcases came_inv _ isMap_empty (fun t ht => by obtain ⟨b, _, e⟩ := hc t ht; exact ⟨b, e⟩) id h with h1 | ⟨b, h1, h2⟩
  · simp [hasC, Maps.has] at h1
  · obtain ⟨b', hb', e⟩ := hc _ h1
    obtain rfl := came_inj e
    exact ⟨b, hb', h2⟩

/-- what Put leaves -/
theorem bsPut (hP : ∀ b, P b → b.size ≤ 200) (w : World) (h : BS P room fz a B D S seg m tot cnt lst M al w) (ra : Option Addr) (cap : Nat) (l : List ByteArray) (hrow : StrRow w ra l) (hl : l.length ≤ 1000) (hPl : ∀ b ∈ l, P b)
    (h1 : tot + l.length * 215 ≤ room) (h2 : cnt ≤ 100000) (h3 : lst + 1 < 30) :
    Calls Tryz.prog 19 #[.pointer (some ⟨S, 0, none⟩), .slice ra l.length cap] w fun e w' =>
      (∃ M' al', e = .returned (.int .i64 0) ∧ Fr al al' w w' ∧ BS P room fz a B D S seg m (tot + l.length * 215) (cnt + l.length) (lst + 1) M' al' w' ∧ (∀ id, hasC M id = true → hasC M' id = true) ∧ (∀ b ∈ l, hasC M' (idS b) = true) ∧
        (∀ id, hasC M' id = true → hasC M id = true ∨ ∃ b ∈ l, idS b = id)) ∨
      (fz = true ∧ ∃ al', e = .returned (.int .i64 10) ∧ Fr al al' w w' ∧ Gone P room a B D (fun id => hasC M id = true) al' w') := by
  obtain ⟨s, bl, N, va, vc, sg, rfl, hst, hli, ht, hN, hla, hsl⟩ := h
  have hlen := hli.len
  refine (put_any w hst (by rw [List.length_map]; omega) (by omega) ra cap l hrow hl (fun b hb => hP b (hPl b hb)) (by omega)).mono ?_
  rintro e w' ⟨al', rfl, hf, hok, hbad⟩
  rcases put_inv (seg := seg) hP hli l hPl (by omega) with ⟨e0, sg', e1, e2, e3, e4, hnx⟩ | ⟨hz, e0, ho, sgb, hc, hall⟩
  · obtain ⟨M', N', bl', va', vc', hN', hM, rfl, hst'⟩ := hok e0
    rw [e1] at hst'
    obtain ⟨g1, g2, g3⟩ := hnx M' hM (hst'.map.tidy strKeyed) (by omega) (by omega)
    refine .inl ⟨M', _, by rw [e0], hf, ⟨_, bl', N', va', vc', sg', rfl, hst', g1, by omega, by omega, by omega, by omega⟩, g2, g3, fun id hid => ?_⟩
    rw [merged_has hM] at hid
    rcases Bool.or_eq_true _ _ |>.mp hid with h | h
    · exact .inl h
    · exact .inr (putF_inv M l id h)
  · obtain ⟨bl', hb', hsw⟩ := ended_sw (hbad (by rw [e0]; decide))
    exact .inr ⟨hz, al', by rw [e0], hf, _, bl', sgb, [], hb', hsw, ho, hc, hall⟩

/-- what Delete leaves -/
theorem bsDel (hP : ∀ b, P b → b.size ≤ 200) (w : World) (h : BS P room fz a B D S seg m tot cnt lst M al w) (x : ByteArray)
    (h1 : tot + 100 ≤ room) (h3 : lst + 1 < 30) :
    Calls Tryz.prog 21 #[.pointer (some ⟨S, 0, none⟩), .string (idS x)] w fun e w' =>
      (hasC M (idS x) = false ∧ e = .returned (.int .i64 7) ∧ Below w.heap.size w w') ∨
      (hasC M (idS x) = true ∧ ∃ al', e = .returned (.int .i64 0) ∧ Fr al al' w w' ∧ BS P room fz a B D S seg m (tot + 100) cnt (lst + 1) (M.del (kL (idS x))) al' w') ∨
      (fz = true ∧ ∃ al', e = .returned (.int .i64 10) ∧ Fr al al' w w' ∧ Gone P room a B D (fun id => hasC M id = true ∧ id ≠ idS x) al' w') := by
  obtain ⟨s, bl, N, va, vc, sg, rfl, hst, hli, ht, hN, hla, hsl⟩ := h
  have hlen := hli.len
  cases hh : hasC M (idS x)
  · refine (del_none w hst (idS x) (by rw [idS_size]; omega) hh).mono ?_
    rintro e w' ⟨rfl, hb⟩
    exact .inl ⟨rfl, rfl, hb⟩
  · refine (del_some w hst (by rw [List.length_map]; omega) (by omega) (idS x) (by rw [idS_size]; omega) hh).mono ?_
    rintro e w' ⟨al', rfl, hf, hok, hbad⟩
    obtain ⟨sg', e1, e2, e3, e4, hc⟩ := del_inv (seg := seg) hP hli x (by omega)
    rcases hc with ⟨s', e0, hnx⟩ | ⟨hz, s', sgb, e0, ho, hc, hall⟩
    · rw [e0] at hok ⊢
      obtain ⟨bl', va', vc', rfl, hst'⟩ := hok rfl
      rw [e1] at hst'
      exact .inr (.inl ⟨rfl, _, rfl, hf, _, bl', N, va', vc', sg', rfl, hst', hnx (by omega) (by omega), by omega, hN, by omega, by omega⟩)
    · rw [e0] at hbad ⊢
      obtain ⟨bl', hb', hsw⟩ := ended_sw (hbad (show (10 : Int) ≠ 0 by decide))
      exact .inr (.inr ⟨hz, al', rfl, hf, _, bl', sgb, [], hb', hsw, ho, hc, fun js id hid => hall js id hid.1 hid.2⟩)

theorem BS.msize {w : World} (h : BS P room fz a B D S seg m tot cnt lst M al w) : Maps.size M ≤ cnt := by
  obtain ⟨s, bl, N, va, vc, sg, rfl, hst, hli, ht, hN, hla, hsl⟩ := h
  have := hst.map.size_le
  omega
/-- what Compact leaves -/
theorem bsComp (hP : ∀ b, P b → b.size ≤ 200) (w : World) (h : BS P room fz a B D S seg m tot cnt lst M al w) (k : Nat) (hk : Maps.size M ≤ k)
    (h1 : tot + k * 215 ≤ room) (h2 : cnt ≤ 1000) (h3 : lst + 1 < 30) :
    Calls Tryz.prog 24 #[.pointer (some ⟨S, 0, none⟩)] w fun e w' =>
      (∃ al', e = .returned (.int .i64 0) ∧ Fr al al' w w' ∧ BS P room fz a B D S seg m (k * 215) cnt (lst + 1) M al' w' ∧ ∃ s bl N va vc z, ST a B D s bl S seg m N M va vc [z] false false w') ∨
      (fz = true ∧ ∃ al', e = .returned (.int .i64 10) ∧ Fr al al' w w' ∧ Gone P room a B D (fun id => hasC M id = true) al' w') := by
  obtain ⟨s, bl, N, va, vc, sg, rfl, hst, hli, ht, hN, hla, hsl⟩ := h
  have hlen := hli.len
  refine (compact_any w hst (by rw [List.length_map]; omega) (by omega) (fun z hz => by
    obtain ⟨p, hp, rfl⟩ := List.mem_map.1 hz
    exact le_last hli.rises p hp) (by omega) (fun id hid => hP _ (strAt_mok hli.mok hid).1)).mono ?_
  rintro e w' ⟨L, hL, al', rfl, hf, hok, hbad⟩
  have hLl : L.length ≤ k := by rw [hL.len]; exact hk
  have hmul : L.length * 215 ≤ k * 215 := Nat.mul_le_mul_right _ hLl
  rcases comp_inv hP hli hL (by omega) (by omega) with ⟨s', e0, g1, g2⟩ | ⟨hz, s', sgb, ex, e0, ho, hc, hall⟩
  · rw [e0] at hok ⊢
    obtain ⟨bl', va', vc', rfl, hst'⟩ := hok rfl
    exact .inl ⟨_, rfl, hf, ⟨_, bl', N, va', vc', [(lastN (sg.map (·.1)) + 1, compT M L)], rfl, hst', g1, by omega, hN, by simp [lastN] at hla ⊢; omega, by simp⟩, _, _, _, _, _, _, hst'⟩
  · rw [e0] at hbad ⊢
    obtain ⟨bl', hb', hsw⟩ := ended_sw (hbad (show (10 : Int) ≠ 0 by decide))
    exact .inr ⟨hz, al', rfl, hf, _, bl', sgb, ex, hb', hsw, ho, hc, hall⟩

theorem bsGet (w : World) (h : BS P room fz a B D S seg m tot cnt lst M al w) (id : ByteArray) (hid : id.size ≤ maxLen) :
    Calls Tryz.prog 27 #[.pointer (some ⟨S, 0, none⟩), .string id] w fun e w' => e = .returned (.tuple #[.string (getS M id).1, .int .i64 (getS M id).2]) ∧ Below w.heap.size w w' := by
  obtain ⟨s, bl, N, va, vc, sg, rfl, hst, _⟩ := h
  exact get_any w hst id hid
theorem bsHas (w : World) (h : BS P room fz a B D S seg m tot cnt lst M al w) (id : ByteArray) (hid : id.size ≤ maxLen) :
    Calls Tryz.prog 46 #[.pointer (some ⟨S, 0, none⟩), .string id] w fun e w' => e = .returned (.bool (hasC M id)) ∧ Below w.heap.size w w' := by
  obtain ⟨s, bl, N, va, vc, sg, rfl, hst, _⟩ := h
  exact has_any w hst id hid
theorem bsIds (w : World) (h : BS P room fz a B D S seg m tot cnt lst M al w) (hc : cnt ≤ 1000000) :
    Calls Tryz.prog 45 #[.pointer (some ⟨S, 0, none⟩)] w fun e w' => ∃ ra cap, e = .returned (.slice ra (Maps.size M) cap) ∧ Below w.heap.size w w' := by
  obtain ⟨s, bl, N, va, vc, sg, rfl, hst, hli, ht, hN, _⟩ := h
  refine (ids_any w hst (by omega)).mono ?_
  rintro e w' ⟨v, L, rfl, hown, hL, hb⟩
  obtain ⟨ra, cap, rfl, _⟩ := ownS_from hown
  exact ⟨ra, cap, by rw [hL.len], hb⟩
theorem bsScrub (hP : ∀ b, P b → b.size ≤ 200) (w : World) (h : BS P room fz a B D S seg m tot cnt lst M al w) (hc : cnt ≤ 1000) (hne : ∃ id, hasC M id = true) :
    Calls Tryz.prog 48 #[.pointer (some ⟨S, 0, none⟩)] w fun e w' => ∃ ad cap, e = .returned (.slice ad 0 cap) ∧ Below w.heap.size w w' := by
  obtain ⟨s, bl, N, va, vc, sg, rfl, hst, hli, ht, hN, _⟩ := h
  exact scrub_any w hst (by omega) (fun id hid => ⟨(strAt_mok hli.mok hid).2, by have := hP _ (strAt_mok hli.mok hid).1; omega⟩) hne
theorem BS.str {w : World} (h : BS P room fz a B D S seg m tot cnt lst M al w) (hI : Inj P) {x : ByteArray} (hx : P x) (hh : hasC M (idS x) = true) : strAt M (idS x) = x := by
  obtain ⟨s, bl, N, va, vc, sg, rfl, hst, hli, ht, hN, _⟩ := h
  obtain ⟨h1, h2⟩ := strAt_mok hli.mok hh
  exact hI _ _ h1 hx h2
theorem del_has (M : DU) (b id : ByteArray) : hasC (M.del (kL b)) id = (hasC M id && !decide (b = id)) := by
  rw [← hear_went]; exact has_went M b id

theorem two_keys {α : Type} {u v : α} (huv : u ≠ v) {l : List α} (hn : l.Pairwise (· ≠ ·)) (hall : ∀ x ∈ l, x = u ∨ x = v) (hu : u ∈ l) (hv : v ∈ l) : l.length = 2 := by
  match l, hn, hall, hu, hv with
  | [], _, _, hu, _ => cases hu
  | [x], _, _, hu, hv => simp at hu hv; exact absurd (hu.trans hv.symm) huv
  | [x, y], _, _, _, _ => rfl
  | x :: y :: z :: r, hn, hall, _, _ =>
    exfalso
    simp only [List.pairwise_cons, List.mem_cons] at hn
    obtain ⟨h1, h2, _⟩ := hn
    have hxy := h1 y (.inl rfl)
    have hxz := h1 z (.inr (.inl rfl))
    have hyz := h2 z (.inl rfl)
    rcases hall x (by simp) with e1 | e1 <;> rcases hall y (by simp) with e2 | e2 <;> rcases hall z (by simp) with e3 | e3 <;> first | exact hxy (e1.trans e2.symm) | exact hxz (e1.trans e3.symm) | exact hyz (e2.trans e3.symm)
theorem size_two {w : World} {m N : Nat} {M : DU} (h : OM w m N M) {x y : ByteArray} (hxy : x ≠ y) (hM : ∀ id, hasC M id = true ↔ (id = x ∨ id = y)) : Maps.size M = 2 := by
  obtain ⟨es0, e0, hp⟩ := h.tidy strKeyed
  obtain ⟨es, rfl, hko⟩ := h.keysOf
  obtain rfl : es = es0 := by injection e0
  have hk : ∀ p ∈ es, ∃ x, p.1 = kL x := fun p hp => by obtain ⟨v, hv⟩ := hko p hp; obtain ⟨x, _, hx, _⟩ := Maps.keyOf_str Tryz.underlying9 hv; exact ⟨⟨x.toArray⟩, by rw [hx]; simp [kL]⟩
  have hin : ∀ id, hasC (.map es : DU) id = true ↔ kL id ∈ es.map (·.1) := fun id => by
    unfold hasC
    rw [has_eq, List.any_eq_true, List.mem_map]
    constructor
    · rintro ⟨p, hp', hs⟩
      obtain ⟨a, ha⟩ := hk p hp'
      refine ⟨p, hp', ?_⟩
      rw [ha] at hs ⊢
      simpa [Lit.sameKey, kL] using hs
    · rintro ⟨p, hp', hs⟩
      exact ⟨p, hp', by rw [hs]; simp [Lit.sameKey, kL]⟩
  have hlen : Maps.size (.map es : DU) = (es.map (·.1)).length := by simp [Maps.size]
  rw [hlen]
  refine two_keys (u := kL x) (v := kL y) (fun e => hxy (kL_inj e)) (List.pairwise_map.2 hp) (fun k hk' => ?_) ((hin x).1 ((hM x).2 (.inl rfl))) ((hin y).1 ((hM y).2 (.inr rfl)))
  obtain ⟨p, hp', rfl⟩ := List.mem_map.1 hk'
  obtain ⟨z, hz⟩ := hk p hp'
  rw [hz] at hk' ⊢
  rcases (hM z).1 ((hin z).2 hk') with e | e
  · exact .inl (by rw [e])
  · exact .inr (by rw [e])
theorem BS.two {w : World} (h : BS P room fz a B D S seg m tot cnt lst M al w) {x y : ByteArray} (hxy : x ≠ y) (hM : ∀ id, hasC M id = true ↔ (id = x ∨ id = y)) : Maps.size M = 2 := by
  obtain ⟨s, bl, N, va, vc, sg, rfl, hst, _⟩ := h
  exact size_two hst.map hxy hM

/-- what Open finds where no error was, and power is there -/
theorem reopen (hP : ∀ b, P b → b.size ≤ 200) {s : DS} {sg : List (Nat × List ByteArray)} {M : DU} (h : LInv P room false s sg M) (hF : Fit s) (hr : room ≤ 900000) :
    ∃ gs s', OpenS s gs s' ∧ On room false (sg.map segF) s' ∧ textsOf gs = sg.flatMap (·.2) ∧ gs.map (·.1) = sg.map (·.1) ∧ tornOf gs = false ∧ (textsOf gs).length ≤ stotal (sg.map segF) := by
  have hle := le_last h.rises
  have htop := h.top
  have hlen := h.len
  have hfw : ∀ p ∈ sg, fallS ⟨(encRecs p.2).toArray⟩ = (p.2, (encRecs p.2).length) := fun p hp => by
    have := fallS_whole p.2 (fun t ht => by have := text_size hP (h.texts p hp t ht); omega) ⟨(encRecs p.2).toArray⟩ (by simp)
    unfold fallS; rw [this]; rfl
  obtain ⟨s', h1, h2⟩ := open_plain (l0 := sg.map segF) (ex := []) (gs := sg.map fun p => (p.1, ⟨(encRecs p.2).toArray⟩)) hF (by simpa using h.on) hr (by rw [List.map_map, List.map_map]; exact List.map_congr_left (fun p _ => by simp [segF])) (.inl rfl)
    (fun q hq => by obtain ⟨p, hp, rfl⟩ := List.mem_map.1 hq; exact ⟨h.pos p hp, by have := hle p hp; simp only; omega⟩)
    (fun q hq t ht => by
      obtain ⟨p, hp, rfl⟩ := List.mem_map.1 hq
      rw [hfw p hp] at ht
      have := text_size hP (h.texts p hp t ht); omega) (by rw [List.length_map]; omega)
  refine ⟨_, s', h1, h2, ?_, by rw [List.map_map]; rfl, ?_, ?_⟩
  · unfold textsOf
    rw [List.flatMap_map]
    have key : ∀ l : List (Nat × List ByteArray), (∀ p ∈ l, p ∈ sg) → l.flatMap (fun p => (fallS (⟨(encRecs p.2).toArray⟩ : ByteArray)).1) = l.flatMap (·.2) := by
      intro l
      induction l with
      | nil => intro _; rfl
      | cons p l ih =>
        intro hl
        rw [List.flatMap_cons, List.flatMap_cons, ih (fun q hq => hl q (List.mem_cons_of_mem _ hq)), hfw p (hl p (List.mem_cons_self ..))]
    exact key sg (fun p hp => hp)
  · unfold tornOf
    rw [List.getLast?_map]
    cases hg : sg.getLast? with
    | none => rfl
    | some p =>
      have hp : p ∈ sg := List.mem_of_getLast? hg
      simp only [Option.map_some]
      rw [hfw p hp]
      show decide ((encRecs p.2).length < (encRecs p.2).toArray.size) = false
      simp
  · refine Nat.le_trans (texts_sum _) (Nat.le_of_eq ?_)
    unfold stotal
    rw [List.map_map, List.map_map]
    refine congrArg List.sum (List.map_congr_left (fun p _ => ?_))
    show (encRecs p.2).toArray.size = (encRecs p.2).length
    simp

/-- Open again -/
theorem bsReopen (hP : ∀ b, P b → b.size ≤ 200) (w : World) (h : BS P room false a B D S seg m tot cnt lst M al w) (hr : room ≤ 900000) (seg' : Nat) (hs1 : 1 ≤ seg') (hs2 : seg' ≤ 1048576) :
    Calls Tryz.prog 16 #[.pointer (some ⟨D, 0, none⟩), .string blobB, .int .i64 (seg' : Int)] w fun e w' =>
      ∃ S' m' M' al', e = .returned (.tuple #[.pointer (some ⟨S', 0, none⟩), .int .i64 0]) ∧ Below B w w' ∧ BS P room false a B D S' seg' m' tot tot lst M' al' w' ∧ ∀ id, hasC M' id = hasC M id := by
  obtain ⟨s, bl, N, va, vc, sg, rfl, hst, hli, ht, hN, hla, hsl⟩ := h
  obtain ⟨gs, s', ho, hon, ht1, hn1, ht2, ht3⟩ := reopen hP hli hst.sw.disk.1 hr
  refine (open_any w hst.sw hst.sha hst.g3 seg' hs1 hs2 gs ho).mono ?_
  rintro e w' ⟨S', m', N', bl', va', vc', rfl, hS', hN', hst', hf⟩
  rw [ht1] at hN'
  rw [ht1, hn1, ht2] at hst'
  have hcnt : N' ≤ tot := by
    rw [ht1] at ht3; omega
  refine ⟨S', m', _, _, rfl, hf.below (fun k hk => (hst.sw.disk.lt k hk).1) hst.sw.size, ⟨s', bl', N', va', vc', sg, rfl, hst', ⟨hon, hli.rises, hli.pos, hli.top, hli.texts, mok_replay _ (mok_empty P) (fun t ht => by
    obtain ⟨p, hp, hm⟩ := List.mem_flatMap.1 ht
    exact hli.texts p hp t hm), fun _ => rfl, hli.len⟩, ht, hcnt, hla, hsl⟩, fun id => (hli.like id).symm⟩
end
end Go.Proofs.YtjimgncefeldbaaGreatDoor

namespace Go.Proofs.YtjimgncefeldbaaGreatDoor
open Go.RowKit Go.Sort Go.Maps

section
variable {P : ByteArray → Prop} {room : Nat} {fz : Bool} {a : Addr} {B D S seg m tot cnt lst : Nat} {M : DU} {al : List Nat}
/-- a store on a new disk -/
theorem bsFirst (P : ByteArray → Prop) (room : Nat) (w : World) (bl : List Nat) (h : SW a B D (newS room) bl w) (hT : Tab w) (g3 : 2 < B) (hr : room ≤ 900000) (seg : Nat) (hs1 : 1 ≤ seg) (hs2 : seg ≤ 1048576) :
    Calls Tryz.prog 16 #[.pointer (some ⟨D, 0, none⟩), .string blobB, .int .i64 (seg : Int)] w fun e w' =>
      ∃ S m al, e = .returned (.tuple #[.pointer (some ⟨S, 0, none⟩), .int .i64 0]) ∧ Below B w w' ∧ BS P room false a B D S seg m 0 0 0 (.map []) al w' := by
  obtain ⟨s', ho, hon⟩ := open_plain (s := newS room) (room := room) (l0 := []) (ex := []) (gs := []) h.disk.1 ⟨rfl, rfl, rfl, rfl⟩ hr rfl (.inl rfl) (fun p hp => by cases hp) (fun p hp => by cases hp) (by simp)
  refine (open_any w h hT g3 seg hs1 hs2 [] ho).mono ?_
  rintro e w' ⟨S', m', N', bl', va', vc', rfl, hS', hN', hst', hf⟩
  refine ⟨S', m', _, rfl, hf.below (fun k hk => (h.disk.lt k hk).1) h.size, s', bl', N', va', vc', [], rfl, hst', ⟨hon, by simp, by simp, by simp [lastN], by simp, mok_empty P, fun _ => rfl, by simp⟩, by simp [stotal], by simp [textsOf] at hN'; omega, by simp [lastN], by simp⟩
/-- a store's disk is given so much power -/
theorem bsFuse (w : World) (h : BS P room false a B D S seg m tot cnt lst M al w) (n : Int) (hn : 0 ≤ n) (hn2 : n ≤ 9223372036854775807) :
    Calls Tryz.prog 17 #[.pointer (some ⟨D, 0, none⟩), .int .i64 n] w fun e w' => ∃ al', e = .returned (.tuple #[]) ∧ Below B w w' ∧ BS P room true a B D S seg m tot cnt lst M al' w' := by
  obtain ⟨s, bl, N, va, vc, sg, rfl, hst, hli, h2⟩ := h
  refine (dFuse hst.sw.disk n hn2).mono ?_
  rintro e w' ⟨bl', rfl, hd, hf⟩
  refine ⟨_, rfl, hf.below (fun k hk => (hst.sw.disk.lt k hk).1) hst.sw.size, _, bl', N, va, vc, sg, rfl, hst.step hd hf, ⟨⟨hli.on.off, hli.on.room, by simp [fuseS, hn], hli.on.l⟩, hli.rises, hli.pos, hli.top, hli.texts, hli.mok, hli.like, hli.len⟩, h2⟩
theorem BS.sw {w : World} (h : BS P room false a B D S seg m tot cnt lst M al w) : ∃ s bl, SW a B D s bl w ∧ s.off = false := by
  obtain ⟨s, bl, N, va, vc, sg, rfl, hst, hli, h2⟩ := h
  exact ⟨s, bl, hst.sw, hli.on.off⟩
theorem BS.below {al' : List Nat} {w w' : World} (h : BS P room fz a B D S seg m tot cnt lst M al w) (hf : Fr al al' w w') : Below B w w' := hf.below (fun k hk => (h.lt k hk).1) h.size
end

def tA : ByteArray := ⟨#[97]⟩
def tB : ByteArray := ⟨#[98]⟩
def tC : ByteArray := ⟨#[99]⟩
theorem ids_abc : idS tA ≠ idS tB ∧ idS tA ≠ idS tC ∧ idS tB ≠ idS tC := by decide +kernel
def PA (b : ByteArray) : Prop := b = tA ∨ b = tB ∨ b = tC
theorem pa_size (b : ByteArray) (h : PA b) : b.size ≤ 200 := by rcases h with rfl | rfl | rfl <;> decide
theorem pa_inj : Inj PA := by
  obtain ⟨h1, h2, h3⟩ := ids_abc
  rintro a b (rfl | rfl | rfl) (rfl | rfl | rfl) h <;> first | rfl | exact absurd h h1 | exact absurd h.symm h1 | exact absurd h h2 | exact absurd h.symm h2 | exact absurd h h3 | exact absurd h.symm h3
theorem strRow_three (w : World) (s t u : ByteArray) : StrRow (w.alloc (.cells #[.string s, .string t, .string u] 9)) (some ⟨w.heap.size, 0, none⟩) [s, t, u] :=
  .inr ⟨w.heap.size, 0, rfl, by simp, fun j hj => by
    match j, hj with
    | 0, _ => rw [Joins.cell_of_block (heap_alloc_new w _)]; rfl
    | 1, _ => rw [Joins.cell_of_block (heap_alloc_new w _)]; rfl
    | 2, _ => rw [Joins.cell_of_block (heap_alloc_new w _)]; rfl⟩

theorem awk_facts {M1 M2 : DU} (k1 : ∀ b ∈ [tA, tB, tA], hasC M1 (idS b) = true) (k2 : ∀ id, hasC M1 id = true → hasC (.map [] : DU) id = true ∨ ∃ b ∈ [tA, tB, tA], idS b = id) (k3 : ∀ id, hasC M1 id = true → hasC M2 id = true) (k4 : ∀ b ∈ [tC], hasC M2 (idS b) = true)
    (k5 : ∀ id, hasC M2 id = true → hasC M1 id = true ∨ ∃ b ∈ [tC], idS b = id) :
    hasC M2 (idS tA) = true ∧ hasC (M2.del (kL (idS tA))) (idS tA) = false ∧ ∀ id, hasC (M2.del (kL (idS tA))) id = true ↔ (id = idS tB ∨ id = idS tC) := by
  obtain ⟨i1, i2, i3⟩ := ids_abc
  refine ⟨k3 _ (k1 tA (by simp)), by rw [del_has]; simp, fun id => ?_⟩
  rw [del_has]
  constructor
  · intro h
    obtain ⟨h1, h2⟩ := Bool.and_eq_true _ _ |>.mp h
    have hne : idS tA ≠ id := by simpa using h2
    rcases k5 id h1 with h3 | ⟨b, hb, e⟩
    · rcases k2 id h3 with h4 | ⟨b, hb, e⟩
      · simp [hasC, Maps.has] at h4
      · simp only [List.mem_cons, List.not_mem_nil, or_false] at hb
        rcases hb with rfl | rfl | rfl
        · exact absurd e hne
        · exact .inl e.symm
        · exact absurd e hne
    · simp only [List.mem_cons, List.not_mem_nil, or_false] at hb
      subst hb
      exact .inr e.symm
  · rintro (rfl | rfl)
    · rw [k3 _ (k1 tB (by simp))]; simpa using i1
    · rw [k4 tC (by simp)]; simpa using i2

set_option maxHeartbeats 8000000 in
set_option maxRecDepth 100000 in
theorem blobAwake (a : Addr) (w : World) (hp : Pow a w) (ht : Pows w) (hT : Tab w) (g1 : 0 < w.heap.size) (g2 : 5 < w.heap.size) (g3 : 2 < w.heap.size) :
    Calls Tryz.prog 14 #[] w fun e w' => e = .returned (.bool true) ∧ Below w.heap.size w w' := by
  have HP := Lib.hid (And.intro hp (And.intro ht (And.intro g1 (And.intro g2 (And.intro hT g3)))))
  clear hp ht g1 g2 hT g3
  obtain ⟨i1, i2, i3⟩ := ids_abc
  obtain ⟨ia, hia⟩ : ∃ x, idS tA = x := ⟨_, rfl⟩
  obtain ⟨ib, hib⟩ : ∃ x, idS tB = x := ⟨_, rfl⟩
  obtain ⟨ic, hic⟩ : ∃ x, idS tC = x := ⟨_, rfl⟩
  have hsa : ia.size ≤ maxLen := by rw [← hia, idS_size]; decide
  have hsb : ib.size ≤ maxLen := by rw [← hib, idS_size]; decide
  have HRA := Lib.hid (fun W => idR tA W (by decide))
  have HRB := Lib.hid (fun W => idR tB W (by decide))
  rw [hia] at HRA i1 i2
  rw [hib] at HRB i1 i3
  rw [hic] at i2 i3
  have HI := Lib.hid (And.intro i1 (And.intro i2 (And.intro i3 (And.intro hia (And.intro hib hic)))))
  clear i1 i2 i3 hia hib hic
  go_enter Tryz.func14, Tryz.ntmps14
  go_wp2_with fail
  refine (dNew 2000 w (by omega)).mono ?_
  rintro e w1 ⟨bl, rfl, hm⟩
  have HS1 := Lib.hid (show SW a w.heap.size w.heap.size (newS 2000) bl w1 ∧ Below w.heap.size w w1 ∧ Tab w1 from ⟨⟨hm.1, HP.out.1.below hm.2 HP.out.2.2.1, HP.out.2.1.kept hm.2 HP.out.2.2.2.1, HP.out.2.2.1, HP.out.2.2.2.1⟩, hm.2, HP.out.2.2.2.2.1.kept hm.2 HP.out.2.2.2.2.2⟩)
  clear hm
  go_wp2_with fail
  refine (bsFirst PA 2000 w1 bl HS1.out.1 HS1.out.2.2 HP.out.2.2.2.2.2 (by omega) 90 (by omega) (by omega)).mono ?_
  rintro e w2 ⟨S, m, al2, rfl, hb2, hbs⟩
  have H2 := Lib.hid (And.intro hbs (HS1.out.2.1.trans hb2))
  clear hbs hb2
  obtain ⟨s2, bl2, hsw2, ho2⟩ := H2.out.1.sw
  go_wp2_with fail
  refine (open_zero w2 hsw2 ho2).mono ?_
  rintro e w3 ⟨rfl, rfl⟩
  clear hsw2 ho2
  go_wp2_with fail
  refine (HRA.out _).mono ?_
  rintro e w3 ⟨rfl, hb3⟩
  have H3 := Lib.hid (And.intro (H2.out.1.keep hb3) (H2.out.2.trans (hb3.mono H2.out.2.size)))
  clear hb3
  go_wp2_with fail
  refine (HRB.out _).mono ?_
  rintro e w4 ⟨rfl, hb4⟩
  have H4 := Lib.hid (And.intro (H3.out.1.keep hb4) (H3.out.2.trans (hb4.mono H3.out.2.size)))
  clear hb4
  have hba5 := (Below.refl w4.heap.size w4).alloc (Nat.le_refl _) (.cells #[.string ⟨#[97]⟩, .string ⟨#[98]⟩, .string ⟨#[97]⟩] 9)
  have HPU5 := Lib.hid (bsPut pa_size _ (H4.out.1.keep hba5) (some ⟨w4.heap.size, 0, none⟩) 3 [tA, tB, tA] (strRow_three w4 tA tB tA) (by decide) (fun b hb => by simp at hb; exact hb.elim .inl fun h => h.elim (fun h => .inr (.inl h)) .inl) (by decide) (by omega) (by omega))
  have HB5 := Lib.hid (H4.out.2.trans (hba5.mono H4.out.2.size))
  clear hba5
  go_wp2_with fail
  refine HPU5.out.mono ?_
  rintro e w5 (⟨M1, al5, rfl, hf5, hbs5, -, k1, k2⟩ | ⟨hno, -⟩)
  case inr => cases hno
  have H5 := Lib.hid (And.intro hbs5 (HB5.out.trans (((H4.out.1.keep ((Below.refl w4.heap.size w4).alloc (Nat.le_refl _) (.cells #[.string ⟨#[97]⟩, .string ⟨#[98]⟩, .string ⟨#[97]⟩] 9)))).below hf5)))
  have K1 := Lib.hid (And.intro k1 k2)
  clear hbs5 hf5 HPU5 HB5 k1 k2
  have hba6 := (Below.refl w5.heap.size w5).alloc (Nat.le_refl _) (.cells #[.string ⟨#[99]⟩] 9)
  have HPU6 := Lib.hid (bsPut pa_size _ (H5.out.1.keep hba6) (some ⟨w5.heap.size, 0, none⟩) 1 [tC] (strRow_one w5 tC) (by decide) (fun b hb => by simp at hb; exact .inr (.inr hb)) (by decide) (by decide) (by omega))
  have HB6 := Lib.hid (H5.out.2.trans (hba6.mono H5.out.2.size))
  clear hba6
  go_wp2_with fail
  refine HPU6.out.mono ?_
  rintro e w6 (⟨M2, al6, rfl, hf6, hbs6, k3, k4, k5⟩ | ⟨hno, -⟩)
  case inr => cases hno
  have H6 := Lib.hid (And.intro hbs6 (HB6.out.trans ((H5.out.1.keep ((Below.refl w5.heap.size w5).alloc (Nat.le_refl _) (.cells #[.string ⟨#[99]⟩] 9))).below hf6)))
  have hk := awk_facts K1.out.1 K1.out.2 k3 k4 k5
  have hd7 := bsDel pa_size w6 H6.out.1 tA (by decide) (by omega)
  rw [HI.out.2.2.2.1, HI.out.2.2.2.2.1, HI.out.2.2.2.2.2] at hk
  rw [HI.out.2.2.2.1] at hd7
  have K2 := Lib.hid hk
  have HD7 := Lib.hid hd7
  clear hbs6 hf6 HPU6 HB6 k3 k4 k5 K1 hk hd7
  go_wp2_with fail
  refine HD7.out.mono ?_
  rintro e w7 (⟨hno, -⟩ | ⟨-, al7, rfl, hf7, hbs7⟩ | ⟨hno, -⟩)
  case inl => rw [K2.out.1] at hno; cases hno
  case inr.inr => cases hno
  have H7 := Lib.hid (And.intro hbs7 (H6.out.2.trans (H6.out.1.below hf7)))
  have hd8 := bsDel pa_size w7 hbs7 tA (by decide) (by omega)
  rw [HI.out.2.2.2.1] at hd8
  have HD8 := Lib.hid hd8
  clear hbs7 hf7 HD7 hd8
  go_wp2_with fail
  refine HD8.out.mono ?_
  rintro e w8 (⟨-, rfl, hb8⟩ | ⟨hno, -⟩ | ⟨hno, -⟩)
  case inr.inl => rw [K2.out.2.1] at hno; cases hno
  case inr.inr => cases hno
  have H8 := Lib.hid (And.intro (H7.out.1.keep hb8) (H7.out.2.trans (hb8.mono H7.out.2.size)))
  have hg9 := bsGet w8 H8.out.1 ib hsb
  have hgs : getS (M2.del (kL ia)) ib = (tB, 0) := by
    have hh := (K2.out.2.2 ib).2 (.inl rfl)
    unfold getS
    rw [if_pos hh]
    have := H8.out.1.str pa_inj (x := tB) (.inr (.inl rfl)) (by rw [HI.out.2.2.2.2.1]; exact hh)
    rw [HI.out.2.2.2.2.1] at this
    rw [this]
  rw [hgs] at hg9
  have HG9 := Lib.hid (show Calls Tryz.prog 27 #[.pointer (some ⟨S, 0, none⟩), .string ib] w8 fun e w' => e = .returned (.tuple #[.string ⟨#[98]⟩, .int .i64 0]) ∧ Below w8.heap.size w8 w' from hg9)
  clear hb8 HD8 hg9 hgs
  go_wp2_with fail
  refine HG9.out.mono ?_
  rintro e w9 ⟨rfl, hb9⟩
  have H9 := Lib.hid (And.intro (H8.out.1.keep hb9) (H8.out.2.trans (hb9.mono H8.out.2.size)))
  clear hb9 HG9
  go_wp2_with fail
  refine (bsReopen pa_size w9 H9.out.1 (by omega) 90 (by omega) (by omega)).mono ?_
  rintro e w10 ⟨S', m', M', al10, rfl, hb10, hbs10, hsame⟩
  have H10 := Lib.hid (And.intro hbs10 (H9.out.2.trans hb10))
  have hM' : ∀ id, hasC M' id = true ↔ (id = ib ∨ id = ic) := fun id => by rw [hsame id]; exact K2.out.2.2 id
  have htwo := hbs10.two HI.out.2.2.1 hM'
  have K3 := Lib.hid (show hasC M' ia = false ∧ hasC M' ib = true ∧ Maps.size M' = 2 from ⟨by rw [hsame]; exact K2.out.2.1, (hM' ib).2 (.inl rfl), htwo⟩)
  have hi11 := bsIds w10 hbs10 (by decide)
  rw [htwo] at hi11
  have HI11 := Lib.hid hi11
  clear hbs10 hb10 hsame hM' htwo hi11 K2
  go_wp2_with fail
  refine HI11.out.mono ?_
  rintro e w11 ⟨ra11, c11, rfl, hb11⟩
  have H11 := Lib.hid (And.intro (H10.out.1.keep hb11) (H10.out.2.trans (hb11.mono H10.out.2.size)))
  clear hb11 HI11
  go_wp2_with fail
  refine (bsComp pa_size w11 H11.out.1 2 (Nat.le_of_eq K3.out.2.2) (by decide) (by decide) (by omega)).mono ?_
  rintro e w12 (⟨al12, rfl, hf12, hbs12, s12, bl12, N12, va12, vc12, z12, hst12⟩ | ⟨hno, -⟩)
  case inr => cases hno
  have H12 := Lib.hid (And.intro hbs12 (And.intro (H11.out.2.trans (H11.out.1.below hf12)) hst12))
  clear hbs12 hf12 hst12
  have hh13 := bsHas w12 H12.out.1 ia hsa
  rw [K3.out.1] at hh13
  have HH13 := Lib.hid hh13
  clear hh13
  go_wp2_with fail
  refine HH13.out.mono ?_
  rintro e w13 ⟨rfl, hb13⟩
  have H13 := Lib.hid (And.intro (H12.out.1.keep hb13) (And.intro (H12.out.2.1.trans (hb13.mono H12.out.2.1.size)) (H12.out.2.2.keep hb13)))
  have hh14 := bsHas w13 H13.out.1 ib hsb
  rw [K3.out.2.1] at hh14
  have HH14 := Lib.hid hh14
  clear hb13 HH13 hh14
  go_wp2_with fail
  refine HH14.out.mono ?_
  rintro e w14 ⟨rfl, hb14⟩
  have H14 := Lib.hid (And.intro (H13.out.1.keep hb14) (And.intro (H13.out.2.1.trans (hb14.mono H13.out.2.1.size)) (H13.out.2.2.keep hb14)))
  clear hb14 HH14
  go_wp2_with fail
  refine (segs_any w14 H14.out.2.2).mono ?_
  rintro e w15 ⟨rfl, rfl⟩
  go_wp2_with fail
  refine (bsScrub pa_size w14 H14.out.1 (by decide) ⟨ib, K3.out.2.1⟩).mono ?_
  rintro e w16 ⟨ad, c16, rfl, hb16⟩
  have HB16 := Lib.hid (H14.out.2.1.trans (hb16.mono H14.out.2.1.size))
  clear hb16
  go_wp2_with fail
  go_ret
  exact ⟨rfl, HB16.out⟩
end Go.Proofs.YtjimgncefeldbaaGreatDoor
