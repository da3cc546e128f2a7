/-
  Plain facts: what a store's disk is behind a crash, and what Open finds there.
  blob: Put.
  blob: Put's walk.
-/
import Derived.Test.YtjimgncefeldbaaGreatDoorGDiskF
import Derived.Test.YtjimgncefeldbaaGreatDoorGBlobD
namespace Go.Proofs.YtjimgncefeldbaaGreatDoor
open Go.Lib Go.RowKit Go.Maps

theorem gen_lt {a b : Nat} (h : a < b) (hb : b < 32) : nmLt (genN blobB a) (genN blobB b) := by unfold nmLt; rw [gen_cmpN blobB (by omega) hb]; exact sgn_lt_iff.2 h
theorem gen_lt_new {a : Nat} (ha : a < 32) : nmLt (genN blobB a) (newN blobB) := by unfold nmLt; rw [gen_newN blobB ha]; omega

/-- a segment all of whose records are sure -/
def segF (p : Nat × List ByteArray) : FS := ⟨genN blobB p.1, encRecs p.2, (encRecs p.2).length⟩
/-- a segment some of whose records are sure, and others behind them perhaps not -/
def tripF (p : Nat × List ByteArray × List ByteArray) : FS := ⟨genN blobB p.1, encRecs (p.2.1 ++ p.2.2), (encRecs p.2.1).length⟩
def trip (p : Nat × List ByteArray) : Nat × List ByteArray × List ByteArray := (p.1, p.2, [])
theorem trip_seg (p : Nat × List ByteArray) : tripF (trip p) = segF p := by simp [tripF, trip, segF]
theorem trips_seg (sg : List (Nat × List ByteArray)) : (sg.map trip).map tripF = sg.map segF := by rw [List.map_map]; exact List.map_congr_left (fun p _ => trip_seg p)
/-- of those that are perhaps not sure so many stay -/
def cutT (js : Nat × List ByteArray × List ByteArray → Nat) (p : Nat × List ByteArray × List ByteArray) : List ByteArray := p.2.1 ++ p.2.2.take (js p)
theorem cut_trip (js) (sg : List (Nat × List ByteArray)) : (sg.map trip).flatMap (cutT js) = sg.flatMap (·.2) := by
  induction sg with
  | nil => rfl
  | cons p sg ih => rw [List.map_cons, List.flatMap_cons, List.flatMap_cons, ih]; simp [cutT, trip]

theorem fall_len (s : ByteArray) : (fallS s).1.length ≤ s.size := by
  have key : ∀ (k : Nat) (s : ByteArray), (fall k s).1.length ≤ s.size := by
    intro k
    induction k with
    | zero => intro s; simp [fall]
    | succ k ih =>
      intro s
      by_cases h : (frd s).2.2 = 0
      · rw [fall_ok h]
        have h1 := ih (s.extract (frd s).2.1 s.size)
        have h2 := frd_small h
        rw [ext_size] at h1
        simp only [List.length_cons]; omega
      · rw [fall_err h]; simp
  exact key _ s

theorem texts_sum (gs : List (Nat × ByteArray)) : (textsOf gs).length ≤ (gs.map fun p => p.2.size).sum := by
  unfold textsOf
  induction gs with
  | nil => simp
  | cons p gs ih =>
    rw [List.flatMap_cons, List.length_append, List.map_cons, List.sum_cons]
    have := fall_len p.2
    omega

/-- what Open finds where the files are these segments, and perhaps one that was being made -/
theorem open_plain {s : DS} {room : Nat} {l0 ex : List FS} {gs : List (Nat × ByteArray)} (hF : Fit s) (hon : On room false (l0 ++ ex) s) (hr : room ≤ 900000) (hl : l0.map (fun f => (f.name, f.body)) = gs.map (fun p => (genN blobB p.1, p.2.data.toList)))
    (hex : ex = [] ∨ ∃ b k, ex = [⟨newN blobB, b, k⟩]) (hn : ∀ p ∈ gs, 1 ≤ p.1 ∧ p.1 < 32) (hs : ∀ p ∈ gs, ∀ t ∈ (fallS p.2).1, t.size ≤ 5000) (hlen : gs.length ≤ 900) :
    ∃ s', OpenS s gs s' ∧ On room false l0 s' := by
  have hnames : l0.map (·.name) = gs.map fun p => genN blobB p.1 := by
    have := congrArg (List.map Prod.fst) hl
    rw [List.map_map, List.map_map] at this
    exact this
  have hmem : ∀ p ∈ gs, ∃ f ∈ l0, f.name = genN blobB p.1 ∧ f.body = p.2.data.toList := fun p hp => by
    have : (genN blobB p.1, p.2.data.toList) ∈ l0.map (fun f => (f.name, f.body)) := by rw [hl]; exact List.mem_map.2 ⟨p, hp, rfl⟩
    obtain ⟨f, hf, e⟩ := List.mem_map.1 this
    exact ⟨f, hf, (Prod.mk.inj e).1, (Prod.mk.inj e).2⟩
  have hgl : ∀ f ∈ l0, ∃ g, 1 ≤ g ∧ g < 32 ∧ f.name = genN blobB g := fun f hf => by
    have : f.name ∈ l0.map (·.name) := List.mem_map.2 ⟨f, hf, rfl⟩
    rw [hnames] at this
    obtain ⟨p, hp, e⟩ := List.mem_map.1 this
    exact ⟨p.1, (hn p hp).1, (hn p hp).2, e.symm⟩
  have hexn : ∀ f ∈ ex, f.name = newN blobB := fun f hf => by
    rcases hex with rfl | ⟨b, k, rfl⟩
    · simp at hf
    · simp at hf; rw [hf]
  have hlist : listD s (dashN blobB) = l0.map (·.name) ++ ex.map (·.name) := by
    unfold listD
    rw [if_neg (by rw [hon.off]; simp), hon.l, List.map_append]
    apply List.filter_eq_self.2
    intro n hnm
    rcases List.mem_append.1 hnm with hnm | hnm
    · obtain ⟨f, hf, rfl⟩ := List.mem_map.1 hnm
      obtain ⟨g, _, _, e⟩ := hgl f hf
      rw [e]; exact gen_preN blobB g
    · obtain ⟨f, hf, rfl⟩ := List.mem_map.1 hnm
      rw [hexn f hf]; exact new_preN blobB
  have hfilt : ((listD s (dashN blobB)).filter fun n => decide (n ≠ newN blobB)) = gs.map fun p => genN blobB p.1 := by
    rw [hlist, List.filter_append, hnames, List.filter_eq_self.2 (fun n hnm => by
      obtain ⟨p, hp, rfl⟩ := List.mem_map.1 hnm
      simpa using genN_ne_new blobB (hn p hp).2), List.filter_eq_nil_iff.2 (fun n hnm => by
      obtain ⟨f, hf, rfl⟩ := List.mem_map.1 hnm
      rw [hexn f hf]; simp), List.append_nil]
  have hrd : ∀ p ∈ gs, readD s (genN blobB p.1) = (p.2, 0) ∧ p.2.size ≤ room := fun p hp => by
    obtain ⟨f, hf, e1, e2⟩ := hmem p hp
    have hfs : f ∈ s.l := by rw [hon.l]; exact List.mem_append_left _ hf
    have := read_off hF hon.off hfs
    rw [e1, e2] at this
    refine ⟨by rw [this, ba_of], ?_⟩
    have h1 := body_le hfs
    have h2 := hF.total
    rw [e2, ba_len] at h1
    rw [hon.room] at h2
    omega
  have hcount : (textsOf gs).length ≤ stotal l0 := by
    have e : stotal l0 = (gs.map fun p => p.2.size).sum := by
      have := congrArg (List.map (fun q : ByteArray × List UInt8 => q.2.length)) hl
      rw [List.map_map, List.map_map] at this
      unfold stotal
      have e1 : l0.map (fun f => f.body.length) = l0.map ((fun q : ByteArray × List UInt8 => q.2.length) ∘ fun f => (f.name, f.body)) := rfl
      rw [e1, this]
      exact congrArg List.sum (List.map_congr_left (fun p _ => ba_len p.2))
    rw [e]
    exact texts_sum gs
  have htot : stotal l0 ≤ room := by
    have := hF.total
    rw [hon.l, stotal_app, hon.room] at this
    omega
  have hA : ∀ a ∈ l0, nmLt a.name (newN blobB) := fun a ha => by obtain ⟨g, _, h2, e⟩ := hgl a ha; rw [e]; exact gen_lt_new h2
  have hdrop : ∃ s', dropS s (newN blobB) = (0, s') ∧ On room false l0 s' := by
    rcases hex with rfl | ⟨b, k, rfl⟩
    · have h0 : On room false (l0 ++ []) s := hon
      have := remove_none (n := newN blobB) h0 hA (fun b hb => by cases hb)
      refine ⟨s, ?_, by simpa using hon⟩
      unfold dropS
      rw [this, if_pos rfl]
    · rcases remove_at (f := ⟨newN blobB, b, k⟩) (B := []) hon hA with ⟨s', h1, h2⟩ | ⟨h1, _⟩
      · refine ⟨s', ?_, by simpa using h2⟩
        unfold dropS
        have h1' : removeS s (newN blobB) = (0, s') := h1
        rw [h1', if_neg (show ¬ ((0 : Int) = 7) by decide)]
      · cases h1
  obtain ⟨s', hd, hon'⟩ := hdrop
  have hll : l0.length = gs.length := by have := congrArg List.length hnames; simpa using this
  refine ⟨s', ⟨hon.off, ?_, ?_, hfilt, fun p hp => (hn p hp).2, fun p hp => (hrd p hp).1, fun p hp => by have := (hrd p hp).2; omega, hs, by omega, hlen, hd⟩, hon'⟩
  · rw [hlist, List.length_append, List.length_map, List.length_map, hll]
    rcases hex with rfl | ⟨b, k, rfl⟩
    · simp; omega
    · simp; omega
  · intro n hnm
    rw [hlist] at hnm
    rcases List.mem_append.1 hnm with hnm | hnm
    · obtain ⟨f, hf, rfl⟩ := List.mem_map.1 hnm
      exact .inl (hgl f hf)
    · obtain ⟨f, hf, rfl⟩ := List.mem_map.1 hnm
      exact .inr (hexn f hf)

/-- what may be on the disk when power goes -/
structure Crashed (P : ByteArray → Prop) (room : Nat) (sgb : List (Nat × List ByteArray × List ByteArray)) (ex : List FS) (s : DS) : Prop where
  room : s.room = room
  l : s.l = sgb.map tripF ++ ex
  ex : ex = [] ∨ ∃ b k, ex = [⟨newN blobB, b, k⟩]
  nums : ∀ p ∈ sgb, 1 ≤ p.1 ∧ p.1 < 32
  texts : ∀ p ∈ sgb, ∀ t ∈ p.2.1 ++ p.2.2, TextOk P t ∧ t.size ≤ 5000
  len : sgb.length ≤ 900

theorem kept_part (keep : Int) (p : Nat × List ByteArray × List ByteArray) (ht : ∀ t ∈ p.2.1 ++ p.2.2, t.size ≤ 5000) : ∃ (b : ByteArray) (k j : Nat), keepS keep (tripF p) = ⟨genN blobB p.1, b.data.toList, k⟩ ∧ (fallS b).1 = p.2.1 ++ p.2.2.take j := by
  obtain ⟨g, T, U⟩ := p
  simp only at ht ⊢
  obtain ⟨k, hk⟩ : ∃ k, k = (encRecs T).length + (min (max keep 0) (((encRecs (T ++ U)).length : Int) - ((encRecs T).length : Int))).toNat := ⟨_, rfl⟩
  have hle : (encRecs T).length ≤ (encRecs (T ++ U)).length := by rw [encRecs_app, List.length_append]; omega
  have hk1 : (encRecs T).length ≤ k := by omega
  have hk2 : k ≤ (encRecs (T ++ U)).length := by omega
  have hb : ((⟨((encRecs (T ++ U)).take k).toArray⟩ : ByteArray)).data.toList = (encRecs (T ++ U)).take k := by simp
  have hbs : (⟨((encRecs (T ++ U)).take k).toArray⟩ : ByteArray).size = k := by rw [← ba_len, hb, List.length_take]; omega
  obtain ⟨m, h1, h2, h3, h4⟩ := fallS_part (T ++ U) (fun t h => by have := ht t h; omega) ⟨((encRecs (T ++ U)).take k).toArray⟩ ⟨(encRecs (T ++ U)).drop k, by rw [hb, List.take_append_drop]⟩
  refine ⟨⟨((encRecs (T ++ U)).take k).toArray⟩, k, m - T.length, ?_, ?_⟩
  · unfold keepS tripF
    simp only
    rw [hk]
  · have hm : T.length ≤ m := by
      rcases Nat.lt_or_ge m T.length with hlt | hge
      · have h5 := h4 (by rw [List.length_append]; omega)
        rw [hbs, List.take_append_of_le_length (by omega)] at h5
        have h6 := enc_take_le T (m + 1)
        omega
      · exact hge
    unfold fallS
    rw [h2, List.take_append, List.take_of_length_le hm]

open Classical in
/-- behind a crash Open finds all that was sure, and of the rest so much as is whole -/
theorem crash_open {P : ByteArray → Prop} {room : Nat} {sgb : List (Nat × List ByteArray × List ByteArray)} {ex : List FS} {s : DS} (h : Crashed P room sgb ex s) (hF : Fit s) (hr : room ≤ 900000) (keep : Int) :
    ∃ gs js s', OpenS (crashS s keep) gs s' ∧ textsOf gs = sgb.flatMap (cutT js) := by
  have hk := fun p (hp : p ∈ sgb) => kept_part keep p (fun t ht => (h.texts p hp t ht).2)
  have key : ∀ (l : List (Nat × List ByteArray × List ByteArray)), (∀ p ∈ l, ∃ (b : ByteArray) (k j : Nat), keepS keep (tripF p) = ⟨genN blobB p.1, b.data.toList, k⟩ ∧ (fallS b).1 = p.2.1 ++ p.2.2.take j) →
      ∃ (gs : List (Nat × ByteArray)), (l.map (fun p => keepS keep (tripF p))).map (fun f => (f.name, f.body)) = gs.map (fun p => (genN blobB p.1, p.2.data.toList)) ∧ gs.map (·.1) = l.map (·.1) ∧
        (∀ q ∈ gs, ∃ p ∈ l, ∃ j, (fallS q.2).1 = p.2.1 ++ p.2.2.take j) ∧ textsOf gs = l.flatMap (cutT fun p => if hj : ∃ j, ∃ (b : ByteArray) (k : Nat), keepS keep (tripF p) = ⟨genN blobB p.1, b.data.toList, k⟩ ∧ (fallS b).1 = p.2.1 ++ p.2.2.take j then Classical.choose hj else 0) := by
    intro l
    induction l with
    | nil => intro _; exact ⟨[], rfl, rfl, by simp, rfl⟩
    | cons p l ih =>
      intro hl
      obtain ⟨gs, e1, e2, e3, e4⟩ := ih (fun q hq => hl q (List.mem_cons_of_mem _ hq))
      have hex : ∃ j, ∃ (b : ByteArray) (k : Nat), keepS keep (tripF p) = ⟨genN blobB p.1, b.data.toList, k⟩ ∧ (fallS b).1 = p.2.1 ++ p.2.2.take j := by
        obtain ⟨b, k, j, h1, h2⟩ := hl p (List.mem_cons_self ..)
        exact ⟨j, b, k, h1, h2⟩
      obtain ⟨b, k, h1, h2⟩ := Classical.choose_spec hex
      refine ⟨(p.1, b) :: gs, ?_, ?_, ?_, ?_⟩
      · rw [List.map_cons, List.map_cons, List.map_cons, e1, h1]
      · rw [List.map_cons, List.map_cons, e2]
      · intro q hq
        rcases List.mem_cons.1 hq with rfl | hq
        · exact ⟨p, List.mem_cons_self .., _, h2⟩
        · obtain ⟨p', hp', j, e⟩ := e3 q hq
          exact ⟨p', List.mem_cons_of_mem _ hp', j, e⟩
      · rw [List.flatMap_cons, ← e4]
        show textsOf ((p.1, b) :: gs) = _
        unfold textsOf
        rw [List.flatMap_cons]
        congr 1
        unfold cutT
        simp only
        rw [dif_pos hex]
        exact h2
  obtain ⟨gs, e1, e2, e3, e4⟩ := key sgb hk
  have hon : On room false (sgb.map (fun p => keepS keep (tripF p)) ++ ex.map (keepS keep)) (crashS s keep) := by
    refine ⟨rfl, h.room, rfl, ?_⟩
    unfold crashS
    simp only
    rw [h.l, List.map_append, List.map_map]
    rfl
  have hex' : ex.map (keepS keep) = [] ∨ ∃ b k, ex.map (keepS keep) = [⟨newN blobB, b, k⟩] := by
    rcases h.ex with e | ⟨b, k, e⟩
    · left; rw [e]; rfl
    · right; rw [e]; exact ⟨_, _, rfl⟩
  have hlen : gs.length = sgb.length := by have := congrArg List.length e2; simpa using this
  obtain ⟨s', h1, _⟩ := open_plain (fit_crash hF keep) hon hr e1 hex' (fun q hq => by
    have : q.1 ∈ gs.map (·.1) := List.mem_map.2 ⟨q, hq, rfl⟩
    rw [e2] at this
    obtain ⟨p, hp, e⟩ := List.mem_map.1 this
    rw [← e]; exact h.nums p hp) (fun q hq t ht => by
    obtain ⟨p, hp, j, e⟩ := e3 q hq
    rw [e] at ht
    refine (h.texts p hp t ?_).2
    rcases List.mem_append.1 ht with ht | ht
    · exact List.mem_append_left _ ht
    · exact List.mem_append_right _ (List.mem_of_mem_take ht)) (by rw [hlen]; exact h.len)
  exact ⟨gs, _, s', h1, e4⟩
end Go.Proofs.YtjimgncefeldbaaGreatDoor

namespace Go.Proofs.YtjimgncefeldbaaGreatDoor
open Go.Shelf Go.RowKit Go.Sort Go.Maps

/-- chunks that are not there yet, each once: as a map, and as records -/
def putStep (M : DU) (q : DU × List ByteArray) (b : ByteArray) : DU × List ByteArray := if hasC q.1 (idS b) || hasC M (idS b) then q else (q.1.put (kL (idS b)) (vL b), q.2 ++ [cameB b])
def putF (M : DU) (l : List ByteArray) : DU × List ByteArray := l.foldl (putStep M) (.map [], [])
theorem putF_snoc (M : DU) (l : List ByteArray) (b : ByteArray) : putF M (l ++ [b]) = putStep M (putF M l) b := by unfold putF; rw [List.foldl_append]; rfl
theorem putF_take (M : DU) (l : List ByteArray) {k : Nat} (hk : k < l.length) : putF M (l.take (k + 1)) = putStep M (putF M (l.take k)) (l.getD k ByteArray.empty) := by
  rw [List.take_succ_eq_append_getElem hk, List.getD_eq_getElem?_getD, List.getElem?_eq_getElem hk, putF_snoc]; rfl
theorem putF_ind {M : DU} {P : List ByteArray → DU × List ByteArray → Prop} (h0 : P [] (.map [], [])) (hs : ∀ l q b, P l q → P (l ++ [b]) (putStep M q b)) (l : List ByteArray) : P l (putF M l) := by
  have key : ∀ n, ∀ l : List ByteArray, l.length = n → P l (putF M l) := by
    intro n
    induction n with
    | zero => intro l hl; rw [List.length_eq_zero_iff.1 hl]; exact h0
    | succ n ih =>
      intro l hl
      have hne : l ≠ [] := fun e => by rw [e] at hl; simp at hl
      have e := List.dropLast_concat_getLast hne
      rw [← e, putF_snoc]
      exact hs _ _ _ (ih _ (by simp [hl]))
  exact key _ l rfl
theorem putF_none (M : DU) (l : List ByteArray) : (putF M l).2 = [] → (putF M l).1 = .map [] :=
  putF_ind (P := fun _ q => q.2 = [] → q.1 = .map []) (fun _ => rfl) (fun l q b ih h => by
    unfold putStep at h ⊢
    split
    · rename_i hc; rw [if_pos hc] at h; exact ih h
    · rename_i hc; rw [if_neg hc] at h; simp at h) l
theorem putF_came (M : DU) (l : List ByteArray) : ∀ t ∈ (putF M l).2, ∃ b ∈ l, t = cameB b :=
  putF_ind (P := fun l q => ∀ t ∈ q.2, ∃ b ∈ l, t = cameB b) (by simp) (fun l q b ih t ht => by
    unfold putStep at ht
    split at ht
    · obtain ⟨c, h1, h2⟩ := ih t ht; exact ⟨c, List.mem_append_left _ h1, h2⟩
    · rcases List.mem_append.1 ht with ht | ht
      · obtain ⟨c, h1, h2⟩ := ih t ht; exact ⟨c, List.mem_append_left _ h1, h2⟩
      · simp at ht; exact ⟨b, by simp, ht⟩) l
theorem putF_len (M : DU) (l : List ByteArray) : (putF M l).2.length ≤ l.length :=
  putF_ind (P := fun l q => q.2.length ≤ l.length) (by simp) (fun l q b ih => by
    unfold putStep
    split
    · simp; omega
    · simp; omega) l
theorem putF_map (M : DU) (l : List ByteArray) : IsMap (putF M l).1 :=
  putF_ind (P := fun _ q => IsMap q.1) isMap_empty (fun l q b ih => by
    unfold putStep
    split
    · exact ih
    · exact ih.put _ _) l
theorem cameB_size (b : ByteArray) : (cameB b).size = b.size + 1 := by rw [← ba_len]; simp [cameB]
theorem recF_le (t : ByteArray) (h : t.size ≤ 1000000) : (recF t).length ≤ t.size + 14 := by
  unfold recF encT
  have h1 : (Lib.uvarint t.size).length ≤ 10 := Lib.uvarint_length64 (x := t.size) (by omega)
  rw [List.length_append, List.length_append, sumF_len, ba_len]
  omega
theorem encRecs_le (T : List ByteArray) (c : Nat) (hc : c ≤ 1000000) (h : ∀ t ∈ T, t.size ≤ c) : (encRecs T).length ≤ T.length * (c + 14) := by
  induction T with
  | nil => simp [encRecs]
  | cons t T ih =>
    have h1 := recF_le t (by have := h t (by simp); omega)
    have h2 := h t (by simp)
    have h3 := ih (fun x hx => h x (List.mem_cons_of_mem _ hx))
    rw [encRecs_cons, List.length_append, List.length_cons, Nat.add_mul]
    omega

/-- a block of texts is no map -/
theorem ownS_om {w : World} {B m N : Nat} {v : Value} {T : List ByteArray} {M : DU} (h : OwnS B v T w) (hm : OM w m N M) : v.ownBlock ≠ some m := fun e => by
  obtain ⟨es, clock, hb, _⟩ := hm
  rcases h.2 with ⟨rfl, _⟩ | ⟨g, cap, cur, rfl, _, hg, _⟩
  · simp [Value.ownBlock] at e
  · simp [Value.ownBlock] at e
    subst e
    rw [hg] at hb; cases hb

section
variable {P : Program} (w : World) {ops : Array Oper} {rest : List Oper} {o : Oper} {a : Act} {Q : Exit → Act → World → Prop}
/-- a look-up of a chunk, its shape written out -/
theorem wpList_lookup_piece (hg : o.guard = none) (mo x : Operand) (hop : o.op = Op.lookup 77 mo x true) (m N : Nat) (M : DU) (hm : a.eval mo = .map (some m)) (hown : OM w m N M) (id : ByteArray) (hx : a.eval x = .string id) (hid : id.size ≤ maxLen)
    (hK : ∀ s, wpList Tryz.prog ops Q rest (a.put o.dst (.tuple #[.agg #[.string s], .bool (hasC M id)])) w) : wpList Tryz.prog ops Q (o :: rest) a w :=
  wpList_lookup_own_ok w hg mo x _ hop 9 83 strKeyed Tryz.underlying77 pieceE (zeroPiece w) (vL ByteArray.empty) [] rfl m N M hm hown _ (kL id) hx (strKey hid) (fun v ps hv => by
    obtain ⟨s, rfl, _⟩ := pieceE_inv hv
    exact hK s)
end

set_option maxHeartbeats 1000000 in
theorem isLongC (x : ByteArray) (w : World) : Calls Tryz.prog 56 #[.string x] w fun e w' => e = .returned (.bool (decide (4096 < x.size))) ∧ w' = w := by
  have hd : decide ((4096 : Int) < (x.size : Int)) = decide (4096 < x.size) := by rw [decide_eq_decide]; omega
  go_enter Tryz.func56, Tryz.ntmps56
  go_wp2_with fail
  go_ret
  exact ⟨by first | rfl | (rw [hd]) | (simp), rfl⟩

theorem noneLong (ra : Option Addr) (cap : Nat) (l : List ByteArray) (w : World) (hrow : StrRow w ra l) (hl : l.length ≤ 1000) (hs : ∀ b ∈ l, b.size ≤ 4096) :
    Calls Tryz.prog 55 #[.slice ra l.length cap, .func (.func 56) #[] #[]] w fun e w' => e = .returned (.bool false) ∧ Below w.heap.size w w' := by
  rcases hrow with rfl | ⟨b, off, rfl, hb, hc⟩
  · refine (AnyE.slices_ContainsFunc_empty contL ra cap _ w).mono ?_
    rintro e w' ⟨rfl, rfl⟩
    exact ⟨rfl, Below.refl _ _⟩
  · have hany : (l.take l.length).any (fun x => decide (4096 < x.size)) = false := by
      rw [List.take_length, List.any_eq_false]
      intro x hx
      have := hs x hx
      simp; omega
    have h := AnyE.slices_ContainsFunc contL Value.string (fun x : ByteArray => decide (4096 < x.size)) 56 #[] (enters_of Tryz.func56 (by kernel_rfl) rfl) b off l.length cap l w
      (fun W x _ => (isLongC x W).mono fun e w' ⟨h1, h2⟩ => ⟨h1, 0, h2⟩) (Nat.le_refl _) (by omega) (fun j hj => by
        rw [hc j hj, List.getD_eq_getElem?_getD, List.getElem?_eq_getElem hj, getElem!_pos l j hj]; rfl)
    rw [hany] at h
    exact h.mono fun e w' ⟨h1, q, h2⟩ => ⟨h1, by rw [h2]; exact belowN (Below.refl _ _) q⟩
end Go.Proofs.YtjimgncefeldbaaGreatDoor

namespace Go.Proofs.YtjimgncefeldbaaGreatDoor
open Go.Shelf Go.RowKit Go.Sort Go.Maps

def putO (seg : Nat) (zs : List Nat) (s : DS) (M : DU) (l : List ByteArray) : Int × DS := if (putF M l).2 = [] then (0, s) else extendS s (genN blobB (numS seg zs s)) (recsB (putF M l).2)
def putZ (seg : Nat) (zs : List Nat) (s : DS) (M : DU) (l : List ByteArray) : List Nat := if (putF M l).2 = [] then zs else addN zs (numS seg zs s)
/-- what Put leaves -/
def PutPost (a : Addr) (B D S seg m N : Nat) (M : DU) (zs : List Nat) (s : DS) (l : List ByteArray) (al : List Nat) (w : World) (e : Ending) (w' : World) : Prop :=
  ∃ al', e = .returned (.int .i64 (putO seg zs s M l).1) ∧ Fr al al' w w' ∧
    ((putO seg zs s M l).1 = 0 → ∃ M' N' bl' va' vc', N' ≤ N + l.length ∧ Merged M' M (putF M l).1 (fun _ => false) ∧ al' = sal S m va' bl' ∧ ST a B D (putO seg zs s M l).2 bl' S seg m N' M' va' vc' (putZ seg zs s M l) false false w') ∧
    ((putO seg zs s M l).1 ≠ 0 → Ended a B D S seg m (putO seg zs s M l).2 al' w')
theorem merged_none (M : DU) : Merged M M (.map [] : DU) (fun _ => false) := ⟨fun k => by simp [Maps.has], fun k z => by simp [Maps.has]⟩

section
variable {a : Addr} {B D S seg m N vc : Nat} {s : DS} {bl : List Nat} {M : DU} {va : Option Addr} {zs : List Nat}

set_option maxHeartbeats 8000000 in
set_option maxRecDepth 100000 in
theorem put_any (w : World) (h : ST a B D s bl S seg m N M va vc zs false false w) (hz : zs.length ≤ 1000) (hl : lastN zs < 30) (ra : Option Addr) (cap : Nat) (l : List ByteArray) (hrow : StrRow w ra l)
    (hll : l.length ≤ 1000) (hs : ∀ b ∈ l, b.size ≤ 200) (hN : N ≤ 100000) :
    Calls Tryz.prog 19 #[.pointer (some ⟨S, 0, none⟩), .slice ra l.length cap] w (PutPost a B D S seg m N M zs s l (sal S m va bl) w) := by
  obtain ⟨i0, hi, hz0, hz1, hz2⟩ := info_parts strInfo8
  have hrdy := blobReady w h
  have HLG := Lib.hid (noneLong ra cap l w hrow hll (fun b hb => by have := hs b hb; omega))
  have H := Lib.hid h
  have HROW := Lib.hid hrow
  have HS := Lib.hid hs
  have hmm := @run_makeMap Tryz.prog
  have hlt := h.blk.lt
  clear h hrow hs
  go_enter Tryz.func19, Tryz.ntmps19
  go_wp2_with fail
  refine hrdy.mono ?_
  rintro e w0 ⟨rfl, rfl⟩
  clear hrdy
  go_wp2_with fail
  refine HLG.out.mono ?_
  rintro e w1 ⟨rfl, hb1⟩
  have H1 := Lib.hid (And.intro (H.out.keep hb1) hb1)
  have hma := World.ownsMap_made w1 Tryz.prog 9 pieceE
  have hbm : Below w1.heap.size w1 (w1.alloc (.map #[] 0)) := (Below.refl _ _).alloc (Nat.le_refl _) _
  have hlt1 : S < w1.heap.size := H1.out.1.blk.lt
  have HMA := Lib.hid (And.intro hma hbm)
  clear hb1 HLG hma hbm
  go_wp2_with fail
  go_loopw [7, 24] (fun u i wr => ∃ k : Nat, k ≤ l.length ∧ i = .int .i64 k ∧ OM wr w1.heap.size k (putF M (l.take k)).1 ∧ OwnS w1.heap.size u (putF M (l.take k)).2 wr ∧ Below w1.heap.size w1 wr) (fun _ i _ => l.length - (intOf i).toNat)
  case atStart => exact ⟨0, Nat.zero_le _, rfl, HMA.out.1, ownS_nil _ _, HMA.out.2⟩
  case round =>
    rename_i wr
    obtain ⟨k, hk, rfl, hom, hown, hb⟩ := hrel
    have hbs := hb.size
    have hw1s := H1.out.2.size
    have hST := H1.out.1.keep hb
    have HST := Lib.hid hST
    have hltr := hST.blk.lt
    clear hST
    by_cases hlk : k < l.length
    · obtain ⟨b, off, rfl, hlb, hc⟩ : ∃ b off, ra = some ⟨b, off, none⟩ ∧ b < wr.heap.size ∧ ∀ j, j < l.length → wr.cell? ⟨b, off + j, none⟩ = some (.string (l.getD j ByteArray.empty)) := by
        rcases (HROW.out.below H1.out.2).below (hb) with h | h
        · rw [h] at hlk; simp at hlk
        · exact h
      have hck := hc k hlk
      have hxm := getD_mem hlk
      have hxs := HS.out _ hxm
      have HPT := Lib.hid (putF_take M l hlk)
      have htl : (putF M (l.take k)).2.length ≤ k := Nat.le_trans (putF_len _ _) (by rw [List.length_take]; omega)
      obtain ⟨q, hq⟩ : ∃ q, putF M (l.take k) = q := ⟨_, rfl⟩
      rw [hq] at hom hown HPT htl
      obtain ⟨A, T⟩ := q
      simp only at hom hown htl
      have hid := idC (l.getD k ByteArray.empty) wr (by omega) HST.out.sha
      clear hc hxm hq
      obtain ⟨x, hx⟩ : ∃ x, l.getD k ByteArray.empty = x := ⟨_, rfl⟩
      rw [hx] at hck hxs HPT hid
      clear hx
      have hks : (idS x).size ≤ maxLen := by rw [idS_size]; decide
      have HID := Lib.hid hid
      have hkey := strKey hks
      have HB := Lib.hid hb
      have HP := Lib.hid (show putF M (l.take (k + 1)) = if hasC A (idS x) || hasC M (idS x) then (A, T) else (A.put (kL (idS x)) (vL x), T ++ [cameB x]) from HPT.out)
      clear hid hb HPT
      obtain ⟨ib, hib⟩ : ∃ ib, idS x = ib := ⟨_, rfl⟩
      rw [hib] at HID hks hkey HP
      clear hib
      have HOM := Lib.hid hom
      have HOW := Lib.hid hown
      clear hom hown
      cases hA : hasC A ib
      · -- not among those that were added
        have HHA := Lib.hid hA
        clear hA
        go_wp2_with fail
        refine HID.out.mono ?_
        rintro e w2 ⟨rfl, hb2⟩
        have hom2 := HOM.out.of_block (hb2.block w1.heap.size HOM.out.lt)
        have hbA : Below w2.heap.size w2 (w2.alloc (.cells #[.string ByteArray.empty] 83)) := (Below.refl _ _).alloc (Nat.le_refl _) _
        have H2 := Lib.hid (And.intro (HST.out.keep hb2) (And.intro (HB.out.trans (hb2.mono hbs)) (HOW.out.below hb2 (Nat.le_refl _))))
        have hb2s := hb2.size
        clear hb2 hbA
        go_wp2_with (at_lookup; refine wpList_lookup_piece _ rfl _ _ rfl w1.heap.size k A rfl hom2 ib rfl hks ?_; intro sx; rw [HHA.out])
        have hbP : Below w2.heap.size w2 (w2.alloc (.cells #[.string sx] 83)) := (Below.refl _ _).alloc (Nat.le_refl _) _
        have HHS := Lib.hid (has_any _ (H2.out.1.keep hbP) ib hks)
        have HBP := Lib.hid hbP
        clear hbP
        cases hM : hasC M ib
        · rw [hM] at HHS
          have HMM := Lib.hid hM
          clear hM
          refine HHS.out.mono ?_
          rintro e w4 ⟨rfl, hb4⟩
          have hb24 : Below w2.heap.size w2 w4 := HBP.out.trans (hb4.mono HBP.out.size)
          have hom4 := hom2.of_block (hb24.block w1.heap.size hom2.lt)
          have hown4 := H2.out.2.2.below hb24 (Nat.le_refl _)
          have hne4 := ownS_om hown4 hom4
          have HB4 := Lib.hid (H2.out.2.1.trans (hb24.mono (by omega)))
          have hadd := fun W => run_string_add_sum (P := Tryz.prog) (w := W) ⟨#[0]⟩ x (by show 1 + x.size ≤ _; omega)
          have hcm : (⟨#[0]⟩ : ByteArray) ++ x = cameB x := ba_eq (by simp [cameB])
          rw [hcm] at hadd
          have hb4s := hb24.size
          clear hb4 hb24 HHS hom2
          have HO4 := Lib.hid hown4
          clear hown4
          obtain ⟨cx, hcx⟩ : ∃ cx, cameB x = cx := ⟨_, rfl⟩
          rw [hcx] at hadd HP
          clear hcx hcm
          go_wp2_with (first
            | (at_mapUpdate; refine wpList_mapUpdate_own _ rfl _ _ _ 77 rfl 9 83 strKeyed Tryz.underlying77 pieceE w1.heap.size k A rfl hom4 (by unfold maxLen; omega) _ _ (kL ib) rfl rfl hkey (vL x) [] (pieceE_mk x) ?_; intro w5 hom5 hg5; (have hown5 := World.ownsRow.kept HO4.out hg5 (.inr hne4)); (have hb5s := hg5.size); (have HB5 := Lib.hid (show Below w1.heap.size w1 w5 from HB4.out.grown hg5 (by omega) (fun j hj => by cases hj; exact Nat.le_refl _))); (have HOM5 := Lib.hid hom5); (have HNE := Lib.hid (ownS_om (T := T) hown5 hom5)); clear hom4 hg5 hne4 hom5)
            | (at_builtin; refine wpList_append_own _ rfl _ _ 40 rfl w1.heap.size 9 i0 (.string ByteArray.empty) 1 16 Tryz.underlying40 hi hz0 hz1 hz2 rfl (by decide) _ _ _ rfl (World.ownsRow.alloc hown5 _) ⟨w5.heap.size, 0, none⟩ 1 1 [Value.string cx] rfl rfl ?c1 ?c2 ?c3 ?c4 ?c5 ?_))
          case c1 =>
            intro j u hj
            match j, hj with
            | 0, hj => simp at hj; subst hj; simp [Addr.add]
          case c2 => intro u hu; simp at hu; subst hu; rfl
          case c3 => unfold maxLen; omega
          case c4 => omega
          case c5 => simp; omega
          intro v' w6 hown6 hg6 _
          have H6 := Lib.hid (show OM w6 w1.heap.size (k + 1) (putF M (l.take (k + 1))).1 ∧ OwnS w1.heap.size v' (putF M (l.take (k + 1))).2 w6 ∧ Below w1.heap.size w1 w6 from by
            have e := HP.out
            rw [HHA.out, HMM.out] at e
            simp only [Bool.or_self, Bool.false_eq_true, if_false] at e
            rw [e]
            refine ⟨(HOM5.out.alloc _).kept hg6 (fun e => HNE.out e.symm), ?_, ?_⟩
            · show OwnS w1.heap.size v' (T ++ [cx]) w6
              unfold OwnS; rw [List.length_append, List.map_append]; exact hown6
            · exact (HB5.out.alloc (by omega) _).grown hg6 (by simp; omega) (fun j hj => (World.ownsRow.lt hown5 j hj).1))
          clear hown6 hown5 hg6
          go_wp2
          go_roundw
          case rel => exact ⟨k + 1, by omega, by go_num, H6.out⟩
          case measure => simp [intOf]; omega
        · rw [hM] at HHS
          have HMM := Lib.hid hM
          clear hM
          refine HHS.out.mono ?_
          rintro e w4 ⟨rfl, hb4⟩
          have hb24 : Below w2.heap.size w2 w4 := HBP.out.trans (hb4.mono HBP.out.size)
          have H6 := Lib.hid (show OM w4 w1.heap.size (k + 1) (putF M (l.take (k + 1))).1 ∧ OwnS w1.heap.size u7 (putF M (l.take (k + 1))).2 w4 ∧ Below w1.heap.size w1 w4 from by
            have e := HP.out
            rw [HHA.out, HMM.out] at e
            simp only [Bool.or_true, if_true] at e
            rw [e]
            exact ⟨(hom2.of_block (hb24.block w1.heap.size hom2.lt)).mono (Nat.le_succ _), H2.out.2.2.below hb24 (Nat.le_refl _), H2.out.2.1.trans (hb24.mono (by omega))⟩)
          clear hb4 hb24 HHS hom2
          go_wp2_with fail
          go_roundw
          case rel => exact ⟨k + 1, by omega, by go_num, H6.out⟩
          case measure => simp [intOf]; omega
      · have HHA := Lib.hid hA
        clear hA
        go_wp2_with fail
        refine HID.out.mono ?_
        rintro e w2 ⟨rfl, hb2⟩
        have hom2 := HOM.out.of_block (hb2.block w1.heap.size HOM.out.lt)
        have H2 := Lib.hid (And.intro (HB.out.trans (hb2.mono hbs)) (HOW.out.below hb2 (Nat.le_refl _)))
        have hb2s := hb2.size
        clear hb2
        go_wp2_with (at_lookup; refine wpList_lookup_piece _ rfl _ _ rfl w1.heap.size k A rfl hom2 ib rfl hks ?_; intro sx; rw [HHA.out])
        have hbP : Below w2.heap.size w2 (w2.alloc (.cells #[.string sx] 83)) := (Below.refl _ _).alloc (Nat.le_refl _) _
        have H6 := Lib.hid (show OM (w2.alloc (.cells #[.string sx] 83)) w1.heap.size (k + 1) (putF M (l.take (k + 1))).1 ∧ OwnS w1.heap.size u7 (putF M (l.take (k + 1))).2 (w2.alloc (.cells #[.string sx] 83)) ∧ Below w1.heap.size w1 (w2.alloc (.cells #[.string sx] 83)) from by
          have e := HP.out
          rw [HHA.out] at e
          simp only [Bool.true_or, if_true] at e
          rw [e]
          exact ⟨(hom2.of_block (hbP.block w1.heap.size hom2.lt)).mono (Nat.le_succ _), H2.out.2.below hbP (Nat.le_refl _), H2.out.1.trans (hbP.mono (by omega))⟩)
        clear hbP hom2
        go_roundw
        case rel => exact ⟨k + 1, by omega, by go_num, H6.out⟩
        case measure => simp [intOf]; omega
    · obtain rfl : k = l.length := by omega
      rw [List.take_length] at hom hown
      have hcame := putF_came M l
      have htl := putF_len M l
      obtain ⟨ru, cu, rfl, hrow2, hbase2, hmax2⟩ := ownS_from hown
      have HB := Lib.hid hb
      have HOM := Lib.hid hom
      by_cases hT : (putF M l).2 = []
      · have hnone := putF_none M l hT
        have hR : putO seg zs s M l = (0, s) := by unfold putO; rw [if_pos hT]
        have hZ : putZ seg zs s M l = zs := by unfold putZ; rw [if_pos hT]
        have HQ := Lib.hid (And.intro hR (And.intro hZ hnone))
        rw [hT] at hown ⊢
        clear hb hom hown hrow2 hbase2 hmax2 hcame htl hR hZ hnone
        go_wp2_with fail
        go_ret
        refine ⟨sal S m va bl, by rw [HQ.out.1]; rfl, Fr.of_below (H1.out.2.trans (HB.out.mono hw1s)), fun _ => ⟨M, N, bl, va, vc, by omega, ?_, rfl, ?_⟩, fun e => absurd (by rw [HQ.out.1]) e⟩
        · rw [HQ.out.2.2]; exact merged_none M
        · rw [HQ.out.1, HQ.out.2.1]; exact HST.out
      · have hpos : 0 < (putF M l).2.length := List.length_pos_iff.2 hT
        have hne : (((putF M l).2.length : Int) == 0) = false := by simp; omega
        have hsz : ∀ t ∈ (putF M l).2, t.size ≤ 201 := fun t ht => by
          obtain ⟨b, hb1, rfl⟩ := hcame t ht
          rw [cameB_size]; have := HS.out b hb1; omega
        have hel := encRecs_le (putF M l).2 201 (by omega) hsz
        have hwr := write_any wr HST.out hz hl ru cu (putF M l).2 hrow2 (by omega) (fun t ht => by have := hsz t ht; omega) (by
          have : (putF M l).2.length * (201 + 14) ≤ 1000 * 215 := Nat.mul_le_mul (by omega) (by omega)
          omega)
        have hR : putO seg zs s M l = extendS s (genN blobB (numS seg zs s)) (recsB (putF M l).2) := by unfold putO; rw [if_neg hT]
        have hZ : putZ seg zs s M l = addN zs (numS seg zs s) := by unfold putZ; rw [if_neg hT]
        rw [← hR, ← hZ] at hwr
        obtain ⟨r, s', hr⟩ : ∃ r s', putO seg zs s M l = (r, s') := ⟨_, _, rfl⟩
        rw [hr] at hwr
        have HWR := Lib.hid hwr
        have HR := Lib.hid hr
        clear hwr hR hZ hr hel hsz hcame hrow2 hbase2 hmax2 hown hb hom hT
        generalize (putF M l).2.length = tn at *
        by_cases hr0 : r = 0
        · subst hr0
          go_wp2_with fail
          refine HWR.out.mono ?_
          rintro e w5 ⟨al5, rfl, hf5, hok5, -⟩
          obtain ⟨bl5, va5, vc5, rfl, hst5⟩ := hok5 rfl
          have hma5 : w1.heap.size ∉ sal S m va bl := fun hin => by have := (H1.out.1.lt _ hin).2; omega
          have hom5 := HOM.out.of_block (hf5.block w1.heap.size HOM.out.lt hma5)
          have hsl := hom5.size_le
          have hcp := copyC m w1.heap.size N l.length M (putF M l).1 w5 hst5.map hom5 (fun e => hma5 (e ▸ mem_sal.2 (.inr (.inl rfl)))) (by unfold maxLen; omega)
          have HCP := Lib.hid hcp
          have H5 := Lib.hid (And.intro hst5 (And.intro ((Fr.of_below (H1.out.2.trans (HB.out.mono hw1s))).tr hf5) hsl))
          have c4 := hst5.blk.c4
          have hlt5 := hst5.blk.lt
          clear hst5 hf5 hok5 hom5 hma5 hcp HWR
          go_wp2_with fail
          refine HCP.out.mono ?_
          rintro e w6 ⟨rfl, Dout, hom6, hmg, hg6⟩
          have H6 := Lib.hid (And.intro (H5.out.1.setMap hom6 hg6) (And.intro (H5.out.2.1.tr (H5.out.1.fr_map hg6)) hmg))
          clear hom6 hmg hg6
          go_wp2_with fail
          go_ret
          refine ⟨_, by rw [HR.out]; rfl, H6.out.2.1, fun _ => ⟨Dout, N + Maps.size (putF M l).1, bl5, va5, vc5, ?_, H6.out.2.2, rfl, ?_⟩, fun e => absurd (by rw [HR.out]) e⟩
          · have := H5.out.2.2; omega
          · rw [HR.out]; exact H6.out.1
        · have hne0 : (r != 0) = true := by simp [hr0]
          go_wp2_with fail
          refine HWR.out.mono ?_
          rintro e w5 ⟨al5, rfl, hf5, -, hbad⟩
          have H5 := Lib.hid (And.intro ((Fr.of_below (H1.out.2.trans (HB.out.mono hw1s))).tr hf5) (hbad hr0))
          clear hf5 hbad HWR
          go_wp2_with fail
          go_ret
          refine ⟨al5, by rw [HR.out]; rfl, H5.out.1, fun e => absurd (by rw [HR.out] at e; exact e) hr0, fun _ => by rw [HR.out]; exact H5.out.2⟩
end
end Go.Proofs.YtjimgncefeldbaaGreatDoor
