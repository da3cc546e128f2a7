/-
  Backups as they are seen, in memory.
  The document's Bits, Key, Of, Clean, Less and Same: what each call answers.
-/
import Derived.Test.YtchnklekeinhiaaGreatGV14
import Derived.Test.YtchnklekeinhiaaGreatGV16
import Derived.Test.YtchnklekeinhiaaGreatGV13
namespace Go.Proofs.YtchnklekeinhiaaGreat
set_option linter.unusedSimpArgs false
set_option linter.unusedVariables false
set_option maxRecDepth 100000
open Go.RowKit Go.Sort

/-- texts that lie no lower than lo -/
def XFrom (w : World) (lo : Nat) (a : Option Addr) (l : List ByteArray) : Prop :=
  l = [] ∨ ∃ b off, a = some ⟨b, off, none⟩ ∧ lo ≤ b ∧ b < w.heap.size ∧ ∀ j, j < l.length → w.cell? ⟨b, off + j, none⟩ = some (.string (l.getD j ByteArray.empty))
theorem XFrom.row {w : World} {lo : Nat} {a : Option Addr} {l : List ByteArray} (h : XFrom w lo a l) : StrRow w a l := by
  rcases h with h | ⟨b, off, h1, -, h2, h3⟩
  · exact .inl h
  · exact .inr ⟨b, off, h1, h2, h3⟩
theorem XFrom.mono {w : World} {lo lo' : Nat} {a : Option Addr} {l : List ByteArray} (h : XFrom w lo a l) (hl : lo' ≤ lo) : XFrom w lo' a l := by
  rcases h with h | ⟨b, off, h1, h0, h2, h3⟩
  · exact .inl h
  · exact .inr ⟨b, off, h1, Nat.le_trans hl h0, h2, h3⟩
theorem OwnS.from {B : Nat} {v : Value} {l : List ByteArray} {w : World} (h : OwnS B v l w) : ∃ a cap, v = .slice a l.length cap ∧ XFrom w B a l ∧ l.length ≤ cap ∧ cap ≤ maxLen := by
  obtain ⟨a, cap, hv, hrow, h1, h2⟩ := h.fin2
  refine ⟨a, cap, hv, ?_, h1, h2⟩
  rcases hrow with hn | ⟨b, off, ha, hb, hc⟩
  · exact .inl hn
  · refine .inr ⟨b, off, ha, ?_, hb, hc⟩
    subst hv ha
    have hlt := World.ownsRow.lt h b rfl
    exact hlt.1
/-- a block is not the one of a row -/
def AOff {α : Type} (a : Option Addr) (l : List α) (g : Nat) : Prop := l = [] ∨ ∃ b off, a = some ⟨b, off, none⟩ ∧ b ≠ g
theorem XFrom.off_old {w : World} {lo g : Nat} {a : Option Addr} {l : List ByteArray} (h : XFrom w lo a l) (hg : g < lo) : AOff a l g := by
  rcases h with h | ⟨b, off, h1, h0, h2, h3⟩
  · exact .inl h
  · exact .inr ⟨b, off, h1, by omega⟩
theorem XFrom.off_new {w : World} {lo g : Nat} {a : Option Addr} {l : List ByteArray} (h : XFrom w lo a l) (hg : w.heap.size ≤ g) : AOff a l g := by
  rcases h with h | ⟨b, off, h1, h0, h2, h3⟩
  · exact .inl h
  · exact .inr ⟨b, off, h1, by omega⟩
theorem XFrom.grown {w w' : World} {lo : Nat} {row : Option Nat} {a : Option Addr} {l : List ByteArray} (h : XFrom w lo a l) (hg : w.grownBy w' row) (ho : ∀ g, row = some g → AOff a l g) : XFrom w' lo a l := by
  rcases h with h | ⟨b, off, h1, h0, h2, h3⟩
  · exact .inl h
  · refine .inr ⟨b, off, h1, h0, Nat.lt_of_lt_of_le h2 hg.size, fun j hj => ?_⟩
    have hne : some b ≠ row := by
      intro e
      rcases ho b e.symm with hn | ⟨b', off', h4, h5⟩
      · subst hn; simp at hj
      · rw [h1] at h4; injection h4 with h4; injection h4 with h6 h7; exact h5 h6.symm
    have := h3 j hj
    unfold World.cell? at this ⊢
    rw [hg.block b h2 hne]
    exact this
theorem XFrom.below {w w' : World} {lo : Nat} {a : Option Addr} {l : List ByteArray} (h : XFrom w lo a l) (hb : Below w.heap.size w w') : XFrom w' lo a l := by
  rcases h with h | ⟨b, off, h1, h0, h2, h3⟩
  · exact .inl h
  · exact .inr ⟨b, off, h1, h0, Nat.lt_of_lt_of_le h2 hb.size, fun j hj => by rw [hb.cell (p := ⟨b, off + j, none⟩) h2]; exact h3 j hj⟩
theorem DFrom.aoff_old {w : World} {lo g : Nat} {a : Option Addr} {l : List Dt} (h : DFrom w lo a l) (hg : g < lo) : AOff a l g := by
  rcases h with h | ⟨b, off, h1, h0, h2⟩
  · exact .inl h
  · exact .inr ⟨b, off, h1, by omega⟩
theorem DFrom.aoff_new {w : World} {lo g : Nat} {a : Option Addr} {l : List Dt} (h : DFrom w lo a l) (hg : w.heap.size ≤ g) : AOff a l g := by
  rcases h with h | ⟨b, off, h1, h0, h2, h3⟩
  · exact .inl h
  · exact .inr ⟨b, off, h1, by omega⟩
theorem DFrom.grown {w w' : World} {lo : Nat} {row : Option Nat} {a : Option Addr} {l : List Dt} (h : DFrom w lo a l) (hg : w.grownBy w' row) (ho : ∀ g, row = some g → AOff a l g) : DFrom w' lo a l := by
  rcases h with h | ⟨b, off, h1, h0, h2, h3⟩
  · exact .inl h
  · refine .inr ⟨b, off, h1, h0, Nat.lt_of_lt_of_le h2 hg.size, fun j d hj => ?_⟩
    have hne : some b ≠ row := by
      intro e
      rcases ho b e.symm with hn | ⟨b', off', h4, h5⟩
      · subst hn; simp at hj
      · rw [h1] at h4; injection h4 with h4; injection h4 with h6 h7; exact h5 h6.symm
    have := h3 j d hj
    unfold World.cell? at this ⊢
    rw [hg.block b h2 hne]
    exact this
/-- the block of a slice of numbers -/
def VOff (v : Value) (g : Nat) : Prop := ∀ b n c, v = .slice (some ⟨b, 0, none⟩) n c → b ≠ g
theorem FlFrom.off_old {w : World} {lo g : Nat} {v : Value} {l : List Nat} (h : FlFrom w lo v l) (hg : g < lo) : VOff v g := by
  intro b n c e
  rcases h with ⟨h, -⟩ | ⟨b', c', h1, h0, -⟩
  · rw [h] at e; cases e
  · rw [h1] at e; injection e with e; injection e with e; injection e with e; omega
theorem FlFrom.off_new {w : World} {lo g : Nat} {v : Value} {l : List Nat} (h : FlFrom w lo v l) (hg : w.heap.size ≤ g) : VOff v g := by
  intro b n c e
  rcases h with ⟨h, -⟩ | ⟨b', c', h1, h0, h2, -⟩
  · rw [h] at e; cases e
  · rw [h1] at e; injection e with e; injection e with e; injection e with e; omega
theorem FlFrom.grown {w w' : World} {lo : Nat} {row : Option Nat} {v : Value} {l : List Nat} (h : FlFrom w lo v l) (hg : w.grownBy w' row) (ho : ∀ g, row = some g → VOff v g) : FlFrom w' lo v l := by
  rcases h with h | ⟨b, c, h1, h0, h2, h3⟩
  · exact .inl h
  · refine .inr ⟨b, c, h1, h0, Nat.lt_of_lt_of_le h2 hg.size, fun j hj => ?_⟩
    have hne : some b ≠ row := fun e => ho b e.symm b _ _ h1 rfl
    have := h3 j hj
    unfold World.cell? at this ⊢
    rw [hg.block b h2 hne]
    exact this
theorem FlFrom.below {w w' : World} {lo : Nat} {v : Value} {l : List Nat} (h : FlFrom w lo v l) (hb : Below w.heap.size w w') : FlFrom w' lo v l := by
  rcases h with h | ⟨b, c, h1, h0, h2, h3⟩
  · exact .inl h
  · exact .inr ⟨b, c, h1, h0, Nat.lt_of_lt_of_le h2 hb.size, fun j hj => by rw [hb.cell (p := ⟨b, j, none⟩) h2]; exact h3 j hj⟩
theorem FlFrom.mono {w : World} {lo lo' : Nat} {v : Value} {l : List Nat} (h : FlFrom w lo v l) (hl : lo' ≤ lo) : FlFrom w lo' v l := by
  rcases h with h | ⟨b, c, h1, h0, h2, h3⟩
  · exact .inl h
  · exact .inr ⟨b, c, h1, Nat.le_trans hl h0, h2, h3⟩

/-- a backup and where its lists lie -/
structure ER where
  e : Ent
  ia : Option Addr
  ic : Nat
  ta : Option Addr
  tc : Nat
  ka : Option Addr
  kc : Nat
  da : Option Addr
  dc : Nat
def ecs (r : ER) : List Value := [.string r.e.n, .int .i64 r.e.m.size, .int .i64 r.e.m.chunk, .slice r.ia r.e.m.ids.length r.ic, .string r.e.lb, .slice r.ta r.e.tg.length r.tc, .slice r.ka r.e.kp.length r.kc, .slice r.da r.e.ds.length r.dc]
theorem ecs_cell (r : ER) : ∀ u ∈ ecs r, u.oneCell' = true := by
  intro u hu
  simp only [ecs, List.mem_cons, List.not_mem_nil, or_false] at hu
  rcases hu with rfl | rfl | rfl | rfl | rfl | rfl | rfl | rfl <;> rfl
abbrev zeroE : Value := .agg #[.string ByteArray.empty, .int .i64 0, .int .i64 0, .slice none 0 0, .string ByteArray.empty, .slice none 0 0, .slice none 0 0, .slice none 0 0]
def encE : EncG ER := {
  enc := ecs, n := 8, T := 31, S := 37, z := zeroE, by' := 144
  len := fun _ => rfl, cell := ecs_cell, pos := by omega, info := by kernel_rfl, und := Tryz.underlying37, zs := rfl, lim := by omega }
theorem entSize : (Tryz.prog.info? 31).map (·.size) = some 8 := by kernel_rfl
theorem infoEn (r : ER) : (Tryz.prog.info? 31).map (·.size) = some (ecs r).toArray.size := by rw [entSize]; rfl
theorem en_one (r : ER) : (ecs r).toArray.all (·.oneCell') = true := by simp [ecs, Value.oneCell']
/-- its lists -/
structure EnMem (w : World) (lo : Nat) (r : ER) : Prop where
  ids : XFrom w lo r.ia r.e.m.ids
  tg : XFrom w lo r.ta r.e.tg
  kp : FlFrom w lo (.slice r.ka r.e.kp.length r.kc) r.e.kp
  ds : DFrom w lo r.da r.e.ds
theorem EnMem.below {w w' : World} {lo : Nat} {r : ER} (h : EnMem w lo r) (hb : Below w.heap.size w w') : EnMem w' lo r := ⟨h.ids.below hb, h.tg.below hb, h.kp.below hb, h.ds.below hb⟩
theorem EnMem.mono {w : World} {lo lo' : Nat} {r : ER} (h : EnMem w lo r) (hl : lo' ≤ lo) : EnMem w lo' r := ⟨h.ids.mono hl, h.tg.mono hl, h.kp.mono hl, h.ds.mono hl⟩
structure EnOff (r : ER) (g : Nat) : Prop where
  ids : AOff r.ia r.e.m.ids g
  tg : AOff r.ta r.e.tg g
  kp : VOff (.slice r.ka r.e.kp.length r.kc) g
  ds : AOff r.da r.e.ds g
theorem EnMem.off_old {w : World} {lo g : Nat} {r : ER} (h : EnMem w lo r) (hg : g < lo) : EnOff r g := ⟨h.ids.off_old hg, h.tg.off_old hg, h.kp.off_old hg, h.ds.aoff_old hg⟩
theorem EnMem.off_new {w : World} {lo g : Nat} {r : ER} (h : EnMem w lo r) (hg : w.heap.size ≤ g) : EnOff r g := ⟨h.ids.off_new hg, h.tg.off_new hg, h.kp.off_new hg, h.ds.aoff_new hg⟩
theorem EnMem.grown {w w' : World} {lo : Nat} {row : Option Nat} {r : ER} (h : EnMem w lo r) (hg : w.grownBy w' row) (ho : ∀ g, row = some g → EnOff r g) : EnMem w' lo r :=
  ⟨h.ids.grown hg fun g e => (ho g e).ids, h.tg.grown hg fun g e => (ho g e).tg, h.kp.grown hg fun g e => (ho g e).kp, h.ds.grown hg fun g e => (ho g e).ds⟩
/-- backups in a row of the call's own -/
structure OwnEs (B : Nat) (v : Value) (rs : List ER) (w : World) : Prop where
  own : OwnG encE B v rs w
  mem : ∀ r ∈ rs, EnMem w B r
  off : ∀ g, v.ownBlock = some g → ∀ r ∈ rs, EnOff r g
theorem ownEs_nil (B : Nat) (w : World) : OwnEs B (.slice none 0 0) [] w := ⟨ownG_nil _ _, fun r hr => by simp at hr, fun g hg r hr => by simp at hr⟩
theorem OwnEs.below {B C : Nat} {v : Value} {rs : List ER} {w w' : World} (h : OwnEs B v rs w) (hb : Below C w w') (hC : w.heap.size ≤ C) : OwnEs B v rs w' :=
  ⟨h.own.below hb hC, fun r hr => (h.mem r hr).below (hb.mono hC), h.off⟩
theorem OwnEs.mono {B C : Nat} {v : Value} {rs : List ER} {w : World} (h : OwnEs B v rs w) (hC : C ≤ B) : OwnEs C v rs w :=
  ⟨h.own.mono hC, fun r hr => (h.mem r hr).mono hC, h.off⟩
theorem OwnEs.push {w : World} {B c lo : Nat} {v : Value} {rs : List ER} {r : ER} {p : Option Addr} (h : OwnEs B v rs w) (hr : EnMem w lo r) (hlo : ∀ g, v.ownBlock = some g → g < lo) (hBl : B ≤ lo) (hp : GIn encE w p [r]) (hb : B ≤ w.heap.size) (n : Nat) (hn : rs.length + 1 = n) (hl : n ≤ 200000) :
    ∃ p' c' w', (Builtin.append_ #[37, 37] 37 #[v, .slice p 1 c]).run Tryz.prog w = .ok (.slice p' n c') w' ∧ OwnEs B (.slice p' n c') (rs ++ [r]) w' ∧ Below B w w' := by
  obtain ⟨p', c', w', hrun, ho, hbel, hg, hsf⟩ := appG (E := encE) (c := c) h.own hp hb n (by simpa using hn) hl
  refine ⟨p', c', w', hrun, ⟨ho, fun x hx => ?_, fun g hgb x hx => ?_⟩, hbel⟩
  · rcases List.mem_append.1 hx with hx | hx
    · exact (h.mem x hx).grown hg fun g e => h.off g e x hx
    · obtain rfl := List.mem_singleton.1 hx
      exact (hr.grown hg fun g e => hr.off_old (hlo g e)).mono hBl
  · rcases hsf with he | ⟨g', he, hge⟩
    · rw [he] at hgb
      rcases List.mem_append.1 hx with hx | hx
      · exact h.off g hgb x hx
      · obtain rfl := List.mem_singleton.1 hx
        exact hr.off_old (hlo g hgb)
    · rw [he] at hgb
      obtain rfl := Option.some.inj hgb
      rcases List.mem_append.1 hx with hx | hx
      · exact (h.mem x hx).off_new hge
      · obtain rfl := List.mem_singleton.1 hx
        exact hr.off_new hge
/-- backups to be read -/
structure EsIn (w : World) (a : Option Addr) (rs : List ER) : Prop where
  row : GIn encE w a rs
  mem : ∀ r ∈ rs, EnMem w 0 r
theorem EsIn.below {w w' : World} {a : Option Addr} {rs : List ER} (h : EsIn w a rs) (hb : Below w.heap.size w w') : EsIn w' a rs := ⟨h.row.below hb, fun r hr => (h.mem r hr).below hb⟩
theorem OwnEs.esin {B : Nat} {v : Value} {rs : List ER} {w : World} (h : OwnEs B v rs w) : ∃ a cap, v = .slice a rs.length cap ∧ EsIn w a rs ∧ rs.length ≤ cap ∧ cap ≤ maxLen := by
  obtain ⟨a, cap, h1, h2, h3, h4⟩ := h.own.gin
  exact ⟨a, cap, h1, ⟨h2, fun r hr => (h.mem r hr).mono (Nat.zero_le _)⟩, h3, h4⟩
end Go.Proofs.YtchnklekeinhiaaGreat

namespace Go.Proofs.YtchnklekeinhiaaGreat
set_option maxRecDepth 100000
open Go.RowKit

attribute [local go_sem] fbits ffrom ffromN fneq feql

set_option maxHeartbeats 1000000 in
theorem bitsR (b : Nat) (w : World) : Calls Tryz.prog 63 #[.float .f64 b] w fun e w' => e = .returned (.int .u64 (cln b : Nat)) ∧ w = w' := by
  cases h : isNb b
  · rw [cln_no h]
    go_enter Tryz.func63, Tryz.ntmps63
    go_wp2
    go_ret
    exact ⟨rfl, rfl⟩
  · rw [cln_of h]
    go_enter Tryz.func63, Tryz.ntmps63
    go_wp2
    go_ret
    exact ⟨rfl, rfl⟩

set_option maxHeartbeats 1000000 in
theorem cleanR (b : Nat) (w : World) : Calls Tryz.prog 64 #[.float .f64 b] w fun e w' => e = .returned (.float .f64 (cln b)) ∧ w = w' := by
  have hb := fun W => bitsR b W
  generalize cln b = c at hb ⊢
  go_enter Tryz.func64, Tryz.ntmps64
  go_wp2_with fail
  refine (hb _).mono ?_
  rintro e w1 ⟨rfl, rfl⟩
  go_wp2
  go_ret
  exact ⟨rfl, rfl⟩

set_option maxHeartbeats 1000000 in
theorem flKeyR (b : Nat) (hb : b < 18446744073709551616) (w : World) : Calls Tryz.prog 99 #[.float .f64 b] w fun e w' => e = .returned (.int .u64 (keyB b : Nat)) ∧ w = w' := by
  have hlt := cln_lt hb
  have hk : keyB b = turnK (cln b) := by unfold keyB; rfl
  rw [hk]
  have hbt := fun W => bitsR b W
  clear hk
  generalize cln b = c at hlt hbt ⊢
  by_cases h : c < 9223372036854775808
  · have e1 : turnK c = c + 9223372036854775808 := if_pos h
    have e2 : decide ((c : Int) < 9223372036854775808) = true := by simp; omega
    have e3 : IntKind.u64.wrap ((c : Int) + 9223372036854775808) = ((c + 9223372036854775808 : Nat) : Int) := by simp [IntKind.wrap, IntKind.bits, IntKind.signed]; omega
    rw [e1]
    clear e1 h hlt hb
    generalize c + 9223372036854775808 = z at e3 ⊢
    go_enter Tryz.func99, Tryz.ntmps99
    go_wp2_with fail
    refine (hbt _).mono ?_
    rintro e w1 ⟨rfl, rfl⟩
    go_wp2
    go_ret
    exact ⟨rfl, rfl⟩
  · have e1 : turnK c = 18446744073709551615 - c := if_neg h
    have e2 : ((c : Int) < 9223372036854775808) = False := by simp; omega
    have e3 := not_u64 c hlt
    rw [e1]
    clear e1 h hlt hb
    generalize 18446744073709551615 - c = z at e3 ⊢
    go_enter Tryz.func99, Tryz.ntmps99
    go_wp2_with fail
    refine (hbt _).mono ?_
    rintro e w1 ⟨rfl, rfl⟩
    go_wp2
    go_ret
    exact ⟨rfl, rfl⟩

set_option maxHeartbeats 1000000 in
theorem flLessR (a b : Nat) (ha : a < 18446744073709551616) (hb : b < 18446744073709551616) (w : World) : Calls Tryz.prog 65 #[.float .f64 a, .float .f64 b] w fun e w' => e = .returned (.bool (decide (keyB a < keyB b))) ∧ w = w' := by
  have ka := fun W => flKeyR a ha W
  have kb := fun W => flKeyR b hb W
  generalize keyB a = x at ka ⊢
  generalize keyB b = y at kb ⊢
  go_enter Tryz.func65, Tryz.ntmps65
  go_wp2_with fail
  refine (ka _).mono ?_
  rintro e w1 ⟨rfl, rfl⟩
  go_wp2_with fail
  refine (kb _).mono ?_
  rintro e w1 ⟨rfl, rfl⟩
  go_wp2
  go_ret
  exact ⟨by simp, rfl⟩

set_option maxHeartbeats 1000000 in
theorem flSameR (a b : Nat) (w : World) : Calls Tryz.prog 72 #[.float .f64 a, .float .f64 b] w fun e w' => e = .returned (.bool (decide (a = b))) ∧ w = w' := by
  have h : ((a : Int) == (b : Int)) = decide (a = b) := by
    by_cases h : a = b
    · subst h; simp
    · simp [h]; omega
  generalize decide (a = b) = r at h ⊢
  go_enter Tryz.func72, Tryz.ntmps72
  go_wp2
  go_ret
  exact ⟨by rw [← h]; rfl, rfl⟩
end Go.Proofs.YtchnklekeinhiaaGreat
