/-
  seglog.Log in memory; generation, file, fresh.
  seglog: file, fresh.
  seglog: those.
  seglog: a log and its disk; drop, each.
-/
import Derived.Test.YtbhcmmglmkgjnaaGreatDoorGSegA
import Derived.Test.YtbhcmmglmkgjnaaGreatDoorGFrame
import Derived.Test.YtbhcmmglmkgjnaaGreatDoorGWireB
import Derived.Test.YtbhcmmglmkgjnaaGreatDoorGDiskF
namespace Go.Proofs.YtbhcmmglmkgjnaaGreatDoor
open Go.RowKit

/-- Block L is a log. -/
def LogC (L D g : Nat) (base : ByteArray) (rv : Value) (en : Bool) (w : World) : Prop :=
  w.heap[L]? = some (.cells #[.pointer (some ⟨D, 0, none⟩), .string logB, .int .i64 (g : Int), .string base, rv, .bool en] 58 (0, 0))

section
variable {L D g : Nat} {base : ByteArray} {rv : Value} {en : Bool} {w w' : World}
theorem LogC.lt (h : LogC L D g base rv en w) : L < w.heap.size := lt_of_block h
theorem LogC.c0 (h : LogC L D g base rv en w) : w.cell? ⟨L, 0, none⟩ = some (.pointer (some ⟨D, 0, none⟩)) := by rw [Joins.cell_of_block h]; rfl
theorem LogC.c1 (h : LogC L D g base rv en w) : w.cell? ⟨L, 1, none⟩ = some (.string logB) := by rw [Joins.cell_of_block h]; rfl
theorem LogC.c2 (h : LogC L D g base rv en w) : w.cell? ⟨L, 2, none⟩ = some (.int .i64 (g : Int)) := by rw [Joins.cell_of_block h]; rfl
theorem LogC.c3 (h : LogC L D g base rv en w) : w.cell? ⟨L, 3, none⟩ = some (.string base) := by rw [Joins.cell_of_block h]; rfl
theorem LogC.c4 (h : LogC L D g base rv en w) : w.cell? ⟨L, 4, none⟩ = some rv := by rw [Joins.cell_of_block h]; rfl
theorem LogC.c5 (h : LogC L D g base rv en w) : w.cell? ⟨L, 5, none⟩ = some (.bool en) := by rw [Joins.cell_of_block h]; rfl
theorem LogC.free (h : LogC L D g base rv en w) (i : Nat) : w.frozen? ⟨L, i, none⟩ = false := Joins.unfrozen_of_block h i
theorem LogC.below {B : Nat} (h : LogC L D g base rv en w) (hb : Below B w w') (hL : L < B) : LogC L D g base rv en w' := by unfold LogC; rw [hb.block L hL]; exact h
theorem LogC.keep (h : LogC L D g base rv en w) (hb : Below w.heap.size w w') : LogC L D g base rv en w' := h.below hb h.lt
theorem LogC.fr {b1 b2 : List Nat} (h : LogC L D g base rv en w) (hf : Fr b1 b2 w w') (hL : L ∉ b1) : LogC L D g base rv en w' := by unfold LogC; rw [hf.block L h.lt hL]; exact h
theorem LogC.setGen (h : LogC L D g base rv en w) (n : Nat) : LogC L D n base rv en (w.setCell ⟨L, 2, none⟩ (.int .i64 (n : Int))) := by
  have := Joins.block_setCell h (i := 2) (.int .i64 (n : Int)); simpa [LogC] using this
theorem LogC.setBase (h : LogC L D g base rv en w) (s : ByteArray) : LogC L D g s rv en (w.setCell ⟨L, 3, none⟩ (.string s)) := by
  have := Joins.block_setCell h (i := 3) (.string s); simpa [LogC] using this
theorem LogC.setRecs (h : LogC L D g base rv en w) (v : Value) : LogC L D g base v en (w.setCell ⟨L, 4, none⟩ v) := by
  have := Joins.block_setCell h (i := 4) v; simpa [LogC] using this
theorem LogC.setEnd (h : LogC L D g base rv en w) (b : Bool) : LogC L D g base rv b (w.setCell ⟨L, 5, none⟩ (.bool b)) := by
  have := Joins.block_setCell h (i := 5) (.bool b); simpa [LogC] using this
end

def digB (g : Nat) : ByteArray := ⟨(digL g).toArray⟩
theorem digB_size {g : Nat} (hg : g < 12) : (digB g).size = 8 := dig_len ⟨g, hg⟩
theorem log_dash : logB ++ ⟨#[45]⟩ = dashB := by decide +kernel
theorem log_new : logB ++ ⟨#[45, 110, 101, 119]⟩ = newB := by decide +kernel

set_option maxHeartbeats 1000000 in
set_option maxRecDepth 100000 in
theorem generation_any {L D G : Nat} {base : ByteArray} {rv : Value} {en : Bool} (w : World) (h : LogC L D G base rv en w) (g : Nat) (h1 : 1 ≤ g) (h2 : g < 12) :
    Calls Tryz.prog 48 #[.pointer (some ⟨L, 0, none⟩), .string (genB g)] w fun e w' => e = .returned (.int .i64 (g : Int)) ∧ Below w.heap.size w w' := by
  have hc := h.c1
  have hadd := fun W => run_string_add_sum (P := Tryz.prog) (w := W) logB ⟨#[45]⟩ (by decide)
  rw [log_dash] at hadd
  have hcut := fun W => cutC (genB g) dashB W
  have e1 : Lib.trimPrefix (genB g).data.toList dashB.data.toList = digL g := gen_trim ⟨g, h2⟩
  have e2 : Lib.hasPrefix (genB g).data.toList dashB.data.toList = true := gen_pre ⟨g, h2⟩
  rw [e1, e2, show (⟨(digL g).toArray⟩ : ByteArray) = digB g from rfl] at hcut
  have hp := fun W => parseU (digB g) (by rw [digB_size h2]; decide) g (gen_parse ⟨g, h2⟩) W
  have hsz : ((digB g).size : Int) = 8 := by have := digB_size h2; omega
  clear e1 e2 h
  generalize logB = lb at *
  generalize dashB = db at *
  generalize genB g = gb at *
  generalize digB g = dg at *
  have HP := Lib.hid hp
  clear hp
  go_enter Tryz.func48, Tryz.ntmps48
  go_wp2_with fail
  refine (hcut _).mono ?_
  rintro e w1 ⟨rfl, rfl⟩
  clear hcut
  go_wp2_with fail
  refine (HP.out _).mono ?_
  rintro e w2 ⟨rfl, hb⟩
  have HB := Lib.hid hb
  clear hb hc
  go_wp2_with fail
  go_ret
  exact ⟨by first | rfl | (congr 2; omega), HB.out⟩
end Go.Proofs.YtbhcmmglmkgjnaaGreatDoor

namespace Go.Proofs.YtbhcmmglmkgjnaaGreatDoor
open Go.RowKit Go.Sort

def wrB (g : Nat) : ByteArray := ⟨(wrapL g).toArray⟩
theorem wrB_size {g : Nat} (hg : g < 12) : (wrB g).size = 9 := wrap_len ⟨g, hg⟩
theorem dash_wr : ∀ g : Fin 12, dashB ++ (wrB g.val).extract 1 9 = genB g.val := by decide +kernel

set_option maxHeartbeats 1000000 in
set_option maxRecDepth 100000 in
theorem file_any {L D G : Nat} {base : ByteArray} {rv : Value} {en : Bool} (w : World) (h : LogC L D G base rv en w) (ht : Pows w) (g : Nat) (h2 : g < 12) :
    Calls Tryz.prog 31 #[.pointer (some ⟨L, 0, none⟩), .int .i64 (g : Int)] w fun e w' => e = .returned (.string (genB g)) ∧ Below w.heap.size w w' := by
  have HL := Lib.hid h
  have hlt := h.lt
  have hadd := fun W => run_string_add_sum (P := Tryz.prog) (w := W) logB ⟨#[45]⟩ (by decide)
  rw [log_dash] at hadd
  have hsz := wrB_size h2
  have hadd2 := fun W => run_string_add_sum (P := Tryz.prog) (w := W) dashB ((wrB g).extract 1 9) (by rw [ByteArray.size_extract, hsz]; decide)
  rw [dash_wr ⟨g, h2⟩] at hadd2
  have hI := fun W => itoaC ((100000000 : Int) + (g : Int)) (by omega) (by omega) W
  rw [show (⟨(Lib.itoa ((100000000 : Int) + (g : Int))).toArray⟩ : ByteArray) = wrB g from rfl] at hI
  have hszI : ((wrB g).size : Int) = 9 := by omega
  clear h
  generalize dashB = db at *
  generalize genB g = gb at *
  generalize wrB g = wb at *
  have HI := Lib.hid hI
  clear hI
  go_enter Tryz.func31, Tryz.ntmps31
  go_wp2_with fail
  refine (HI.out _ ht).mono ?_
  rintro e w1 ⟨rfl, hb⟩
  have hc := (HL.out.keep hb).c1
  have HB := Lib.hid hb
  clear hb
  go_wp2_with fail
  go_quiet (fail)
  go_wp2_with fail
  go_ret
  exact ⟨rfl, belowN HB.out nq⟩

set_option maxHeartbeats 1000000 in
set_option maxRecDepth 100000 in
theorem fresh_any {L D G : Nat} {base : ByteArray} {rv : Value} {en : Bool} (w : World) (h : LogC L D G base rv en w) :
    Calls Tryz.prog 51 #[.pointer (some ⟨L, 0, none⟩)] w fun e w' => e = .returned (.string newB) ∧ w = w' := by
  have hc := h.c1
  have hadd := fun W => run_string_add_sum (P := Tryz.prog) (w := W) logB ⟨#[45, 110, 101, 119]⟩ (by decide)
  rw [log_new] at hadd
  clear h
  go_enter Tryz.func51, Tryz.ntmps51
  go_wp2_with fail
  go_ret
  exact ⟨rfl, rfl⟩

set_option maxHeartbeats 1000000 in
set_option maxRecDepth 100000 in
theorem isName_log (w : World) : Calls Tryz.prog 26 #[.string logB] w fun e w' => e = .returned (.bool true) ∧ w = w' := by
  have hb : ∀ (i : Nat) (hi : i < logB.size), 97 ≤ (logB[i]'hi).toNat ∧ (logB[i]'hi).toNat ≤ 122 := by decide
  have hs : logB.size = 3 := rfl
  obtain ⟨n1, n2⟩ := some_str (t := logB) (by decide)
  generalize logB = s at *
  have hI : (s.size : Int) = 3 := by omega
  go_enter Tryz.func26, Tryz.ntmps26
  go_wp2_with fail
  go_loop [13] (fun i => ∃ k : Nat, k ≤ 3 ∧ i = .int .i64 k) (fun i => 3 - (intOf i).toNat)
  case atStart => exact ⟨0, Nat.zero_le _, rfl⟩
  case round =>
    obtain ⟨k, hk, rfl⟩ := hrel
    by_cases hlt : k < 3
    · obtain ⟨b1, b2⟩ := hb k (by omega)
      have d1 : decide (((s[k]'(by omega)).toNat : Int) < 97) = false := by simp; omega
      have d2 : decide ((122 : Int) < ((s[k]'(by omega)).toNat : Int)) = false := by simp; omega
      clear hb
      go_wp2_with fail
      go_round
      case rel => exact ⟨k + 1, by omega, by go_num⟩
      case measure => simp [intOf]; omega
    · obtain rfl : k = 3 := by omega
      go_wp2_with fail
      go_ret
      exact ⟨rfl, rfl⟩

set_option maxHeartbeats 1000000 in
set_option maxRecDepth 100000 in
theorem isName_Log (w : World) : Calls Tryz.prog 26 #[.string ⟨#[76, 111, 103]⟩] w fun e w' => e = .returned (.bool false) ∧ w = w' := by
  go_enter Tryz.func26, Tryz.ntmps26
  go_wp2_with fail
  go_loop [13] (fun i => i = .int .i64 0) (fun i => 0)
  case atStart => exact rfl
  case round =>
    obtain rfl := hrel
    go_wp2_with fail
    go_ret
    exact ⟨rfl, rfl⟩
end Go.Proofs.YtbhcmmglmkgjnaaGreatDoor

namespace Go.Proofs.YtbhcmmglmkgjnaaGreatDoor
open Go.RowKit Go.Sort

theorem strInfo8 : (Tryz.prog.info? 9).map (fun i => (i.zero, i.size, i.bytes)) = some (some (.string ByteArray.empty), 1, 16) := by kernel_rfl
theorem filter_take_succ {p : ByteArray → Bool} (l : List ByteArray) (k : Nat) (h : k < l.length) : (l.take (k + 1)).filter p = (l.take k).filter p ++ if p (l.getD k ByteArray.empty) then [l.getD k ByteArray.empty] else [] := by
  rw [List.take_add_one, List.getD_eq_getElem?_getD, List.getElem?_eq_getElem h]
  simp only [List.filter_append, Option.toList_some, List.filter_cons, List.filter_nil, Option.getD_some]

set_option maxHeartbeats 2000000 in
set_option maxRecDepth 100000 in
theorem those_any (g : FuncId) (L : Nat) (a : Option Addr) (cap : Nat) (names : List ByteArray) (p : ByteArray → Bool) (w : World) (hent : ∀ args w, (callFunc g args).run Tryz.prog w = .ok (.enter g args) w)
    (hrow : StrRow w a names) (hlen : names.length ≤ 100000)
    (ask : ∀ k, k < names.length → ∀ wr, Below w.heap.size w wr → Calls Tryz.prog g #[.pointer (some ⟨L, 0, none⟩), .string (names.getD k ByteArray.empty)] wr fun e w' => e = .returned (.bool (p (names.getD k ByteArray.empty))) ∧ Below wr.heap.size wr w') :
    Calls Tryz.prog 44 #[.slice a names.length cap, .func (.func g) #[.pointer (some ⟨L, 0, none⟩)] #[]] w fun e w' => ∃ v, e = .returned v ∧ OwnS w.heap.size v (names.filter p) w' ∧ Below w.heap.size w w' := by
  obtain ⟨i0, hi, hz0, hz1, hz2⟩ := info_parts strInfo8
  have HASK := Lib.hid ask
  have HROW := Lib.hid hrow
  clear ask hrow
  go_enter Tryz.func44, Tryz.ntmps44
  go_wp2_with fail
  go_loopw [5, 10] (fun u i wr => ∃ k : Nat, k ≤ names.length ∧ i = .int .i64 k ∧ OwnS w.heap.size u ((names.take k).filter p) wr ∧ Below w.heap.size w wr) (fun _ i _ => names.length - (intOf i).toNat)
  case atStart => exact ⟨0, Nat.zero_le _, rfl, ownS_nil _ _, Below.refl _ _⟩
  case round =>
    rename_i u i wr
    obtain ⟨k, hk, rfl, hown, hb⟩ := hrel
    have hbs := hb.size
    by_cases hlt : k < names.length
    · obtain ⟨b, off, rfl, hlt', hc⟩ : ∃ b off, a = some ⟨b, off, none⟩ ∧ b < wr.heap.size ∧ ∀ j, j < names.length → wr.cell? ⟨b, off + j, none⟩ = some (.string (names.getD j ByteArray.empty)) := by
        rcases HROW.out.below hb with h | h
        · rw [h] at hlt; simp at hlt
        · exact h
      have hck := hc k hlt
      have hcall := HASK.out k hlt
      have HN := Lib.hid (filter_take_succ (p := p) names k hlt)
      have hnl : ((names.take k).filter p).length ≤ 100000 := Nat.le_trans (List.length_filter_le _ _) (by rw [List.length_take]; omega)
      generalize (names.take k).filter p = ns at *
      clear hc
      generalize names.getD k ByteArray.empty = x at *
      have HB := Lib.hid hb
      have HC := Lib.hid (hcall _ hb)
      clear hcall hb
      cases hpx : p x
      · rw [hpx] at HN HC
        go_wp2_with fail
        refine HC.out.mono ?_
        rintro e w1 ⟨rfl, hb1⟩
        have HO := Lib.hid (hown.below hb1 (Nat.le_refl _))
        have HB1 := Lib.hid (HB.out.trans (hb1.mono hbs))
        clear hb1 hown hck hpx
        go_wp2_with fail
        go_roundw
        case rel => exact ⟨k + 1, by omega, by go_num, by have := HN.out; simp only [Bool.false_eq_true, if_false, List.append_nil] at this; rw [this]; exact HO.out, HB1.out⟩
        case measure => simp [intOf]; omega
      · rw [hpx] at HN HC
        go_wp2_with fail
        refine HC.out.mono ?_
        rintro e w1 ⟨rfl, hb1⟩
        have hown1 := hown.below hb1 (Nat.le_refl _)
        have hbs1 := hb1.size
        have HB1 := Lib.hid (HB.out.trans (hb1.mono hbs))
        clear hb1 hown hck hpx
        go_wp2_with (at_builtin; refine wpList_append_own _ rfl _ _ 40 rfl w.heap.size 9 i0 (.string ByteArray.empty) 1 16 Tryz.underlying40 hi hz0 hz1 hz2 rfl (by decide) _ _ _ rfl (World.ownsRow.alloc hown1 _) ⟨w1.heap.size, 0, none⟩ 1 1 [Value.string x] rfl rfl ?c1 ?c2 ?c3 ?c4 ?c5 ?_)
        case c1 =>
          intro j u hj
          match j, hj with
          | 0, hj => simp at hj; subst hj; simp [Addr.add]
        case c2 => intro u hu; simp at hu; subst hu; rfl
        case c3 => unfold maxLen; omega
        case c4 => omega
        case c5 => simp; omega
        intro v' w3 hown3 hg3 _
        have hrow' : OwnS w.heap.size v' ((names.take (k + 1)).filter p) w3 := by
          have := HN.out
          simp only [if_true] at this
          rw [this]; unfold OwnS; rw [List.length_append, List.map_append]; exact hown3
        have hB3 : Below w.heap.size w w3 := (HB1.out.alloc (by omega) _).grown hg3 (by simp; omega) (fun j hj => (World.ownsRow.lt hown1 j hj).1)
        have H3 := Lib.hid hrow'
        have H4 := Lib.hid hB3
        clear hown3 hown1 hrow' hB3 hg3
        go_wp2
        go_roundw
        case rel => exact ⟨k + 1, by omega, by go_num, H3.out, H4.out⟩
        case measure => simp [intOf]; omega
    · obtain rfl : k = names.length := by omega
      rw [List.take_length] at hown
      have HB := Lib.hid hb
      have HO := Lib.hid hown
      clear hb hown
      go_wp2_with fail
      go_ret
      exact ⟨_, rfl, HO.out, HB.out⟩
end Go.Proofs.YtbhcmmglmkgjnaaGreatDoor

namespace Go.Proofs.YtbhcmmglmkgjnaaGreatDoor
open Go.RowKit Go.Sort

theorem Fr.tr {b0 b1 b2 : List Nat} {w w1 w2 : World} (h : Fr b0 b1 w w1) (g : Fr b1 b2 w1 w2) : Fr b0 b2 w w2 :=
  ⟨g.os.trans h.os, g.tape.trans h.tape, g.output.trans h.output, Nat.le_trans h.size g.size,
    fun k hk hn => (g.block k (Nat.lt_of_lt_of_le hk h.size) (fun hb => by rcases h.fresh k hb with h1 | h1; exact hn h1; omega)).trans (h.block k hk hn),
    fun k hk => by
      rcases g.fresh k hk with h1 | h1
      · exact h.fresh k h1
      · exact .inr (Nat.le_trans h.size h1)⟩
theorem Fr.out {b0 b1 : List Nat} {w w1 : World} (h : Fr b0 b1 w w1) {k : Nat} (hk : k < w.heap.size) (hn : k ∉ b0) : k ∉ b1 := fun hb => by
  rcases h.fresh k hb with h1 | h1
  · exact hn h1
  · omega
theorem Fr.cons {b0 b1 : List Nat} {w w1 : World} (h : Fr b0 b1 w w1) (L : Nat) : Fr (L :: b0) (L :: b1) w w1 :=
  ⟨h.os, h.tape, h.output, h.size, fun k hk hn => h.block k hk (fun hb => hn (List.mem_cons_of_mem _ hb)), fun k hk => by
    rcases List.mem_cons.1 hk with rfl | hk
    · exact .inl (List.mem_cons_self ..)
    · rcases h.fresh k hk with h1 | h1
      · exact .inl (List.mem_cons_of_mem _ h1)
      · exact .inr h1⟩
theorem strRow_fr {b0 b1 : List Nat} {w w1 : World} {a : Option Addr} {ss : List ByteArray} (h : StrRow w a ss) (hf : Fr b0 b1 w w1) (hn : ∀ b off, a = some ⟨b, off, none⟩ → b ∉ b0) : StrRow w1 a ss := by
  rcases h with h | ⟨b, off, rfl, hlt, hc⟩
  · exact .inl h
  · refine .inr ⟨b, off, rfl, Nat.lt_of_lt_of_le hlt hf.size, fun j hj => ?_⟩
    rw [← hc j hj]
    exact World.cell?_of_block (hf.block b hlt (hn b off rfl))

/-- A disk, and what the calls on it want of the world. -/
structure SW (a : Addr) (B D : Nat) (s : DS) (bl : List Nat) (w : World) : Prop where
  disk : Disk B D s bl w
  pow : Pow a w
  tab : Pows w
  g1 : 0 < B
  g2 : 4 < B
/-- A log, and its disk. -/
structure LW (a : Addr) (B D : Nat) (s : DS) (bl : List Nat) (L g : Nat) (base : ByteArray) (rv : Value) (en : Bool) (w : World) : Prop where
  sw : SW a B D s bl w
  log : LogC L D g base rv en w
  out : L ∉ bl
  lb : B ≤ L

theorem SW.size {a : Addr} {B D : Nat} {s : DS} {bl : List Nat} {w : World} (h : SW a B D s bl w) : B ≤ w.heap.size := by have := h.disk.base; omega
theorem SW.keep {a : Addr} {B D : Nat} {s : DS} {bl : List Nat} {w w' : World} (h : SW a B D s bl w) (hb : Below w.heap.size w w') : SW a B D s bl w' :=
  have hb' : Below B w w' := hb.mono h.size
  ⟨h.disk.keep hb, h.pow.below hb' h.g1, h.tab.kept hb' h.g2, h.g1, h.g2⟩
theorem SW.step {a : Addr} {B D : Nat} {s s' : DS} {bl bl' : List Nat} {w w' : World} (h : SW a B D s bl w) (hd : Disk B D s' bl' w') (hf : Fr bl bl' w w') : SW a B D s' bl' w' :=
  have hb : Below B w w' := hf.below (fun k hk => (h.disk.lt k hk).1) h.size
  ⟨hd, h.pow.below hb h.g1, h.tab.kept hb h.g2, h.g1, h.g2⟩
theorem SW.other {a : Addr} {B D : Nat} {s : DS} {bl b1 b2 : List Nat} {w w' : World} (h : SW a B D s bl w) (hf : Fr b1 b2 w w') (hB : ∀ k ∈ b1, B ≤ k) (hd : ∀ k ∈ bl, k ∉ b1) : SW a B D s bl w' :=
  have hb : Below B w w' := hf.below hB h.size
  ⟨(h.disk.other hf hd).1, h.pow.below hb h.g1, h.tab.kept hb h.g2, h.g1, h.g2⟩
theorem LW.keep {a : Addr} {B D L g : Nat} {s : DS} {bl : List Nat} {base : ByteArray} {rv : Value} {en : Bool} {w w' : World} (h : LW a B D s bl L g base rv en w) (hb : Below w.heap.size w w') : LW a B D s bl L g base rv en w' :=
  ⟨h.sw.keep hb, h.log.keep hb, h.out, h.lb⟩
theorem LW.step {a : Addr} {B D L g : Nat} {s s' : DS} {bl bl' : List Nat} {base : ByteArray} {rv : Value} {en : Bool} {w w' : World} (h : LW a B D s bl L g base rv en w) (hd : Disk B D s' bl' w') (hf : Fr bl bl' w w') : LW a B D s' bl' L g base rv en w' :=
  ⟨h.sw.step hd hf, h.log.fr hf h.out, hf.out h.log.lt h.out, h.lb⟩
theorem Fr.set (L : Nat) (i : Nat) (v : Value) (w : World) : Fr [L] [L] w (w.setCell ⟨L, i, none⟩ v) :=
  ⟨rfl, rfl, rfl, by simp, fun k _ hn => Below.heap_setCell _ _ _ _ (by simpa using hn), fun k hk => .inl hk⟩
theorem Fr.sets (L : Nat) (bl : List Nat) (i : Nat) (v : Value) (w : World) : Fr (L :: bl) (L :: bl) w (w.setCell ⟨L, i, none⟩ v) :=
  ⟨rfl, rfl, rfl, by simp, fun k _ hn => Below.heap_setCell _ _ _ _ (by simp at hn; exact hn.1), fun k hk => .inl hk⟩
theorem LW.set {a : Addr} {B D L g g' : Nat} {s : DS} {bl : List Nat} {base base' : ByteArray} {rv rv' : Value} {en en' : Bool} {w : World} (h : LW a B D s bl L g base rv en w) (i : Nat) (v : Value)
    (hl : LogC L D g' base' rv' en' (w.setCell ⟨L, i, none⟩ v)) : LW a B D s bl L g' base' rv' en' (w.setCell ⟨L, i, none⟩ v) :=
  ⟨h.sw.other (Fr.set L i v w) (fun k hk => by simp at hk; subst hk; exact h.lb) (fun k hk e => by simp at e; subst e; exact h.out hk), hl, h.out, h.lb⟩
/-- what a method leaves that does not turn its log -/
def Stays (a : Addr) (B D L g : Nat) (base : ByteArray) (rv : Value) (en : Bool) (n : Int) (s' : DS) (bl : List Nat) (w : World) (e : Ending) (w' : World) : Prop :=
  ∃ bl', e = .returned (.int .i64 n) ∧ LW a B D s' bl' L g base rv en w' ∧ Fr bl bl' w w'

set_option maxHeartbeats 1000000 in
set_option maxRecDepth 100000 in
theorem drop_any {a : Addr} {B D L g : Nat} {s : DS} {bl : List Nat} {base : ByteArray} {rv : Value} {en : Bool} (w : World) (h : LW a B D s bl L g base rv en w) (n : ByteArray) (s' : DS) (hr : dropS s n = (0, s')) :
    Calls Tryz.prog 52 #[.pointer (some ⟨L, 0, none⟩), .string n] w (Stays a B D L g base rv en 0 s' bl w) := by
  have hc := h.log.c0
  obtain ⟨k, hk, hr2⟩ : ∃ k : Int, (k = 7 ∨ k = 0) ∧ removeS s n = (k, s') := by
    unfold dropS at hr
    by_cases h7 : (removeS s n).1 = 7
    · rw [if_pos h7] at hr
      exact ⟨7, .inl rfl, Prod.ext h7 (Prod.mk.inj hr).2⟩
    · rw [if_neg h7] at hr
      exact ⟨0, .inr rfl, hr⟩
  have hrem := dRemove h.sw.disk n a h.sw.pow h.sw.g1
  rw [hr2] at hrem
  have H := Lib.hid h
  clear h hr hr2
  go_enter Tryz.func52, Tryz.ntmps52
  rcases hk with rfl | rfl
  all_goals
    go_wp2_with fail
    refine hrem.mono ?_
    rintro e w1 ⟨bl1, rfl, hd, hf⟩
    have HF := Lib.hid (And.intro (H.out.step hd hf) hf)
    clear hd hf hrem
    go_wp2_with fail
    go_ret
    exact ⟨bl1, rfl, HF.out⟩

set_option maxHeartbeats 2000000 in
set_option maxRecDepth 100000 in
theorem each_any {a : Addr} {B D L g : Nat} {s : DS} {bl : List Nat} {base : ByteArray} {rv : Value} {en : Bool} (w : World) (h : LW a B D s bl L g base rv en w) (ra : Option Addr) (cap : Nat) (names : List ByteArray)
    (hrow : StrRow w ra names) (hout : ∀ b off, ra = some ⟨b, off, none⟩ → b ∉ bl) (hlen : names.length ≤ 100000) (s' : DS) (he : eachS s names = (0, s')) :
    Calls Tryz.prog 49 #[.slice ra names.length cap, .func (.func 52) #[.pointer (some ⟨L, 0, none⟩)] #[]] w (Stays a B D L g base rv en 0 s' bl w) := by
  have HROW := Lib.hid (And.intro hrow hout)
  have H := Lib.hid h
  have HE := Lib.hid he
  have hent : ∀ args w, (callFunc 52 args).run Tryz.prog w = .ok (.enter 52 args) w := enters_of Tryz.func52 (by kernel_rfl) rfl
  clear h hrow he hout
  go_enter Tryz.func49, Tryz.ntmps49
  go_wp2_with fail
  go_loopw [10] (fun i wr => ∃ (k : Nat) (sk : DS) (bk : List Nat), k ≤ names.length ∧ i = .int .i64 k ∧ Hid (LW a B D sk bk L g base rv en wr ∧ Fr bl bk w wr ∧ eachS sk (names.drop k) = (0, s'))) (fun i _ => names.length - (intOf i).toNat)
  case atStart => exact ⟨0, s, bl, Nat.zero_le _, rfl, ⟨H.out, Fr.of_below (Below.refl _ _), by rw [List.drop_zero]; exact HE.out⟩⟩
  case round =>
    obtain ⟨k, sk, bk, hk, rfl, hh⟩ := hrel
    by_cases hlt : k < names.length
    · obtain ⟨b, off, rfl, hlt', hc⟩ : ∃ b off, ra = some ⟨b, off, none⟩ ∧ b < _ ∧ ∀ j, j < names.length → World.cell? _ ⟨b, off + j, none⟩ = some (.string (names.getD j ByteArray.empty)) := by
        rcases strRow_fr HROW.out.1 hh.out.2.1 HROW.out.2 with h | h
        · rw [h] at hlt; simp at hlt
        · exact h
      have hck := hc k hlt
      clear hc
      have hd : names.drop k = names.getD k ByteArray.empty :: names.drop (k + 1) := by rw [List.drop_eq_getElem_cons hlt, List.getD_eq_getElem?_getD, List.getElem?_eq_getElem hlt]; rfl
      generalize names.getD k ByteArray.empty = x at *
      obtain ⟨s1, h1, h2⟩ : ∃ s1, dropS sk x = (0, s1) ∧ eachS s1 (names.drop (k + 1)) = (0, s') := by
        have h0 := hh.out.2.2
        rw [hd] at h0
        unfold eachS at h0
        by_cases hz : (dropS sk x).1 = 0
        · rw [if_pos hz] at h0; exact ⟨_, Prod.ext hz rfl, h0⟩
        · rw [if_neg hz] at h0; exact absurd (by rw [h0]) hz
      have HC := Lib.hid (drop_any _ hh.out.1 x s1 h1)
      have H2 := Lib.hid h2
      clear h1 h2 hd
      go_wp2_with fail
      refine HC.out.mono ?_
      rintro e w1 ⟨bl1, rfl, hl1, hf1⟩
      have H3 := Lib.hid (show LW a B D s1 bl1 L g base rv en w1 ∧ Fr bl bl1 w w1 ∧ eachS s1 (names.drop (k + 1)) = (0, s') from ⟨hl1, hh.out.2.1.tr hf1, H2.out⟩)
      clear hl1 hf1 hck HC
      go_wp2_with fail
      go_roundw
      case rel => exact ⟨k + 1, s1, bl1, by omega, by go_num, H3⟩
      case measure => simp [intOf]; omega
    · obtain rfl : k = names.length := by omega
      have hz : sk = s' := by have := hh.out.2.2; rw [List.drop_length] at this; exact (Prod.mk.inj this).2
      have HZ := Lib.hid hz
      clear hz
      go_wp2_with fail
      go_ret
      exact ⟨bk, rfl, by rw [← HZ.out]; exact hh.out.1, hh.out.2.1⟩
end Go.Proofs.YtbhcmmglmkgjnaaGreatDoor
