/-
  series: Of, IsName, Number, File, Fresh, Drop.
  series: List, Lay.
  series: Lay.
-/
import Derived.Test.YtjimgncefeldbaaGreatDoorGSer
import Derived.Deep.RegionHeld3
import Derived.Deep.DeepCutAuto
namespace Go.Proofs.YtjimgncefeldbaaGreatDoor
open Go.RowKit Go.Sort

abbrev sv (D : Nat) (nm : ByteArray) : Value := .agg #[.pointer (some ⟨D, 0, none⟩), .string nm]
abbrev sbox (w : World) (D : Nat) (nm : ByteArray) : World := w.alloc (.cells #[.pointer (some ⟨D, 0, none⟩), .string nm] 72)
theorem sbox_below (w : World) (D : Nat) (nm : ByteArray) : Below w.heap.size w (sbox w D nm) := (Below.refl _ _).alloc (Nat.le_refl _) _
theorem sbox_0 (w : World) (D : Nat) (nm : ByteArray) : (sbox w D nm).cell? ⟨w.heap.size, 0, none⟩ = some (.pointer (some ⟨D, 0, none⟩)) := by rw [Joins.cell_of_block (heap_alloc_new w _)]; rfl
theorem sbox_1 (w : World) (D : Nat) (nm : ByteArray) : (sbox w D nm).cell? ⟨w.heap.size, 1, none⟩ = some (.string nm) := by rw [Joins.cell_of_block (heap_alloc_new w _)]; rfl
theorem sbox_k (w : World) (D : Nat) (nm : ByteArray) : w.heap.size < (sbox w D nm).heap.size := by simp

theorem add_dash (nm : ByteArray) : nm ++ ⟨#[45]⟩ = dashN nm := ba_eq (by simp [dashN])
theorem add_new (nm : ByteArray) : nm ++ ⟨#[45, 110, 101, 119]⟩ = newN nm := ba_eq (by simp [newN])

theorem serInfo : (Tryz.prog.info? 72).map (·.size) = some 2 := by kernel_rfl
theorem of_any (D : Nat) (nm : ByteArray) (w : World) : Calls Tryz.prog 41 #[.pointer (some ⟨D, 0, none⟩), .string nm] w fun e w' => e = .returned (sv D nm) ∧ Below w.heap.size w w' := by
  go_enter Tryz.func41, Tryz.ntmps41
  go_wp2_with fail
  refine bodyPost_ret (results_cell_row rfl _ _ w.heap.size 72 _ (0, 0) _ rfl (heap_alloc_new w _) Tryz.underlying72 rfl serInfo) rfl ?_
  exact ⟨rfl, (Below.refl _ _).alloc (Nat.le_refl _) _⟩

set_option maxHeartbeats 1000000 in
set_option maxRecDepth 100000 in
theorem isName_ok (nm : ByteArray) (hn : NmOk nm) (w : World) : Calls Tryz.prog 40 #[.string nm] w fun e w' => e = .returned (.bool true) ∧ w = w' := by
  have hb := hn.letters
  have hs := hn.size
  obtain ⟨n1, n2⟩ := some_str (t := nm) hn.pos
  have hI : decide ((32 : Int) < (nm.size : Int)) = false := by simp; omega
  clear hn
  go_enter Tryz.func40, Tryz.ntmps40
  go_wp2_with fail
  go_loop [13] (fun i => ∃ k : Nat, k ≤ nm.size ∧ i = .int .i64 k) (fun i => nm.size - (intOf i).toNat)
  case atStart => exact ⟨0, Nat.zero_le _, rfl⟩
  case round =>
    obtain ⟨k, hk, rfl⟩ := hrel
    by_cases hlt : k < nm.size
    · obtain ⟨b1, b2⟩ := hb k hlt
      have d1 : decide (((nm[k]'hlt).toNat : Int) < 97) = false := by simp; omega
      have d2 : decide ((122 : Int) < ((nm[k]'hlt).toNat : Int)) = false := by simp; omega
      clear hb
      go_wp2_with fail
      go_round
      case rel => exact ⟨k + 1, by omega, by go_num⟩
      case measure => simp [intOf]; omega
    · obtain rfl : k = nm.size := by omega
      go_wp2_with fail
      go_ret
      exact ⟨rfl, rfl⟩

set_option maxHeartbeats 1000000 in
set_option maxRecDepth 100000 in
theorem fresh_any (D : Nat) (nm : ByteArray) (hn : NmOk nm) (w : World) : Calls Tryz.prog 52 #[sv D nm] w fun e w' => e = .returned (.string (newN nm)) ∧ Below w.heap.size w w' := by
  have h1 := sbox_1 w D nm
  have hb := sbox_below w D nm
  have hadd := fun W => run_string_add_sum (P := Tryz.prog) (w := W) nm ⟨#[45, 110, 101, 119]⟩ (by have := hn.size; show nm.size + 4 ≤ _; omega)
  rw [add_new] at hadd
  clear hn
  go_enter Tryz.func52, Tryz.ntmps52
  go_wp2_with fail
  go_ret
  exact ⟨rfl, hb⟩

set_option maxHeartbeats 1000000 in
set_option maxRecDepth 100000 in
theorem drop_any {a : Addr} {B D : Nat} {s : DS} {bl : List Nat} (nm : ByteArray) (w : World) (h : SW a B D s bl w) (n : ByteArray) :
    Calls Tryz.prog 51 #[sv D nm, .string n] w (Acts B D bl (dropS s n) w) := by
  have h0 := sbox_0 w D nm
  have hk := h.keep (sbox_below w D nm)
  have hrem := dRemove hk.disk n a hk.pow hk.g1
  have HF := Lib.hid (Fr.of_below (bl := bl) (sbox_below w D nm))
  obtain ⟨r, s', hr⟩ : ∃ r s', removeS s n = (r, s') := ⟨_, _, rfl⟩
  have hd : dropS s n = (if r = 7 then 0 else r, s') := by unfold dropS; rw [hr]; simp only; split <;> rfl
  rw [hd]
  rw [hr] at hrem
  clear hr hd hk h
  by_cases h7 : r = 7
  · subst h7
    rw [if_pos rfl]
    go_enter Tryz.func51, Tryz.ntmps51
    go_wp2_with fail
    refine hrem.mono ?_
    rintro e w1 ⟨bl1, rfl, hd, hf⟩
    have HD := Lib.hid (And.intro hd (HF.out.tr hf))
    clear hd hf hrem h0
    go_wp2_with fail
    go_ret
    exact ⟨bl1, rfl, HD.out⟩
  · have hne : (r != 7) = true := by simp [h7]
    rw [if_neg h7]
    go_enter Tryz.func51, Tryz.ntmps51
    go_wp2_with fail
    refine hrem.mono ?_
    rintro e w1 ⟨bl1, rfl, hd, hf⟩
    have HD := Lib.hid (And.intro hd (HF.out.tr hf))
    clear hd hf hrem h0
    go_wp2_with fail
    go_ret
    exact ⟨bl1, rfl, HD.out⟩

set_option maxHeartbeats 1000000 in
set_option maxRecDepth 100000 in
theorem number_gen (D : Nat) (nm : ByteArray) (hn : NmOk nm) (g : Nat) (hg : g < 32) (w : World) :
    Calls Tryz.prog 81 #[sv D nm, .string (genN nm g)] w fun e w' => e = .returned (.int .i64 (g : Int)) ∧ Below w.heap.size w w' := by
  have h1 := sbox_1 w D nm
  have HB := Lib.hid (sbox_below w D nm)
  have hadd := fun W => run_string_add_sum (P := Tryz.prog) (w := W) nm ⟨#[45]⟩ (by have := hn.size; show nm.size + 1 ≤ _; omega)
  rw [add_dash] at hadd
  have hcut := fun W => cutC (genN nm g) (dashN nm) W
  obtain ⟨dg, hdg⟩ : ∃ dg : ByteArray, dg = ⟨(digL g).toArray⟩ := ⟨_, rfl⟩
  have hds : dg.data.toList = digL g := by rw [hdg]
  rw [gen_trimN, gen_preN, ← hdg] at hcut
  have hsz0 : dg.size = 8 := by have := dig_len ⟨g, hg⟩; rw [← ba_len, hds]; exact this
  have hp := fun W => parseU dg (by omega) g (by rw [hds]; exact dig_parse ⟨g, hg⟩) W
  have hsz : (dg.size : Int) = 8 := by omega
  clear hn hdg hds hsz0
  generalize genN nm g = gb at *
  generalize dashN nm = db at *
  have HP := Lib.hid hp
  clear hp
  go_enter Tryz.func81, Tryz.ntmps81
  go_wp2_with fail
  refine (hcut _).mono ?_
  rintro e w1 ⟨rfl, rfl⟩
  clear hcut
  go_wp2_with fail
  refine (HP.out _).mono ?_
  rintro e w2 ⟨rfl, hb⟩
  have HB2 := Lib.hid (HB.out.trans (hb.mono HB.out.size))
  clear hb h1
  go_wp2_with fail
  go_ret
  exact ⟨by first | rfl | (congr 2; omega), HB2.out⟩

set_option maxHeartbeats 1000000 in
set_option maxRecDepth 100000 in
theorem number_new (D : Nat) (nm : ByteArray) (hn : NmOk nm) (w : World) :
    Calls Tryz.prog 81 #[sv D nm, .string (newN nm)] w fun e w' => e = .returned (.int .i64 0) ∧ Below w.heap.size w w' := by
  have h1 := sbox_1 w D nm
  have HB := Lib.hid (sbox_below w D nm)
  have hadd := fun W => run_string_add_sum (P := Tryz.prog) (w := W) nm ⟨#[45]⟩ (by have := hn.size; show nm.size + 1 ≤ _; omega)
  rw [add_dash] at hadd
  have hcut := fun W => cutC (newN nm) (dashN nm) W
  obtain ⟨dg, hdg⟩ : ∃ dg : ByteArray, dg = ⟨#[110, 101, 119]⟩ := ⟨_, rfl⟩
  rw [new_trimN, new_preN, show (⟨[110, 101, 119].toArray⟩ : ByteArray) = dg from hdg.symm] at hcut
  have hsz : (dg.size : Int) = 3 := by rw [hdg]; rfl
  clear hn hdg
  generalize newN nm = gb at *
  generalize dashN nm = db at *
  go_enter Tryz.func81, Tryz.ntmps81
  go_wp2_with fail
  refine (hcut _).mono ?_
  rintro e w1 ⟨rfl, rfl⟩
  clear hcut
  go_wp2_with fail
  go_ret
  exact ⟨rfl, HB.out⟩

theorem dash_wr (nm : ByteArray) (g : Fin 32) : dashN nm ++ (⟨(wrapL g.val).toArray⟩ : ByteArray).extract 1 9 = genN nm g.val := by
  have h : ((⟨(wrapL g.val).toArray⟩ : ByteArray).extract 1 9).data.toList = digL g.val := by
    have : ∀ g : Fin 32, ((⟨(wrapL g.val).toArray⟩ : ByteArray).extract 1 9).data.toList = digL g.val := by decide +kernel
    exact this g
  exact ba_eq (by rw [ByteArray.data_append, Array.toList_append, dashN_list, h, genN_list])

set_option maxHeartbeats 1000000 in
set_option maxRecDepth 100000 in
theorem file_any (D : Nat) (nm : ByteArray) (hn : NmOk nm) (w : World) (ht : Pows w) (gp : 5 < w.heap.size) (g : Nat) (hg : g < 32) :
    Calls Tryz.prog 67 #[sv D nm, .int .i64 (g : Int)] w fun e w' => e = .returned (.string (genN nm g)) ∧ Below w.heap.size w w' := by
  have hbb := sbox_below w D nm
  have h1 := sbox_1 w D nm
  have hk := sbox_k w D nm
  have ht1 := ht.kept hbb gp
  have hadd := fun W => run_string_add_sum (P := Tryz.prog) (w := W) nm ⟨#[45]⟩ (by have := hn.size; show nm.size + 1 ≤ _; omega)
  rw [add_dash] at hadd
  obtain ⟨wb, hwb⟩ : ∃ wb : ByteArray, wb = ⟨(wrapL g).toArray⟩ := ⟨_, rfl⟩
  have hsz : wb.size = 9 := by have := wrap_len ⟨g, hg⟩; rw [← ba_len, hwb]; exact this
  have hadd2 := fun W => run_string_add_sum (P := Tryz.prog) (w := W) (dashN nm) (wb.extract 1 9) (by
    have h2 := hn.size
    have h3 : (dashN nm).size = nm.size + 1 := by rw [← ba_len, dashN_list, List.length_append, ba_len]; rfl
    rw [ByteArray.size_extract, hsz, h3]; omega)
  rw [show dashN nm ++ wb.extract 1 9 = genN nm g by rw [hwb]; exact dash_wr nm ⟨g, hg⟩] at hadd2
  have hI := fun W => itoaC ((100000000 : Int) + (g : Int)) (by omega) (by omega) W
  rw [show (⟨(Lib.itoa ((100000000 : Int) + (g : Int))).toArray⟩ : ByteArray) = wb from hwb.symm] at hI
  have hszI : (wb.size : Int) = 9 := by omega
  have HBB := Lib.hid hbb
  have HC := Lib.hid h1
  clear hn hwb hbb h1
  generalize dashN nm = db at *
  generalize genN nm g = gb at *
  have HI := Lib.hid hI
  clear hI
  go_enter Tryz.func67, Tryz.ntmps67
  go_wp2_with fail
  refine (HI.out _ ht1).mono ?_
  rintro e w1 ⟨rfl, hb⟩
  have hc : w1.cell? ⟨w.heap.size, 1, none⟩ = some (.string nm) := by rw [hb.cell (p := ⟨w.heap.size, 1, none⟩) hk]; exact HC.out
  have HB := Lib.hid (HBB.out.trans (hb.mono HBB.out.size))
  clear hb
  go_wp2_with fail
  go_quiet (fail)
  go_wp2_with fail
  go_ret
  exact ⟨rfl, belowN HB.out nq⟩
end Go.Proofs.YtjimgncefeldbaaGreatDoor

namespace Go.Proofs.YtjimgncefeldbaaGreatDoor
open Go.RowKit Go.Sort

theorem strInfo8 : (Tryz.prog.info? 9).map (fun i => (i.zero, i.size, i.bytes)) = some (some (.string ByteArray.empty), 1, 16) := by kernel_rfl
theorem filter_take_succ {p : ByteArray → Bool} (l : List ByteArray) (k : Nat) (h : k < l.length) : (l.take (k + 1)).filter p = (l.take k).filter p ++ if p (l.getD k ByteArray.empty) then [l.getD k ByteArray.empty] else [] := by
  rw [List.take_add_one, List.getD_eq_getElem?_getD, List.getElem?_eq_getElem h]
  simp only [List.filter_append, Option.toList_some, List.filter_cons, List.filter_nil, Option.getD_some]
theorem getD_mem {l : List ByteArray} {k : Nat} (h : k < l.length) : l.getD k ByteArray.empty ∈ l := by
  rw [List.getD_eq_getElem?_getD, List.getElem?_eq_getElem h]
  exact List.getElem_mem h
theorem ownS_from {B : Nat} {v : Value} {l : List ByteArray} {w : World} (h : OwnS B v l w) : ∃ ra cap, v = .slice ra l.length cap ∧ StrRow w ra l ∧ (∀ b off, ra = some ⟨b, off, none⟩ → B ≤ b) ∧ l.length ≤ maxLen := by
  obtain ⟨ra, cap, rfl, h1, h2⟩ := ownS_row h
  refine ⟨ra, cap, rfl, h1, ?_, h2⟩
  rintro b off rfl
  exact (World.ownsRow.lt h b rfl).1
theorem ownS_base {B B' : Nat} {v : Value} {l : List ByteArray} {w : World} (h : OwnS B v l w) (hB : B' ≤ B) : OwnS B' v l w :=
  ⟨h.1, h.2.imp id (fun ⟨g, cap, cur, e, hb, r⟩ => ⟨g, cap, cur, e, Nat.le_trans hB hb, r⟩)⟩

set_option maxHeartbeats 4000000 in
set_option maxRecDepth 100000 in
theorem serList_any {a : Addr} {B D : Nat} {s : DS} {bl : List Nat} (nm : ByteArray) (hn : NmOk nm) (w : World) (h : SW a B D s bl w) (L : List ByteArray) (hl : listD s (dashN nm) = L) (hlen : L.length ≤ 2000)
    (hL : ∀ n ∈ L, (∃ g, 1 ≤ g ∧ g < 32 ∧ n = genN nm g) ∨ n = newN nm) :
    Calls Tryz.prog 49 #[sv D nm] w fun e w' => ∃ v, e = .returned v ∧ OwnS w.heap.size v (L.filter fun n => decide (n ≠ newN nm)) w' ∧ Below w.heap.size w w' := by
  obtain ⟨i0, hi, hz0, hz1, hz2⟩ := info_parts strInfo8
  have hbb := sbox_below w D nm
  have h0 := sbox_0 w D nm
  have h1 := sbox_1 w D nm
  have hk := sbox_k w D nm
  have hadd := fun W => run_string_add_sum (P := Tryz.prog) (w := W) nm ⟨#[45]⟩ (by have := hn.size; show nm.size + 1 ≤ _; omega)
  rw [add_dash] at hadd
  have hls := dList (h.keep hbb).disk (dashN nm)
  rw [hl] at hls
  have HL := Lib.hid hls
  have HBB := Lib.hid hbb
  have HC := Lib.hid (And.intro h0 h1)
  have HLL := Lib.hid (And.intro hn hL)
  clear hls hbb hl h hL hn
  generalize dashN nm = db at *
  go_enter Tryz.func49, Tryz.ntmps49
  go_wp2_with fail
  refine HL.out.mono ?_
  rintro e w1 ⟨v, rfl, hown, hb⟩
  obtain ⟨ra, cap, rfl, hrow, hbase, hmax⟩ := ownS_from hown
  have hk1 : w.heap.size < w1.heap.size := Nat.lt_of_lt_of_le hk hb.size
  have k0 : w1.cell? ⟨w.heap.size, 0, none⟩ = some (.pointer (some ⟨D, 0, none⟩)) := by rw [hb.cell (p := ⟨w.heap.size, 0, none⟩) hk]; exact HC.out.1
  have k1 : w1.cell? ⟨w.heap.size, 1, none⟩ = some (.string nm) := by rw [hb.cell (p := ⟨w.heap.size, 1, none⟩) hk]; exact HC.out.2
  have HB1 := Lib.hid (HBB.out.trans (hb.mono HBB.out.size))
  have HROW := Lib.hid hrow
  have HK := Lib.hid (And.intro k0 k1)
  clear hown hb hrow hbase hmax h0 h1 k0 k1 HL
  go_wp2_with fail
  go_loopw [3, 13] (fun u i wr => ∃ k : Nat, k ≤ L.length ∧ i = .int .i64 k ∧ OwnS w1.heap.size u ((L.take k).filter fun n => decide (n ≠ newN nm)) wr ∧ Below w1.heap.size w1 wr) (fun _ i _ => L.length - (intOf i).toNat)
  case atStart => exact ⟨0, Nat.zero_le _, rfl, ownS_nil _ _, Below.refl _ _⟩
  case round =>
    rename_i u i wr
    obtain ⟨k, hk, rfl, hown, hb⟩ := hrel
    have hbs := hb.size
    by_cases hlt : k < L.length
    · obtain ⟨b, off, rfl, hlt', hc⟩ : ∃ b off, ra = some ⟨b, off, none⟩ ∧ b < wr.heap.size ∧ ∀ j, j < L.length → wr.cell? ⟨b, off + j, none⟩ = some (.string (L.getD j ByteArray.empty)) := by
        rcases HROW.out.below hb with h | h
        · rw [h] at hlt; simp at hlt
        · exact h
      have hck := hc k hlt
      have k0 : wr.cell? ⟨w.heap.size, 0, none⟩ = some (.pointer (some ⟨D, 0, none⟩)) := by rw [hb.cell (p := ⟨w.heap.size, 0, none⟩) hk1]; exact HK.out.1
      have k1 : wr.cell? ⟨w.heap.size, 1, none⟩ = some (.string nm) := by rw [hb.cell (p := ⟨w.heap.size, 1, none⟩) hk1]; exact HK.out.2
      have hkr : w.heap.size < wr.heap.size := by omega
      have HN := Lib.hid (filter_take_succ (p := fun n => decide (n ≠ newN nm)) L k hlt)
      have hnl : ((L.take k).filter fun n => decide (n ≠ newN nm)).length ≤ 2000 := Nat.le_trans (List.length_filter_le _ _) (by rw [List.length_take]; omega)
      have HX := Lib.hid (HLL.out.2 _ (getD_mem hlt))
      generalize ((L.take k).filter fun n => decide (n ≠ newN nm)) = ns at *
      clear hc
      generalize L.getD k ByteArray.empty = x at *
      have HB := Lib.hid hb
      clear hb
      rcases HX.out with ⟨g, hg1, hg, rfl⟩ | rfl
      · have hcall := number_gen D nm HLL.out.1 g hg wr
        have hpos : decide ((0 : Int) < (g : Int)) = true := by simp; omega
        have hdec : decide (genN nm g ≠ newN nm) = true := by simpa using genN_ne_new nm hg
        rw [hdec] at HN
        generalize genN nm g = x at *
        have HC := Lib.hid hcall
        clear hcall hdec
        go_wp2_with fail
        refine HC.out.mono ?_
        rintro e w2 ⟨rfl, hb2⟩
        have hown1 := hown.below hb2 (Nat.le_refl _)
        have hbs1 := hb2.size
        have HB2 := Lib.hid (HB.out.trans (hb2.mono hbs))
        clear hb2 hown hck k0 k1
        go_wp2_with (at_builtin; refine wpList_append_own _ rfl _ _ 40 rfl w1.heap.size 9 i0 (.string ByteArray.empty) 1 16 Tryz.underlying40 hi hz0 hz1 hz2 rfl (by decide) _ _ _ rfl (World.ownsRow.alloc hown1 _) ⟨w2.heap.size, 0, none⟩ 1 1 [Value.string x] rfl rfl ?c1 ?c2 ?c3 ?c4 ?c5 ?_)
        case c1 =>
          intro j u hj
          match j, hj with
          | 0, hj => simp at hj; subst hj; simp [Addr.add]
        case c2 => intro u hu; simp at hu; subst hu; rfl
        case c3 => unfold maxLen; omega
        case c4 => omega
        case c5 => simp; omega
        intro v' w3 hown3 hg3 _
        have hrow' : OwnS w1.heap.size v' ((L.take (k + 1)).filter fun n => decide (n ≠ newN nm)) w3 := by
          have := HN.out
          simp only [if_true] at this
          rw [this]; unfold OwnS; rw [List.length_append, List.map_append]; exact hown3
        have hB3 : Below w1.heap.size w1 w3 := (HB2.out.alloc (by omega) _).grown hg3 (by simp; omega) (fun j hj => (World.ownsRow.lt hown1 j hj).1)
        have H3 := Lib.hid hrow'
        have H4 := Lib.hid hB3
        clear hown3 hown1 hrow' hB3 hg3
        go_wp2
        go_roundw
        case rel => exact ⟨k + 1, by omega, by go_num, H3.out, H4.out⟩
        case measure => simp [intOf]; omega
      · have hcall := number_new D nm HLL.out.1 wr
        have hdec : decide (newN nm ≠ newN nm) = false := by simp
        rw [hdec] at HN
        have HNN := Lib.hid (show ((L.take (k + 1)).filter fun n => decide (n ≠ newN nm)) = ns by
          have := HN.out; simpa using this)
        generalize hx : newN nm = x at *
        have HC := Lib.hid hcall
        clear hcall hdec HN hx
        go_wp2_with fail
        refine HC.out.mono ?_
        rintro e w2 ⟨rfl, hb2⟩
        have HO := Lib.hid (hown.below hb2 (Nat.le_refl _))
        have HB2 := Lib.hid (HB.out.trans (hb2.mono hbs))
        clear hb2 hown hck k0 k1
        go_wp2_with fail
        go_roundw
        case rel => exact ⟨k + 1, by omega, by go_num, by rw [HNN.out]; exact HO.out, HB2.out⟩
        case measure => simp [intOf]; omega
    · obtain rfl : k = L.length := by omega
      rw [List.take_length] at hown
      have HB := Lib.hid hb
      have HO := Lib.hid hown
      clear hb hown
      go_wp2_with fail
      go_ret
      exact ⟨_, rfl, ownS_base HO.out (by omega), HB1.out.trans (HB.out.mono HB1.out.size)⟩
end Go.Proofs.YtjimgncefeldbaaGreatDoor

namespace Go.Proofs.YtjimgncefeldbaaGreatDoor
open Go.RowKit Go.Sort

set_option maxHeartbeats 4000000 in
set_option maxRecDepth 100000 in
theorem lay_any {a : Addr} {B D : Nat} {s : DS} {bl : List Nat} (nm : ByteArray) (hn : NmOk nm) (w : World) (h : SW a B D s bl w) (body : ByteArray) (g : Nat) (hg : g < 32) (hb1 : body.size ≤ 1000000) :
    Calls Tryz.prog 106 #[sv D nm, .string body, .int .i64 (g : Int)] w (Acts B D bl (layS s (newN nm) body (genN nm g)) w) := by
  have hbb := sbox_below w D nm
  have hnb : w.heap.size ∉ bl := fun hin => by have := (h.disk.lt _ hin).2; omega
  have HNB := Lib.hid hnb
  have HC := Lib.hid (And.intro (sbox_0 w D nm) (sbox_1 w D nm))
  have hk := sbox_k w D nm
  have HBB := Lib.hid hbb
  have HS := Lib.hid (h.keep hbb)
  have hfr := fresh_any D nm hn
  have HFR := Lib.hid hfr
  have HN := Lib.hid hn
  have hns : (newN nm).size ≤ 9223372036854775807 := by rw [newN_size]; have := hn.size; omega
  have hgs : (genN nm g).size ≤ 9223372036854775807 := by rw [genN_size nm hg]; have := hn.size; omega
  have HF0 := Lib.hid (Fr.of_below (bl := bl) hbb)
  obtain ⟨r1, s1, e1⟩ : ∃ r1 s1, dropS s (newN nm) = (r1, s1) := ⟨_, _, rfl⟩
  obtain ⟨r2, s2, e2⟩ : ∃ r2 s2, appendS s1 (newN nm) body = (r2, s2) := ⟨_, _, rfl⟩
  obtain ⟨r3, s3, e3⟩ : ∃ r3 s3, syncS s2 (newN nm) = (r3, s3) := ⟨_, _, rfl⟩
  obtain ⟨r4, s4, e4⟩ : ∃ r4 s4, renameS s3 (newN nm) (genN nm g) = (r4, s4) := ⟨_, _, rfl⟩
  have hl : layS s (newN nm) body (genN nm g) = if r1 ≠ 0 then (r1, s1) else if r2 ≠ 0 then (r2, s2) else if r3 ≠ 0 then (r3, s3) else (r4, s4) := by
    unfold layS
    rw [e1]; simp only; rw [e2]; simp only; rw [e3]; simp only; rw [e4]
  rw [hl]
  have hd := fun W (hW : SW a B D s bl W) => drop_any nm W hW (newN nm)
  have ha := fun W bl1 (hW : SW a B D s1 bl1 W) => dAppend hW.disk (newN nm) body a hW.pow hW.g1 hns (by omega)
  have hs := fun W bl1 (hW : SW a B D s2 bl1 W) => dSync hW.disk (newN nm) a hW.pow hW.g1
  have hr := fun W bl1 (hW : SW a B D s3 bl1 W) => dRename hW.disk (newN nm) (genN nm g) a hW.pow hW.g1 hgs
  have hf := fun W (hW : Pows W) (hp : 5 < W.heap.size) => file_any D nm hn W hW hp g hg
  rw [e1] at hd
  rw [e2] at ha
  rw [e3] at hs
  rw [e4] at hr
  have HD := Lib.hid hd
  have HA := Lib.hid ha
  have HSY := Lib.hid hs
  have HR := Lib.hid hr
  have HF := Lib.hid hf
  clear hl e1 e2 e3 e4 hd ha hs hr hf hn h hbb hfr hnb
  generalize newN nm = nb at *
  generalize genN nm g = gb at *
  have c0 := HC.out.1
  have c1 := HC.out.2
  by_cases h1 : r1 = 0
  case neg =>
    rw [if_pos h1]
    have hne : (r1 != 0) = true := by simp [h1]
    go_enter Tryz.func106, Tryz.ntmps106
    go_wp2_with fail
    refine (HFR.out _).mono ?_
    rintro e w1 ⟨rfl, hb⟩
    have HS1 := Lib.hid (And.intro (HS.out.keep hb) (HF0.out.tr (Fr.of_below hb)))
    have k0 : w1.cell? ⟨w.heap.size, 0, none⟩ = some (.pointer (some ⟨D, 0, none⟩)) := by rw [hb.cell (p := ⟨w.heap.size, 0, none⟩) hk]; exact HC.out.1
    have k1 : w1.cell? ⟨w.heap.size, 1, none⟩ = some (.string nm) := by rw [hb.cell (p := ⟨w.heap.size, 1, none⟩) hk]; exact HC.out.2
    clear hb c0 c1
    go_wp2_with fail
    refine (HD.out _ HS1.out.1).mono ?_
    rintro e w2 ⟨bl2, rfl, hd2, hf2⟩
    have H2 := Lib.hid (And.intro hd2 (HS1.out.2.tr hf2))
    clear hd2 hf2 k0 k1
    go_wp2_with fail
    go_ret
    exact ⟨bl2, rfl, H2.out⟩
  case pos =>
    subst h1
    rw [if_neg (by simp)]
    have hblk : ∀ W bl2, Fr bl bl2 w W → Fr bl bl2 (sbox w D nm) W → W.cell? ⟨w.heap.size, 0, none⟩ = some (.pointer (some ⟨D, 0, none⟩)) ∧ W.cell? ⟨w.heap.size, 1, none⟩ = some (.string nm) := fun W bl2 _ hf => by
      have e := hf.block w.heap.size hk HNB.out
      exact ⟨(World.cell?_of_block e).trans HC.out.1, (World.cell?_of_block e).trans HC.out.2⟩
    have HBLK := Lib.hid hblk
    have HFS := Lib.hid (Fr.of_below (bl := bl) (Below.refl _ (sbox w D nm)))
    clear hblk
    by_cases h2 : r2 = 0
    case neg =>
      rw [if_pos h2]
      have hne : (r2 != 0) = true := by simp [h2]
      go_enter Tryz.func106, Tryz.ntmps106
      go_wp2_with fail
      refine (HFR.out _).mono ?_
      rintro e w1 ⟨rfl, hb⟩
      have HS1 := Lib.hid (And.intro (HS.out.keep hb) (And.intro (HF0.out.tr (Fr.of_below hb)) (HFS.out.tr (Fr.of_below hb))))
      obtain ⟨k0, k1⟩ := HBLK.out _ _ HS1.out.2.1 HS1.out.2.2
      clear hb c0 c1
      go_wp2_with fail
      refine (HD.out _ HS1.out.1).mono ?_
      rintro e w2 ⟨bl2, rfl, hd2, hf2⟩
      have H2 := Lib.hid (And.intro (HS1.out.1.step hd2 hf2) (And.intro (HS1.out.2.1.tr hf2) (HS1.out.2.2.tr hf2)))
      clear hd2 hf2 k0 k1
      obtain ⟨k0, k1⟩ := HBLK.out _ _ H2.out.2.1 H2.out.2.2
      go_wp2_with fail
      refine (HA.out _ _ H2.out.1).mono ?_
      rintro e w3 ⟨bl3, rfl, hd3, hf3⟩
      have H3 := Lib.hid (And.intro hd3 (H2.out.2.1.tr hf3))
      clear hd3 hf3 k0 k1
      go_wp2_with fail
      go_ret
      exact ⟨bl3, rfl, H3.out⟩
    case pos =>
      subst h2
      rw [if_neg (by simp)]
      by_cases h3 : r3 = 0
      case neg =>
        rw [if_pos h3]
        have hne : (r3 != 0) = true := by simp [h3]
        go_enter Tryz.func106, Tryz.ntmps106
        go_wp2_with fail
        refine (HFR.out _).mono ?_
        rintro e w1 ⟨rfl, hb⟩
        have HS1 := Lib.hid (And.intro (HS.out.keep hb) (And.intro (HF0.out.tr (Fr.of_below hb)) (HFS.out.tr (Fr.of_below hb))))
        obtain ⟨k0, k1⟩ := HBLK.out _ _ HS1.out.2.1 HS1.out.2.2
        clear hb c0 c1
        go_wp2_with fail
        refine (HD.out _ HS1.out.1).mono ?_
        rintro e w2 ⟨bl2, rfl, hd2, hf2⟩
        have H2 := Lib.hid (And.intro (HS1.out.1.step hd2 hf2) (And.intro (HS1.out.2.1.tr hf2) (HS1.out.2.2.tr hf2)))
        clear hd2 hf2 k0 k1
        obtain ⟨k0, k1⟩ := HBLK.out _ _ H2.out.2.1 H2.out.2.2
        go_wp2_with fail
        refine (HA.out _ _ H2.out.1).mono ?_
        rintro e w3 ⟨bl3, rfl, hd3, hf3⟩
        have H3 := Lib.hid (And.intro (H2.out.1.step hd3 hf3) (And.intro (H2.out.2.1.tr hf3) (H2.out.2.2.tr hf3)))
        clear hd3 hf3 k0 k1
        obtain ⟨k0, k1⟩ := HBLK.out _ _ H3.out.2.1 H3.out.2.2
        go_wp2_with fail
        refine (HSY.out _ _ H3.out.1).mono ?_
        rintro e w4 ⟨bl4, rfl, hd4, hf4⟩
        have H4 := Lib.hid (And.intro hd4 (H3.out.2.1.tr hf4))
        clear hd4 hf4 k0 k1
        go_wp2_with fail
        go_ret
        exact ⟨bl4, rfl, H4.out⟩
      case pos =>
        subst h3
        rw [if_neg (by simp)]
        go_enter Tryz.func106, Tryz.ntmps106
        go_wp2_with fail
        refine (HFR.out _).mono ?_
        rintro e w1 ⟨rfl, hb⟩
        have HS1 := Lib.hid (And.intro (HS.out.keep hb) (And.intro (HF0.out.tr (Fr.of_below hb)) (HFS.out.tr (Fr.of_below hb))))
        obtain ⟨k0, k1⟩ := HBLK.out _ _ HS1.out.2.1 HS1.out.2.2
        clear hb c0 c1
        go_wp2_with fail
        refine (HD.out _ HS1.out.1).mono ?_
        rintro e w2 ⟨bl2, rfl, hd2, hf2⟩
        have H2 := Lib.hid (And.intro (HS1.out.1.step hd2 hf2) (And.intro (HS1.out.2.1.tr hf2) (HS1.out.2.2.tr hf2)))
        clear hd2 hf2 k0 k1
        obtain ⟨k0, k1⟩ := HBLK.out _ _ H2.out.2.1 H2.out.2.2
        go_wp2_with fail
        refine (HA.out _ _ H2.out.1).mono ?_
        rintro e w3 ⟨bl3, rfl, hd3, hf3⟩
        have H3 := Lib.hid (And.intro (H2.out.1.step hd3 hf3) (And.intro (H2.out.2.1.tr hf3) (H2.out.2.2.tr hf3)))
        clear hd3 hf3 k0 k1
        obtain ⟨k0, k1⟩ := HBLK.out _ _ H3.out.2.1 H3.out.2.2
        go_wp2_with fail
        refine (HSY.out _ _ H3.out.1).mono ?_
        rintro e w4 ⟨bl4, rfl, hd4, hf4⟩
        have H4 := Lib.hid (And.intro (H3.out.1.step hd4 hf4) (And.intro (H3.out.2.1.tr hf4) (H3.out.2.2.tr hf4)))
        clear hd4 hf4 k0 k1
        obtain ⟨c0, c1⟩ := HBLK.out _ _ H4.out.2.1 H4.out.2.2
        have hbd : Below w4.heap.size w4 w4.drew := (Below.refl _ w4).drew
        have hsd := H4.out.1.keep hbd
        have HFI := Lib.hid (HF.out w4.drew hsd.tab (by have := hsd.g2; have := hsd.size; omega))
        clear hbd hsd
        go_upto_region 11 with fail
        go_region_held3 (fun U => U.cell? ⟨w.heap.size, 0, none⟩ = some (.pointer (some ⟨D, 0, none⟩)) ∧ U.cell? ⟨w.heap.size, 1, none⟩ = some (.string nm)) (first | go_keep)
          (first
           | ((with_reducible refine HFI.out.mono ?_); rintro e w5 ⟨rfl, hb5⟩
              have hb5' : Below w4.heap.size w4 w5 := ((Below.refl _ w4).drew).trans hb5
              have H5 := Lib.hid (And.intro (H4.out.1.keep hb5') (And.intro (H4.out.2.1.tr (Fr.of_below hb5')) (H4.out.2.2.tr (Fr.of_below hb5'))))
              obtain ⟨c0, c1⟩ := HBLK.out _ _ H5.out.2.1 H5.out.2.2
              have HRN := Lib.hid (HR.out _ _ H5.out.1)
              clear hb5 hb5')
           | ((with_reducible refine HRN.out.mono ?_); rintro e w6 ⟨bl6, rfl, hd6, hf6⟩
              have H6 := Lib.hid (And.intro hd6 (H5.out.2.1.tr hf6))
              obtain ⟨c0, c1⟩ := HBLK.out _ _ (H5.out.2.1.tr hf6) (H5.out.2.2.tr hf6)
              clear hd6 hf6)
           | fail)
        all_goals
          go_wp2_with fail
          go_ret
          exact ⟨bl6, rfl, H6.out⟩
end Go.Proofs.YtjimgncefeldbaaGreatDoor
