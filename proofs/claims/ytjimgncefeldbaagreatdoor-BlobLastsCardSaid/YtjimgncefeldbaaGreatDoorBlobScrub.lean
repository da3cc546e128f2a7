/-
  blob: Scrub, where each chunk has its ID.
-/
import Derived.Test.YtjimgncefeldbaaGreatDoorGBlobF
import Derived.Test.YtjimgncefeldbaaGreatDoorGDiskC
namespace Go.Proofs.YtjimgncefeldbaaGreatDoor
open Go.Shelf Go.RowKit Go.Sort Go.Maps

section
variable {a : Addr} {B D S seg m N vc : Nat} {s : DS} {bl : List Nat} {M : DU} {va : Option Addr} {zs : List Nat} {torn en : Bool}

set_option maxHeartbeats 1000000 in
set_option maxRecDepth 100000 in
theorem sound_any (w : World) (h : ST a B D s bl S seg m N M va vc zs torn en w) (id : ByteArray) (hid : id.size ≤ maxLen) (hs : idS (strAt M id) = id) (hz : (strAt M id).size ≤ 5000) :
    Calls Tryz.prog 90 #[.pointer (some ⟨S, 0, none⟩), .string id] w fun e w' => e = .returned (.bool true) ∧ Below w.heap.size w w' := by
  have c4 := h.blk.c4
  have hlt := h.blk.lt
  obtain ⟨v0, ps, hrun, hv0⟩ := h.map.lookup strKeyed Tryz.underlying77 (zeroPiece w) (pieceE_mk ByteArray.empty) (strKey hid)
  obtain ⟨sx, rfl, hsx⟩ := pieceE_inv hv0
  have hsa : strAt M id = sx := strAt_eq (Prod.mk.inj hsx).1
  rw [hsa] at hs hz
  have hfl := fun W => field_piece sx W
  have hid' := idC sx w hz h.sha
  rw [hs] at hid'
  have HID := Lib.hid hid'
  clear hv0 hsx hsa hs hid' h hid hz
  go_enter Tryz.func90, Tryz.ntmps90
  go_wp2_with fail
  refine HID.out.mono ?_
  rintro e w1 ⟨rfl, hb⟩
  go_wp2_with fail
  go_ret
  exact ⟨by first | rfl | simp, hb⟩

set_option maxHeartbeats 1000000 in
set_option maxRecDepth 100000 in
theorem idxTrue (g : FuncId) (b n cap : Nat) (x : ByteArray) (w : World) (hent : ∀ args w, (callFunc g args).run Tryz.prog w = .ok (.enter g args) w) (hn : 0 < n) (hc : w.cell? ⟨b, 0, none⟩ = some (.string x)) (hb : b < w.heap.size)
    (hp : Calls Tryz.prog g #[.pointer (some ⟨S, 0, none⟩), .string x] w fun e w' => e = .returned (.bool true) ∧ Below w.heap.size w w') :
    Calls Tryz.prog 94 #[.slice (some ⟨b, 0, none⟩) n cap, .func (.func g) #[.pointer (some ⟨S, 0, none⟩)] #[]] w fun e w' => e = .returned (.int .i64 0) ∧ Below w.heap.size w w' := by
  have HP := Lib.hid hp
  have HC := Lib.hid hc
  have hpos : (0 : Int) < (n : Int) := by omega
  clear hp hc
  go_enter Tryz.func94, Tryz.ntmps94
  go_wp2_with fail
  go_loopw [8] (fun i wr => i = .int .i64 0 ∧ Hid (wr = w)) (fun _ _ => 0)
  case atStart => exact ⟨rfl, Lib.hid rfl⟩
  case round =>
    obtain ⟨rfl, hw⟩ := hrel
    have hww := hw.out
    subst hww
    have hc := HC.out
    go_wp2_with fail
    refine HP.out.mono ?_
    rintro e w1 ⟨rfl, hb1⟩
    go_wp2_with fail
    go_ret
    exact ⟨rfl, hb1⟩

set_option maxHeartbeats 2000000 in
set_option maxRecDepth 100000 in
/-- what is to be struck from a row of texts is all -/
theorem delAll (g : FuncId) (b n cap : Nat) (cur : Array Value) (L : List ByteArray) (w : World) (hent : ∀ args w, (callFunc g args).run Tryz.prog w = .ok (.enter g args) w) (hn : 0 < n) (hln : L.length = n) (hcap : n ≤ cap) (hn2 : n ≤ 100000)
    (hg : w.heap[b]? = some (.cells cur 9 (0, 0))) (hcur : cur.size = cap) (hcell : ∀ j, j < n → w.cell? ⟨b, 0 + j, none⟩ = some (.string (L.getD j ByteArray.empty)))
    (hp : ∀ W x, x ∈ L → Below w.heap.size w W → Calls Tryz.prog g #[.pointer (some ⟨S, 0, none⟩), .string x] W fun e w' => e = .returned (.bool true) ∧ Below W.heap.size W w') :
    Calls Tryz.prog 89 #[.slice (some ⟨b, 0, none⟩) n cap, .func (.func g) #[.pointer (some ⟨S, 0, none⟩)] #[]] w fun e w' => e = .returned (.slice (some ⟨b, 0, none⟩) 0 cap) ∧ Below b w w' := by
  have hb : b < w.heap.size := lt_of_block hg
  have HP := Lib.hid hp
  have HC := Lib.hid hcell
  have HG := Lib.hid (And.intro hg hcur)
  have hx0 : L.getD 0 ByteArray.empty ∈ L := getD_mem (by omega)
  have HIX := Lib.hid (idxTrue (S := S) g b n cap (L.getD 0 ByteArray.empty) w hent hn (hcell 0 hn) hb (hp w _ hx0 (Below.refl _ _)))
  have HLN := Lib.hid (show n ≤ L.length by omega)
  clear hp hcell hg hcur hx0 hln
  go_enter Tryz.func89, Tryz.ntmps89
  go_wp2_with fail
  refine HIX.out.mono ?_
  rintro e w1 ⟨rfl, hb1⟩
  have HB1 := Lib.hid hb1
  clear hb1 HIX
  go_wp2_with fail
  go_loopw [5, 6] (fun z i wr => ∃ k : Nat, 1 ≤ k ∧ k ≤ n ∧ z = .int .i64 0 ∧ i = .int .i64 k ∧ Below w.heap.size w wr) (fun _ i _ => n - (intOf i).toNat)
  case atStart => exact ⟨1, Nat.le_refl _, hn, rfl, rfl, HB1.out⟩
  case round =>
    obtain ⟨k, hk1, hk, rfl, rfl, hbr⟩ := hrel
    by_cases hlk : k < n
    · have hck : wr.cell? ⟨b, 0 + k, none⟩ = some (.string (L.getD k ByteArray.empty)) := by rw [hbr.cell (p := ⟨b, 0 + k, none⟩) hb]; exact HC.out k hlk
      rw [Nat.zero_add] at hck
      have hbw : b < wr.heap.size := Nat.lt_of_lt_of_le hb hbr.size
      have HX := Lib.hid (HP.out wr _ (getD_mem (l := L) (k := k) (by have := HLN.out; omega)) hbr)
      generalize L.getD k ByteArray.empty = x at *
      have HBR := Lib.hid hbr
      clear hbr
      go_wp2_with fail
      refine HX.out.mono ?_
      rintro e w2 ⟨rfl, hb2⟩
      have HB2 := Lib.hid (HBR.out.trans (hb2.mono HBR.out.size))
      clear hb2 hck
      go_wp2_with fail
      go_roundw
      case rel => exact ⟨k + 1, by omega, by omega, rfl, by go_num, HB2.out⟩
      case measure => simp [intOf]; omega
    · obtain rfl : k = n := by omega
      obtain ⟨i0, hi, hz0, hz1, hz2⟩ := info_parts strInfo8
      have hgr : wr.heap[b]? = some (.cells cur 9 (0, 0)) := (hbr.block b hb).trans HG.out.1
      have hcl := fun ty => run_clear_cells (P := Tryz.prog) wr 40 ty 9 (.string ByteArray.empty) i0 b 0 k cap cur 9 Tryz.underlying40 hi hz0 hgr
        (by rw [HG.out.2]; show 0 + k * 1 ≤ cap; omega) (by
          intro v hv
          have : v = Value.string ByteArray.empty := by
            simp only [Builtin.zeroCells, Value.cells] at hv
            simp [Nat.mod_one] at hv
            exact hv.2.symm
          subst this; rfl) hn
      obtain ⟨cs, hcs⟩ : ∃ cs, (cur.toList.take 0 ++ (Builtin.zeroCells (Value.string ByteArray.empty).cells k).toList ++ cur.toList.drop (0 + (Builtin.zeroCells (Value.string ByteArray.empty).cells k).toList.length)).toArray = cs := ⟨_, rfl⟩
      rw [hcs] at hcl
      have HBR := Lib.hid hbr
      clear hcs hbr hgr
      go_wp2_with (at_builtin; refine wpList_clear_run rfl _ _ rfl _ _ _ rfl (hcl _) ?_)
      go_ret
      exact ⟨rfl, belowRow (HBR.out.mono (Nat.le_of_lt hb)) (Nat.le_refl _) _⟩

set_option maxHeartbeats 1000000 in
set_option maxRecDepth 100000 in
theorem scrub_any (w : World) (h : ST a B D s bl S seg m N M va vc zs torn en w) (hN : N ≤ 1000) (hM : ∀ id, hasC M id = true → idS (strAt M id) = id ∧ (strAt M id).size ≤ 5000) (hne : ∃ id, hasC M id = true) :
    Calls Tryz.prog 48 #[.pointer (some ⟨S, 0, none⟩)] w fun e w' => ∃ ad cap, e = .returned (.slice ad 0 cap) ∧ Below w.heap.size w w' := by
  have hids := ids_any w h (by omega)
  have H := Lib.hid h
  have HM := Lib.hid hM
  have hsz := h.map.size_le
  have hmf : ∀ (fn : Fn) (first cap : Array Value) (w : World), (Instr.makeFunc fn first cap).run Tryz.prog w = .ok (.func fn first cap) w := fun _ _ _ _ => rfl
  have hent := enters_of Tryz.func90 (by kernel_rfl) rfl
  clear h hM
  go_enter Tryz.func48, Tryz.ntmps48
  go_wp2_with fail
  refine hids.mono ?_
  rintro e w1 ⟨v, L, rfl, hown, hL, hb1⟩
  obtain ⟨id0, h0⟩ := hne
  have hmem := (hL.mem id0).2 h0
  have hpos : 0 < L.length := List.length_pos_of_mem hmem
  have hown' := hown
  rcases hown.2 with ⟨_, hz⟩ | ⟨b, cap, cur, rfl, hbB, hg, hcap, hmax, hcs, htk⟩
  · omega
  have hrow : ∀ j, j < L.length → w1.cell? ⟨b, 0 + j, none⟩ = some (.string (L.getD j ByteArray.empty)) := by
    obtain ⟨ra, cap', e1, h2, -, -⟩ := ownS_from hown'
    simp at e1
    rcases h2 with h2 | ⟨b', off', e2, -, h3⟩
    · rw [h2] at hpos; simp at hpos
    · rw [← e1.1] at e2; simp at e2; obtain ⟨rfl, rfl⟩ := e2; exact h3
  have hlen := hL.len
  have hdel := delAll (S := S) 90 b L.length cap cur L w1 hent hpos rfl hcap (by omega) hg (by simpa using hcs) hrow (fun W x hx hb => sound_any W ((H.out.keep hb1).keep hb) x (hL.small x hx) (HM.out x ((hL.mem x).1 hx)).1 (HM.out x ((hL.mem x).1 hx)).2)
  have HD := Lib.hid hdel
  have HB := Lib.hid (And.intro hb1 hbB)
  clear hdel hrow hown hown' hg hcs htk hlen hL hmem hb1 hids
  generalize L.length = n at *
  go_wp2_with fail
  refine HD.out.mono ?_
  rintro e w2 ⟨rfl, hb2⟩
  have HB2 := Lib.hid (HB.out.1.trans (hb2.mono HB.out.2))
  clear hb2
  go_wp2_with fail
  go_ret
  exact ⟨_, _, rfl, HB2.out⟩
end
end Go.Proofs.YtjimgncefeldbaaGreatDoor
