/-
  seglog: Snapshot.
-/
import Derived.Test.YtjimgncefeldbaaGreatDoorSegApp
namespace Go.Proofs.YtjimgncefeldbaaGreatDoor
open Go.RowKit Go.Sort

set_option maxHeartbeats 2000000 in
set_option maxRecDepth 100000 in
theorem snapshot_any {a : Addr} {B D L g : Nat} {s : DS} {bl : List Nat} {base : ByteArray} {rv : Value} (w : World) (h : LW a B D s bl L g base rv false w) (hg : g + 1 < 12) (t : ByteArray) (ht : t.size ≤ 65536) (s4 s5 : DS)
    (hs : LayS s (recB t) (genB (g + 1)) s4) (h5 : AheadS g s4 s5) :
    Calls Tryz.prog 29 #[.pointer (some ⟨L, 0, none⟩), .string t] w (Turned a B D L (g + 1) t (.slice none 0 0) false 0 s5 bl w) := by
  have hrec := record_any t w h.log ht
  have hrsz := recB_size t ht
  have HL := Lib.hid h
  have HS := Lib.hid (And.intro hs h5)
  clear h hs h5
  generalize recB t = R at *
  go_enter Tryz.func29, Tryz.ntmps29
  go_wp2_with fail
  refine hrec.mono ?_
  rintro e w1 ⟨rfl, hb1⟩
  have hrp := replace_any w1 (HL.out.keep hb1) R t none 0 0 s4 s5 hg HS.out.1 HS.out.2 (by omega)
  have HB1 := Lib.hid hb1
  clear hb1 hrec
  go_wp2_with fail
  refine hrp.mono ?_
  rintro e w2 ⟨bl2, rfl, hl2, hf2⟩
  have f5 := hl2.log.free 6
  have k5 := hl2.log.c6
  have HF := Lib.hid (And.intro (hl2.set 6 (.bool false) (hl2.log.setEnd false)) (((Fr.of_below (bl := L :: bl) HB1.out).tr hf2).tr (Fr.sets L bl2 6 (.bool false) w2)))
  clear hl2 hf2 hrp
  go_wp2_with fail
  go_ret
  exact ⟨bl2, rfl, HF.out⟩
end Go.Proofs.YtjimgncefeldbaaGreatDoor
