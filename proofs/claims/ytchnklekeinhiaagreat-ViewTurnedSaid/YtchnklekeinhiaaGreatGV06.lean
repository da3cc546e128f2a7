/-
  hexa.Read: what the call answers.
  almonryref03.Put and Read: what each call answers.
-/
import Derived.Test.YtchnklekeinhiaaGreatGV05
import Derived.Lib.OthersKept
import Derived.Laws.RangeAny
import Derived.Laws.BitsAllLaws
import Derived.Laws.OwnMore
import Derived.IntWalk
namespace Go.Proofs.YtchnklekeinhiaaGreat
open Go.RowKit

/-- what is read of a text: its bytes (none beside an error), the error's number -/
def rdL (l : List UInt8) : List UInt8 := (readL l).getD []
def rdS (l : List UInt8) : ByteArray := ⟨(rdL l).toArray⟩
def rdE (l : List UInt8) : Int := if (readL l).isSome then 0 else 5

theorem rd_none {l : List UInt8} (h : readL l = none) : rdS l = ⟨#[]⟩ ∧ rdE l = 5 := by simp [rdS, rdE, rdL, h]
theorem rd_some {l r : List UInt8} (h : readL l = some r) : rdS l = ⟨r.toArray⟩ ∧ rdE l = 0 := by simp [rdS, rdE, rdL, h]

def hrv (l : List UInt8) (pos k : Nat) : Nat :=
  if 2 * k + 2 ≤ pos then 16 * hv (l.getD (2 * k) 0).toNat + hv (l.getD (2 * k + 1) 0).toNat else if 2 * k + 1 ≤ pos then hv (l.getD (2 * k) 0).toNat else 0
def rdRow (l : List UInt8) (n pos : Nat) : List UInt8 := (List.range n).map fun k => UInt8.ofNat (hrv l pos k)

theorem rdRow_len (l : List UInt8) (n pos : Nat) : (rdRow l n pos).length = n := by simp [rdRow]
theorem rdRow_zero (l : List UInt8) (n : Nat) : rdRow l n 0 = List.replicate n 0 := by
  apply List.ext_getElem (by simp [rdRow])
  intro i h1 h2
  simp [rdRow, hrv]

theorem rv_far (l : List UInt8) (pos k : Nat) (h : k ≠ pos / 2) : hrv l (pos + 1) k = hrv l pos k := by
  unfold hrv
  by_cases h1 : 2 * k + 2 ≤ pos
  · rw [if_pos h1, if_pos (by omega)]
  · rw [if_neg h1, if_neg (by omega)]
    by_cases h2 : 2 * k + 1 ≤ pos
    · rw [if_pos h2, if_pos (by omega)]
    · rw [if_neg h2, if_neg (by omega)]

theorem rdRow_set (l : List UInt8) (n pos : Nat) : (rdRow l n pos).set (pos / 2) (UInt8.ofNat (hrv l (pos + 1) (pos / 2))) = rdRow l n (pos + 1) := by
  apply List.ext_getElem (by simp [rdRow])
  intro i h1 h2
  rw [List.getElem_set]
  split
  · rename_i h; subst h; simp [rdRow]
  · rename_i h; simp only [rdRow, List.getElem_map, List.getElem_range]; rw [rv_far l pos i (fun e => h e.symm)]

theorem rv_even (l : List UInt8) (pos : Nat) (h : pos % 2 = 0) : hrv l pos (pos / 2) = 0 ∧ hrv l (pos + 1) (pos / 2) = hv (l.getD pos 0).toNat := by
  have e : 2 * (pos / 2) = pos := by omega
  unfold hrv
  constructor
  · rw [if_neg (by omega), if_neg (by omega)]
  · rw [if_neg (by omega), if_pos (by omega), e]

theorem rv_odd (l : List UInt8) (pos : Nat) (h : pos % 2 = 1) : hrv l pos (pos / 2) = hv (l.getD (pos - 1) 0).toNat ∧ hrv l (pos + 1) (pos / 2) = 16 * hv (l.getD (pos - 1) 0).toNat + hv (l.getD pos 0).toNat := by
  have e : 2 * (pos / 2) = pos - 1 := by omega
  have e2 : pos - 1 + 1 = pos := by omega
  unfold hrv
  constructor
  · rw [if_neg (by omega), if_pos (by omega), e]
  · rw [if_pos (by omega), e, e2]

theorem rv_small (l : List UInt8) (pos k : Nat) (h : ∀ k, k < pos → hv (l.getD k 0).toNat < 16) : hrv l pos k < 256 := by
  unfold hrv
  split
  · have h1 := h (2 * k) (by omega)
    have h2 := h (2 * k + 1) (by omega)
    omega
  · split
    · have h1 := h (2 * k) (by omega)
      omega
    · omega

theorem readL_row : ∀ (l : List UInt8), l.length % 2 = 0 → (∀ k, k < l.length → hv (l.getD k 0).toNat < 16) → readL l = some (rdRow l (l.length / 2) l.length)
  | [], _, _ => rfl
  | [_], h, _ => by simp at h
  | a :: b :: t, h, hd => by
    have h0 := hd 0 (by simp)
    have h1 := hd 1 (by simp)
    simp at h0 h1
    have ih := readL_row t (by simp at h; omega) (fun k hk => by have := hd (k + 2) (by simp; omega); simpa using this)
    simp only [readL]
    rw [if_pos ⟨h0, h1⟩, ih]
    simp only [Option.map_some, Option.some.injEq]
    have e : (a :: b :: t).length / 2 = t.length / 2 + 1 := by simp; omega
    rw [e]
    apply List.ext_getElem (by simp [rdRow])
    intro i hi1 hi2
    cases i with
    | zero => simp [rdRow, hrv]
    | succ i =>
      simp only [List.getElem_cons_succ, rdRow, List.getElem_map, List.getElem_range]
      congr 1
      unfold hrv
      have e1 : 2 * (i + 1) = 2 * i + 2 := by omega
      have e2 : 2 * i + 2 + 1 = 2 * i + 1 + 2 := by omega
      have hi3 : i < t.length / 2 := by simpa [rdRow] using hi2
      rw [if_pos (by omega), if_pos (by simp; omega), e1, e2]
      simp [List.getD]

theorem byteCells_set (l : List UInt8) (k a : Nat) (ha : a < 256) : (Lib.byteCells l).set k (.int .u8 (a : Int)) = Lib.byteCells (l.set k (UInt8.ofNat a)) := by
  unfold Lib.byteCells
  rw [List.map_set]
  congr 2
  have : (UInt8.ofNat a).toNat = a := by simp; omega
  rw [this]

theorem shl_or : ∀ a b : Fin 16, ((a.val * 16) ||| b.val) = 16 * a.val + b.val := by decide +kernel

theorem iter_laid (w : World) (o : Obj) (s : ByteArray) : ((w.alloc o).alloc (.stringIter s 0)).heap[w.heap.size + 1]? = some (.stringIter s 0) := by
  have h := heap_alloc_new (w.alloc o) (Obj.stringIter s 0)
  rw [show (w.alloc o).heap.size = w.heap.size + 1 by simp] at h
  exact h

theorem iterPos_of {w : World} {k : Nat} {s : ByteArray} {pos : Nat} (h : w.heap[k]? = some (.stringIter s pos)) : w.iterPos k = pos := by
  unfold World.iterPos; rw [h]

theorem dec_high (s : ByteArray) (pos : Nat) (h : pos < s.size) (hb : ¬ (s[pos]'h).toNat < 128) : ¬ hv (Utf8.decode s pos).1 < 16 := by
  have h1 := (decode_high s pos h (by omega)).1
  intro h2
  have h3 := hv_small _ h2
  omega

theorem ownB_iter {w : World} {B : Nat} {v : Value} {l : List UInt8} {k : Nat} {s : ByteArray} {pos : Nat} (h : OwnB B v l w) (hk : w.heap[k]? = some (.stringIter s pos)) (pos' : Nat) : OwnB B v l (w.iterAt k s pos') := by
  refine ⟨h.1, ?_⟩
  rcases h.2 with h0 | ⟨g, cap, cur, hv, hb, hg, rest⟩
  · exact .inl h0
  · refine .inr ⟨g, cap, cur, hv, hb, ?_, rest⟩
    rw [Lib.iterAt_other _ _ _ _ _ (fun e => by subst e; rw [hk] at hg; cases hg)]
    exact hg

set_option maxHeartbeats 1000000 in
set_option maxRecDepth 100000 in
theorem hreadC (s : ByteArray) (w : World) (hs : s.size ≤ 5000) :
    Calls Tryz.prog 166 #[.string s] w fun e w' => e = .returned (.tuple #[.string (rdS s.data.toList), .int .i64 (rdE s.data.toList)]) ∧ Below w.heap.size w w' := by
  have hsl : s.data.toList.length = s.size := by simp
  by_cases hodd : s.size % 2 = 1
  · obtain ⟨e1, e2⟩ := rd_none (read_odd s.data.toList (by rw [hsl]; exact hodd))
    rw [e1, e2]
    have hne : ((s.size : Int) % 2 != 0) = true := by simp; omega
    clear e1 e2 hsl
    go_enter Tryz.func166, Tryz.ntmps166
    go_wp2
    go_ret2
    exact ⟨rfl, Below.refl _ _⟩
  · have hne : ((s.size : Int) % 2 != 0) = false := by simp; omega
    have hmk := make_bytes (s.size / 2) (s.size / 2) ((s.size : Int) / 2) ((s.size : Int) / 2) (by omega) (by omega) (by omega) (by omega) w
    obtain ⟨n, hn⟩ : ∃ n, n = s.size / 2 := ⟨_, rfl⟩
    rw [← hn] at hmk
    have hown0 : OwnB w.heap.size (.slice (some ⟨w.heap.size, 0, none⟩) n n) (rdRow s.data.toList n 0) (w.alloc (.cells (List.replicate n (Value.int .u8 0)).toArray 5)) := by
      unfold OwnB
      rw [rdRow_len, rdRow_zero]
      have h := World.ownsRow_lit (base := w.heap.size) (e := 5) (size := 1) w (List.replicate n (Value.int .u8 0)).toArray n (Nat.le_refl _) (by unfold maxLen; omega) (by simp)
      have e : Lib.byteCells (List.replicate n (0 : UInt8)) = (List.replicate n (Value.int .u8 0)) := by simp [Lib.byteCells]
      rw [e]
      simpa using h
    have HO := Lib.hid hown0
    have HN := Lib.hid hn
    have hn2 : 2 * n ≤ s.size ∧ s.size ≤ 2 * n := by omega
    clear hown0 hn hsl
    go_enter Tryz.func166, Tryz.ntmps166
    go_wp2
    go_loopw [5, 6, 7, 8] (fun _ _ _ _ wr => ∃ pos : Nat, pos ≤ s.size ∧ wr.heap[w.heap.size + 1]? = some (.stringIter s pos) ∧ (∀ k, k < pos → hv (s.data.toList.getD k 0).toNat < 16) ∧
        OwnB w.heap.size (.slice (some ⟨w.heap.size, 0, none⟩) n n) (rdRow s.data.toList n pos) wr ∧ Below w.heap.size w wr) (fun _ _ _ _ wr => s.size - wr.iterPos (w.heap.size + 1))
    case atStart => exact ⟨0, by omega, iter_laid w _ s, fun k hk => by omega, World.ownsRow.alloc HO.out _, ((Below.refl _ _).alloc (Nat.le_refl _) _).alloc (by simp) _⟩
    case round =>
      obtain ⟨pos, hpos, hit, hdig, hown, hb⟩ := hrel
      by_cases hlt : pos < s.size
      · by_cases hd : hv (s[pos]).toNat < 16
        · have hsm := hv_small _ hd
          have hnx : ∀ ty, (Instr.next (.pointer (some ⟨w.heap.size + 1, 0, none⟩)) true ty).run Tryz.prog wr = _ := fun ty => Lib.run_next_ascii_at wr (w.heap.size + 1) s pos ty hit hlt hsm
          generalize hcc : s[pos].toNat = c at hnx hd hsm
          have hown1 := ownB_iter hown hit (pos + 1)
          have hit1 := Lib.iterAt_heap wr (w.heap.size + 1) s pos (pos + 1) hit
          have hb1 := Lib.below_iterAt hb (k := w.heap.size + 1) (by omega) s (pos + 1)
          generalize hwx : wr.iterAt (w.heap.size + 1) s (pos + 1) = wx at hnx hown1 hit1 hb1
          have hgd : s.data.toList.getD pos 0 = s[pos] := by
            rw [List.getD_eq_getElem?_getD, List.getElem?_eq_getElem (by simpa using hlt)]; rfl
          have hdig1 : ∀ k, k < pos + 1 → hv (s.data.toList.getD k 0).toNat < 16 := by
            intro k hk
            by_cases e : k = pos
            · subst e; rw [hgd, hcc]; exact hd
            · exact hdig k (by omega)
          obtain ⟨k, hk1, hk2⟩ : ∃ k : Nat, k = pos / 2 ∧ (pos : Int) / 2 = (k : Int) := ⟨pos / 2, rfl, by omega⟩
          have hkn : k < n := by omega
          have hcell : wx.cell? ⟨w.heap.size, k, none⟩ = some (.int .u8 (hrv s.data.toList pos k : Nat)) := by
            have h := World.ownsRow.cellAt (n := (rdRow s.data.toList n pos).length) (by have h := hown1; unfold OwnB at h; rw [rdRow_len] at h ⊢; exact h) k (by rw [rdRow_len]; omega)
            rw [h]
            unfold Lib.byteCells rdRow
            simp [hkn]
            have : hrv s.data.toList pos k < 256 := rv_small s.data.toList pos k hdig
            omega
          have hfz : wx.frozen? ⟨w.heap.size, k, none⟩ = false := by
            exact World.ownsRow.frozenAt (n := (rdRow s.data.toList n pos).length) (by have h := hown1; unfold OwnB at h; rw [rdRow_len] at h ⊢; exact h) k
          have hrw : ∃ x y : Nat, hrv s.data.toList pos k = x ∧ x < 16 ∧ hrv s.data.toList (pos + 1) k = y ∧ y < 256 ∧ (x * 16 ||| hv c) = y := by
            have hc' : hv (s.data.toList.getD pos 0).toNat = hv c := by rw [hgd, hcc]
            by_cases hp : pos % 2 = 0
            · obtain ⟨r1, r2⟩ := rv_even s.data.toList pos hp
              rw [hk1, r1, r2, hc']
              exact ⟨0, hv c, rfl, by omega, rfl, by omega, by simp⟩
            · obtain ⟨r1, r2⟩ := rv_odd s.data.toList pos (by omega)
              have hd0 := hdig (pos - 1) (by omega)
              rw [hk1, r1, r2, hc']
              exact ⟨_, _, rfl, hd0, rfl, by omega, shl_or ⟨_, hd0⟩ ⟨_, hd⟩⟩
          obtain ⟨x, y, hx, hx16, hy, hy256, hxy⟩ := hrw
          rw [hx] at hcell
          have hor := u8_or_nat (x * 16) (hv c) (by omega) (by omega)
          rw [hxy] at hor
          have ex : ((x * 16 : Nat) : Int) = (x : Int) * 16 := by omega
          rw [ex] at hor
          have HCC := Lib.hid hcc
          have HDIG := Lib.hid hdig1
          have HB := Lib.hid hb1
          have HWX := Lib.hid hwx
          have HIT := Lib.hid hit1
          have HIP := Lib.hid (iterPos_of hit)
          have HOWN := Lib.hid hown1
          have HK := Lib.hid hk1
          have HY := Lib.hid hy
          clear hcc hdig hb hwx hit1 hown1 hdig1 hown hit hk1 hy hx hxy ex hgd hb1
          go_wp2_with fail
          refine (value_yes c hd _).mono ?_
          rintro e w1 ⟨rfl, rfl⟩
          go_wp2_with fail
          refine ⟨⟨pos + 1, by omega, ?_, HDIG.out, ?_, ?_⟩, ?_⟩
          · rw [heap_setCell_other _ _ _ _ (by simp)]; exact HIT.out
          · have h := (World.ownsRow.stored (n := (rdRow s.data.toList n pos).length) (by have h := HOWN.out; unfold OwnB at h; rw [rdRow_len] at h ⊢; exact h) k (.int .u8 (y : Int))).1
            rw [byteCells_set _ _ _ hy256, ← HY.out, HK.out, rdRow_set] at h
            unfold OwnB
            rw [rdRow_len] at h ⊢
            rw [HK.out, ← HY.out, HK.out]
            exact h
          · exact HB.out.setCell (by simp) _
          · rw [HIP.out, iterPos_of (pos := pos + 1) (s := s) (by rw [heap_setCell_other _ _ _ _ (by simp)]; exact HIT.out)]; omega
        · obtain ⟨e1, e2⟩ := rd_none (read_bad s.data.toList pos (by simpa using hlt) hd)
          have E1 := Lib.hid e1
          have E2 := Lib.hid e2
          have hnx : ∀ ty, (Instr.next (.pointer (some ⟨w.heap.size + 1, 0, none⟩)) true ty).run Tryz.prog wr = _ := fun ty => Lib.run_next_any_at wr (w.heap.size + 1) s pos ty hit hlt
          have hdr : ¬ hv (Utf8.decode s pos).1 < 16 := by
            by_cases ha : s[pos].toNat < 128
            · rw [decode_ascii s pos hlt ha]; exact hd
            · exact dec_high s pos hlt ha
          generalize (Utf8.decode s pos).1 = c at hnx hdr
          have hb1 := Lib.below_iterAt hb (k := w.heap.size + 1) (by omega) s (pos + (Utf8.decode s pos).2)
          generalize wr.iterAt (w.heap.size + 1) s (pos + (Utf8.decode s pos).2) = wx at hnx hb1
          have HB := Lib.hid hb1
          clear hdig hb hown hit e1 e2 hb1
          go_wp2_with fail
          refine (value_no c hdr _).mono ?_
          rintro e w1 ⟨rfl, rfl⟩
          go_wp2
          go_ret2
          exact ⟨by rw [E1.out, E2.out]; rfl, HB.out⟩
      · obtain rfl : pos = s.size := by omega
        have hnx : ∀ ty, (Instr.next (.pointer (some ⟨w.heap.size + 1, 0, none⟩)) true ty).run Tryz.prog wr = _ := fun ty => Lib.run_next_end_at wr (w.heap.size + 1) s s.size ty hit hlt
        have hsl : s.data.toList.length = s.size := by simp
        have hr := readL_row s.data.toList (by rw [hsl]; omega) (by rw [hsl]; exact hdig)
        rw [hsl, ← HN.out] at hr
        obtain ⟨e1, e2⟩ := rd_some hr
        have E1 := Lib.hid e1
        have E2 := Lib.hid e2
        have hconv := own_text (by have h := hown; unfold OwnB at h ⊢; rw [rdRow_len] at h ⊢; exact h)
        have HB := Lib.hid hb
        clear hdig hb hown hit e1 e2 hr hsl
        go_wp2
        go_ret2
        exact ⟨by rw [E1.out, E2.out]; rfl, HB.out⟩
end Go.Proofs.YtchnklekeinhiaaGreat

namespace Go.Proofs.YtchnklekeinhiaaGreat
open Go.RowKit

set_option maxHeartbeats 2000000 in
set_option maxRecDepth 100000 in
theorem putR (s : ByteArray) (w : World) (hs : s.size ≤ 5000) :
    Calls Tryz.prog 76 #[.string s] w fun e w' => e = .returned (.string ⟨(putL s.data.toList).toArray⟩) ∧ Below w.heap.size w w' := by
  obtain ⟨i0, hi, hz0, hz1, hz2⟩ := info_parts bytesInfo
  go_enter Tryz.func76, Tryz.ntmps76
  go_wp2
  go_loopw [3, 4] (fun v i wr => ∃ j : Nat, j ≤ s.size ∧ i = .int .i64 j ∧ OwnB w.heap.size v (putL (s.data.toList.take j)) wr ∧ Below w.heap.size w wr) (fun _ i _ => s.size - (intOf i).toNat)
  case atStart => exact ⟨0, by omega, rfl, ownB_nil _ _, Below.refl _ _⟩
  case round =>
    obtain ⟨j, hj, rfl, hown, hb⟩ := hrel
    by_cases hlt : j < s.size
    · have hix := fun W => run_index_at s j hlt W
      have hpt := putL_take s j hlt
      obtain ⟨c, hcc⟩ : ∃ c : Nat, c = s[j].toNat := ⟨_, rfl⟩
      have hc256 : c < 256 := by rw [hcc]; exact s[j].toNat_lt
      rw [← hcc] at hix hpt
      have hd1 := fun W => digit_any (c / 16) (by omega) W
      have hd2 := fun W => digit_any (c % 16) (by omega) W
      have ei1 : ((c / 16 : Nat) : Int) = (c : Int) / 16 := by omega
      have ei2 : ((c % 16 : Nat) : Int) = (c : Int) % 16 := by omega
      rw [ei1] at hd1
      rw [ei2] at hd2
      have q1 := dg_lt (c / 16) (by omega)
      have q2 := dg_lt (c % 16) (by omega)
      generalize hg1 : dg (c / 16) = d1 at hd1 hpt q1
      generalize hg2 : dg (c % 16) = d2 at hd2 hpt q2
      generalize hvv : u3 = v at hown
      have hol : (putL (s.data.toList.take j)).length ≤ 10000 := by rw [putL_len, List.length_take]; omega
      have hbs := hb.size
      have HB := Lib.hid hb
      have HPT := Lib.hid hpt
      have D1 := Lib.hid hd1
      have D2 := Lib.hid hd2
      have htm : (c : Int).tmod 16 = (c : Int) % 16 := Int.tmod_eq_emod_of_nonneg (by omega)
      have htd : (c : Int).tdiv 16 = (c : Int) / 16 := Int.tdiv_eq_ediv_of_nonneg (by omega)
      have hw1 : IntKind.u8.wrap ((c : Int) / 16) = (c : Int) / 16 := IntWalk.u8_in _ (by omega)
      have hw2 : IntKind.u8.wrap ((c : Int) % 16) = (c : Int) % 16 := IntWalk.u8_in _ (by omega)
      clear hb hpt ei1 ei2 hg1 hg2 hcc hd1 hd2
      generalize putL (s.data.toList.take j) = pre at hown hol HPT
      go_wp2_with fail
      go_region_held3 (fun _ => True) (first | go_keep | trivial)
            (first
             | ((with_reducible refine (D1.out _).mono ?_); rintro e w' ⟨rfl, rfl⟩)
             | ((with_reducible refine (D2.out _).mono ?_); rintro e w' ⟨rfl, rfl⟩)
             | (
                refine step_append_lies _ (by rfl) _ _ _ (by rfl) w.heap.size 5 i0 _ 1 1 Tryz.underlying107 hi hz0 hz1 hz2 rfl (by omega) v pre.length (Lib.byteCells pre) (by rfl) ((World.ownsRow.alloc hown _).drew)
                  ⟨wr.heap.size, 0, none⟩ 2 2 [.int .u8 d1, .int .u8 d2] (by rfl) (by rfl) (World.news_of_block (cs := #[.int .u8 d1, .int .u8 d2]) (t := 5) (fr := (0, 0)) (heap_alloc_new wr _)) (by simp [Value.oneCell'])
                  (by omega) (by unfold maxLen; omega) (by omega) (by simp; omega) (wr.heap.size + 1) (by simp) ?_; intro gg cap w1 hown1 hgrow hat hlt)
             | fail)
      all_goals
        have hb1 : Below w.heap.size w w1 := ((HB.out.alloc (by omega) _).drew).grown hgrow (by simp; omega) (fun i hi => (World.ownsRow.lt hown i hi).1)
        have hown2 := own_two (by omega) (by omega) hown1
        rw [← HPT.out] at hown2
        have HO2 := Lib.hid hown2
        have HB1 := Lib.hid hb1
        clear hown2 hb1 hown1 hgrow hat hown
        go_wp2
        exact ⟨⟨j + 1, by omega, by go_num, HO2.out, HB1.out⟩, by simp [intOf]; omega⟩
    · obtain rfl : j = s.size := by omega
      rw [List.take_of_length_le (by simp)] at hown
      have hconv := own_text hown
      have HB := Lib.hid hb
      clear hb
      go_wp2
      go_ret
      exact ⟨rfl, HB.out⟩

theorem readL_step {s : ByteArray} {j : Nat} {pre : List UInt8} (hj : j % 2 = 0) (h : j + 1 < s.size) (hr : readL (s.data.toList.take j) = some pre) (h1 : hv (s[j]'(by omega)).toNat < 16) (h2 : hv (s[j + 1]).toNat < 16) :
    readL (s.data.toList.take (j + 2)) = some (pre ++ [UInt8.ofNat (16 * hv (s[j]'(by omega)).toNat + hv (s[j + 1]).toNat)]) := by
  rw [show j + 2 = j + 1 + 1 from rfl, take_snoc s (j + 1) h, take_snoc s j (by omega), List.append_assoc, read_append _ _ (by rw [List.length_take]; simp; omega), hr]
  simp only [List.cons_append, List.nil_append, readL]
  rw [if_pos ⟨h1, h2⟩]
  rfl

set_option maxHeartbeats 2000000 in
set_option maxRecDepth 100000 in
theorem readR (s : ByteArray) (w : World) (hs : s.size ≤ 5000) :
    Calls Tryz.prog 105 #[.string s] w fun e w' => e = .returned (.tuple #[.string (rdS s.data.toList), .int .i64 (rdE s.data.toList)]) ∧ Below w.heap.size w w' := by
  obtain ⟨i0, hi, hz0, hz1, hz2⟩ := info_parts bytesInfo
  have hsl : s.data.toList.length = s.size := by simp
  by_cases hodd : s.size % 2 = 1
  · obtain ⟨e1, e2⟩ := rd_none (read_odd s.data.toList (by rw [hsl]; exact hodd))
    rw [e1, e2]
    have hne : ((s.size : Int) % 2 == 1) = true := by simp; omega
    clear e1 e2 hsl
    go_enter Tryz.func105, Tryz.ntmps105
    go_wp2
    go_ret2
    exact ⟨rfl, Below.refl _ _⟩
  · have hne : ((s.size : Int) % 2 == 1) = false := by simp; omega
    clear hsl
    go_enter Tryz.func105, Tryz.ntmps105
    go_wp2
    go_loopw [4, 5] (fun v i wr => ∃ (j : Nat) (pre : List UInt8), j ≤ s.size ∧ j % 2 = 0 ∧ i = .int .i64 j ∧ readL (s.data.toList.take j) = some pre ∧ OwnB w.heap.size v pre wr ∧ Below w.heap.size w wr) (fun _ i _ => s.size - (intOf i).toNat)
    case atStart => exact ⟨0, [], by omega, rfl, rfl, rfl, ownB_nil _ _, Below.refl _ _⟩
    case round =>
      obtain ⟨j, pre, hj, hj2, rfl, hrd, hown, hb⟩ := hrel
      by_cases hlt : j + 1 < s.size
      · have hix1 := fun W => run_index_at s j (by omega) W
        have hix2 := fun W => run_index_at s (j + 1) hlt W
        have ej : ((j + 1 : Nat) : Int) = (j : Int) + 1 := by omega
        rw [ej] at hix2
        have hst := readL_step (pre := pre) hj2 hlt hrd
        have hbad1 := read_bad s.data.toList j (by simp; omega)
        have hbad2 := read_bad s.data.toList (j + 1) (by simpa using hlt)
        rw [show s.data.toList[j]'(by simp; omega) = s[j] from rfl] at hbad1
        rw [show s.data.toList[j + 1]'(by simpa using hlt) = s[j + 1] from rfl] at hbad2
        generalize hc1 : s[j].toNat = c1 at hix1 hst hbad1
        generalize hc2 : s[j + 1].toNat = c2 at hix2 hst hbad2
        have hl1 : c1 < 256 := by rw [← hc1]; exact s[j].toNat_lt
        have hl2 : c2 < 256 := by rw [← hc2]; exact s[j + 1].toNat_lt
        have k1 := fun W => half_any c1 hl1 W
        have k2 := fun W => half_any c2 hl2 W
        have le1 := hv_le c1
        have le2 := hv_le c2
        generalize hv c1 = h1 at k1 hst hbad1 le1
        generalize hv c2 = h2 at k2 hst hbad2 le2
        clear hc1 hc2 ej
        have K1 := Lib.hid k1
        have K2 := Lib.hid k2
        have HB := Lib.hid hb
        clear k1 k2 hb
        by_cases g1 : h1 < 16
        · have t1 : ¬ (15 : Int) < (h1 : Int) := by omega
          by_cases g2 : h2 < 16
          · have t2 : ¬ (15 : Int) < (h2 : Int) := by omega
            have hst2 := hst g1 g2
            generalize hx : 16 * h1 + h2 = x at hst2
            have hx256 : x < 256 := by omega
            have hxi : (16 : Int) * (h1 : Int) + (h2 : Int) = (x : Int) := by omega
            have hw1 : IntKind.u8.wrap ((16 : Int) * (h1 : Int)) = (16 : Int) * (h1 : Int) := IntWalk.u8_in _ (by omega)
            have hw2 : IntKind.u8.wrap (x : Int) = (x : Int) := IntWalk.u8_in _ (by omega)
            have hw3 : IntKind.i64.wrap ((j : Int) + 1) = (j : Int) + 1 := IntWalk.i64_in _ (by omega)
            have hol : pre.length ≤ 10000 := by have := read_len _ _ hrd; rw [List.length_take] at this; simp at this; omega
            have hbs := HB.out.size
            generalize hvv : u4 = v at hown
            have HST := Lib.hid hst2
            have HRD := Lib.hid hrd
            clear hst hst2 hbad1 hbad2 hrd hx
            go_wp2_with fail
            refine (K1.out _).mono ?_
            rintro e w1 ⟨rfl, rfl⟩
            go_wp2_with fail
            refine (K2.out _).mono ?_
            rintro e w1 ⟨rfl, rfl⟩
            go_wp2_with fail
            go_region_held3 (fun _ => True) (first | go_keep | trivial)
              (first
               | ((with_reducible refine (K1.out _).mono ?_); rintro e w' ⟨rfl, rfl⟩)
               | ((with_reducible refine (K2.out _).mono ?_); rintro e w' ⟨rfl, rfl⟩)
               | (
                  refine step_append_lies _ (by rfl) _ _ _ (by rfl) w.heap.size 5 i0 _ 1 1 Tryz.underlying107 hi hz0 hz1 hz2 rfl (by omega) v pre.length (Lib.byteCells pre) (by rfl) ((World.ownsRow.alloc hown _).drew)
                    ⟨wr.heap.size, 0, none⟩ 1 1 [.int .u8 x] (by rfl) (by rfl) (World.news_of_block (cs := #[.int .u8 x]) (t := 5) (fr := (0, 0)) (heap_alloc_new wr _)) (by simp [Value.oneCell'])
                    (by omega) (by unfold maxLen; omega) (by omega) (by simp; omega) (wr.heap.size + 1) (by simp) ?_; intro gg cap w1 hown1 hgrow hat hlt)
               | fail)
            all_goals
              have hb1 : Below w.heap.size w w1 := ((HB.out.alloc (by omega) _).drew).grown hgrow (by simp; omega) (fun i hi => (World.ownsRow.lt hown i hi).1)
              have hown2 := ownB_more (l := pre) hx256 rfl hown1
              have HO2 := Lib.hid hown2
              have HB1 := Lib.hid hb1
              clear hown2 hb1 hown1 hgrow hat hown
              go_wp2
              exact ⟨⟨j + 2, _, by omega, by omega, by go_num, HST.out, HO2.out, HB1.out⟩, by simp [intOf]; omega⟩
          · have t2 : (15 : Int) < (h2 : Int) := by omega
            obtain ⟨e1, e2⟩ := rd_none (hbad2 g2)
            have E1 := Lib.hid e1
            have E2 := Lib.hid e2
            clear hst hbad1 hbad2 hrd e1 e2
            go_wp2_with fail
            refine (K1.out _).mono ?_
            rintro e w1 ⟨rfl, rfl⟩
            go_wp2_with fail
            refine (K2.out _).mono ?_
            rintro e w1 ⟨rfl, rfl⟩
            go_wp2
            go_ret2
            exact ⟨by rw [E1.out, E2.out]; rfl, HB.out⟩
        · have t1 : (15 : Int) < (h1 : Int) := by omega
          obtain ⟨e1, e2⟩ := rd_none (hbad1 g1)
          have E1 := Lib.hid e1
          have E2 := Lib.hid e2
          clear hst hbad1 hbad2 hrd e1 e2
          go_wp2_with fail
          refine (K1.out _).mono ?_
          rintro e w1 ⟨rfl, rfl⟩
          go_wp2
          go_ret2
          exact ⟨by rw [E1.out, E2.out]; rfl, HB.out⟩
      · obtain rfl : j = s.size := by omega
        rw [List.take_of_length_le (by simp)] at hrd
        obtain ⟨e1, e2⟩ := rd_some hrd
        have E1 := Lib.hid e1
        have E2 := Lib.hid e2
        have hconv := own_text hown
        have HB := Lib.hid hb
        clear hb e1 e2 hrd
        have hnl : ¬ (s.size : Int) + 1 < (s.size : Int) := by omega
        go_wp2
        go_ret2
        exact ⟨by rw [E1.out, E2.out]; rfl, HB.out⟩
end Go.Proofs.YtchnklekeinhiaaGreat
