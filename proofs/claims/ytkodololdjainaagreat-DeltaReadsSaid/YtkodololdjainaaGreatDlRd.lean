/-
  delta.Read.
-/
import Derived.Test.YtkodololdjainaaGreatDlHead
import Derived.Test.YtkodololdjainaaGreatDlChk
import Derived.Test.YtkodololdjainaaGreatGDelT
namespace Go.Proofs.YtkodololdjainaaGreat
set_option linter.unusedSimpArgs false
set_option linter.unusedVariables false
set_option maxRecDepth 100000
open Go.RowKit Go.Sort

theorem retDl {fn : Func} {p u : Tmp} (h : fn.results = #[.cell p 29, .tmp u]) (tmps : Array Value) (w : World) (g : Nat) (e : Dl) (la : Option Addr) (lk : Nat) (ga : Option Addr) (gk : Nat) (x : Value)
    (hp : tmps.getD p undef = .pointer (some ⟨g, 0, none⟩)) (hx : tmps.getD u undef = x) (hg : DBlk w g e la lk ga gk) :
    (results fn tmps).run Tryz.prog w = .ok (.tuple #[.agg (dlc e la lk ga gk), x]) w := by
  rw [results_cell_tmp h, hp, hx]
  simp [asAddr, run_loadVar_row w g 29 29 (dlc e la lk ga gk) (0, 0) _ hg Tryz.underlying29 rfl (infoD _ _ _ _ _)]
theorem readF_len {s : ByteArray} (h : (readF rdM s).2 = 0) : (readF rdM s).1.length ≤ 65536 := by
  have hp := putF_read (rd := rdM) (s := s) (l := (readF rdM s).1) (Prod.ext rfl h)
  unfold putF at hp
  split at hp
  · cases hp
  · omega
theorem readD_len {s : ByteArray} (h : (readD s).2 = 0) : (readD s).1.length ≤ 65536 := by
  have hp := put_read (s := s) (l := (readD s).1) (Prod.ext rfl h)
  unfold putD at hp
  split at hp
  · cases hp
  · omega
theorem readF_rd {s : ByteArray} (h : (readF rdM s).2 = 0) (z : Nat) (hv : ∀ f ∈ (rdF s).1, f.v.size ≤ z) : ∀ f ∈ (readF rdM s).1, f.v.size ≤ z := by
  have h1 := rdF_of (s := s) (l := (readF rdM s).1) (Prod.ext rfl h)
  rw [← h1]; exact hv
theorem Blk.set5 {w : World} {b : Nat} {d : Dt} {s : St} {l : List Ft} {g : List Dt} {la ga : Option Addr} {lk gk : Nat} (h : DBlk w b ⟨d, s, [], g⟩ none 0 ga gk) : DBlk (w.setCell ⟨b, 5, none⟩ (.slice la l.length lk)) b ⟨d, s, l, g⟩ la lk ga gk := by
  have := Joins.block_setCell (i := 5) h (.slice la l.length lk)
  exact this
theorem Blk.set6 {w : World} {b : Nat} {d : Dt} {s : St} {l : List Ft} {g : List Dt} {la ga : Option Addr} {lk gk : Nat} (h : DBlk w b ⟨d, s, l, []⟩ la lk none 0) : DBlk (w.setCell ⟨b, 6, none⟩ (.slice ga g.length gk)) b ⟨d, s, l, g⟩ la lk ga gk := by
  have := Joins.block_setCell (i := 6) h (.slice ga g.length gk)
  exact this
theorem Blk.free {w : World} {b : Nat} {T : TypeId} {A : Array Value} (h : Blk w b T A) (j : Nat) : w.frozen? ⟨b, j, none⟩ = false := Joins.unfrozen_of_block h j
theorem dlMem_zero (w : World) : DlMem w zDl none none := ⟨.inl rfl, .inl rfl, by simp, by simp, fun f hf => by simp at hf⟩

theorem OwnF.ofRow {B g : Nat} {v : Value} {l : List Ft} {w : World} (h : OwnF B v l w) (hb : g < B) (cs : Array Value) : OwnF B v l (w.setRow g cs) := by
  unfold OwnF at *
  refine ⟨h.1, ?_⟩
  rcases h.2 with hn | ⟨q, cap, cur, hv, hB, hg, rest⟩
  · exact .inl hn
  · exact .inr ⟨q, cap, cur, hv, hB, by rw [setRow_other _ _ _ _ (show q ≠ g by omega)]; exact hg, rest⟩
theorem OwnD.ofRow {B g : Nat} {v : Value} {l : List Dt} {w : World} (h : OwnD B v l w) (hb : g < B) (cs : Array Value) : OwnD B v l (w.setRow g cs) := by
  unfold OwnD at *
  refine ⟨h.1, ?_⟩
  rcases h.2 with hn | ⟨q, cap, cur, hv, hB, hg, rest⟩
  · exact .inl hn
  · exact .inr ⟨q, cap, cur, hv, hB, by rw [setRow_other _ _ _ _ (show q ≠ g by omega)]; exact hg, rest⟩
theorem OwnF.fin1 {B n c : Nat} {a : Option Addr} {l : List Ft} {w : World} (h : OwnF B (.slice a n c) l w) : FIn w a l := by
  obtain ⟨a', c', he, hf, -⟩ := h.fin
  injection he with h1 h2 h3
  rw [h1]; exact hf
theorem OwnD.din1 {B n c : Nat} {a : Option Addr} {l : List Dt} {w : World} (h : OwnD B (.slice a n c) l w) : DIn w a l := by
  obtain ⟨a', c', he, hf, -⟩ := h.din
  injection he with h1 h2 h3
  rw [h1]; exact hf

/-- what lies there while an update is read: the answer's block, the reader's box, the update's block -/
structure RdK (w : World) (g : Nat) (e : Dl) (U : World) : Prop where
  res : DBlk U w.heap.size zDl none 0 none 0
  box : Blk U (w.heap.size + 2) 67 #[.pointer (some ⟨w.heap.size + 1, 0, none⟩)]
  dl : DBlk U g e none 0 none 0
  lo : w.heap.size + 3 ≤ g
  low : Go.RowKit.Below w.heap.size w U
theorem RdK.grow {w : World} {g : Nat} {e : Dl} {U V : World} (h : RdK w g e U) (hg : U.grownBy V (some (w.heap.size + 1))) : RdK w g e V :=
  ⟨h.res.grown hg (by omega), h.box.grown hg (by omega), h.dl.grown hg (by have := h.lo; omega), h.lo, h.low.grown hg h.low.size (fun j hj => by have := Option.some.inj hj; omega)⟩
theorem RdK.drew {w : World} {g : Nat} {e : Dl} {U : World} (h : RdK w g e U) : RdK w g e U.drew := ⟨h.res, h.box, h.dl, h.lo, h.low.trans ((Below.refl _ _).drew)⟩

set_option maxHeartbeats 8000000 in
theorem readDlC (s : ByteArray) (hs : s.size ≤ 9223372036854775807) (hv : ∀ f ∈ (rdF (s5Dl s).1).1, f.v.size ≤ 5000) (w : World) :
    Calls Tryz.prog 12 #[.string s] w fun v w' => (∃ (la : Option Addr) (lk : Nat) (ga : Option Addr) (gk : Nat), v = .returned (.tuple #[.agg (dlc (readDl rdM s).1 la lk ga gk), .int .i64 (readDl rdM s).2]) ∧ DlMem w' (readDl rdM s).1 la ga) ∧ Go.RowKit.Below w.heap.size w w' := by
  have hz4 : (s4Dl s).2.1.size ≤ s.size := by
    have a1 := sNum_size (s, 0)
    have a2 := sNum_size (s1Dl s).2
    have a3 := sNum_size (s2Dl s).2
    have a4 := sNum_size (s3Dl s).2
    unfold s4Dl s3Dl s2Dl s1Dl at *
    simp only at a1
    omega
  have hz5 : (s5Dl s).2.1.size ≤ s.size := Nat.le_trans (sText_size (s4Dl s).2) hz4
  have hz6 : (s6Dl s).2.1.size ≤ s.size := Nat.le_trans (sText_size (s5Dl s).2) hz5
  have hz51 : (s5Dl s).1.size ≤ 65536 := text_size
  have hz61 : (s6Dl s).1.size ≤ 65536 := text_size
  have HRL := Lib.hid (show readDl rdM s = if doneS (s6Dl s).2 ≠ 0 then (zDl, doneS (s6Dl s).2) else if (readF rdM (s5Dl s).1).2 ≠ 0 then (zDl, (readF rdM (s5Dl s).1).2) else if (readD (s6Dl s).1).2 ≠ 0 then (zDl, (readD (s6Dl s).1).2)
    else if chkDm ⟨(hdQ (s, 0)).d, (hdQ (s, 0)).s, (readF rdM (s5Dl s).1).1, (readD (s6Dl s).1).1⟩ ≠ 0 then (zDl, chkDm ⟨(hdQ (s, 0)).d, (hdQ (s, 0)).s, (readF rdM (s5Dl s).1).1, (readD (s6Dl s).1).1⟩) else (⟨(hdQ (s, 0)).d, (hdQ (s, 0)).s, (readF rdM (s5Dl s).1).1, (readD (s6Dl s).1).1⟩, 0) from rfl)
  have hh := fun b W (hR : Rd b (s, 0) W) => headC b (s, 0) W hR hs
  have hst : stQ (s, 0) = (s4Dl s).2 := rfl
  rw [hst] at hh
  have hg0 : (hdQ (s, 0)).l = [] := rfl
  have hg1 : (hdQ (s, 0)).g = [] := rfl
  have HH := Lib.hid hh
  have HT1 := Lib.hid (fun b W (hR : Rd b (s4Dl s).2 W) => rtext_any b (s4Dl s).2 W hR (by omega))
  have HT2 := Lib.hid (fun b W (hR : Rd b (s5Dl s).2 W) => rtext_any b (s5Dl s).2 W hR (by omega))
  have hdn := fun b W (hR : Rd b (s6Dl s).2 W) => done_any b (s6Dl s).2 W hR (by omega)
  have hd2 : (if (s6Dl s).2.2 ≠ 0 then (s6Dl s).2.2 else if 0 < (s6Dl s).2.1.size then (5 : Int) else 0) = doneS (s6Dl s).2 := rfl
  rw [hd2] at hdn
  have HDN := Lib.hid hdn
  have ht5 : sText (s4Dl s).2 = s5Dl s := rfl
  have ht6 : sText (s5Dl s).2 = s6Dl s := rfl
  rw [ht5] at HT1
  rw [ht6] at HT2
  have HF := Lib.hid (fun W => readFC (s5Dl s).1 (by omega) hv W)
  have HG := Lib.hid (fun W => readDC (s6Dl s).1 (by omega) W)
  have HFL := Lib.hid (fun h => readF_len (s := (s5Dl s).1) h)
  have HGL := Lib.hid (fun h => readD_len (s := (s6Dl s).1) h)
  have HFV := Lib.hid (fun h => readF_rd (s := (s5Dl s).1) h 5000 hv)
  clear hz4 hz5 hz6 hz51 hz61 hh hst hdn hd2 ht5 ht6 hv
  generalize readDl rdM s = RS at *
  generalize hdQ (s, 0) = Q at *
  obtain ⟨Qd, Qs, Ql, Qg⟩ := Q
  simp only at hg0 hg1 HRL
  subst hg0 hg1
  generalize (s4Dl s).2 = st4 at *
  generalize s5Dl s = S5 at *
  obtain ⟨x5, st5⟩ := S5
  generalize s6Dl s = S6 at *
  obtain ⟨x6, st6⟩ := S6
  simp only at HRL HT1 HT2 HDN HF HG HFL HGL HFV
  generalize readF rdM x5 = RF at *
  obtain ⟨fl, fe⟩ := RF
  generalize readD x6 = RG at *
  obtain ⟨gl, ge⟩ := RG
  simp only at HRL HF HG HFL HGL HFV
  generalize doneS st6 = D at *
  have r0 := Blk.new w 29 (dlc zDl none 0 none 0)
  have b0 := lowA w (.cells (dlc zDl none 0 none 0) 29)
  have s0 : (w.alloc (.cells (dlc zDl none 0 none 0) 29)).heap.size = w.heap.size + 1 := World.size_alloc _ _
  have R0 := Lib.hid (And.intro r0 (And.intro b0 s0))
  clear r0 b0 s0
  go_enter Tryz.func12, Tryz.ntmps12
  go_upto_region 1 with fail
  change Code.wp _ _ _ _ (w.alloc (.cells (dlc zDl none 0 none 0) 29))
  generalize w.alloc (.cells (dlc zDl none 0 none 0) 29) = W at *
  go_wp2_with fail
  refine (new_any s W).mono ?_
  rintro v w1 ⟨rfl, hw1⟩
  have hrd : Rd (w.heap.size + 1) (s, 0) w1 := by rw [← hw1, ← R0.out.2.2]; exact Rd.made s W
  have hb1 : Go.RowKit.Below W.heap.size W w1 := by rw [← hw1]; exact lowA W _
  have hs1 : w1.heap.size = w.heap.size + 2 := by rw [← hw1, World.size_alloc, R0.out.2.2]
  rw [R0.out.2.2]
  have hb2 := lowA w1 (.cells #[.pointer (some ⟨w.heap.size + 1, 0, none⟩)] 67)
  have hx2 := Blk.new w1 67 #[.pointer (some ⟨w.heap.size + 1, 0, none⟩)]
  rw [hs1] at hx2
  have R2 := Lib.hid (And.intro ((R0.out.1.keep hb1).keep hb2) (And.intro hx2 (And.intro (hrd.below hb2 hrd.lt) ((R0.out.2.1.trans (hb1.mono R0.out.2.1.size)).trans (hb2.mono (by omega))))))
  have R3 := Lib.hid hs1
  clear hrd hb1 hs1 hb2 hx2 hw1 R0
  go_upto_region 2 with fail
  change Code.wp _ _ _ _ (w1.alloc (.cells #[.pointer (some ⟨w.heap.size + 1, 0, none⟩)] 67))
  rw [R3.out]
  generalize w1.alloc (.cells #[.pointer (some ⟨w.heap.size + 1, 0, none⟩)] 67) = W2 at *
  clear R3
  have k0 : W2.cell? ⟨w.heap.size + 2, 0, none⟩ = some (.pointer (some ⟨w.heap.size + 1, 0, none⟩)) := R2.out.2.1.cell rfl
  go_wp2_with fail
  refine (HH.out (w.heap.size + 1) W2 R2.out.2.2.1).mono ?_
  rintro v w3 ⟨rfl, hr3, hg3⟩
  have hlo : w.heap.size + 3 ≤ w3.heap.size := by have h1 := (R2.out.2.1.grown hg3 (by omega)).lt; omega
  have hb3 := R2.out.2.2.2.grown hg3 R2.out.2.2.2.size (fun j hj => by have := Option.some.inj hj; omega)
  have hdz := Blk.new w3 29 (dlc zDl none 0 none 0)
  have hla := lowA w3 (.cells (dlc zDl none 0 none 0) 29)
  have HDZ := Lib.hid hdz
  have R4 : Hid (RdK w w3.heap.size ⟨Qd, Qs, [], []⟩ ((w3.alloc (.cells (dlc zDl none 0 none 0) 29)).setRow w3.heap.size (dlc ⟨Qd, Qs, [], []⟩ none 0 none 0))) :=
    Lib.hid ⟨((R2.out.1.grown hg3 (by omega)).keep hla).other (by omega) _, ((R2.out.2.1.grown hg3 (by omega)).keep hla).other (by omega) _, hdz.put _, hlo, belowRow (hb3.trans (hla.mono hb3.size)) (by omega) _⟩
  have HR4 := Lib.hid ((hr3.below hla hr3.lt).setRow (g := w3.heap.size) (by omega) (dlc ⟨Qd, Qs, [], []⟩ none 0 none 0))
  clear hr3 hg3 hlo hb3 hdz hla R2 HH k0
  go_upto_region 3 with ((with_reducible refine bl_store ?_ 29 (.tmp 5) (.tmp 15) ?_ w3.heap.size (dlc ⟨Qd, Qs, [], []⟩ none 0 none 0) ?_ ?_ ?_ ?_ ?_ ?_); rfl; rfl; rfl; rfl; exact ⟨_, HDZ.out, rfl⟩; exact infoD _ _ _ _ _; exact dl_one _ _ _ _ _; simp only [Act.put, List.setIfInBounds_toArray, List.set_cons_zero, List.set_cons_succ])
  change Code.wp _ _ _ _ ((w3.alloc (.cells (dlc zDl none 0 none 0) 29)).setRow w3.heap.size (dlc ⟨Qd, Qs, [], []⟩ none 0 none 0))
  generalize (w3.alloc (.cells (dlc zDl none 0 none 0) 29)).setRow w3.heap.size (dlc ⟨Qd, Qs, [], []⟩ none 0 none 0) = W4 at *
  generalize w3.heap.size = g at *
  clear HDZ
  refine wp_region_held (S := fun U => RdK w g ⟨Qd, Qs, [], []⟩ U) (by kernel_rfl) ?_
  change wpAnyH _ _ _ _ _ _ _ _ W4.drew
  have K0 : (fun U => RdK w g ⟨Qd, Qs, [], []⟩ U) W4.drew := R4.out.drew
  have HR0 := Lib.hid HR4.out.drew1
  refine wpAnyH_take (i := 0) (oi := { dst := some 16, op := _, type := _, pos := _, after := _, guard := _ }) (v := ?v1) rfl (by kernel_rfl) (by kernel_rfl) (by kernel_rfl) (fun _ _ _ h => h) (Or.inl ⟨by rfl, ?hy1⟩) K0 ?rest1
  case hy1 => (intro w hSw; (try dsimp only at hSw); first | (go_simp; done) | (go_simp; with_reducible rfl))
  try simp only [Act.put, List.setIfInBounds_toArray, List.set_cons_zero, List.set_cons_succ]
  refine wpAnyH_take (i := 1) (oi := { dst := some 17, op := _, type := _, pos := _, after := _, guard := _ }) rfl (by kernel_rfl) (by kernel_rfl) (by kernel_rfl) (fun _ _ _ h => h) (yield_cP (by rfl) (.tmp 16) rfl (w.heap.size + 2) 0 (some ⟨w.heap.size + 1, 0, none⟩) rfl (fun U hU => hU.box.cell rfl)) K0 ?_
  try simp only [Act.put, List.setIfInBounds_toArray, List.set_cons_zero, List.set_cons_succ]
  refine wpAnyH_take (i := 3) (oi := { dst := some 19, op := _, type := _, pos := _, after := _, guard := _ }) (v := ?v2) rfl (by kernel_rfl) (by kernel_rfl) (by kernel_rfl) (fun _ _ _ h => h) (Or.inl ⟨by rfl, ?hy2⟩) K0 ?rest2
  case hy2 => (intro w hSw; (try dsimp only at hSw); first | (go_simp; done) | (go_simp; with_reducible rfl))
  try simp only [Act.put, List.setIfInBounds_toArray, List.set_cons_zero, List.set_cons_succ]
  refine wpAnyH_take (i := 4) (oi := { dst := some 20, op := _, type := _, pos := _, after := _, guard := _ }) rfl (by kernel_rfl) (by kernel_rfl) (by kernel_rfl) (fun _ _ _ h => h) (yield_cP (by rfl) (.tmp 19) rfl (w.heap.size + 2) 0 (some ⟨w.heap.size + 1, 0, none⟩) rfl (fun U hU => hU.box.cell rfl)) K0 ?_
  try simp only [Act.put, List.setIfInBounds_toArray, List.set_cons_zero, List.set_cons_succ]
  refine wpAnyH_ready (rs := [2]) (by kernel_rfl) (by simp) ?_
  refine AllReadyH.cons (o := { dst := some 18, op := _, type := _, pos := _, after := _, guard := _ }) rfl (fun K hK => ?_) AllReadyH.nil
  go_simp
  refine (HT1.out (w.heap.size + 1) _ HR0.out).mono ?_
  rintro v u2 ⟨rfl, hR, hg⟩
  have K2 := K0.grow hg
  have HR2 := Lib.hid hR
  clear hR hg
  refine hK.out _ _ K2 (fun _ => ?_)
  clear hK K
  try simp only [Act.put, List.setIfInBounds_toArray, List.set_cons_zero, List.set_cons_succ]
  refine wpAnyH_ready (rs := [5]) (by kernel_rfl) (by simp) ?_
  refine AllReadyH.cons (o := { dst := some 21, op := _, type := _, pos := _, after := _, guard := _ }) rfl (fun K hK => ?_) AllReadyH.nil
  go_simp
  refine (HT2.out (w.heap.size + 1) _ HR2.out).mono ?_
  rintro v u5 ⟨rfl, hR, hg⟩
  have K5 := K2.grow hg
  have HR5 := Lib.hid hR
  clear hR hg
  refine hK.out _ _ K5 (fun _ => ?_)
  clear hK K
  try simp only [Act.put, List.setIfInBounds_toArray, List.set_cons_zero, List.set_cons_succ]
  refine wpAnyH_take (i := 6) (oi := { dst := some 6, op := _, type := _, pos := _, after := _, guard := _ }) (v := ?v3) rfl (by kernel_rfl) (by kernel_rfl) (by kernel_rfl) (fun _ _ _ h => h) (Or.inl ⟨by rfl, ?hy3⟩) K5 ?rest3
  case hy3 => (intro w hSw; (try dsimp only at hSw); first | (go_simp; done) | (go_simp; with_reducible rfl))
  try simp only [Act.put, List.setIfInBounds_toArray, List.set_cons_zero, List.set_cons_succ]
  refine wpAnyH_take (i := 7) (oi := { dst := some 7, op := _, type := _, pos := _, after := _, guard := _ }) (v := ?v4) rfl (by kernel_rfl) (by kernel_rfl) (by kernel_rfl) (fun _ _ _ h => h) (Or.inl ⟨by rfl, ?hy4⟩) K5 ?rest4
  case hy4 => (intro w hSw; (try dsimp only at hSw); first | (go_simp; done) | (go_simp; with_reducible rfl))
  try simp only [Act.put, List.setIfInBounds_toArray, List.set_cons_zero, List.set_cons_succ]
  refine wpAnyH_done (by kernel_rfl) ?_ _
  try simp only [Act.put, List.setIfInBounds_toArray, List.set_cons_zero, List.set_cons_succ]
  have K := Lib.hid K5
  clear K0 K2 K5 HR0 HR2 R4 HR4 HT1 HT2
  have k0 : u5.cell? ⟨w.heap.size + 2, 0, none⟩ = some (.pointer (some ⟨w.heap.size + 1, 0, none⟩)) := K.out.box.cell rfl
  go_wp2_with fail
  refine (HDN.out (w.heap.size + 1) u5 HR5.out).mono ?_
  rintro v w6 ⟨rfl, rfl⟩
  clear HDN HR5 k0
  by_cases hD : D = 0
  case neg =>
    have hne : (D != 0) = true := by simp [hD]
    have HV := Lib.hid (show RS = (zDl, D) by rw [HRL.out, if_pos hD])
    have HP := Lib.hid (K.out.res.put (dlc zDl none 0 none 0))
    have HB := Lib.hid (belowRow K.out.low (Nat.le_refl _) (dlc zDl none 0 none 0))
    clear hD
    go_wp2_with ((with_reducible refine bl_store ?_ 29 (.tmp 2) (.tmp 27) ?_ w.heap.size (dlc zDl none 0 none 0) ?_ ?_ ?_ ?_ ?_ ?_); rfl; rfl; rfl; rfl; exact ⟨_, K.out.res, rfl⟩; exact infoD _ _ _ _ _; exact dl_one _ _ _ _ _; simp only [Act.put, List.setIfInBounds_toArray, List.set_cons_zero, List.set_cons_succ])
    refine bodyPost_ret (retDl rfl _ _ w.heap.size zDl none 0 none 0 _ rfl rfl HP.out) rfl ?_
    rw [HV.out]
    exact ⟨⟨none, 0, none, 0, rfl, dlMem_zero _⟩, HB.out⟩
  case pos =>
  subst hD
  have HRL1 := Lib.hid (show RS = _ from HRL.out.trans (if_neg (by simp)))
  clear HRL
  go_wp2_with fail
  refine (HF.out u5).mono ?_
  rintro v w7 ⟨v7, rfl, hown, hb7⟩
  obtain ⟨la, lk, rfl, hfin, -⟩ := hown.fin
  have HGS := Lib.hid K.out.dl.lt
  have HFI := Lib.hid hown
  have HB7 := Lib.hid (K.out.low.trans (hb7.mono K.out.low.size))
  have HRS7 := Lib.hid (K.out.res.keep hb7)
  have HD7 := Lib.hid (K.out.dl.keep hb7)
  have HLO := Lib.hid K.out.lo
  clear hown hfin hb7 K HF
  have q5 : w7.cell? ⟨g, 5, none⟩ = some (.slice none 0 0) := HD7.out.cell rfl
  have p5 := HD7.out.free 5
  have HN5 := Lib.hid (show Go.RowKit.Below w7.heap.size w7 w7 from Below.refl _ _)
  have HD8 := Lib.hid (Blk.set5 (l := fl) (la := la) (lk := lk) HD7.out)
  have HRS8 := Lib.hid (HRS7.out.set (c := g) (j := 5) (by have := HLO.out; omega) (.slice la fl.length lk))
  have HB8 := Lib.hid (HB7.out.setCell (p := ⟨g, 5, none⟩) (by have := HLO.out; show w.heap.size ≤ g; omega) (.slice la fl.length lk))
  have HFI8 := Lib.hid (OwnF.set HFI.out (b := g) (i := 5) HGS.out (.slice la fl.length lk))
  clear HN5
  go_upto_region 9 with fail
  change Code.wp _ _ _ _ (w7.setCell ⟨g, 5, none⟩ (.slice la fl.length lk))
  clear q5 p5
  generalize w7.setCell ⟨g, 5, none⟩ (.slice la fl.length lk) = W8 at *
  clear HFI HB7 HRS7 HD7
  by_cases hE : fe = 0
  case neg =>
    have hne : (fe != 0) = true := by simp [hE]
    have HV := Lib.hid (show RS = (zDl, fe) by rw [HRL1.out, if_pos hE])
    have HP := Lib.hid (HRS8.out.put (dlc zDl none 0 none 0))
    have HB := Lib.hid (belowRow HB8.out (Nat.le_refl _) (dlc zDl none 0 none 0))
    clear hE
    go_wp2_with ((with_reducible refine bl_store ?_ 29 (.tmp 2) (.tmp 37) ?_ w.heap.size (dlc zDl none 0 none 0) ?_ ?_ ?_ ?_ ?_ ?_); rfl; rfl; rfl; rfl; exact ⟨_, HRS8.out, rfl⟩; exact infoD _ _ _ _ _; exact dl_one _ _ _ _ _; simp only [Act.put, List.setIfInBounds_toArray, List.set_cons_zero, List.set_cons_succ])
    refine bodyPost_ret (retDl rfl _ _ w.heap.size zDl none 0 none 0 _ rfl rfl HP.out) rfl ?_
    rw [HV.out]
    exact ⟨⟨none, 0, none, 0, rfl, dlMem_zero _⟩, HB.out⟩
  case pos =>
  subst hE
  have HRL2 := Lib.hid (show RS = _ from HRL1.out.trans (if_neg (by simp)))
  clear HRL1
  go_wp2_with fail
  refine (HG.out W8).mono ?_
  rintro v w9 ⟨v9, rfl, hown, hb9⟩
  obtain ⟨ga, gk, rfl, hdin, -⟩ := hown.din
  have HGS8 := Lib.hid HD8.out.lt
  have HWS8 := Lib.hid HRS8.out.lt
  have HB9 := Lib.hid (HB8.out.trans (hb9.mono HB8.out.size))
  have HRS9 := Lib.hid (HRS8.out.keep hb9)
  have HD9 := Lib.hid (HD8.out.keep hb9)
  have HFI9 := Lib.hid (HFI8.out.below hb9 (Nat.le_refl _))
  have HDI9 := Lib.hid hown
  clear hown hdin hb9 HG HB8 HRS8 HD8 HFI8
  have q6 : w9.cell? ⟨g, 6, none⟩ = some (.slice none 0 0) := HD9.out.cell rfl
  have p6 := HD9.out.free 6
  have HD10 := Lib.hid (Blk.set6 (g := gl) (ga := ga) (gk := gk) HD9.out)
  have HRS10 := Lib.hid (HRS9.out.set (c := g) (j := 6) (by have := HLO.out; omega) (.slice ga gl.length gk))
  have HB10 := Lib.hid (HB9.out.setCell (p := ⟨g, 6, none⟩) (by have := HLO.out; show w.heap.size ≤ g; omega) (.slice ga gl.length gk))
  have HFI10 := Lib.hid (OwnF.set HFI9.out (b := g) (i := 6) HGS.out (.slice ga gl.length gk))
  have HDI10 := Lib.hid (OwnD.set HDI9.out (b := g) (i := 6) HGS8.out (.slice ga gl.length gk))
  go_upto_region 12 with fail
  change Code.wp _ _ _ _ (w9.setCell ⟨g, 6, none⟩ (.slice ga gl.length gk))
  clear q6 p6
  generalize w9.setCell ⟨g, 6, none⟩ (.slice ga gl.length gk) = W10 at *
  clear HFI9 HDI9 HB9 HRS9 HD9
  by_cases hE : ge = 0
  case neg =>
    have hne : (ge != 0) = true := by simp [hE]
    have HV := Lib.hid (show RS = (zDl, ge) by rw [HRL2.out, if_pos hE])
    have HP := Lib.hid (HRS10.out.put (dlc zDl none 0 none 0))
    have HB := Lib.hid (belowRow HB10.out (Nat.le_refl _) (dlc zDl none 0 none 0))
    clear hE
    go_wp2_with ((with_reducible refine bl_store ?_ 29 (.tmp 2) (.tmp 47) ?_ w.heap.size (dlc zDl none 0 none 0) ?_ ?_ ?_ ?_ ?_ ?_); rfl; rfl; rfl; rfl; exact ⟨_, HRS10.out, rfl⟩; exact infoD _ _ _ _ _; exact dl_one _ _ _ _ _; simp only [Act.put, List.setIfInBounds_toArray, List.set_cons_zero, List.set_cons_succ])
    refine bodyPost_ret (retDl rfl _ _ w.heap.size zDl none 0 none 0 _ rfl rfl HP.out) rfl ?_
    rw [HV.out]
    exact ⟨⟨none, 0, none, 0, rfl, dlMem_zero _⟩, HB.out⟩
  case pos =>
  subst hE
  have HRL3 := Lib.hid (show RS = _ from HRL2.out.trans (if_neg (by simp)))
  have HM : Hid (DlMem W10 ⟨Qd, Qs, fl, gl⟩ la ga) := Lib.hid ⟨HFI10.out.fin1, HDI10.out.din1, HFL.out (by simp), HGL.out (by simp), HFV.out (by simp)⟩
  have HC := Lib.hid (fun W (hW : DlMem W ⟨Qd, Qs, fl, gl⟩ la ga) => chkDC ⟨Qd, Qs, fl, gl⟩ la lk ga gk W hW)
  clear HRL2
  generalize chkDm ⟨Qd, Qs, fl, gl⟩ = E at *
  go_wp2_with ((with_reducible refine bl_load ?_ 29 (.tmp 5) ?_ g 0 (dlc ⟨Qd, Qs, fl, gl⟩ la lk ga gk) ?_ ?_ Tryz.underlying29 ?_ ?_ ?_); rfl; rfl; rfl; exact HD10.out.all; rfl; exact infoD _ _ _ _ _; simp only [Act.put, List.setIfInBounds_toArray, List.set_cons_zero, List.set_cons_succ])
  refine (HC.out W10 HM.out).mono ?_
  rintro v w11 ⟨rfl, hb11⟩
  have HB11 := Lib.hid (HB10.out.trans (hb11.mono HB10.out.size))
  have HRS11 := Lib.hid (HRS10.out.keep hb11)
  have HD11 := Lib.hid (HD10.out.keep hb11)
  have HFI11 := Lib.hid (HFI10.out.below hb11 (Nat.le_refl _))
  have HDI11 := Lib.hid (HDI10.out.below hb11 (Nat.le_refl _))
  clear hb11 HC HB10 HRS10 HD10 HM HFI10 HDI10
  by_cases hE : E = 0
  case neg =>
    have hne : (E != 0) = true := by simp [hE]
    have HV := Lib.hid (show RS = (zDl, E) by rw [HRL3.out, if_pos hE])
    have HP := Lib.hid (HRS11.out.put (dlc zDl none 0 none 0))
    have HB := Lib.hid (belowRow HB11.out (Nat.le_refl _) (dlc zDl none 0 none 0))
    clear hE
    go_wp2_with ((with_reducible refine bl_store ?_ 29 (.tmp 2) (.tmp 53) ?_ w.heap.size (dlc zDl none 0 none 0) ?_ ?_ ?_ ?_ ?_ ?_); rfl; rfl; rfl; rfl; exact ⟨_, HRS11.out, rfl⟩; exact infoD _ _ _ _ _; exact dl_one _ _ _ _ _; simp only [Act.put, List.setIfInBounds_toArray, List.set_cons_zero, List.set_cons_succ])
    refine bodyPost_ret (retDl rfl _ _ w.heap.size zDl none 0 none 0 _ rfl rfl HP.out) rfl ?_
    rw [HV.out]
    exact ⟨⟨none, 0, none, 0, rfl, dlMem_zero _⟩, HB.out⟩
  case pos =>
  subst hE
  have HV := Lib.hid (show RS = (⟨Qd, Qs, fl, gl⟩, 0) by rw [HRL3.out]; exact if_neg (by simp))
  have HP := Lib.hid (HRS11.out.put (dlc ⟨Qd, Qs, fl, gl⟩ la lk ga gk))
  have HB := Lib.hid (belowRow HB11.out (Nat.le_refl _) (dlc ⟨Qd, Qs, fl, gl⟩ la lk ga gk))
  have HMF : Hid (DlMem (w11.setRow w.heap.size (dlc ⟨Qd, Qs, fl, gl⟩ la lk ga gk)) ⟨Qd, Qs, fl, gl⟩ la ga) := Lib.hid ⟨(HFI11.out.ofRow (by have := HGS.out; have := HLO.out; omega) _).fin1, (HDI11.out.ofRow (by have := HWS8.out; omega) _).din1, HFL.out (by simp), HGL.out (by simp), HFV.out (by simp)⟩
  go_wp2_with (first
    | ((with_reducible refine bl_load ?_ 29 (.tmp 5) ?_ g 0 (dlc ⟨Qd, Qs, fl, gl⟩ la lk ga gk) ?_ ?_ Tryz.underlying29 ?_ ?_ ?_); rfl; rfl; rfl; exact HD11.out.all; rfl; exact infoD _ _ _ _ _; simp only [Act.put, List.setIfInBounds_toArray, List.set_cons_zero, List.set_cons_succ])
    | ((with_reducible refine bl_store ?_ 29 (.tmp 2) (.tmp 55) ?_ w.heap.size (dlc ⟨Qd, Qs, fl, gl⟩ la lk ga gk) ?_ ?_ ?_ ?_ ?_ ?_); rfl; rfl; rfl; rfl; exact ⟨_, HRS11.out, rfl⟩; exact infoD _ _ _ _ _; exact dl_one _ _ _ _ _; simp only [Act.put, List.setIfInBounds_toArray, List.set_cons_zero, List.set_cons_succ]))
  refine bodyPost_ret (retDl rfl _ _ w.heap.size ⟨Qd, Qs, fl, gl⟩ la lk ga gk _ rfl rfl HP.out) rfl ?_
  rw [HV.out]
  exact ⟨⟨la, lk, ga, gk, rfl, HMF.out⟩, HB.out⟩
end Go.Proofs.YtkodololdjainaaGreat
