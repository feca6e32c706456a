/-
  A guard and binds are drawn: the document's function. No statement is proved here.
-/
import Derived.Test.YteoopmogklpnoaaT38
import Derived.Test.YteoopmogklpnoaaT41
namespace Go.Proofs.Yteoopmogklpnoaa
open Go.RowKit Go.Sort Go.Deep
set_option maxRecDepth 100000
set_option linter.unusedVariables false
/-- No cell of the block is a slice. -/
def NoSl (w : World) (z : Nat) : Prop := ∀ o A n c, w.cell? ⟨z, o, none⟩ ≠ some (.slice A n c)
theorem NoSl.guard {w : World} {z : Nat} {a b c : Int} (h : w.heap[z]? = some (.cells #[.int .i64 a, .int .i64 b, .int .i64 c] 63 (0, 0))) : NoSl w z := by
  intro o A n cc e
  rw [cell_of_blk h] at e
  match o with
  | 0 => exact nomatch e
  | 1 => exact nomatch e
  | 2 => exact nomatch e
  | k + 3 => simp at e
theorem RVl.avoid {w w' : World} {B B' z : Nat} (hz : NoSl w z) (hk : ∀ p : Addr, p.block ≠ z → w'.cell? p = w.cell? p) (hB : B ≤ B') : ∀ (d : Nat) {b o : Nat} {v : Vl}, RVl d w B b o v → RVl d w' B' b o v
  | 0, _, _, _, h => h.elim
  | d + 1, b, o, v, ⟨A, cap, h1, h2, h3, h4, h5⟩ => by
    have hb : b ≠ z := fun e => by subst e; exact hz _ _ _ _ h3
    refine ⟨A, cap, (hk ⟨b, o, none⟩ hb).trans h1, (hk ⟨b, o + 1, none⟩ hb).trans h2, (hk ⟨b, o + 2, none⟩ hb).trans h3, h4, fun k hk' => ?_⟩
    obtain ⟨b', off, e, hb', hv⟩ := h5 k hk'
    exact ⟨b', off, e, by omega, RVl.avoid hz hk hB d hv⟩
theorem RBs.avoid {w w' : World} {z d : Nat} {A : Option Addr} {l : List Bn} (h : RBs d w w.heap.size A l) (hz : NoSl w z) (hk : ∀ p : Addr, p.block ≠ z → w'.cell? p = w.cell? p) (hB : w.heap.size ≤ w'.heap.size) : RBs d w' w'.heap.size A l :=
  ⟨h.1, fun k hk' => by
    obtain ⟨b, off, e, hb, A', cap, h1, h2, h3, h4, h5⟩ := h.2 k hk'
    have hbz : b ≠ z := fun e => by subst e; exact hz _ _ _ _ h4
    refine ⟨b, off, e, by omega, A', cap, (hk ⟨b, _, none⟩ hbz).trans h1, (hk ⟨b, _, none⟩ hbz).trans h2, (hk ⟨b, _, none⟩ hbz).trans h3, (hk ⟨b, _, none⟩ hbz).trans h4, h5.1, fun j hj => ?_⟩
    obtain ⟨b', off', e', hb', hv⟩ := h5.2 j hj
    exact ⟨b', off', e', by omega, RVl.avoid hz hk hB d hv⟩⟩
theorem OBr.rbs {d : Nat} {w : World} {lo B : Nat} {u : Value} {L : List Bn} (h : OBr d w lo B u L) (hB : B ≤ w.heap.size) : ∃ A c, u = .slice A L.length c ∧ RBs d w w.heap.size A L := by
  have hl : L.length ≤ maxLen := by
    obtain ⟨xs, hown, _⟩ := h
    obtain ⟨A', c', hv, _⟩ := own_form hown
    subst hv
    have := own_cap hown
    omega
  rcases h.is with ⟨hu, hL⟩ | ⟨g, cap, xs, hu, hlo, hg, hx, hr, hc⟩
  · subst hL; exact ⟨none, 0, hu, RBs.nil⟩
  · refine ⟨_, cap, hu, hl, fun k hk => ⟨g, 0, rfl, hg, ?_⟩⟩
    obtain ⟨A', cp, h1, h2, h3, h4, h5⟩ := hr k hk
    have hcc : ∀ j u', xs[j]? = some u' → w.cell? ⟨g, j, none⟩ = some u' := fun j u' hj => by have := hc j u' hj; rw [addr_zero_add] at this; exact this
    refine ⟨A', cp, ?_, ?_, ?_, ?_, h5.keep (fun _ _ => rfl) hB⟩
    · rw [Nat.zero_add]; exact hcc _ _ h1
    · rw [Nat.zero_add]; exact hcc _ _ h2
    · rw [Nat.zero_add]; exact hcc _ _ h3
    · rw [Nat.zero_add]; exact hcc _ _ h4
theorem one_bind {w : World} {g : Nat} {k m : Nat} (h : w.heap[g]? = some (.cells #[.int .i64 k, .int .i64 (-1), .int .i64 m, .slice none 0 0] 69 (0, 0))) : RBs 1 w w.heap.size (some ⟨g, 0, none⟩) [⟨(k : Int), .mk (-1) m []⟩] :=
  ⟨by simp [maxLen], fun j hj => by
    have hj0 : j = 0 := by simpa using hj
    subst hj0
    exact ⟨g, 0, rfl, heap_lt h, none, 0, (cell_of_blk h 0).trans rfl, (cell_of_blk h 1).trans rfl, (cell_of_blk h 2).trans rfl, (cell_of_blk h 3).trans rfl, RVs.nil⟩⟩
/-- A guard and binds. -/
def GotGB (w : World) (e : Ending) (w' : World) : Prop := ∃ (g0 g1 g2 : Int) (A : Option Addr) (c : Nat) (bs : List Bn) (d : Nat), e = .returned (.tuple #[.agg #[.int .i64 g0, .int .i64 g1, .int .i64 g2], .slice A bs.length c]) ∧ RBs d w' w'.heap.size A bs ∧ Below w.heap.size w w'
set_option maxHeartbeats 16000000 in
theorem drawGH_any (n cap : Nat) (Ac : Option Addr) (w : World) (hn : n ≤ maxLen) (hc : n ≤ cap) (h : RBy w w.heap.size Ac n) : Calls Try.prog 37 #[.slice Ac n cap] w (GotGB w) := by
  have HC := Lib.hid hc
  have HNM := Lib.hid hn
  generalize hwx : w.alloc (.cells #[.int .i64 0, .int .i64 0, .int .i64 0] 63) = wx
  have hbx : Below w.heap.size w wx := by rw [← hwx]; exact (Below.refl _ _).alloc (Nat.le_refl _) _
  have HBY : Hid (RBy wx w.heap.size Ac n) := h.below hbx
  have hsx : wx.heap.size = w.heap.size + 1 := by rw [← hwx]; simp
  have HZX : Hid (wx.heap[w.heap.size]? = some (.cells #[.int .i64 0, .int .i64 0, .int .i64 0] 63 (0, 0))) := by unfold Hid; rw [← hwx]; exact heap_alloc_new w _
  have HBX := Lib.hid hbx
  have HWX := Lib.hid hwx
  have HSX := Lib.hid hsx
  clear hwx hbx h hc hn hsx
  go_enter Try.func37, Try.ntmps37
  go_wp2_with fail
  rw [HWX.out]
  refine (open_any w.heap.size n cap Ac wx HNM.out HC.out HBY.out (by have := HSX.out; omega)).mono ?_
  rintro e w1 ⟨rfl, hR1, hb1⟩
  have hsx := HSX.out
  have hs1 := hb1.size
  have hr1l : wx.heap.size < w1.heap.size := hR1.lt
  have HB1 := Lib.hid hb1
  have HR1 := Lib.hid hR1
  clear hb1 hR1
  go_wp2_with fail
  rw [hsx] at HR1 hs1 hr1l
  clear hsx
  generalize hrb : w.heap.size + 1 = rb at HR1 hs1 hr1l ⊢
  have hsx : w.heap.size + 1 ≤ rb := by omega
  have hsx2 : rb ≤ w.heap.size + 1 := by omega
  have HRB := Lib.hid hrb
  clear hrb
  refine (l4Typed_any rb w.heap.size 0 w1 HR1.out (by omega)).mono ?_
  rintro e w2 ⟨l, t, cs, v, Aw, A5, A, cw, c5, c, rfl, h7, hod, htok, hinh, hfit, hcap, hov, hgc, hocs, hR2, hf2⟩
  have hs2 := hf2.size
  generalize hwb : (w2.alloc (.cells #[.int .i64 t.data, .int .i64 t.index] 25)).alloc (.cells #[.int .i64 v.ctor, .int .i64 v.n, .slice A v.kids.length c] 28) = wb
  have hbb := below_box2 hwb
  have HSB : Hid (wb.heap.size = w2.heap.size + 1 + 1) := by unfold Hid; rw [← hwb]; simp
  have hsb : w2.heap.size + 2 ≤ wb.heap.size := by have := HSB.out; omega
  have HVB : Hid (VBx wb (w2.heap.size + 1) v.ctor v.n (.slice A v.kids.length c)) := by rw [← hwb]; exact ⟨by simp [go_sem], by simp [go_sem], by simp [go_sem]⟩
  have HFb : Hid (Fr (fun b => b = rb) w wb) := (((Fr.below HBX.out).trans (Fr.below HB1.out)).trans hf2).trans (Fr.below hbb)
  have hfxb : Fr (fun b => b = rb) wx wb := ((Fr.below HB1.out).trans hf2).trans (Fr.below hbb)
  have HZb : Hid (wb.heap[w.heap.size]? = some (.cells #[.int .i64 0, .int .i64 0, .int .i64 0] 63 (0, 0))) := hfxb.block HZX.out (by omega)
  have HRb := Lib.hid (hR2.below hbb)
  have HCS : Hid (OCs 8 wb (Nw w1 w2) A5 cs) := hocs.later_ hbb
  have HVS : Hid (OVc 4 wb (Nw w1 w2) A v.kids) := hov.fr _ (Fr.below (P := fun _ => False) hbb) (fun _ _ h => h)
  have HGC := Lib.hid hgc
  have HFT := Lib.hid hfit
  have HNP : Hid (∀ b, Nw w1 w2 b → rb < b ∧ b < wb.heap.size) := fun b hb => ⟨by have := hb.1; omega, by have := hb.2; omega⟩
  generalize Nw w1 w2 = P at HCS HVS HNP
  have HWB := Lib.hid hwb
  clear h7 hod htok hinh hfit hcap hov hgc hocs hR2 hf2 hwb hbb hfxb
  generalize hwi : wb.alloc (.cells #[.int .i64 1, .int .i64 2, .int .i64 0, .int .i64 3] 3) = wi
  have hbi : Below wb.heap.size wb wi := by rw [← hwi]; exact (Below.refl _ _).alloc (Nat.le_refl _) _
  have hsi : wb.heap.size + 1 ≤ wi.heap.size := by rw [← hwi]; simp
  have HIN : Hid (RInts wi (some ⟨w2.heap.size + 1 + 1, 0, none⟩) [1, 2, 0, 3]) := by
    have h := RInts.lit wb #[.int .i64 1, .int .i64 2, .int .i64 0, .int .i64 3] [1, 2, 0, 3] rfl (by decide)
    rw [hwi, HSB.out] at h
    exact h
  have HWI := Lib.hid hwi
  have HNU := Lib.hid (num_n rb w.heap.size (0 + 10046) 4 [1, 2, 0, 3] rfl (some ⟨w2.heap.size + 1 + 1, 0, none⟩) 4 wi (HRb.out.below hbi) (by omega) (by decide) HIN.out (fun b o e => by injection e with e; injection e with e; omega))
  have HBI := Lib.hid hbi
  clear hwi hbi
  go_wp2_with fail
  try rw [HWB.out]
  try rw [HWI.out]
  with_reducible refine (HNU.out).mono ?_
  rintro e w3 ⟨j, hj, rfl, hR3, hg3⟩
  have hf3 : Fr (fun b => b = rb) wi w3 := Fr.grown hg3 (fun b e => by injection e)
  have HF3 : Hid (Fr (fun b => b = rb) wb w3) := (Fr.below HBI.out).trans hf3
  have HR3 := Lib.hid hR3
  have hs3 := hf3.size
  generalize ([1, 2, 0, 3] : List Int)[j] = g0
  clear hR3 hg3 hf3 HNU HIN
  go_wp2_with fail
  with_reducible refine (pick_any rb w.heap.size (0 + 10046 + 1) 3 w3 HR3.out (by omega)).mono ?_
  rintro e w4 ⟨k4, rfl, hk4, hR4, hg4⟩
  have hf4 : Fr (fun b => b = rb) w3 w4 := Fr.grown hg4 (fun b e => by injection e)
  have HF4 : Hid (Fr (fun b => b = rb) wb w4) := HF3.out.trans hf4
  have HR4 := Lib.hid hR4
  have hs4 := hf4.size
  clear hk4 hR4 hg4 hf4
  go_wp2_with fail
  with_reducible refine (pick_any rb w.heap.size (0 + 10046 + 1 + 1) 10 w4 HR4.out (by omega)).mono ?_
  rintro e w5 ⟨k5, rfl, hk5, hR5, hg5⟩
  have hf5 : Fr (fun b => b = rb) w4 w5 := Fr.grown hg5 (fun b e => by injection e)
  have hs5 := hf5.size
  generalize hwg : w5.alloc (.cells #[.int .i64 g0, .int .i64 k4, .int .i64 k5] 63) = wg
  have hbg : Below w5.heap.size w5 wg := by rw [← hwg]; exact (Below.refl _ _).alloc (Nat.le_refl _) _
  have hsg : w5.heap.size + 1 ≤ wg.heap.size := by rw [← hwg]; simp
  have HGG : Hid (wg.heap[w5.heap.size]? = some (.cells #[.int .i64 g0, .int .i64 k4, .int .i64 k5] 63 (0, 0))) := by unfold Hid; rw [← hwg]; exact heap_alloc_new w5 _
  have HFG : Hid (Fr (fun b => b = rb) wb wg) := (HF4.out.trans hf5).trans (Fr.below hbg)
  have HRG := Lib.hid (hR5.below hbg)
  have HWG := Lib.hid hwg
  clear hk5 hR5 hg5 hf5 hwg hbg
  go_wp2_with fail
  rw [HWG.out]
  with_reducible refine (pick_any rb w.heap.size (0 + 10046 + 1 + 1 + 1) 2 wg HRG.out (by omega)).mono ?_
  rintro e w6 ⟨k6, rfl, hk6, hR6, hg6⟩
  have hf6 : Fr (fun b => b = rb) wg w6 := Fr.grown hg6 (fun b e => by injection e)
  have HG6 : Hid (w6.heap[w5.heap.size]? = some (.cells #[.int .i64 g0, .int .i64 k4, .int .i64 k5] 63 (0, 0))) := hf6.block HGG.out (by omega)
  have HF6 : Hid (Fr (fun b => b = rb) wb w6) := HFG.out.trans hf6
  have HR6 := Lib.hid hR6
  have hs6 := hf6.size
  clear hk6 hR6 hg6 hf6
  go_wp2_with fail
  with_reducible refine (pick_any rb w.heap.size (0 + 10046 + 1 + 1 + 1 + 1) 10 w6 HR6.out (by omega)).mono ?_
  rintro e w7 ⟨k7, rfl, hk7, hR7, hg7⟩
  have hf7 : Fr (fun b => b = rb) w6 w7 := Fr.grown hg7 (fun b e => by injection e)
  have hs7 := hf7.size
  generalize hwz : w7.alloc (.cells #[.int .i64 k6, .int .i64 (-1), .int .i64 k7, .slice none 0 0] 69) = wz
  have hbz : Below w7.heap.size w7 wz := by rw [← hwz]; exact (Below.refl _ _).alloc (Nat.le_refl _) _
  have hsz : w7.heap.size + 1 ≤ wz.heap.size := by rw [← hwz]; simp
  have HBD : Hid (wz.heap[w7.heap.size]? = some (.cells #[.int .i64 k6, .int .i64 (-1), .int .i64 k7, .slice none 0 0] 69 (0, 0))) := by unfold Hid; rw [← hwz]; exact heap_alloc_new w7 _
  have HG7 : Hid (w7.heap[w5.heap.size]? = some (.cells #[.int .i64 g0, .int .i64 k4, .int .i64 k5] 63 (0, 0))) := hf7.block HG6.out (by omega)
  have HF7 : Hid (Fr (fun b => b = rb) wb w7) := HF6.out.trans hf7
  have hf6z : Fr (fun b => b = rb) w6 wz := hf7.trans (Fr.below hbz)
  have HGZ : Hid (wz.heap[w5.heap.size]? = some (.cells #[.int .i64 g0, .int .i64 k4, .int .i64 k5] 63 (0, 0))) := hf6z.block HG6.out (by omega)
  have HFZ : Hid (Fr (fun b => b = rb) wb wz) := HF6.out.trans hf6z
  have HRZ := Lib.hid (hR7.below hbz)
  have HWZ := Lib.hid hwz
  clear hk7 hR7 hg7 hf7 hwz hbz hf6z
  by_cases hcl : 0 < cs.length
  · have hcI : (0 : Int) < (cs.length : Int) := by omega
    go_wp2_with fail
    rw [HWZ.out]
    with_reducible refine (pick_any rb w.heap.size (0 + 10046 + 1 + 1 + 1 + 1 + 1) 2 wz HRZ.out (by omega)).mono ?_
    rintro e w8 ⟨k8, rfl, hk8, hR8, hg8⟩
    have hf8 : Fr (fun b => b = rb) wz w8 := Fr.grown hg8 (fun b e => by injection e)
    have HG8 : Hid (w8.heap[w5.heap.size]? = some (.cells #[.int .i64 g0, .int .i64 k4, .int .i64 k5] 63 (0, 0))) := hf8.block HGZ.out (by omega)
    have HF8 : Hid (Fr (fun b => b = rb) wb w8) := HFZ.out.trans hf8
    have HB8 : Hid (w8.heap[w7.heap.size]? = some (.cells #[.int .i64 k6, .int .i64 (-1), .int .i64 k7, .slice none 0 0] 69 (0, 0))) := hf8.block HBD.out (by omega)
    have HZ8 : Hid (w8.heap[w.heap.size]? = some (.cells #[.int .i64 0, .int .i64 0, .int .i64 0] 63 (0, 0))) := HF8.out.block HZb.out (by omega)
    have hs8 := hf8.size
    clear hk8 hR8 hg8 hf8
    by_cases hk0 : k8 = 0
    · have q0 : ((k8 : Int) == 0) = true := ieq_t (by omega)
      have HCS8 : Hid (RCs 7 w8 w8.heap.size A5 cs) := OCs.reads (HCS.out.fr HF8.out (fun b hb e => by have := (HNP.out b hb).1; omega))
      have HVS8 : Hid (RVs 3 w8 w8.heap.size A v.kids) := OVc.reads 3 (HVS.out.fr _ HF8.out (fun b hb e => by have := (HNP.out b hb).1; omega))
      have hgood := HGC.out.2 cs[0] (List.getElem_mem hcl)
      have HSH := Lib.hid (sh_any hgood.1)
      have HW4 := Lib.hid hgood.2
      obtain ⟨b, off, hA5, hb8, D, cp, p0, p1, p2, p3, p4, p5, _, _, _, hrp⟩ := HCS8.out.2 0 hcl
      rw [show off + 0 * 9 = off by omega] at p0 p1 p2 p3 p4 p5
      have hvb : w8.heap[w2.heap.size + 1]? = wb.heap[w2.heap.size + 1]? := HF8.out.2.2.2.2 _ (by omega) (by omega)
      have v0 := (World.cell?_of_block (a := ⟨w2.heap.size + 1, 0, none⟩) hvb).trans HVB.out.1
      have v1 := (World.cell?_of_block (a := ⟨w2.heap.size + 1, 1, none⟩) hvb).trans HVB.out.2.1
      have v2 := (World.cell?_of_block (a := ⟨w2.heap.size + 1, 2, none⟩) hvb).trans HVB.out.2.2
      have HRP := Lib.hid hrp
      have HMS : Hid (Calls Try.prog 77 #[.slice none 0 0, .agg #[.int .i64 cs[0].pat.op, .int .i64 cs[0].pat.ctor, .int .i64 cs[0].pat.n, .int .i64 cs[0].pat.m, .int .i64 cs[0].pat.var, .slice D cs[0].pat.kids.length cp], .agg #[.int .i64 v.ctor, .int .i64 v.n, .slice A v.kids.length c]] w8.drew (MsQ 3 w8.heap.size (1 + wP cs[0].pat) [] (mtS 10 cs[0].pat v) w8.drew)) := ms_any l 10 4 7 3 w8.heap.size D A cp c t cs[0].pat v (.slice none 0 0) [] w8.drew HSH.out HFT.out HRP.out HVS8.out (Nat.le_refl _) (OBr.nil _ _ _ _) (by have := HW4.out; simp; omega)
      generalize cs[0] = x0 at HMS p0 p1 p2 p3 p4 p5
      have SA0 : w8.cell? ⟨b, off, none⟩ = some (.int .i64 x0.pat.op) ∧ w8.cell? ⟨b, off + 1, none⟩ = some (.int .i64 x0.pat.ctor) ∧ w8.cell? ⟨b, off + 2, none⟩ = some (.int .i64 x0.pat.n) ∧ w8.cell? ⟨b, off + 3, none⟩ = some (.int .i64 x0.pat.m) ∧ w8.cell? ⟨b, off + 4, none⟩ = some (.int .i64 x0.pat.var) ∧ w8.cell? ⟨b, off + 5, none⟩ = some (.slice D x0.pat.kids.length cp) ∧ w8.cell? ⟨w2.heap.size + 1, 0, none⟩ = some (.int .i64 v.ctor) ∧ w8.cell? ⟨w2.heap.size + 1, 1, none⟩ = some (.int .i64 v.n) ∧ w8.cell? ⟨w2.heap.size + 1, 2, none⟩ = some (.slice A v.kids.length c) := ⟨p0, p1, p2, p3, p4, p5, v0, v1, v2⟩
      have SB0 : w8.drew.cell? ⟨b, off, none⟩ = some (.int .i64 x0.pat.op) ∧ w8.drew.cell? ⟨b, off + 1, none⟩ = some (.int .i64 x0.pat.ctor) ∧ w8.drew.cell? ⟨b, off + 2, none⟩ = some (.int .i64 x0.pat.n) ∧ w8.drew.cell? ⟨b, off + 3, none⟩ = some (.int .i64 x0.pat.m) ∧ w8.drew.cell? ⟨b, off + 4, none⟩ = some (.int .i64 x0.pat.var) ∧ w8.drew.cell? ⟨b, off + 5, none⟩ = some (.slice D x0.pat.kids.length cp) ∧ w8.drew.cell? ⟨w2.heap.size + 1, 0, none⟩ = some (.int .i64 v.ctor) ∧ w8.drew.cell? ⟨w2.heap.size + 1, 1, none⟩ = some (.int .i64 v.n) ∧ w8.drew.cell? ⟨w2.heap.size + 1, 2, none⟩ = some (.slice A v.kids.length c) := SA0
      have HP := Lib.hid SA0
      have hvl : w2.heap.size + 1 < w8.heap.size := Go.block_lt_of_cell v0
      subst hA5
      clear hgood hvb hrp p0 p1 p2 p3 p4 p5 v0 v1 v2 hk0
      go_wp2_with fail
      go_region_held3 (fun w' => w'.cell? ⟨b, off, none⟩ = some (.int .i64 x0.pat.op) ∧ w'.cell? ⟨b, off + 1, none⟩ = some (.int .i64 x0.pat.ctor) ∧ w'.cell? ⟨b, off + 2, none⟩ = some (.int .i64 x0.pat.n) ∧ w'.cell? ⟨b, off + 3, none⟩ = some (.int .i64 x0.pat.m) ∧ w'.cell? ⟨b, off + 4, none⟩ = some (.int .i64 x0.pat.var) ∧ w'.cell? ⟨b, off + 5, none⟩ = some (.slice D x0.pat.kids.length cp) ∧ w'.cell? ⟨w2.heap.size + 1, 0, none⟩ = some (.int .i64 v.ctor) ∧ w'.cell? ⟨w2.heap.size + 1, 1, none⟩ = some (.int .i64 v.n) ∧ w'.cell? ⟨w2.heap.size + 1, 2, none⟩ = some (.slice A v.kids.length c)) (first | with_reducible exact SQ | with_reducible exact SA0 | with_reducible exact SB0 | go_keep) (first | (go_at_call 77; (with_reducible refine (HMS.out).mono ?_); rintro e w9 ⟨u, bo, rfl, hbo, hL, hb9'⟩; have hb9 : Below w8.heap.size w8 w9 := ⟨hb9'.os, hb9'.tape, hb9'.output, hb9'.size, hb9'.block⟩; have HB9 := Lib.hid hb9; have HL9 := Lib.hid hL.2; have SQ : w9.cell? ⟨b, off, none⟩ = some (.int .i64 x0.pat.op) ∧ w9.cell? ⟨b, off + 1, none⟩ = some (.int .i64 x0.pat.ctor) ∧ w9.cell? ⟨b, off + 2, none⟩ = some (.int .i64 x0.pat.n) ∧ w9.cell? ⟨b, off + 3, none⟩ = some (.int .i64 x0.pat.m) ∧ w9.cell? ⟨b, off + 4, none⟩ = some (.int .i64 x0.pat.var) ∧ w9.cell? ⟨b, off + 5, none⟩ = some (.slice D x0.pat.kids.length cp) ∧ w9.cell? ⟨w2.heap.size + 1, 0, none⟩ = some (.int .i64 v.ctor) ∧ w9.cell? ⟨w2.heap.size + 1, 1, none⟩ = some (.int .i64 v.n) ∧ w9.cell? ⟨w2.heap.size + 1, 2, none⟩ = some (.slice A v.kids.length c) := (by obtain ⟨q1, q2, q3, q4, q5, q6, q7, q8, q9⟩ := HP.out; exact ⟨(hb9.cell (p := ⟨b, _, none⟩) hb8).trans q1, (hb9.cell (p := ⟨b, _, none⟩) hb8).trans q2, (hb9.cell (p := ⟨b, _, none⟩) hb8).trans q3, (hb9.cell (p := ⟨b, _, none⟩) hb8).trans q4, (hb9.cell (p := ⟨b, _, none⟩) hb8).trans q5, (hb9.cell (p := ⟨b, _, none⟩) hb8).trans q6, (hb9.cell (p := ⟨w2.heap.size + 1, _, none⟩) hvl).trans q7, (hb9.cell (p := ⟨w2.heap.size + 1, _, none⟩) hvl).trans q8, (hb9.cell (p := ⟨w2.heap.size + 1, _, none⟩) hvl).trans q9⟩); clear hb9 hb9' hL hbo))
      all_goals
        obtain ⟨L1, hL1⟩ := HL9.out
        obtain ⟨Au, cu, rfl, hru⟩ := hL1.rbs HB9.out.size
        have HRU := Lib.hid hru
        have HG : Hid (w9.heap[w5.heap.size]? = some (.cells #[.int .i64 g0, .int .i64 k4, .int .i64 k5] 63 (0, 0))) := (HB9.out.block _ (heap_lt HG8.out)).trans HG8.out
        have HZ : Hid (w9.heap[w.heap.size]? = some (.cells #[.int .i64 0, .int .i64 0, .int .i64 0] 63 (0, 0))) := (HB9.out.block _ (heap_lt HZ8.out)).trans HZ8.out
        have HF : Hid (Fr (fun b => b = rb) w w9) := (HFb.out.trans HF8.out).trans (Fr.below HB9.out)
        clear SQ hL1 hru SA0 SB0
        have hzz : w9.heap[w.heap.size]? = some (.cells #[.int .i64 0, .int .i64 0, .int .i64 0] 63 (0, 0)) := HZ.out
        have hgg : w9.heap[w5.heap.size]? = some (.cells #[.int .i64 g0, .int .i64 k4, .int .i64 k5] 63 (0, 0)) := HG.out
        have a0 := (cell_of_blk hgg 0).trans rfl
        have a1 := (cell_of_blk hgg 1).trans rfl
        have a2 := (cell_of_blk hgg 2).trans rfl
        have b0 := (cell_of_blk hzz 0).trans rfl
        have b1 := (cell_of_blk hzz 1).trans rfl
        have b2 := (cell_of_blk hzz 2).trans rfl
        have c0 := free_of_blk hzz 0
        have c1 := free_of_blk hzz 1
        have c2 := free_of_blk hzz 2
        have hf : (((w9.setCell ⟨w.heap.size, 0, none⟩ (.int .i64 g0)).setCell ⟨w.heap.size, 1, none⟩ (.int .i64 k4)).setCell ⟨w.heap.size, 2, none⟩ (.int .i64 k5)).heap[w.heap.size]? = some (.cells #[.int .i64 g0, .int .i64 k4, .int .i64 k5] 63 (0, 0)) := (heap_setCell_same _ _ 2 _ _ _ (heap_setCell_same _ _ 1 _ _ _ (heap_setCell_same _ _ 0 _ _ _ hzz))).trans rfl
        have hfr : Fr (fun b => b = w.heap.size) w9 (((w9.setCell ⟨w.heap.size, 0, none⟩ (.int .i64 g0)).setCell ⟨w.heap.size, 1, none⟩ (.int .i64 k4)).setCell ⟨w.heap.size, 2, none⟩ (.int .i64 k5)) := (((Fr.refl (fun b => b = w.heap.size) _).setOf rfl).setOf rfl).setOf rfl
        have HFIN : Hid (GotGB w (.returned (.tuple #[.agg #[.int .i64 g0, .int .i64 k4, .int .i64 k5], .slice Au (L1).length cu])) (((w9.setCell ⟨w.heap.size, 0, none⟩ (.int .i64 g0)).setCell ⟨w.heap.size, 1, none⟩ (.int .i64 k4)).setCell ⟨w.heap.size, 2, none⟩ (.int .i64 k5))) := by
          refine ⟨g0, k4, k5, Au, cu, L1, _, rfl, RBs.avoid (z := w.heap.size) (HRU.out) (NoSl.guard hzz) (fun p hp => ?_) hfr.size, ?_⟩
          · exact (World.cell?_setCell_other _ _ _ _ (fun e => hp (by rw [← e]))).trans ((World.cell?_setCell_other _ _ _ _ (fun e => hp (by rw [← e]))).trans (World.cell?_setCell_other _ _ _ _ (fun e => hp (by rw [← e]))))
          · exact (HF.out.andThen hfr (fun x hx hq => by have hq' : x = w.heap.size := hq; omega)).to (Nat.le_refl _) (fun b hb hc => by have hc' : b = rb := hc; omega)
        have r0 := (cell_of_blk hf 0).trans rfl
        have r1 := (cell_of_blk hf 1).trans rfl
        have r2 := (cell_of_blk hf 2).trans rfl
        obtain ⟨wf, hwf⟩ : ∃ wf, (((w9.setCell ⟨w.heap.size, 0, none⟩ (.int .i64 g0)).setCell ⟨w.heap.size, 1, none⟩ (.int .i64 k4)).setCell ⟨w.heap.size, 2, none⟩ (.int .i64 k5)) = wf := ⟨_, rfl⟩
        rw [hwf] at HFIN r0 r1 r2
        have HWF := Lib.hid hwf
        clear hzz hgg hf hfr hwf
        go_wp2_with fail
        rw [HWF.out]
        exact bodyPost_ret (v := .tuple #[.agg #[.int .i64 g0, .int .i64 k4, .int .i64 k5], .slice Au (L1).length cu]) (by simp [results, Try.results37, go_sem, r0, r1, r2]) rfl HFIN.out
    · have q0 : ((k8 : Int) == 0) = false := ieq_f (by omega)
      have HG := HG8
      have HZ := HZ8
      have HF : Hid (Fr (fun b => b = rb) w w8) := HFb.out.trans HF8.out
      have HRU : Hid (RBs 1 w8 w8.heap.size (some ⟨w7.heap.size, 0, none⟩) [⟨(k6 : Int), .mk (-1) k7 []⟩]) := one_bind HB8.out
      clear hk0
      have hzz : w8.heap[w.heap.size]? = some (.cells #[.int .i64 0, .int .i64 0, .int .i64 0] 63 (0, 0)) := HZ.out
      have hgg : w8.heap[w5.heap.size]? = some (.cells #[.int .i64 g0, .int .i64 k4, .int .i64 k5] 63 (0, 0)) := HG.out
      have a0 := (cell_of_blk hgg 0).trans rfl
      have a1 := (cell_of_blk hgg 1).trans rfl
      have a2 := (cell_of_blk hgg 2).trans rfl
      have b0 := (cell_of_blk hzz 0).trans rfl
      have b1 := (cell_of_blk hzz 1).trans rfl
      have b2 := (cell_of_blk hzz 2).trans rfl
      have c0 := free_of_blk hzz 0
      have c1 := free_of_blk hzz 1
      have c2 := free_of_blk hzz 2
      have hf : (((w8.setCell ⟨w.heap.size, 0, none⟩ (.int .i64 g0)).setCell ⟨w.heap.size, 1, none⟩ (.int .i64 k4)).setCell ⟨w.heap.size, 2, none⟩ (.int .i64 k5)).heap[w.heap.size]? = some (.cells #[.int .i64 g0, .int .i64 k4, .int .i64 k5] 63 (0, 0)) := (heap_setCell_same _ _ 2 _ _ _ (heap_setCell_same _ _ 1 _ _ _ (heap_setCell_same _ _ 0 _ _ _ hzz))).trans rfl
      have hfr : Fr (fun b => b = w.heap.size) w8 (((w8.setCell ⟨w.heap.size, 0, none⟩ (.int .i64 g0)).setCell ⟨w.heap.size, 1, none⟩ (.int .i64 k4)).setCell ⟨w.heap.size, 2, none⟩ (.int .i64 k5)) := (((Fr.refl (fun b => b = w.heap.size) _).setOf rfl).setOf rfl).setOf rfl
      have HFIN : Hid (GotGB w (.returned (.tuple #[.agg #[.int .i64 g0, .int .i64 k4, .int .i64 k5], .slice (some ⟨w7.heap.size, 0, none⟩) ([(⟨(k6 : Int), .mk (-1) k7 []⟩ : Bn)]).length 1])) (((w8.setCell ⟨w.heap.size, 0, none⟩ (.int .i64 g0)).setCell ⟨w.heap.size, 1, none⟩ (.int .i64 k4)).setCell ⟨w.heap.size, 2, none⟩ (.int .i64 k5))) := by
        refine ⟨g0, k4, k5, (some ⟨w7.heap.size, 0, none⟩), 1, [(⟨(k6 : Int), .mk (-1) k7 []⟩ : Bn)], _, rfl, RBs.avoid (z := w.heap.size) (HRU.out) (NoSl.guard hzz) (fun p hp => ?_) hfr.size, ?_⟩
        · exact (World.cell?_setCell_other _ _ _ _ (fun e => hp (by rw [← e]))).trans ((World.cell?_setCell_other _ _ _ _ (fun e => hp (by rw [← e]))).trans (World.cell?_setCell_other _ _ _ _ (fun e => hp (by rw [← e]))))
        · exact (HF.out.andThen hfr (fun x hx hq => by have hq' : x = w.heap.size := hq; omega)).to (Nat.le_refl _) (fun b hb hc => by have hc' : b = rb := hc; omega)
      have r0 := (cell_of_blk hf 0).trans rfl
      have r1 := (cell_of_blk hf 1).trans rfl
      have r2 := (cell_of_blk hf 2).trans rfl
      obtain ⟨wf, hwf⟩ : ∃ wf, (((w8.setCell ⟨w.heap.size, 0, none⟩ (.int .i64 g0)).setCell ⟨w.heap.size, 1, none⟩ (.int .i64 k4)).setCell ⟨w.heap.size, 2, none⟩ (.int .i64 k5)) = wf := ⟨_, rfl⟩
      rw [hwf] at HFIN r0 r1 r2
      have HWF := Lib.hid hwf
      clear hzz hgg hf hfr hwf
      go_wp2_with fail
      rw [HWF.out]
      exact bodyPost_ret (v := .tuple #[.agg #[.int .i64 g0, .int .i64 k4, .int .i64 k5], .slice (some ⟨w7.heap.size, 0, none⟩) ([(⟨(k6 : Int), .mk (-1) k7 []⟩ : Bn)]).length 1]) (by simp [results, Try.results37, go_sem, r0, r1, r2]) rfl HFIN.out
  · have hcI : (cs.length : Int) ≤ 0 := by omega
    have HG := HGZ
    have HZ : Hid (wz.heap[w.heap.size]? = some (.cells #[.int .i64 0, .int .i64 0, .int .i64 0] 63 (0, 0))) := HFZ.out.block HZb.out (by omega)
    have HF : Hid (Fr (fun b => b = rb) w wz) := HFb.out.trans HFZ.out
    have HRU : Hid (RBs 1 wz wz.heap.size (some ⟨w7.heap.size, 0, none⟩) [⟨(k6 : Int), .mk (-1) k7 []⟩]) := one_bind HBD.out
    have hw7g := HG7.out
    have hw7z : w7.heap[w.heap.size]? = some (.cells #[.int .i64 0, .int .i64 0, .int .i64 0] 63 (0, 0)) := HF7.out.block HZb.out (by omega)
    have d0 := (cell_of_blk hw7g 0).trans rfl
    have d1 := (cell_of_blk hw7g 1).trans rfl
    have d2 := (cell_of_blk hw7g 2).trans rfl
    have y0 := (cell_of_blk hw7z 0).trans rfl
    have y1 := (cell_of_blk hw7z 1).trans rfl
    have y2 := (cell_of_blk hw7z 2).trans rfl
    have y3 := free_of_blk hw7z 0
    have y4 := free_of_blk hw7z 1
    have y5 := free_of_blk hw7z 2
    have hl5 : w5.heap.size < w7.heap.size := heap_lt hw7g
    have hl0 : w.heap.size < w7.heap.size := heap_lt hw7z
    have hf : (((w7.setCell ⟨w.heap.size, 0, none⟩ (.int .i64 g0)).setCell ⟨w.heap.size, 1, none⟩ (.int .i64 k4)).setCell ⟨w.heap.size, 2, none⟩ (.int .i64 k5)).heap[w.heap.size]? = some (.cells #[.int .i64 g0, .int .i64 k4, .int .i64 k5] 63 (0, 0)) := (heap_setCell_same _ _ 2 _ _ _ (heap_setCell_same _ _ 1 _ _ _ (heap_setCell_same _ _ 0 _ _ _ hw7z))).trans rfl
    have hsz3 : (((w7.setCell ⟨w.heap.size, 0, none⟩ (.int .i64 g0)).setCell ⟨w.heap.size, 1, none⟩ (.int .i64 k4)).setCell ⟨w.heap.size, 2, none⟩ (.int .i64 k5)).heap.size = w7.heap.size := by simp [World.setCell]
    have hfr : Fr (fun b => b = w.heap.size) w7 (((w7.setCell ⟨w.heap.size, 0, none⟩ (.int .i64 g0)).setCell ⟨w.heap.size, 1, none⟩ (.int .i64 k4)).setCell ⟨w.heap.size, 2, none⟩ (.int .i64 k5)) := (((Fr.refl (fun b => b = w.heap.size) _).setOf rfl).setOf rfl).setOf rfl
    have hf2 : ((((w7.setCell ⟨w.heap.size, 0, none⟩ (.int .i64 g0)).setCell ⟨w.heap.size, 1, none⟩ (.int .i64 k4)).setCell ⟨w.heap.size, 2, none⟩ (.int .i64 k5)).alloc (.cells #[.int .i64 k6, .int .i64 (-1), .int .i64 k7, .slice none 0 0] 69)).heap[w.heap.size]? = some (.cells #[.int .i64 g0, .int .i64 k4, .int .i64 k5] 63 (0, 0)) := (Below.heap_alloc _ _ _ (by omega)).trans hf
    have hbd : ((((w7.setCell ⟨w.heap.size, 0, none⟩ (.int .i64 g0)).setCell ⟨w.heap.size, 1, none⟩ (.int .i64 k4)).setCell ⟨w.heap.size, 2, none⟩ (.int .i64 k5)).alloc (.cells #[.int .i64 k6, .int .i64 (-1), .int .i64 k7, .slice none 0 0] 69)).heap[w7.heap.size]? = some (.cells #[.int .i64 k6, .int .i64 (-1), .int .i64 k7, .slice none 0 0] 69 (0, 0)) := by
      have h := heap_alloc_new (((w7.setCell ⟨w.heap.size, 0, none⟩ (.int .i64 g0)).setCell ⟨w.heap.size, 1, none⟩ (.int .i64 k4)).setCell ⟨w.heap.size, 2, none⟩ (.int .i64 k5)) (.cells #[.int .i64 k6, .int .i64 (-1), .int .i64 k7, .slice none 0 0] 69)
      rw [hsz3] at h
      exact h
    have HFIN : Hid (GotGB w (.returned (.tuple #[.agg #[.int .i64 g0, .int .i64 k4, .int .i64 k5], .slice (some ⟨w7.heap.size, 0, none⟩) ([(⟨(k6 : Int), .mk (-1) k7 []⟩ : Bn)]).length 1])) ((((w7.setCell ⟨w.heap.size, 0, none⟩ (.int .i64 g0)).setCell ⟨w.heap.size, 1, none⟩ (.int .i64 k4)).setCell ⟨w.heap.size, 2, none⟩ (.int .i64 k5)).alloc (.cells #[.int .i64 k6, .int .i64 (-1), .int .i64 k7, .slice none 0 0] 69))) := by
      refine ⟨g0, k4, k5, _, 1, _, _, rfl, one_bind hbd, ?_⟩
      have h1 : Fr (fun b => b = rb) w w7 := HFb.out.trans HF7.out
      have h2 : Fr (fun b => b = rb) w (((w7.setCell ⟨w.heap.size, 0, none⟩ (.int .i64 g0)).setCell ⟨w.heap.size, 1, none⟩ (.int .i64 k4)).setCell ⟨w.heap.size, 2, none⟩ (.int .i64 k5)) := h1.andThen hfr (fun x hx hq => by have hq' : x = w.heap.size := hq; omega)
      exact (h2.trans (Fr.below ((Below.refl _ _).alloc (Nat.le_refl _) _))).to (Nat.le_refl _) (fun b hb hc => by have hc' : b = rb := hc; omega)
    have r0 := (cell_of_blk hf2 0).trans rfl
    have r1 := (cell_of_blk hf2 1).trans rfl
    have r2 := (cell_of_blk hf2 2).trans rfl
    obtain ⟨wf, hwf⟩ : ∃ wf, ((((w7.setCell ⟨w.heap.size, 0, none⟩ (.int .i64 g0)).setCell ⟨w.heap.size, 1, none⟩ (.int .i64 k4)).setCell ⟨w.heap.size, 2, none⟩ (.int .i64 k5)).alloc (.cells #[.int .i64 k6, .int .i64 (-1), .int .i64 k7, .slice none 0 0] 69)) = wf := ⟨_, rfl⟩
    rw [hwf] at HFIN r0 r1 r2
    have HWF := Lib.hid hwf
    clear hf hsz3 hfr hf2 hbd hwf hw7g hw7z
    go_wp2_with fail
    rw [HWF.out]
    exact bodyPost_ret (v := .tuple #[.agg #[.int .i64 g0, .int .i64 k4, .int .i64 k5], .slice (some ⟨w7.heap.size, 0, none⟩) ([(⟨(k6 : Int), .mk (-1) k7 []⟩ : Bn)]).length 1]) (by simp [results, Try.results37, go_sem, r0, r1, r2]) rfl HFIN.out
end Go.Proofs.Yteoopmogklpnoaa
