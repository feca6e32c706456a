/-
  A list of clauses is drawn: the document's function. No statement is proved here.
-/
import Derived.Test.YteoopmogklpnoaaT37
import Derived.Test.YteoopmogklpnoaaT34
namespace Go.Proofs.Yteoopmogklpnoaa
open Go.RowKit Go.Sort Go.Deep
set_option maxRecDepth 100000
set_option linter.unusedVariables false
def GoodC (l : List Da) (t : Ty) (cs : List Cn) : Prop := cs.length ≤ 5 ∧ ∀ x ∈ cs, (isP l t x.pat = true ∨ x.pat = .mk 1 0 0 0 0 []) ∧ wP x.pat ≤ 400
theorem GoodC.snoc {l : List Da} {t : Ty} {cs : List Cn} {x : Cn} (h : GoodC l t cs) (hl : cs.length + 1 ≤ 5) (hx : (isP l t x.pat = true ∨ x.pat = .mk 1 0 0 0 0 []) ∧ wP x.pat ≤ 400) : GoodC l t (cs ++ [x]) := by
  refine ⟨by simp; omega, fun y hy => ?_⟩
  rw [List.mem_append] at hy
  rcases hy with hy | hy
  · exact h.2 y hy
  · rw [List.mem_singleton] at hy; rw [hy]; exact hx
/-- A list of clauses in blocks of its own. -/
def LiQ (l : List Da) (t : Ty) (B rb N : Nat) (w : World) (e : Ending) (w' : World) : Prop := ∃ (cs : List Cn) (A : Option Addr) (c : Nat), e = .returned (.slice A cs.length c) ∧ GoodC l t cs ∧ OCs 8 w' (Nw w w') A cs ∧ RRd w' B rb (N + 10001) ∧ Fr (fun b => b = rb) w w'
theorem num_list6 (j : Nat) (h : j < ([3, 2, 4, 5, 1, 0] : List Int).length) : ∃ m : Nat, ([3, 2, 4, 5, 1, 0] : List Int)[j] = (m : Int) ∧ m ≤ 5 := by
  have h6 : j < 6 := h
  match j, h6 with
  | 0, _ => exact ⟨3, rfl, by omega⟩
  | 1, _ => exact ⟨2, rfl, by omega⟩
  | 2, _ => exact ⟨4, rfl, by omega⟩
  | 3, _ => exact ⟨5, rfl, by omega⟩
  | 4, _ => exact ⟨1, rfl, by omega⟩
  | 5, _ => exact ⟨0, rfl, by omega⟩
/-- The list while it is made. -/
def LiV (l : List Da) (t : Ty) (B rb N : Nat) (w : World) (m : Nat) (v : Value) (wr : World) : Prop := ∃ (cs : List Cn) (xs : List Value) (Q : Nat → Nat → Prop), m + cs.length ≤ 5 ∧ GoodC l t cs ∧ wr.ownsRow (w.heap.size + 1) 128 9 v cs.length xs ∧ RowK 8 wr v.ownBlock (fun b => w.heap.size < b) Q cs xs ∧ RRd wr B rb (N + 1 + 2000 * cs.length) ∧ Fr (fun b => b = rb) w wr ∧ Bx wr w.heap.size t
set_option maxHeartbeats 16000000 in
theorem li_any (l : List Da) (hw : WorldOK l) (A : Option Addr) (cap : Nat) (t : Ty) (lo B rb N : Nat) (w : World) (hrob : RobW w lo A l) (hlo : rb < lo) (ht : TyOK l t) (hR : RRd w B rb N) (hN : N ≤ 50000) :
    Calls Try.prog 111 #[.pointer (some ⟨rb, 0, none⟩), .slice A l.length cap, .agg #[.int .i64 t.data, .int .i64 t.index]] w (LiQ l t B rb N w) := by
  have hBr : B ≤ rb := by obtain ⟨_, _, _, _, _, _, _, h, _⟩ := hR; exact h
  have hrl := hR.lt
  obtain ⟨i0, hi0, hz0, hz1, hz2⟩ := info_parts infoCn
  generalize hwx : ((w.alloc (.cells #[.int .i64 t.data, .int .i64 t.index] 25)).alloc (.cells #[] 128)).alloc (.cells #[.int .i64 3, .int .i64 2, .int .i64 4, .int .i64 5, .int .i64 1, .int .i64 0] 3) = wx
  have hbx : Below w.heap.size w wx := by rw [← hwx]; exact (((Below.refl _ _).alloc (Nat.le_refl _) _).alloc (by simp) _).alloc (by simp <;> omega) _
  have hsx : wx.heap.size = w.heap.size + 3 := by rw [← hwx]; simp
  have HXT : Hid (Bx wx w.heap.size t) := by rw [← hwx]; exact ⟨by simp [go_sem], by simp [go_sem]⟩
  have HOW : Hid (wx.ownsRow (w.heap.size + 1) 128 9 (.slice (some ⟨w.heap.size + 1, 0, none⟩) 0 0) 0 []) := by
    rw [← hwx]
    have h := World.ownsRow_lit (w.alloc (.cells #[.int .i64 t.data, .int .i64 t.index] 25)) (e := 128) (size := 9) (base := w.heap.size + 1) #[] 0 (by simp) (by unfold maxLen; omega) rfl
    have h2 := h.alloc (.cells #[.int .i64 3, .int .i64 2, .int .i64 4, .int .i64 5, .int .i64 1, .int .i64 0] 3)
    unfold Hid
    simpa using h2
  have HIN : Hid (RInts wx (some ⟨w.heap.size + 2, 0, none⟩) [3, 2, 4, 5, 1, 0]) := by
    have h := RInts.lit ((w.alloc (.cells #[.int .i64 t.data, .int .i64 t.index] 25)).alloc (.cells #[] 128)) #[.int .i64 3, .int .i64 2, .int .i64 4, .int .i64 5, .int .i64 1, .int .i64 0] [3, 2, 4, 5, 1, 0] rfl (by decide)
    rw [hwx] at h
    have e : ((w.alloc (.cells #[.int .i64 t.data, .int .i64 t.index] 25)).alloc (.cells #[] 128)).heap.size = w.heap.size + 2 := by simp
    rw [e] at h
    exact h
  have HRBx : Hid (RobW wx lo A l) := hrob.at_ (Stays.below hbx)
  have HBX := Lib.hid hbx
  have HWX := Lib.hid hwx
  have HW := Lib.hid hw
  have HT := Lib.hid ht
  have HRx := Lib.hid (hR.below hbx)
  have HRB := Lib.hid hrob
  clear hwx hbx hrob hw ht hR
  go_enter Try.func111, Try.ntmps111
  go_wp2_with fail
  try rw [HWX.out]
  have HNU := Lib.hid (num_n rb B N 6 [3, 2, 4, 5, 1, 0] rfl (some ⟨w.heap.size + 2, 0, none⟩) 6 wx HRx.out (by omega) (by decide) HIN.out (fun b o e => by injection e with e; injection e with e; omega))
  refine (HNU.out).mono ?_
  rintro e w1 ⟨j, hj, rfl, hR1, hg1⟩
  obtain ⟨m, hm, hm5⟩ := num_list6 j hj
  rw [hm]
  have hf1 : Fr (fun b => b = rb) wx w1 := Fr.grown hg1 (fun b e => by injection e)
  have hs1 := hf1.size
  have HLI : Hid (LiV l t B rb N w m (.slice (some ⟨w.heap.size + 1, 0, none⟩) 0 0) w1) := by
    refine ⟨[], [], fun _ _ => False, by simpa using hm5, ⟨by simp, fun x h => by simp at h⟩, own_at HOW.out (fun b e => hf1.2.2.2.2 b ?_ ?_), RowK.nil _ _ _ _ _ _, hR1.more (by omega), (Fr.below HBX.out).trans hf1, ?_⟩
    · have := (HOW.out.lt b e).2; exact this
    · have := (HOW.out.lt b e).1; intro h; omega
    · have e : w1.heap[w.heap.size]? = wx.heap[w.heap.size]? := hf1.2.2.2.2 _ (by omega) (by omega)
      exact ⟨(World.cell?_of_block (a := ⟨w.heap.size, 0, none⟩) e).trans HXT.out.1, (World.cell?_of_block (a := ⟨w.heap.size, 1, none⟩) e).trans HXT.out.2⟩
  clear hm hR1 hg1 hf1 HOW HIN HXT HRx HNU hsx hs1
  go_wp2_with fail
  go_loopw [7, 8] (fun v i wr => ∃ m : Nat, i = .int .i64 m ∧ m ≤ 5 ∧ Hid (LiV l t B rb N w m v wr)) (fun _ i _ => (intOf i).toNat)
  case atStart => exact ⟨m, rfl, hm5, HLI⟩
  case round =>
    obtain ⟨m, rfl, hm5, HL⟩ := hrel
    obtain ⟨cs, xs, Q, hmc, hgc, hown, hrow, hR, hf, hx⟩ := HL.out
    have HGC := Lib.hid hgc
    have HOW := Lib.hid hown
    have HROW := Lib.hid hrow
    have HRR := Lib.hid hR
    have HF := Lib.hid hf
    have hsr := hf.size
    by_cases hm0 : 0 < m
    · have hmI : (0 : Int) < (m : Int) := by omega
      obtain ⟨x0, x1⟩ := hx
      have HBX2 : Hid (Bx wr w.heap.size t) := ⟨x0, x1⟩
      clear hgc hown hrow hR hf
      go_wp2_with fail
      with_reducible refine (cl_any l HW.out A cap t lo B rb (N + 1 + 2000 * cs.length) wr (HRB.out.at_ (Stays.fr HF.out hlo)) hlo HT.out HRR.out (by omega)).mono ?_
      rintro e w5 ⟨p, g0, g1, g2, D, c, rfl, hp, hwp, hop, hR5, hf5⟩
      have hs5 := hf5.size
      have HF5 := Lib.hid hf5
      have HOP := Lib.hid hop
      have HR5 := Lib.hid hR5
      have HPP := Lib.hid (And.intro hp hwp)
      have HOG : Hid (∀ g, u7.ownBlock = some g → w.heap.size + 1 ≤ g ∧ g < wr.heap.size) := fun g e => HOW.out.lt g e
      have HO5 : Hid (w5.ownsRow (w.heap.size + 1) 128 9 u7 cs.length xs) := own_at HOW.out (fun b e => hf5.2.2.2.2 b (HOG.out b e).2 (by have := (HOG.out b e).1; omega))
      have hlw : w.heap.size < wr.heap.size := Go.block_lt_of_cell HBX2.out.1
      have HC1 := Lib.hid (cell_nine_new w5 (.int .i64 p.op) (.int .i64 p.ctor) (.int .i64 p.n) (.int .i64 p.m) (.int .i64 p.var) (.slice D p.kids.length c) (.int .i64 g0) (.int .i64 g1) (.int .i64 g2) 128)
      have HC2 : Hid (∀ q ∈ [Value.int .i64 p.op, .int .i64 p.ctor, .int .i64 p.n, .int .i64 p.m, .int .i64 p.var, .slice D p.kids.length c, .int .i64 g0, .int .i64 g1, .int .i64 g2], q.oneCell' = true) := by intro q hq; simp at hq; rcases hq with rfl | rfl | rfl | rfl | rfl | rfl | rfl | rfl | rfl <;> rfl
      have HC3 : Hid (cs.length + 1 ≤ maxLen) := by unfold Hid maxLen; omega
      have HC4 : Hid ((cs.length + 1) * 88 ≤ 140737488355328) := by unfold Hid; omega
      have HC5 : Hid (w.heap.size + 1 ≤ (w5.alloc (.cells #[.int .i64 p.op, .int .i64 p.ctor, .int .i64 p.n, .int .i64 p.m, .int .i64 p.var, .slice D p.kids.length c, .int .i64 g0, .int .i64 g1, .int .i64 g2] 128)).heap.size) := by unfold Hid; rw [World.size_alloc]; omega
      clear hp hwp hop hR5 hf5 x0 x1
      obtain ⟨m', rfl⟩ : ∃ m', m = m' + 1 := ⟨m - 1, by omega⟩
      go_wp2_with (at_builtin; refine wpList_append_own_at _ rfl _ _ 121 rfl (w.heap.size + 1) 128 i0 _ 9 88 Try.underlying121 hi0 hz0 hz1 hz2 rfl (by decide) u7 _ xs rfl (HO5.out.alloc _) ⟨w5.heap.size, 0, none⟩ 1 1 [.int .i64 p.op, .int .i64 p.ctor, .int .i64 p.n, .int .i64 p.m, .int .i64 p.var, .slice D p.kids.length c, .int .i64 g0, .int .i64 g1, .int .i64 g2] rfl rfl HC1.out HC2.out HC3.out HC4.out HC5.out ?_)
      intro v' w6 hown' hgr' hnn' hat'
      have hf6 : Fr (fun b => some b = u7.ownBlock) w5 w6 := (Fr.below ((Below.refl _ w5).alloc (Nat.le_refl _) _)).trans (Fr.grown hgr' (fun b e => e))
      have hs6 := hgr'.size
      rw [World.size_alloc] at hs6
      have hs5' := HF5.out.size
      have HL6 : Hid (LiV l t B rb N w m' v' w6) := by
        have h1 := HROW.out.fr (w' := w6) (og' := v'.ownBlock) (P' := fun b => b = rb ∨ some b = u7.ownBlock) ((HF5.out.wide (fun b h => .inl h)).trans (hf6.wide (fun b h => .inr h))) (fun b hz hne hlt => ⟨fun h => by
          have hz' : w.heap.size < b := hz
          rcases h with h | h
          · omega
          · exact hne h, fun e => by
          rcases hat' with h | h
          · rw [h] at e; exact hne e
          · rw [h] at e; injection e with e; omega⟩)
        have ho : OPs 8 w6 (Nw wr w5) D p.kids := HOP.out.fr _ hf6 (fun b hb e => by have := (HOG.out b e.symm).2; have := hb.1; omega)
        have h2 := RowK.snoc (K := Nw wr w5) (v := ⟨p, g0, g1, g2⟩) (A' := D) (cap := c) h1 HOW.out.1 (fun b hb => ⟨by have h := hb.1; show w.heap.size < b; omega, by have := hb.2; omega, fun e => by
          have hb1 := hb.1
          have hb2 := hb.2
          rcases hat' with h | h
          · rw [h] at e; have := (HOG.out b e.symm).2; omega
          · rw [h] at e; injection e with e; omega, fun j hj hq => by
          have hb1 := hb.1
          have := ((HROW.out j hj).1 b hq).2.1
          omega⟩) ho rfl
        have hbx : w6.heap[w.heap.size]? = wr.heap[w.heap.size]? := (hf6.2.2.2.2 _ (by omega) (fun e => by have := (HOG.out _ e.symm).1; omega)).trans (HF5.out.2.2.2.2 _ (by omega) (by omega))
        refine ⟨cs ++ [⟨p, g0, g1, g2⟩], _, _, by simp; omega, HGC.out.snoc (by omega) HPP.out, ?_, h2, ((HR5.out.fr hf6 (fun b hb => by have := (HOG.out b hb.symm).1; exact ⟨by omega, by omega⟩)).more (by simp; omega)), (HF.out.trans HF5.out).andThen hf6 (fun x hx hq => by have := (HOG.out x hq.symm).1; omega), (World.cell?_of_block (a := ⟨w.heap.size, 0, none⟩) hbx).trans HBX2.out.1, (World.cell?_of_block (a := ⟨w.heap.size, 1, none⟩) hbx).trans HBX2.out.2⟩
        rw [List.length_append]
        exact hown'
      clear hown' hgr' hnn' hat' hf6
      go_wp2_with fail
      go_roundw
      case rel => exact ⟨m', by go_num, by omega, HL6⟩
      case measure => simp [intOf] <;> omega
    · have hmI : (m : Int) ≤ 0 := by omega
      obtain ⟨A1, c1, rfl, hO⟩ := OCs.of_rowK hown hrow (by have := hgc.1; omega)
      have HFIN : Hid (LiQ l t B rb N w (.returned (.slice A1 cs.length c1)) wr) := ⟨cs, A1, c1, rfl, hgc, hO.wide (fun b hb => ⟨by rcases hb.1 with h | h <;> omega, hb.2⟩), hR.more (by have := hgc.1; omega), hf⟩
      clear hO hgc hown hrow hR hf hx
      go_wp2_with fail
      go_ret
      exact HFIN.out
end Go.Proofs.Yteoopmogklpnoaa
/-
  A world, a type, clauses and a value are drawn: the document's function. No statement is proved here.
-/
namespace Go.Proofs.Yteoopmogklpnoaa
open Go.RowKit Go.Sort Go.Deep
set_option maxRecDepth 100000
set_option linter.unusedVariables false
def Typed4 (w : World) (B rb N : Nat) (e : Ending) (w' : World) : Prop := ∃ (l : List Da) (t : Ty) (cs : List Cn) (v : Vl) (Aw A5 A : Option Addr) (cw c5 c : Nat), e = .returned (.tuple #[.slice Aw l.length cw, .agg #[.int .i64 t.data, .int .i64 t.index], .slice A5 cs.length c5, .agg #[.int .i64 v.ctor, .int .i64 v.n, .slice A v.kids.length c]]) ∧ Seven l ∧ ODas w' w.heap.size (.slice Aw l.length cw) l ∧ TyOK l t ∧ Inh l t ∧ fitV l 4 t v = true ∧ (v.kids.length ≤ c ∧ c ≤ maxLen) ∧ OVc 4 w' (Nw w w') A v.kids ∧ GoodC l t cs ∧ OCs 8 w' (Nw w w') A5 cs ∧ RRd w' B rb (N + 10046) ∧ Fr (fun b => b = rb) w w'
set_option maxHeartbeats 16000000 in
theorem l4Typed_any (rb B N : Nat) (w : World) (h : RRd w B rb N) (hN : N ≤ 40000) : Calls Try.prog 75 #[.pointer (some ⟨rb, 0, none⟩)] w (Typed4 w B rb N) := by
  have hrl := h.lt
  have hrg := h.ge
  have HNN := Lib.hid hN
  generalize hwx : (w.alloc (.cells #[.int .i64 0, .int .i64 0] 25)).alloc (.cells #[.int .i64 0, .int .i64 0, .slice none 0 0] 28) = wx
  have hbx := below_box2 hwx
  have HZX : Hid (ZTV wx w.heap.size (w.heap.size + 1)) := by unfold Hid; rw [← hwx]; exact ZTV.new w
  have HRX := Lib.hid (h.below hbx)
  have HSX : Hid (wx.heap.size = w.heap.size + 2) := by unfold Hid; rw [← hwx]; simp
  have HBX := Lib.hid hbx
  have HWX := Lib.hid hwx
  clear hwx h hbx hN
  go_enter Try.func75, Try.ntmps75
  go_wp2_with fail
  rw [HWX.out]
  refine (l2Typed_any rb B N _ HRX.out (by have := HNN.out; omega)).mono ?_
  rintro e w1 ⟨l, t, v, Aw, A, cw, c, rfl, h7, hod, htok, hinh, hfit, hcap, hov, hR1, hf1⟩
  have H7 := Lib.hid h7
  obtain ⟨hw, hl0, _⟩ := h7.ok
  have HW := Lib.hid hw
  have HTOK := Lib.hid htok
  have HINH := Lib.hid hinh
  have HFIT := Lib.hid hfit
  have HCAP := Lib.hid hcap
  have hsx := HSX.out
  have hs1 := hf1.size
  generalize hwb : (w1.alloc (.cells #[.int .i64 t.data, .int .i64 t.index] 25)).alloc (.cells #[.int .i64 v.ctor, .int .i64 v.n, .slice A v.kids.length c] 28) = wb
  have hbb := below_box2 hwb
  have HSB : Hid (wb.heap.size = w1.heap.size + 2) := by unfold Hid; rw [← hwb]; simp
  have hTb : wb.heap[w1.heap.size]? = some (.cells #[.int .i64 t.data, .int .i64 t.index] 25 (0, 0)) := by rw [← hwb]; exact (Below.heap_alloc _ _ _ (by simp)).trans (heap_alloc_new w1 _)
  have hVb : wb.heap[w1.heap.size + 1]? = some (.cells #[.int .i64 v.ctor, .int .i64 v.n, .slice A v.kids.length c] 28 (0, 0)) := by
    have h := heap_alloc_new (w1.alloc (.cells #[.int .i64 t.data, .int .i64 t.index] 25)) (.cells #[.int .i64 v.ctor, .int .i64 v.n, .slice A v.kids.length c] 28)
    rw [World.size_alloc] at h
    rw [← hwb]; exact h
  have HKS : Hid (∀ w', Fr (fun b => ¬ b = w1.heap.size ∧ ¬ b = w1.heap.size + 1) wb w' → w'.cell? ⟨w1.heap.size, 0, none⟩ = some (.int .i64 t.data) ∧ w'.cell? ⟨w1.heap.size, 1, none⟩ = some (.int .i64 t.index) ∧ w'.cell? ⟨w1.heap.size + 1, 0, none⟩ = some (.int .i64 v.ctor) ∧ w'.cell? ⟨w1.heap.size + 1, 1, none⟩ = some (.int .i64 v.n) ∧ w'.cell? ⟨w1.heap.size + 1, 2, none⟩ = some (.slice A v.kids.length c)) := fun w' h =>
    have e1 : w'.heap[w1.heap.size]? = some (.cells #[.int .i64 t.data, .int .i64 t.index] 25 (0, 0)) := h.block hTb (by omega)
    have e2 : w'.heap[w1.heap.size + 1]? = some (.cells #[.int .i64 v.ctor, .int .i64 v.n, .slice A v.kids.length c] 28 (0, 0)) := h.block hVb (by omega)
    ⟨(cell_of_blk e1 0).trans rfl, (cell_of_blk e1 1).trans rfl, (cell_of_blk e2 0).trans rfl, (cell_of_blk e2 1).trans rfl, (cell_of_blk e2 2).trans rfl⟩
  have HODb : Hid (ODas wb wx.heap.size (.slice Aw l.length cw) l) := hod.keepT ((Stays.below hbb).keepT T28)
  have HOVb : Hid (OVc 4 wb (fun b => wx.heap.size ≤ b ∧ b < w1.heap.size) A v.kids) := hov.fr _ (Fr.below (P := fun _ => False) hbb) (fun _ _ h => h)
  have HFb : Hid (Fr (fun b => b = rb) w wb) := ((Fr.below HBX.out).trans hf1).trans (Fr.below hbb)
  have HZb : Hid (ZTV wb w.heap.size (w.heap.size + 1)) := (HZX.out.fr hf1 (by omega) (by omega)).fr (P := fun _ => False) (Fr.below hbb) (fun h => h) (fun h => h)
  have HRb := Lib.hid (hR1.below hbb)
  have HROB : Hid (RobW wb wx.heap.size Aw l) := fun w' hs => by
    obtain ⟨A', c', e, hrd⟩ := HODb.out.lies (by have := hw.1; unfold maxLen; omega)
    injection e with e1 e2 e3
    subst e1
    exact hrd w' hs
  have HWB := Lib.hid hwb
  have HSM : Hid (Calls Try.prog 111 #[.pointer (some ⟨rb, 0, none⟩), .slice Aw l.length cw, .agg #[.int .i64 t.data, .int .i64 t.index]] wb.drew (LiQ l t B rb (N + 45) wb.drew)) := li_any l HW.out Aw cw t wx.heap.size B rb (N + 45) wb.drew (fun w' hs => HROB.out w' hs) (by omega) HTOK.out HRb.out.drew (by have := HNN.out; omega)
  have SA0 := HKS.out wb (Fr.refl _ _)
  have SB0 : wb.drew.cell? ⟨w1.heap.size, 0, none⟩ = some (.int .i64 t.data) ∧ wb.drew.cell? ⟨w1.heap.size, 1, none⟩ = some (.int .i64 t.index) ∧ wb.drew.cell? ⟨w1.heap.size + 1, 0, none⟩ = some (.int .i64 v.ctor) ∧ wb.drew.cell? ⟨w1.heap.size + 1, 1, none⟩ = some (.int .i64 v.n) ∧ wb.drew.cell? ⟨w1.heap.size + 1, 2, none⟩ = some (.slice A v.kids.length c) := SA0
  have hsb := HSB.out
  clear h7 hod htok hinh hfit hcap hov hR1 hf1 hw hl0 hwb hbb hTb hVb
  go_wp2_with fail
  rw [HWB.out]
  go_region_held3 (fun w' => w'.cell? ⟨w1.heap.size, 0, none⟩ = some (.int .i64 t.data) ∧ w'.cell? ⟨w1.heap.size, 1, none⟩ = some (.int .i64 t.index) ∧ w'.cell? ⟨w1.heap.size + 1, 0, none⟩ = some (.int .i64 v.ctor) ∧ w'.cell? ⟨w1.heap.size + 1, 1, none⟩ = some (.int .i64 v.n) ∧ w'.cell? ⟨w1.heap.size + 1, 2, none⟩ = some (.slice A v.kids.length c)) (first | with_reducible exact SQ | with_reducible exact SA0 | with_reducible exact SB0 | with_reducible exact SQ1 | with_reducible exact SQ2 | go_keep) (first | (go_at_call 111; (with_reducible refine (HSM.out).mono ?_); rintro e w5 ⟨cs, A5, c5, rfl, hgc, ho5, hR', hf''⟩; have hf' : Fr (fun b => b = rb) wb w5 := ⟨hf''.1, hf''.2.1, hf''.2.2.1, hf''.2.2.2.1, hf''.2.2.2.2⟩; have HF5 := Lib.hid hf'; have HGC := Lib.hid hgc; have HO5 : Hid (OCs 8 w5 (Nw wb w5) A5 cs) := ho5; have HR5 := Lib.hid hR'; have hs5 := hf'.size; have hfw : Fr (fun b => ¬ b = w1.heap.size ∧ ¬ b = w1.heap.size + 1) wb w5 := hf'.wide (fun b hb => by have hb' : b = rb := hb; omega); have SQ := HKS.out _ hfw; have hfw1 : Fr (fun b => ¬ b = w1.heap.size ∧ ¬ b = w1.heap.size + 1) wb ((w5.setCell ⟨w.heap.size, 0, none⟩ (.int .i64 t.data)).setCell ⟨w.heap.size, 1, none⟩ (.int .i64 t.index)) := (hfw.setOf (by omega)).setOf (by omega); have SQ1 := HKS.out _ hfw1; have SQ2 := HKS.out _ (show Fr (fun b => ¬ b = w1.heap.size ∧ ¬ b = w1.heap.size + 1) wb (((((w5.setCell ⟨w.heap.size, 0, none⟩ (.int .i64 t.data)).setCell ⟨w.heap.size, 1, none⟩ (.int .i64 t.index)).setCell ⟨w.heap.size + 1, 0, none⟩ (.int .i64 v.ctor)).setCell ⟨w.heap.size + 1, 1, none⟩ (.int .i64 v.n)).setCell ⟨w.heap.size + 1, 2, none⟩ (.slice A v.kids.length c)) from ((hfw1.setOf (by omega)).setOf (by omega)).setOf (by omega)); have hzt := HZb.out.fr hf' (by omega) (by omega); have HZT := Lib.hid hzt; obtain ⟨a0, a1, a2, a3, a4, a5, a6, a7, a8, a9⟩ := hzt.cells; clear hf' hf'' hgc ho5 hR' hfw hfw1 hzt))
  all_goals
    have hfs : Fr (fun b => b = w.heap.size ∨ b = w.heap.size + 1) w5 (((((w5.setCell ⟨w.heap.size, 0, none⟩ (.int .i64 t.data)).setCell ⟨w.heap.size, 1, none⟩ (.int .i64 t.index)).setCell ⟨w.heap.size + 1, 0, none⟩ (.int .i64 v.ctor)).setCell ⟨w.heap.size + 1, 1, none⟩ (.int .i64 v.n)).setCell ⟨w.heap.size + 1, 2, none⟩ (.slice A v.kids.length c)) := (((((Fr.refl (fun b => b = w.heap.size ∨ b = w.heap.size + 1) w5).setOf (.inl rfl)).setOf (.inl rfl)).setOf (.inr rfl)).setOf (.inr rfl)).setOf (.inr rfl)
    have g1 : ((w5.setCell ⟨w.heap.size, 0, none⟩ (.int .i64 t.data)).setCell ⟨w.heap.size, 1, none⟩ (.int .i64 t.index)).heap[w.heap.size]? = some (.cells #[.int .i64 t.data, .int .i64 t.index] 25 (0, 0)) := heap_setCell_same _ _ 1 _ _ _ (heap_setCell_same _ _ 0 _ _ _ HZT.out.1)
    have g3 : ((w5.setCell ⟨w.heap.size, 0, none⟩ (.int .i64 t.data)).setCell ⟨w.heap.size, 1, none⟩ (.int .i64 t.index)).heap[w.heap.size + 1]? = some (.cells #[.int .i64 0, .int .i64 0, .slice none 0 0] 28 (0, 0)) := (((Fr.refl (fun b => b = w.heap.size) w5).setOf rfl).setOf rfl : Fr (fun b => b = w.heap.size) w5 ((w5.setCell ⟨w.heap.size, 0, none⟩ (.int .i64 t.data)).setCell ⟨w.heap.size, 1, none⟩ (.int .i64 t.index))).block HZT.out.2 (by omega)
    have h1 : (((((w5.setCell ⟨w.heap.size, 0, none⟩ (.int .i64 t.data)).setCell ⟨w.heap.size, 1, none⟩ (.int .i64 t.index)).setCell ⟨w.heap.size + 1, 0, none⟩ (.int .i64 v.ctor)).setCell ⟨w.heap.size + 1, 1, none⟩ (.int .i64 v.n)).setCell ⟨w.heap.size + 1, 2, none⟩ (.slice A v.kids.length c)).heap[w.heap.size]? = some (.cells #[.int .i64 t.data, .int .i64 t.index] 25 (0, 0)) := ((((Fr.refl (fun b => b = w.heap.size + 1) ((w5.setCell ⟨w.heap.size, 0, none⟩ (.int .i64 t.data)).setCell ⟨w.heap.size, 1, none⟩ (.int .i64 t.index))).setOf rfl).setOf rfl).setOf rfl : Fr (fun b => b = w.heap.size + 1) ((w5.setCell ⟨w.heap.size, 0, none⟩ (.int .i64 t.data)).setCell ⟨w.heap.size, 1, none⟩ (.int .i64 t.index)) (((((w5.setCell ⟨w.heap.size, 0, none⟩ (.int .i64 t.data)).setCell ⟨w.heap.size, 1, none⟩ (.int .i64 t.index)).setCell ⟨w.heap.size + 1, 0, none⟩ (.int .i64 v.ctor)).setCell ⟨w.heap.size + 1, 1, none⟩ (.int .i64 v.n)).setCell ⟨w.heap.size + 1, 2, none⟩ (.slice A v.kids.length c))).block g1 (by omega)
    have h3 : (((((w5.setCell ⟨w.heap.size, 0, none⟩ (.int .i64 t.data)).setCell ⟨w.heap.size, 1, none⟩ (.int .i64 t.index)).setCell ⟨w.heap.size + 1, 0, none⟩ (.int .i64 v.ctor)).setCell ⟨w.heap.size + 1, 1, none⟩ (.int .i64 v.n)).setCell ⟨w.heap.size + 1, 2, none⟩ (.slice A v.kids.length c)).heap[w.heap.size + 1]? = some (.cells #[.int .i64 v.ctor, .int .i64 v.n, .slice A v.kids.length c] 28 (0, 0)) := (heap_setCell_same _ _ 2 _ _ _ (heap_setCell_same _ _ 1 _ _ _ (heap_setCell_same _ _ 0 _ _ _ g3))).trans rfl
    generalize (((((w5.setCell ⟨w.heap.size, 0, none⟩ (.int .i64 t.data)).setCell ⟨w.heap.size, 1, none⟩ (.int .i64 t.index)).setCell ⟨w.heap.size + 1, 0, none⟩ (.int .i64 v.ctor)).setCell ⟨w.heap.size + 1, 1, none⟩ (.int .i64 v.n)).setCell ⟨w.heap.size + 1, 2, none⟩ (.slice A v.kids.length c)) = wf at hfs h1 h3 ⊢
    have HFIN : Hid (Typed4 w B rb N (.returned (.tuple #[.slice Aw l.length cw, .agg #[.int .i64 t.data, .int .i64 t.index], .slice A5 cs.length c5, .agg #[.int .i64 v.ctor, .int .i64 v.n, .slice A v.kids.length c]])) wf) := by
      have hst : Stays wx.heap.size wb wf := (Stays.fr HF5.out (by omega)).trans ⟨hfs.size, fun b hb1 hb2 => hfs.2.2.2.2 b hb2 (by omega)⟩
      have hsf := hfs.size
      exact ⟨l, t, cs, v, Aw, A5, A, cw, c5, c, rfl, H7.out, (HODb.out.keepT (hst.keepT T28)).lower (by omega), HTOK.out, HINH.out, HFIT.out, HCAP.out, ((HOVb.out.fr _ HF5.out (fun b hb e => by have := hb.1; omega)).fr _ hfs (fun b hb e => by have := hb.1; omega)).wide _ (fun b hb => ⟨by have := hb.1; omega, by have := hb.2; omega⟩), HGC.out, (HO5.out.fr hfs (fun b hb e => by have := hb.1; omega)).wide (fun b hb => ⟨by have := hb.1; omega, by have := hb.2; omega⟩), (HR5.out.fr hfs (fun b hb => by omega)).more (by omega), (HFb.out.trans HF5.out).andThen hfs (fun x hx e => by omega)⟩
    have r0 := (cell_of_blk h1 0).trans rfl
    have r1 := (cell_of_blk h1 1).trans rfl
    have r8 := (cell_of_blk h3 0).trans rfl
    have r9 := (cell_of_blk h3 1).trans rfl
    have r10 := (cell_of_blk h3 2).trans rfl
    clear hfs g1 g3 h1 h3
    go_wp2_with fail
    exact bodyPost_ret (v := .tuple #[.slice Aw l.length cw, .agg #[.int .i64 t.data, .int .i64 t.index], .slice A5 cs.length c5, .agg #[.int .i64 v.ctor, .int .i64 v.n, .slice A v.kids.length c]]) (by simp [results, Try.results75, go_sem, r0, r1, r8, r9, r10]) rfl HFIN.out
end Go.Proofs.Yteoopmogklpnoaa
