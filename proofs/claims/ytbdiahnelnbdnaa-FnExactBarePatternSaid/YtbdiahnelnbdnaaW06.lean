/-
  Pt trees that are looked at behind the marking. No statement is proved here.
-/
import Derived.Test.YtbdiahnelnbdnaaW05
import Derived.Test.YtbdiahnelnbdnaaW04
import Derived.Test.YtbdiahnelnbdnaaW02
import Derived.Deep.RegionHeld3
import Derived.Deep.DeepCutAuto
namespace Go.Proofs.Ytbdiahnelnbdnaa
open Go.RowKit
set_option maxRecDepth 100000
set_option linter.unusedVariables false
def HdP (d : Nat) : Prop := ∀ (A : Option Addr) (l : List Pt) (cap : Nat) (k : Int) (w : World), RPs d w w.heap.size A (numPs k l) → wPs l ≤ 1048576 → 0 ≤ k → k + 5 * (wPs l : Int) ≤ 16777216 →
  Calls Try.prog 18 #[.slice A l.length cap, .int .i64 k] w fun e w' => e = .returned (.int .i64 (k + 5 * (wPs l : Nat))) ∧ w = w'
set_option maxHeartbeats 1600000 in
theorem hdP_of (d : Nat) (ih : ∀ d', d = d' + 1 → HdP d') : HdP d := by
  intro A l cap k w hr hn h0 h1
  have IH := Lib.hid ih
  have HSum := Lib.hid (wPs_sum l)
  have hlb : l.length ≤ 1048576 := by have := wPs_sum l; omega
  have Hr := Lib.hid hr
  clear hr ih
  go_enter Try.func18, Try.ntmps18
  go_wp2_with fail
  go_loopw [1, 5] (fun q i wr => ∃ j : Nat, j ≤ l.length ∧ i = .int .i64 j ∧ ∃ S : Nat, q = .int .i64 (k + S) ∧ Hid ((S : Int) = 5 * ((j + ((l.take j).map wP).sum : Nat) : Int)) ∧ w = wr) (fun _ i _ => l.length - (intOf i).toNat)
  case atStart => exact ⟨0, by omega, rfl, 0, by simp, by unfold Hid; simp, rfl⟩
  case round =>
    obtain ⟨j, hj, rfl, S, rfl, HS, rfl⟩ := hrel
    by_cases hlt : j < l.length
    · have HT := Lib.hid (sum_take_succ wP l j hlt)
      have HL := Lib.hid (sum_take_le wP l (j + 1))
      have hwk : wP l[j] = wPs l[j].kids := wP_kids l[j]
      have hSb : k + (S : Int) + 5 * (1 + (wPs l[j].kids : Int)) ≤ 16777216 ∧ wPs l[j].kids ≤ 1048576 := by
        have a1 := HT.out; have a2 := HL.out; have a3 := HSum.out; have a4 := HS.out; omega
      have HWK := Lib.hid hwk
      obtain ⟨hSb, hwb⟩ := hSb
      clear hwk
      obtain ⟨b, off, rfl, hbB, hv⟩ := Hr.out.2 j (by rw [numPs_len]; exact hlt)
      rw [numPs_at _ _ _ _ hlt, ← HS.out] at hv
      obtain ⟨d', hd, A', cp, c0, c1, c2, c3, c4, c8, hm⟩ := hv.parts
      rw [numP_kids, numPs_len] at c8
      rw [numP_kids] at hm
      simp only [numP_op, numP_ctor, numP_n, numP_m, numP_var] at c0 c1 c2 c3 c4
      have Hm : Hid (RPs d' w w.heap.size A' (numPs (k + (S : Int) + 1 + 1 + 1 + 1 + 1) l[j].kids)) := by unfold Hid; rw [show k + (S : Int) + 1 + 1 + 1 + 1 + 1 = k + (S : Int) + 5 by omega]; exact hm
      have IHd := Lib.hid (IH.out d' hd)
      clear hm hv hd
      go_wp2_with (go_at_call 18; refine (IHd.out A' l[j].kids cp (k + (S : Int) + 1 + 1 + 1 + 1 + 1) _ Hm.out hwb (by omega) (by omega)).mono ?_; rintro e w3 ⟨rfl, rfl⟩)
      go_roundw
      case rel => exact ⟨j + 1, by omega, by go_num, S + 5 * (1 + wPs l[j].kids), by congr 1; push_cast; omega, by unfold Hid; have a1 := HT.out; have a2 := HS.out; have a3 := HWK.out; omega, by first | rfl | trivial⟩
      case measure => simp [intOf]; omega
    · have HE : Hid ((S : Int) = 5 * (wPs l : Int)) := by unfold Hid; rw [HS.out, HSum.out, List.take_of_length_le (by omega), show j = l.length by omega]
      go_wp2_with fail
      go_ret
      exact ⟨ret_i64 (by rw [HE.out]), rfl⟩
theorem hdP_any : ∀ d, HdP d
  | 0 => hdP_of 0 (fun _ h => by omega)
  | d + 1 => hdP_of (d + 1) (fun d' h => (Nat.succ.inj h) ▸ hdP_any d)
theorem heldP_any (d : Nat) (A : Option Addr) (l : List Pt) (cap : Nat) (x0 x1 x2 x3 x4 k : Int) (w : World) (hr : RPs d w w.heap.size A (numPs k l)) (hn : wPs l ≤ 1048576) (h0 : 0 ≤ k) (h1 : k + 5 * (wPs l : Int) ≤ 16777216) :
    Calls Try.prog 10 #[.agg #[.int .i64 x0, .int .i64 x1, .int .i64 x2, .int .i64 x3, .int .i64 x4, .slice A l.length cap], .int .i64 k] w fun e w' => e = .returned (.int .i64 (k + 5 * (wPs l : Nat))) ∧ Below w.heap.size w w' := by
  have Hr := Lib.hid (hr.at_ ((Below.refl _ w).alloc (Nat.le_refl _) (.cells #[.int .i64 x0, .int .i64 x1, .int .i64 x2, .int .i64 x3, .int .i64 x4, .slice A l.length cap] 28)))
  clear hr
  go_enter Try.func10, Try.ntmps10
  go_wp2_with (go_at_call 18; refine (hdP_any _ _ _ _ _ _ Hr.out hn h0 h1).mono ?_; rintro e w1 ⟨rfl, rfl⟩)
  go_ret
  exact ⟨rfl, (Below.refl _ _).alloc (Nat.le_refl _) _⟩
end Go.Proofs.Ytbdiahnelnbdnaa
/-
  The law FnExactBarePattern walked, given a contract for the program's BarePattern. No statement is proved here.
-/
namespace Go.Proofs.Ytbdiahnelnbdnaa
open Go.RowKit Go.Sort Go.Deep
set_option maxRecDepth 100000
set_option linter.unusedVariables false
/-- The contract of the program's BarePattern. -/
def BrIP : Prop := ∀ (d : Nat) (P : Nat → Prop) (D : Option Addr) (ep : Nat) (v : Pt) (w : World), OPs d w P D v.kids → (∀ b, P b → b < w.heap.size) → wP v ≤ 1048576 →
  Calls Try.prog 7 #[.agg #[.int .i64 v.op, .int .i64 v.ctor, .int .i64 v.n, .int .i64 v.m, .int .i64 v.var, .slice D v.kids.length ep]] w (BrQP d v w)
theorem PBr.fr5 {w w' : World} {b : Nat} {p : Pt} {s : Value} {P : Nat → Prop} (h : PBr w b p s) (hf : Fr P w w') (hp : ¬ P b) : PBr w' b p s := by
  have hk := hf.2.2.2.2 b (Go.block_lt_of_cell h.1) hp
  exact ⟨(World.cell?_of_block (a := ⟨b, 0, none⟩) hk).trans h.1, (World.cell?_of_block (a := ⟨b, 1, none⟩) hk).trans h.2.1, (World.cell?_of_block (a := ⟨b, 2, none⟩) hk).trans h.2.2.1, (World.cell?_of_block (a := ⟨b, 3, none⟩) hk).trans h.2.2.2.1, (World.cell?_of_block (a := ⟨b, 4, none⟩) hk).trans h.2.2.2.2.1, (World.cell?_of_block (a := ⟨b, 5, none⟩) hk).trans h.2.2.2.2.2⟩
theorem OPs.later5 {d : Nat} {w w' : World} {P : Nat → Prop} {A : Option Addr} {l : List Pt} (h : OPs d w P A l) (hb : Below w.heap.size w w') : OPs d w' P A l := h.fr _ (Fr.below (P := fun _ => False) hb) (fun _ _ h => h)
set_option maxHeartbeats 16000000 in
theorem br_law (him : BrIP) (D : Option Addr) (ep e : Nat) (p : Pt) (w : World) (hp : RPs e w w.heap.size D p.kids) :
    Calls Try.prog 3 #[.agg #[.int .i64 p.op, .int .i64 p.ctor, .int .i64 p.n, .int .i64 p.m, .int .i64 p.var, .slice D p.kids.length ep]] w fun e' w' => e' = .returned (.bool true) ∧ Below w.heap.size w w' := by
  have HP := Lib.hid hp
  have HIM := Lib.hid him
  clear hp him
  generalize hw0 : w.alloc (.cells #[.int .i64 p.op, .int .i64 p.ctor, .int .i64 p.n, .int .i64 p.m, .int .i64 p.var, .slice D p.kids.length ep] 24) = w0
  have hb0 : Below w.heap.size w w0 := by rw [← hw0]; exact (Below.refl _ _).alloc (Nat.le_refl _) _
  have HXP : Hid (PBr w0 w.heap.size p (.slice D p.kids.length ep)) := by rw [← hw0]; exact ⟨by simp [go_sem], by simp [go_sem], by simp [go_sem], by simp [go_sem], by simp [go_sem], by simp [go_sem]⟩
  have HW := Lib.hid hw0
  clear hw0
  by_cases h1 : (wPs p.kids : Int) ≤ 1048576
  case neg =>
    have H1 := Lib.hid (left_no h1)
    go_enter Try.func3, Try.ntmps3
    go_wp2_with (go_at_call 4; (try rw [HW.out]); refine (szP_any e D p.kids ep p.op p.ctor p.n p.m p.var _ w0 (HP.out.at_ hb0) (by omega) (by omega)).mono ?_; rw [H1.out]; rintro e1 w1 ⟨rfl, hb1⟩; obtain ⟨y0, y1, y2, y3, y4, y5⟩ := HXP.out.at_ hb1; have hb1w := below_aft hb0 hb1 hb0.size)
    go_ret
    exact ⟨rfl, hb1w⟩
  have H1 := Lib.hid (left_ok h1)
  have hnp : wPs p.kids ≤ 1048576 := by omega
  have hnpw : wP p ≤ 1048576 := by rw [wP_kids]; exact hnp
  have hmm : ∀ x : Int, (x != x) = false := fun x => by simp
  have HSP : Hid (∀ (E : Option Addr) (c : Nat) (W : World), RPs e W W.heap.size E p.kids → Calls Try.prog 5 #[.agg #[.int .i64 p.op, .int .i64 p.ctor, .int .i64 p.n, .int .i64 p.m, .int .i64 p.var, .slice E p.kids.length c]] W (fun e' w' => ∃ B c, e' = .returned (.agg #[.int .i64 (bareP p).op, .int .i64 (bareP p).ctor, .int .i64 (bareP p).n, .int .i64 (bareP p).m, .int .i64 (bareP p).var, .slice B (bareP p).kids.length c]) ∧ OPs (e + 1) w' (Nw W w') B (bareP p).kids ∧ Below W.heap.size W w')) := fun E c W h => brSP_any e E c p W h hnpw
  have HII : Hid (∀ (P : Nat → Prop) (E : Option Addr) (c : Nat) (W : World), OPs (e + 1) W P E p.kids → (∀ b, P b → b < W.heap.size) → Calls Try.prog 7 #[.agg #[.int .i64 p.op, .int .i64 p.ctor, .int .i64 p.n, .int .i64 p.m, .int .i64 p.var, .slice E p.kids.length c]] W (fun e' w' => ∃ B c, e' = .returned (.agg #[.int .i64 (bareP p).op, .int .i64 (bareP p).ctor, .int .i64 (bareP p).n, .int .i64 (bareP p).m, .int .i64 (bareP p).var, .slice B (bareP p).kids.length c]) ∧ OPs (e + 2) w' (Nw W w') B (bareP p).kids ∧ Below W.heap.size W w')) := fun P E c W h h' => HIM.out (e + 1) P E c p W h h' hnpw
  have hwq : wPs (bareP p).kids ≤ 1048576 := by have h1 := bareP_w p; have h2 := wP_kids (bareP p); omega
  generalize bareP p = q at HSP HII hwq
  go_enter Try.func3, Try.ntmps3
  go_wp2_with (go_at_call 4; (try rw [HW.out]); refine (szP_any e D p.kids ep p.op p.ctor p.n p.m p.var _ w0 (HP.out.at_ hb0) (by omega) (by omega)).mono ?_; rw [H1.out]; rintro e1 w1 ⟨rfl, hb1⟩; obtain ⟨y0, y1, y2, y3, y4, y5⟩ := HXP.out.at_ hb1; have hb1w := below_aft hb0 hb1 hb0.size)
  have HKS : Hid (∀ W, Below w1.heap.size w1 W → W.cell? ⟨w.heap.size, 0, none⟩ = some (.int .i64 p.op) ∧ W.cell? ⟨w.heap.size, 1, none⟩ = some (.int .i64 p.ctor) ∧ W.cell? ⟨w.heap.size, 2, none⟩ = some (.int .i64 p.n) ∧ W.cell? ⟨w.heap.size, 3, none⟩ = some (.int .i64 p.m) ∧ W.cell? ⟨w.heap.size, 4, none⟩ = some (.int .i64 p.var) ∧ W.cell? ⟨w.heap.size, 5, none⟩ = some (.slice D p.kids.length ep)) := fun W h => by
    obtain ⟨x0, x1, x2, x3, x4, x5⟩ := HXP.out.at_ (below_aft hb1 h hb1.size)
    exact ⟨x0, x1, x2, x3, x4, x5⟩
  clear y0 y1 y2 y3 y4 y5 hb1
  refine (toPO_any e D p.kids ep p.op p.ctor p.n p.m p.var w1 (HP.out.at_ hb1w) hnp).mono ?_; rintro e2 w2 ⟨A2, rfl, ho2, hb2'⟩
  have V2 := Lib.hid (OPs.reads _ ho2)
  have B12 := Lib.hid hb2'
  have hs12 := hb2'.size
  clear ho2 hb2'
  go_wp2_with fail
  refine (HSP.out A2 _ w2 V2.out).mono ?_; rintro e3 w3 ⟨B3, c3, rfl, ho3, hb3'⟩
  have B13 := Lib.hid (below_aft B12.out hb3' hs12)
  have hs23 := hb3'.size
  obtain ⟨w3b, hw3b⟩ : ∃ w3b, w3b = w3.alloc (.cells #[.int .i64 q.op, .int .i64 q.ctor, .int .i64 q.n, .int .i64 q.m, .int .i64 q.var, .slice B3 q.kids.length c3] 28) := ⟨_, rfl⟩
  have hbw3b : Below w3.heap.size w3 w3b := by rw [hw3b]; exact (Below.refl _ _).alloc (Nat.le_refl _) _
  have Xw3b : Hid (PBr w3b w3.heap.size q (.slice B3 q.kids.length c3)) := by rw [hw3b]; exact ⟨by simp [go_sem], by simp [go_sem], by simp [go_sem], by simp [go_sem], by simp [go_sem], by simp [go_sem]⟩
  have hsw3b : w3.heap.size < w3b.heap.size := by rw [hw3b]; simp
  have HWw3b := Lib.hid hw3b
  clear hw3b
  have O3 : Hid (OPs (e + 1) w3b (Nw w2 w3) B3 q.kids) := ho3.later5 hbw3b
  have R3 : Hid (RPs e w3b w3b.heap.size B3 q.kids) := OPs.reads e O3.out
  have B13b := Lib.hid (below_aft B13.out hbw3b B13.out.size)
  have hb3w := below_aft hb1w B13b.out hb1w.size
  obtain ⟨y0, y1, y2, y3, y4, y5⟩ := HKS.out w3b B13b.out
  clear ho3 hb3' hbw3b
  go_upto_region 6 with fail
  rw [← HWw3b.out]
  go_wp2_with fail
  refine (toPO_any e D p.kids ep p.op p.ctor p.n p.m p.var w3b (HP.out.at_ hb3w) hnp).mono ?_; rintro e4 w4 ⟨A4, rfl, ho4, hb4'⟩
  have hs34 := hb4'.size
  obtain ⟨w4b, hw4b⟩ : ∃ w4b, w4b = w4.alloc (.cells #[.int .i64 p.op, .int .i64 p.ctor, .int .i64 p.n, .int .i64 p.m, .int .i64 p.var, .slice A4 p.kids.length p.kids.length] 28) := ⟨_, rfl⟩
  have hbw4b : Below w4.heap.size w4 w4b := by rw [hw4b]; exact (Below.refl _ _).alloc (Nat.le_refl _) _
  have Xw4b : Hid (PBr w4b w4.heap.size p (.slice A4 p.kids.length p.kids.length)) := by rw [hw4b]; exact ⟨by simp [go_sem], by simp [go_sem], by simp [go_sem], by simp [go_sem], by simp [go_sem], by simp [go_sem]⟩
  have hsw4b : w4.heap.size < w4b.heap.size := by rw [hw4b]; simp
  have HWw4b := Lib.hid hw4b
  clear hw4b
  have O4 : Hid (OPs (e + 1) w4b (Nw w3b w4) A4 p.kids) := ho4.later5 hbw4b
  have R4 : Hid (RPs e w4b w4b.heap.size A4 p.kids) := OPs.reads e O4.out
  have B34 := Lib.hid (below_aft hb4' hbw4b hs34)
  have B14 := Lib.hid (below_aft B13b.out B34.out B13b.out.size)
  have hb4w := below_aft hb1w B14.out hb1w.size
  obtain ⟨a0, a1, a2, a3, a4, a5⟩ := Xw4b.out
  clear ho4 hb4' hbw4b y0 y1 y2 y3 y4 y5
  go_upto_region 7 with fail
  rw [← HWw4b.out]
  go_wp2_with fail
  refine (HII.out _ A4 _ w4b O4.out (fun b h => by have := h.2; omega)).mono ?_; rintro e5 w5 ⟨B5, c5, rfl, ho5, hb5'⟩
  have hs45 := hb5'.size
  obtain ⟨w5b, hw5b⟩ : ∃ w5b, w5b = w5.alloc (.cells #[.int .i64 q.op, .int .i64 q.ctor, .int .i64 q.n, .int .i64 q.m, .int .i64 q.var, .slice B5 q.kids.length c5] 28) := ⟨_, rfl⟩
  have hbw5b : Below w5.heap.size w5 w5b := by rw [hw5b]; exact (Below.refl _ _).alloc (Nat.le_refl _) _
  have Xw5b : Hid (PBr w5b w5.heap.size q (.slice B5 q.kids.length c5)) := by rw [hw5b]; exact ⟨by simp [go_sem], by simp [go_sem], by simp [go_sem], by simp [go_sem], by simp [go_sem], by simp [go_sem]⟩
  have hsw5b : w5.heap.size < w5b.heap.size := by rw [hw5b]; simp
  have HWw5b := Lib.hid hw5b
  clear hw5b
  have O5 : Hid (OPs (e + 2) w5b (Nw w4b w5) B5 q.kids) := ho5.later5 hbw5b
  have R5 : Hid (RPs (e + 1) w5b w5b.heap.size B5 q.kids) := OPs.reads (e + 1) O5.out
  have B45 := Lib.hid (below_aft hb5' hbw5b hs45)
  have B15 := Lib.hid (below_aft B14.out B45.out B14.out.size)
  have hb5w := below_aft hb1w B15.out hb1w.size
  clear ho5 hb5' hbw5b a0 a1 a2 a3 a4 a5
  have X3 := Lib.hid (Xw3b.out.at_ (below_aft B34.out B45.out B34.out.size))
  have RQ3 : Hid (RPs (e + 1) w5b w5b.heap.size B3 q.kids) := (R3.out.at_ (below_aft B34.out B45.out B34.out.size)).more (by omega)
  have X5 := Lib.hid (Xw4b.out.at_ B45.out)
  have P5 : Hid (OPs (e + 1) w5b (Nw w3b w4) A4 p.kids) := O4.out.later5 B45.out
  obtain ⟨a0, a1, a2, a3, a4, a5⟩ := Xw5b.out
  obtain ⟨b0, b1, b2, b3, b4, b5⟩ := X3.out
  go_upto_region 8 with fail
  rw [← HWw5b.out]
  go_wp2_with fail
  refine (eqP_same (e + 1) _ _ q.kids _ _ q.op q.ctor q.n q.m q.var w5b R5.out RQ3.out).mono ?_; rintro e6 w6 ⟨rfl, hb6'⟩
  have B56 := Lib.hid hb6'
  have B16 := Lib.hid (below_aft B15.out hb6' B15.out.size)
  have hb6w := below_aft hb5w hb6' hb5w.size
  clear hb6' a0 a1 a2 a3 a4 a5 b0 b1 b2 b3 b4 b5
  have HKC : Hid (∀ W, Below w5b.heap.size w5b W → W.cell? ⟨w4.heap.size, 0, none⟩ = some (.int .i64 p.op) ∧ W.cell? ⟨w4.heap.size, 1, none⟩ = some (.int .i64 p.ctor) ∧ W.cell? ⟨w4.heap.size, 2, none⟩ = some (.int .i64 p.n) ∧ W.cell? ⟨w4.heap.size, 3, none⟩ = some (.int .i64 p.m) ∧ W.cell? ⟨w4.heap.size, 4, none⟩ = some (.int .i64 p.var) ∧ W.cell? ⟨w4.heap.size, 5, none⟩ = some (.slice A4 p.kids.length p.kids.length) ∧ W.cell? ⟨w.heap.size, 0, none⟩ = some (.int .i64 p.op) ∧ W.cell? ⟨w.heap.size, 1, none⟩ = some (.int .i64 p.ctor) ∧ W.cell? ⟨w.heap.size, 2, none⟩ = some (.int .i64 p.n) ∧ W.cell? ⟨w.heap.size, 3, none⟩ = some (.int .i64 p.m) ∧ W.cell? ⟨w.heap.size, 4, none⟩ = some (.int .i64 p.var) ∧ W.cell? ⟨w.heap.size, 5, none⟩ = some (.slice D p.kids.length ep)) := fun W h => by
    obtain ⟨x0, x1, x2, x3, x4, x5⟩ := HKS.out W (below_aft B15.out h B15.out.size)
    obtain ⟨c0, c1, c2, c3, c4, c5⟩ := X5.out.at_ h
    exact ⟨c0, c1, c2, c3, c4, c5, x0, x1, x2, x3, x4, x5⟩
  have SQ := HKC.out w6.drew B56.out.drew
  go_wp2_with fail
  go_region_held3 (fun w' => w'.cell? ⟨w4.heap.size, 0, none⟩ = some (.int .i64 p.op) ∧ w'.cell? ⟨w4.heap.size, 1, none⟩ = some (.int .i64 p.ctor) ∧ w'.cell? ⟨w4.heap.size, 2, none⟩ = some (.int .i64 p.n) ∧ w'.cell? ⟨w4.heap.size, 3, none⟩ = some (.int .i64 p.m) ∧ w'.cell? ⟨w4.heap.size, 4, none⟩ = some (.int .i64 p.var) ∧ w'.cell? ⟨w4.heap.size, 5, none⟩ = some (.slice A4 p.kids.length p.kids.length) ∧ w'.cell? ⟨w.heap.size, 0, none⟩ = some (.int .i64 p.op) ∧ w'.cell? ⟨w.heap.size, 1, none⟩ = some (.int .i64 p.ctor) ∧ w'.cell? ⟨w.heap.size, 2, none⟩ = some (.int .i64 p.n) ∧ w'.cell? ⟨w.heap.size, 3, none⟩ = some (.int .i64 p.m) ∧ w'.cell? ⟨w.heap.size, 4, none⟩ = some (.int .i64 p.var) ∧ w'.cell? ⟨w.heap.size, 5, none⟩ = some (.slice D p.kids.length ep)) (with_reducible exact SQ) (first
    | (go_at_call 6; (with_reducible refine (toPO_any e D p.kids ep p.op p.ctor p.n p.m p.var w6.drew (HP.out.at_ hb6w.drew) hnp).mono ?_); rintro e7 w7 ⟨A7, rfl, ho7, hb'⟩; have hb7' : Below w6.heap.size w6 w7 := ⟨hb'.os, hb'.tape, hb'.output, hb'.size, hb'.block⟩; have hbq := below_aft B56.out hb7' B56.out.size; have SQ := HKC.out _ hbq; have V7 := Lib.hid (OPs.reads _ ho7); clear ho7 hb')
    | (go_at_call 8; (with_reducible refine (eqP_same e _ _ p.kids _ _ p.op p.ctor p.n p.m p.var w7 (OPs.reads e (P5.out.later5 hbq)) V7.out).mono ?_); rintro e8 w8 ⟨rfl, hb'⟩; have hb8' := below_aft hb7' hb' hb7'.size; have hbq := below_aft hbq hb' hbq.size; have SQ := HKC.out _ hbq; clear hb'))
  have hb8w := below_aft hb6w hb8' hb6w.size
  have B58 := Lib.hid hbq
  have P8 : Hid (OPs (e + 1) w8 (Nw w3b w4) A4 p.kids) := P5.out.later5 hbq
  have Q8 : Hid (OPs (e + 2) w8 (Nw w4b w5) B5 q.kids) := O5.out.later5 hbq
  have X8 := Lib.hid (X5.out.at_ hbq)
  have G8 := Lib.hid (Xw5b.out.at_ hbq)
  have W8 := Lib.hid (X3.out.at_ hbq)
  have RW8 := Lib.hid (RQ3.out.at_ hbq)
  have hs58 := hbq.size
  clear SQ hbq hb8' hb7' V7
  obtain ⟨a0, a1, a2, a3, a4, a5⟩ := X8.out
  go_wp2_with fail
  refine (markP_any (e + 1) (Nw w3b w4) _ p.kids _ p.op p.ctor p.n p.m p.var 1 w8 P8.out (fun b h => by have := h.2; omega) hnp (by omega) (by omega)).mono ?_; rintro e9 w9 ⟨rfl, _, hf9⟩
  have hs89 := hf9.size
  have hb9w : Below w.heap.size w w9 := hb8w.trans (hf9.to hb8w.size (fun b h h2 => by have := h2.1; have := hb3w.size; omega))
  have B39 : Hid (Below w3b.heap.size w3b w9) := (B34.out.trans (B45.out.mono B34.out.size)).trans ((B58.out.mono (Nat.le_trans B34.out.size B45.out.size)).trans (hf9.to (by have := B34.out.size; have := B45.out.size; omega) (fun b h h2 => by have := h2.1; omega)))
  have Q9 : Hid (OPs (e + 2) w9 (Nw w4b w5) B5 q.kids) := Q8.out.fr _ hf9 (fun b h1 h2 => by have := h1.1; have := h2.2; omega)
  have G9 := Lib.hid (G8.out.fr5 hf9 (fun h2 => by have := h2.2; omega))
  have W9 := Lib.hid (Xw3b.out.at_ B39.out)
  have R9 : Hid (RPs (e + 1) w9 w9.heap.size B3 q.kids) := (R3.out.at_ B39.out).more (by omega)
  have hkd : decide (1 + 5 * (wPs p.kids : Int) < 0) = false := decide_eq_false (by omega)
  clear hf9 a0 a1 a2 a3 a4 a5
  obtain ⟨a0, a1, a2, a3, a4, a5⟩ := G9.out
  obtain ⟨b0, b1, b2, b3, b4, b5⟩ := W9.out
  go_wp2_with fail
  refine (eqP_same (e + 1) _ _ q.kids _ _ q.op q.ctor q.n q.m q.var w9 (OPs.reads (e + 1) Q9.out) R9.out).mono ?_; rintro e10 w10 ⟨rfl, hb10'⟩
  have hb10w := below_aft hb9w hb10' hb9w.size
  have B310 := Lib.hid (below_aft B39.out hb10' B39.out.size)
  have Q10 : Hid (OPs (e + 2) w10 (Nw w4b w5) B5 q.kids) := Q9.out.later5 hb10'
  have G10 := Lib.hid (G9.out.at_ hb10')
  have hs910 := hb10'.size
  clear hb10' a0 a1 a2 a3 a4 a5 b0 b1 b2 b3 b4 b5
  obtain ⟨a0, a1, a2, a3, a4, a5⟩ := G10.out
  go_wp2_with fail
  refine (markP_any (e + 2) (Nw w4b w5) _ q.kids _ q.op q.ctor q.n q.m q.var 1 w10 Q10.out (fun b h => by have := h.2; omega) hwq (by omega) (by omega)).mono ?_; rintro e11 w11 ⟨rfl, ho11, hf11⟩
  have hb11w : Below w.heap.size w w11 := hb10w.trans (hf11.to hb10w.size (fun b h h2 => by have := h2.1; have := hb4w.size; omega))
  have hs34b := B34.out.size
  have B311 : Hid (Below w3b.heap.size w3b w11) := B310.out.trans (hf11.to B310.out.size (fun b h h2 => by have := h2.1; omega))
  have G11 := Lib.hid (G10.out.fr5 hf11 (fun h2 => by have := h2.2; omega))
  have Q11 := Lib.hid ho11
  clear hf11 ho11 a0 a1 a2 a3 a4 a5
  obtain ⟨a0, a1, a2, a3, a4, a5⟩ := G11.out
  go_wp2_with fail
  refine (heldP_any (e + 1) _ q.kids _ q.op q.ctor q.n q.m q.var 1 w11 (OPs.reads _ Q11.out) hwq (by omega) (by omega)).mono ?_; rintro e12 w12 ⟨rfl, hb12'⟩
  have hb12w := below_aft hb11w hb12' hb11w.size
  have B312 := Lib.hid (below_aft B311.out hb12' B311.out.size)
  have G12 := Lib.hid (G11.out.at_ hb12')
  have Q12 : Hid (OPs (e + 2) w12 (Nw w4b w5) B5 (numPs 1 q.kids)) := Q11.out.later5 hb12'
  have hqd : decide (1 + 5 * (wPs q.kids : Int) < 0) = false := decide_eq_false (by omega)
  have hqm := hmm (1 + 5 * (wPs q.kids : Int))
  clear hb12' a0 a1 a2 a3 a4 a5
  have B112 := Lib.hid (below_aft B13b.out B312.out B13b.out.size)
  obtain ⟨y0, y1, y2, y3, y4, y5⟩ := HKS.out w12 B112.out
  go_wp2_with fail
  refine (toPO_any e D p.kids ep p.op p.ctor p.n p.m p.var w12 (HP.out.at_ hb12w) hnp).mono ?_; rintro e13 w13 ⟨A13, rfl, ho13, hb13'⟩
  have hs1213 := hb13'.size
  have O13 := Lib.hid ho13
  have B1213 := Lib.hid hb13'
  clear ho13 hb13' y0 y1 y2 y3 y4 y5
  go_wp2_with fail
  refine (HII.out _ A13 _ w13 O13.out (fun b h => by have := h.2; omega)).mono ?_; rintro e14 w14 ⟨B14', c14, rfl, ho14, hb14'⟩
  have hs1314 := hb14'.size
  obtain ⟨w14b, hw14b⟩ : ∃ w14b, w14b = w14.alloc (.cells #[.int .i64 q.op, .int .i64 q.ctor, .int .i64 q.n, .int .i64 q.m, .int .i64 q.var, .slice B14' q.kids.length c14] 28) := ⟨_, rfl⟩
  have hbw14b : Below w14.heap.size w14 w14b := by rw [hw14b]; exact (Below.refl _ _).alloc (Nat.le_refl _) _
  have Xw14b : Hid (PBr w14b w14.heap.size q (.slice B14' q.kids.length c14)) := by rw [hw14b]; exact ⟨by simp [go_sem], by simp [go_sem], by simp [go_sem], by simp [go_sem], by simp [go_sem], by simp [go_sem]⟩
  have hsw14b : w14.heap.size < w14b.heap.size := by rw [hw14b]; simp
  have HWw14b := Lib.hid hw14b
  clear hw14b
  have O14 : Hid (OPs (e + 2) w14b (Nw w13 w14) B14' q.kids) := ho14.later5 hbw14b
  have B1214 := Lib.hid (below_aft (below_aft B1213.out hb14' hs1213) hbw14b (Nat.le_trans hs1213 hs1314))
  have hb14w := below_aft hb12w B1214.out hb12w.size
  have B314 := Lib.hid (below_aft B312.out B1214.out B312.out.size)
  have W14 := Lib.hid (Xw3b.out.at_ B314.out)
  have R14 : Hid (RPs (e + 1) w14b w14b.heap.size B3 q.kids) := (R3.out.at_ B314.out).more (by omega)
  have G14 := Lib.hid (G12.out.at_ B1214.out)
  have Q14 : Hid (OPs (e + 2) w14b (Nw w4b w5) B5 (numPs 1 q.kids)) := Q12.out.later5 B1214.out
  clear ho14 hb14' hbw14b
  obtain ⟨a0, a1, a2, a3, a4, a5⟩ := Xw14b.out
  obtain ⟨b0, b1, b2, b3, b4, b5⟩ := W14.out
  go_upto_region 25 with fail
  rw [← HWw14b.out]
  go_wp2_with fail
  refine (eqP_same (e + 1) _ _ q.kids _ _ q.op q.ctor q.n q.m q.var w14b (OPs.reads (e + 1) O14.out) R14.out).mono ?_; rintro e15 w15 ⟨rfl, hb15'⟩
  have hb15w := below_aft hb14w hb15' hb14w.size
  have Q15 : Hid (OPs (e + 2) w15 (Nw w4b w5) B5 (numPs 1 q.kids)) := Q14.out.later5 hb15'
  have G15 := Lib.hid (G14.out.at_ hb15')
  clear hb15' a0 a1 a2 a3 a4 a5 b0 b1 b2 b3 b4 b5
  obtain ⟨a0, a1, a2, a3, a4, a5⟩ := G15.out
  go_wp2_with fail
  refine (heldP_any (e + 1) _ q.kids _ q.op q.ctor q.n q.m q.var 1 w15 (OPs.reads _ Q15.out) hwq (by omega) (by omega)).mono ?_; rintro e16 w16 ⟨rfl, hb16'⟩
  have hb16w := below_aft hb15w hb16' hb15w.size
  go_wp2_with fail
  go_ret
  exact ⟨rfl, hb16w⟩
end Go.Proofs.Ytbdiahnelnbdnaa
