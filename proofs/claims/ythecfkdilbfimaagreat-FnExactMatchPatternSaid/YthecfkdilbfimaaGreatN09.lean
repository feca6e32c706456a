/-
  The law FnExactMatchPattern walked. No statement is proved here.
-/
import Derived.Test.YthecfkdilbfimaaGreatN07
import Derived.Test.YthecfkdilbfimaaGreatG03
import Derived.Test.YthecfkdilbfimaaGreatH05
import Derived.Test.YthecfkdilbfimaaGreatN00
import Derived.Test.YthecfkdilbfimaaGreatG04
import Derived.Test.YthecfkdilbfimaaGreatK07
import Derived.Test.YthecfkdilbfimaaGreatK06
import Derived.Test.YthecfkdilbfimaaGreatN08
import Derived.Test.YthecfkdilbfimaaGreatG08
import Derived.Deep.RegionHeld3
import Derived.Deep.DeepCutAuto
namespace Go.Proofs.YthecfkdilbfimaaGreat
open Go.RowKit Go.Sort Go.Deep
set_option maxRecDepth 100000
set_option linter.unusedVariables false

theorem sum_most {l : List Bn} {c : Nat} (h : ∀ b ∈ l, wB b ≤ c) : (l.map wB).sum ≤ l.length * c := by
  induction l with
  | nil => simp
  | cons a l ih =>
    have h1 := h a (List.mem_cons_self ..)
    have h2 := ih (fun b hb => h b (List.mem_cons_of_mem _ hb))
    rw [List.map_cons, List.sum_cons, List.length_cons, Nat.succ_mul]; omega
theorem mq_small (l : List Da) (t : Ty) (p : Pt) (v : Vl) : stB ((mqO l t p v).getD []) ((mqO l t p v).getD []).length ≤ 5000 := by
  cases h0 : pvT l t p with
  | false => rw [mqO_no1 h0]; simp [stB]
  | true =>
    cases h1 : isV l t v with
    | false => rw [mqO_no2 h1]; simp [stB]
    | true =>
      rw [mqO_yes h0 h1]
      cases hI : mtI 10 p v with
      | none =>
        rcases mt_both 10 p v with ⟨_, h2⟩ | ⟨M, L', h2, _, _⟩
        · rw [h2]; simp [stB]
        · rw [hI] at h2; cases h2
      | some L =>
        obtain ⟨L', h2, _, _, h6, hso, hw⟩ := mi_facts h0 hI
        rw [h2]
        show stB (sortB L' 6) (sortB L' 6).length ≤ 5000
        rw [← hso]
        have hl := sort_len L 6
        have h60 := (isV_parts h1).2
        have hs := sum_most (l := sortB L 6) (c := 60) (fun b hb => by have := hw b hb; unfold wB; rw [← wV_kids]; omega)
        unfold stB
        rw [List.take_length]
        have : (sortB L 6).length * 60 ≤ 36 * 60 := Nat.mul_le_mul_right _ (by omega)
        omega
theorem PBx.fr3 {w w' : World} {b : Nat} {p : Pt} {s : Value} {P : Nat → Prop} (h : PBx w b p s) (hf : Fr P w w') (hp : ¬ P b) : PBx w' b p s := h.keep (hf.2.2.2.2 b (Go.block_lt_of_cell h.1) hp)
theorem VBx.fr3 {w w' : World} {b : Nat} {c n : Int} {s : Value} {P : Nat → Prop} (h : VBx w b c n s) (hf : Fr P w w') (hp : ¬ P b) : VBx w' b c n s := by
  have hk := hf.2.2.2.2 b (Go.block_lt_of_cell h.1) hp
  exact ⟨(World.cell?_of_block (a := ⟨b, 0, none⟩) hk).trans h.1, (World.cell?_of_block (a := ⟨b, 1, none⟩) hk).trans h.2.1, (World.cell?_of_block (a := ⟨b, 2, none⟩) hk).trans h.2.2⟩
theorem OPs.later3 {d : Nat} {w w' : World} {P : Nat → Prop} {A : Option Addr} {l : List Pt} (h : OPs d w P A l) (hb : Below w.heap.size w w') : OPs d w' P A l := h.fr _ (Fr.below (P := fun _ => False) hb) (fun _ _ h => h)
theorem OVs.later3 {d : Nat} {w w' : World} {P : Nat → Prop} {A : Option Addr} {l : List Vl} (h : OVs d w P A l) (hb : Below w.heap.size w w') : OVs d w' P A l := h.fr _ (Fr.below (P := fun _ => False) hb) (fun _ _ h => h)
set_option maxHeartbeats 16000000 in
theorem mq_law (A D E : Option Addr) (l : List Da) (cap ep ev e : Nat) (t : Ty) (p : Pt) (v : Vl) (w : World) (hr : RDas w w.heap.size A l) (hp : RPs e w w.heap.size D p.kids) (hv : RVs e w w.heap.size E v.kids) :
    Calls Tryz.prog 6 #[.slice A l.length cap, .agg #[.int .i64 t.data, .int .i64 t.index], .agg #[.int .i64 p.op, .int .i64 p.ctor, .int .i64 p.n, .int .i64 p.m, .int .i64 p.var, .slice D p.kids.length ep], .agg #[.int .i64 v.ctor, .int .i64 v.n, .slice E v.kids.length ev]] w fun e' w' => e' = .returned (.bool true) ∧ Below w.heap.size w w' := by
  have Hr := Lib.hid hr
  have HP := Lib.hid hp
  have HV := Lib.hid hv
  clear hr hp hv
  generalize hw0 : ((w.alloc (.cells #[.int .i64 t.data, .int .i64 t.index] 24)).alloc (.cells #[.int .i64 p.op, .int .i64 p.ctor, .int .i64 p.n, .int .i64 p.m, .int .i64 p.var, .slice D p.kids.length ep] 40)).alloc (.cells #[.int .i64 v.ctor, .int .i64 v.n, .slice E v.kids.length ev] 60) = w0
  have hb0 : Below w.heap.size w w0 := below_box3 hw0
  have HXT : Hid (Bx w0 w.heap.size t) := by rw [← hw0]; exact ⟨by simp [go_sem], by simp [go_sem]⟩
  have HXP : Hid (PBx w0 (w.heap.size + 1) p (.slice D p.kids.length ep)) := by rw [← hw0]; exact ⟨by simp [go_sem], by simp [go_sem], by simp [go_sem], by simp [go_sem], by simp [go_sem], by simp [go_sem]⟩
  have HXV : Hid (VBx w0 (w.heap.size + 2) v.ctor v.n (.slice E v.kids.length ev)) := by rw [← hw0]; exact ⟨by simp [go_sem], by simp [go_sem], by simp [go_sem]⟩
  have HW := Lib.hid hw0
  clear hw0
  by_cases h1 : (wDas l : Int) ≤ 1048576
  case neg =>
    have H1 := Lib.hid (left_no h1)
    go_enter Tryz.func6, Tryz.ntmps6
    go_wp2_with (go_at_call 11; rw [HW.out]; refine (szDataS_any _ _ _ _ _ (Hr.out.at_ hb0) (by omega) (by omega)).mono ?_; rw [H1.out]; rintro e1 w1 ⟨rfl, hb1⟩; have hb1w := below_aft hb0 hb1 hb0.size)
    go_ret
    exact ⟨rfl, hb1w⟩
  have H1 := Lib.hid (left_ok h1)
  by_cases h2 : (wPs p.kids : Int) ≤ 1048576 - (wDas l : Int)
  case neg =>
    have H2 := Lib.hid (left_no h2)
    go_enter Tryz.func6, Tryz.ntmps6
    go_wp2_with (first | (go_at_call 11; rw [HW.out]; refine (szDataS_any _ _ _ _ _ (Hr.out.at_ hb0) (by omega) (by omega)).mono ?_; rw [H1.out]; rintro e1 w1 ⟨rfl, hb1⟩; obtain ⟨y0, y1, y2, y3, y4, y5⟩ := HXP.out.at_ hb1; have hb1w := below_aft hb0 hb1 hb0.size) | (go_at_call 20; refine (szP_any e D p.kids ep p.op p.ctor p.n p.m p.var _ _ (HP.out.at_ hb1w) (by omega) (by omega)).mono ?_; rw [H2.out]; rintro e2 w2 ⟨rfl, hb2⟩; have hb2w := below_aft hb1w hb2 hb1w.size))
    go_ret
    exact ⟨rfl, hb2w⟩
  have H2 := Lib.hid (left_ok h2)
  by_cases h3 : (wVs v.kids : Int) ≤ 1048576 - (wDas l : Int) - (wPs p.kids : Int)
  case neg =>
    have H3 := Lib.hid (left_no h3)
    go_enter Tryz.func6, Tryz.ntmps6
    go_wp2_with (first | (go_at_call 11; rw [HW.out]; refine (szDataS_any _ _ _ _ _ (Hr.out.at_ hb0) (by omega) (by omega)).mono ?_; rw [H1.out]; rintro e1 w1 ⟨rfl, hb1⟩; obtain ⟨y0, y1, y2, y3, y4, y5⟩ := HXP.out.at_ hb1; have hb1w := below_aft hb0 hb1 hb0.size) | (go_at_call 20; refine (szP_any e D p.kids ep p.op p.ctor p.n p.m p.var _ _ (HP.out.at_ hb1w) (by omega) (by omega)).mono ?_; rw [H2.out]; rintro e2 w2 ⟨rfl, hb2⟩; have hb2w := below_aft hb1w hb2 hb1w.size; have hb20 := below_aft hb1 hb2 hb1.size; obtain ⟨z0, z1, z2⟩ := HXV.out.at_ hb20) | (go_at_call 32; refine (szV_any e E v.kids ev v.ctor v.n _ _ (HV.out.at_ hb2w) (by omega) (by omega)).mono ?_; rw [H3.out]; rintro e3 w3 ⟨rfl, hb3⟩; have hb3w := below_aft hb2w hb3 hb2w.size))
    go_ret
    exact ⟨rfl, hb3w⟩
  · have H3 := Lib.hid (left_ok h3)
    have hnp : wPs p.kids ≤ 1048576 := by omega
    have hnv : wVs v.kids ≤ 1048576 := by omega
    have hnpw : wP p ≤ 1048576 := by rw [wP_kids]; exact hnp
    have hnvw : wV v ≤ 16000000 := by rw [wV_kids]; omega
    have hnd : wDas l ≤ 1048576 := by omega
    have hlens := lens_le (l := l) (N := 1048576) (by omega)
    have hmd := mD_le l
    have HLN := Lib.hid hlens
    have hmm : ∀ x : Int, (x != x) = false := fun x => by simp
    have HSP : Hid (∀ (B E1 E2 : Option Addr) (c c1 c2 : Nat) (W : World), RDas W W.heap.size B l → RPs e W W.heap.size E1 p.kids → RVs e W W.heap.size E2 v.kids → Calls Tryz.prog 33 #[.slice B l.length c, .agg #[.int .i64 t.data, .int .i64 t.index], .agg #[.int .i64 p.op, .int .i64 p.ctor, .int .i64 p.n, .int .i64 p.m, .int .i64 p.var, .slice E1 p.kids.length c1], .agg #[.int .i64 v.ctor, .int .i64 v.n, .slice E2 v.kids.length c2]] W fun e' w' => ∃ A c, e' = .returned (.tuple #[.slice A ((mqO l t p v).getD []).length c, .bool (mqO l t p v).isSome]) ∧ RBs e w' w'.heap.size A ((mqO l t p v).getD []) ∧ Below W.heap.size W w') := fun B E1 E2 c c1 c2 W h h' h'' => (mq_spec B E1 E2 l c c1 c2 e t p v W h h' h'' hnpw hnvw).mono (by rintro e1 w1 ⟨A, S, c, rfl, rfl, h, hb⟩; exact ⟨A, c, rfl, h, hb⟩)
    have HIM : Hid (∀ (B E1 E2 : Option Addr) (c c1 c2 : Nat) (W : World), RDas W W.heap.size B l → RPs e W W.heap.size E1 p.kids → RVs e W W.heap.size E2 v.kids → Calls Tryz.prog 35 #[.slice B l.length c, .agg #[.int .i64 t.data, .int .i64 t.index], .agg #[.int .i64 p.op, .int .i64 p.ctor, .int .i64 p.n, .int .i64 p.m, .int .i64 p.var, .slice E1 p.kids.length c1], .agg #[.int .i64 v.ctor, .int .i64 v.n, .slice E2 v.kids.length c2]] W fun e' w' => ∃ A c, e' = .returned (.tuple #[.slice A ((mqO l t p v).getD []).length c, .bool (mqO l t p v).isSome]) ∧ OBs (e + 1) w' (Nw W w') A ((mqO l t p v).getD []) ∧ Below W.heap.size W w') := fun B E1 E2 c c1 c2 W h h' h'' => (mi_any B E1 E2 l c c1 c2 e t p v W h h' h'' hnvw).mono (by rintro e1 w1 ⟨A, S, c, rfl, rfl, h, hb⟩; exact ⟨A, c, rfl, h, hb⟩)
    have hst := mq_small l t p v
    generalize (mqO l t p v).getD [] = S at HSP HIM hst
    generalize (mqO l t p v).isSome = bb at HSP HIM
    have hbb : (bb != bb) = false := by simp
    clear hlens
    go_enter Tryz.func6, Tryz.ntmps6
    go_wp2_with (first | (go_at_call 11; rw [HW.out]; refine (szDataS_any _ _ _ _ _ (Hr.out.at_ hb0) (by omega) (by omega)).mono ?_; rw [H1.out]; rintro e1 w1 ⟨rfl, hb1⟩; obtain ⟨y0, y1, y2, y3, y4, y5⟩ := HXP.out.at_ hb1; have hb1w := below_aft hb0 hb1 hb0.size) | (go_at_call 20; refine (szP_any e D p.kids ep p.op p.ctor p.n p.m p.var _ _ (HP.out.at_ hb1w) (by omega) (by omega)).mono ?_; rw [H2.out]; rintro e2 w2' ⟨rfl, hb2⟩; have hb2w := below_aft hb1w hb2 hb1w.size; have hb20 := below_aft hb1 hb2 hb1.size; obtain ⟨z0, z1, z2⟩ := HXV.out.at_ hb20) | (go_at_call 32; refine (szV_any e E v.kids ev v.ctor v.n _ _ (HV.out.at_ hb2w) (by omega) (by omega)).mono ?_; rw [H3.out]; rintro e3 w2 ⟨rfl, hb3⟩; have hb3w := below_aft hb2w hb3 hb2w.size; have hb30 := below_aft hb20 hb3 hb20.size))
    have HKS : Hid (∀ W, Below w2.heap.size w2 W → W.cell? ⟨w.heap.size, 0, none⟩ = some (.int .i64 t.data) ∧ W.cell? ⟨w.heap.size, 1, none⟩ = some (.int .i64 t.index) ∧ W.cell? ⟨w.heap.size + 1, 0, none⟩ = some (.int .i64 p.op) ∧ W.cell? ⟨w.heap.size + 1, 1, none⟩ = some (.int .i64 p.ctor) ∧ W.cell? ⟨w.heap.size + 1, 2, none⟩ = some (.int .i64 p.n) ∧ W.cell? ⟨w.heap.size + 1, 3, none⟩ = some (.int .i64 p.m) ∧ W.cell? ⟨w.heap.size + 1, 4, none⟩ = some (.int .i64 p.var) ∧ W.cell? ⟨w.heap.size + 1, 5, none⟩ = some (.slice D p.kids.length ep) ∧ W.cell? ⟨w.heap.size + 2, 0, none⟩ = some (.int .i64 v.ctor) ∧ W.cell? ⟨w.heap.size + 2, 1, none⟩ = some (.int .i64 v.n) ∧ W.cell? ⟨w.heap.size + 2, 2, none⟩ = some (.slice E v.kids.length ev)) := fun W h => by
      obtain ⟨a0, a1⟩ := HXT.out.at_ (below_aft hb30 h hb30.size)
      obtain ⟨c0, c1, c2, c3, c4, c5⟩ := HXP.out.at_ (below_aft hb30 h hb30.size)
      exact ⟨a0, a1, c0, c1, c2, c3, c4, c5, HXV.out.at_ (below_aft hb30 h hb30.size)⟩
    have SQ := HKS.out w2.drew (Below.refl _ w2).drew
    clear y0 y1 y2 y3 y4 y5 z0 z1 z2 hb1 hb2 hb3
    go_region_held3 (fun w' => w'.cell? ⟨w.heap.size, 0, none⟩ = some (.int .i64 t.data) ∧ w'.cell? ⟨w.heap.size, 1, none⟩ = some (.int .i64 t.index) ∧ w'.cell? ⟨w.heap.size + 1, 0, none⟩ = some (.int .i64 p.op) ∧ w'.cell? ⟨w.heap.size + 1, 1, none⟩ = some (.int .i64 p.ctor) ∧ w'.cell? ⟨w.heap.size + 1, 2, none⟩ = some (.int .i64 p.n) ∧ w'.cell? ⟨w.heap.size + 1, 3, none⟩ = some (.int .i64 p.m) ∧ w'.cell? ⟨w.heap.size + 1, 4, none⟩ = some (.int .i64 p.var) ∧ w'.cell? ⟨w.heap.size + 1, 5, none⟩ = some (.slice D p.kids.length ep) ∧ w'.cell? ⟨w.heap.size + 2, 0, none⟩ = some (.int .i64 v.ctor) ∧ w'.cell? ⟨w.heap.size + 2, 1, none⟩ = some (.int .i64 v.n) ∧ w'.cell? ⟨w.heap.size + 2, 2, none⟩ = some (.slice E v.kids.length ev)) (with_reducible exact SQ) (first
        | (go_at_call 14; (with_reducible refine (toDataS_any _ _ _ w2.drew (Hr.out.at_ hb3w.drew) (by omega)).mono ?_); rintro e3 w3 ⟨g3, rfl, hf3, hb'⟩; have hbq : Below w2.heap.size w2 w3 := ⟨hb'.os, hb'.tape, hb'.output, hb'.size, hb'.block⟩; have SQ := HKS.out _ hbq; have R3 := Lib.hid hf3.reads; clear hf3 hb')
        | (go_at_call 15; (with_reducible refine (toType_any _ _ w3).mono ?_); rintro e4 w4 ⟨rfl, hb'⟩; have hbq := below_aft hbq hb' hbq.size; have SQ := HKS.out _ hbq; have R4 := Lib.hid (R3.out.at_ hb'); clear hb')
        | (go_at_call 22; (with_reducible refine (toPO_any e D p.kids ep p.op p.ctor p.n p.m p.var w4 (HP.out.at_ (below_aft hb3w hbq hb3w.size)) hnp).mono ?_); rintro e5 w5 ⟨A5, rfl, ho5, hb'⟩; have hbq := below_aft hbq hb' hbq.size; have SQ := HKS.out _ hbq; have R5 := Lib.hid (R4.out.at_ hb'); have V5 := Lib.hid (OPs.reads _ ho5); clear ho5 hb')
        | (go_at_call 34; (with_reducible refine (toVO_any e E v.kids ev v.ctor v.n w5 (HV.out.at_ (below_aft hb3w hbq hb3w.size)) hnv).mono ?_); rintro e6 w5b ⟨A6b, rfl, ho6, hb'⟩; have hbq := below_aft hbq hb' hbq.size; have SQ := HKS.out _ hbq; have R6 := Lib.hid (R5.out.at_ hb'); have V6 := Lib.hid (V5.out.at_ hb'); have U6 := Lib.hid (OVs.reads _ ho6); clear ho6 hb')
        | (go_at_call 33; (with_reducible refine (HSP.out _ _ _ _ _ _ w5b R6.out V6.out U6.out).mono ?_); rintro e7 w6 ⟨A6, c6, rfl, hr6, hb'⟩; have hbq := below_aft hbq hb' hbq.size; have SQ := HKS.out _ hbq; have Q6 := Lib.hid hr6; clear hr6 hb'))
    have hb6w := below_aft hb3w hbq hb3w.size
    have B26 := Lib.hid hbq
    have hs26 := hbq.size
    clear SQ hbq R3 R4 R5 V5 R6 V6 U6
    go_wp2_with fail
    refine (toDataS_any _ _ _ _ (Hr.out.at_ hb6w) (by omega)).mono ?_; rintro e7 w7 ⟨g7, rfl, hf7, hb7'⟩
    have B67 := Lib.hid hb7'
    have R7 := Lib.hid hf7.reads
    have SH7 := Lib.hid hf7.shape
    have hb7w := below_aft hb6w hb7' hb6w.size
    have hs67 := hb7'.size
    have B27 := Lib.hid (below_aft B26.out hb7' hs26)
    clear hb7' hf7
    obtain ⟨_, _, y0, y1, y2, y3, y4, y5, _⟩ := HKS.out w7 B27.out
    go_wp2_with fail
    refine (toPO_any e D p.kids ep p.op p.ctor p.n p.m p.var w7 (HP.out.at_ hb7w) hnp).mono ?_; rintro e8 w8 ⟨A8, rfl, ho8, hb8'⟩
    have B78 := Lib.hid hb8'
    have hs78 := hb8'.size
    obtain ⟨wb, hwb⟩ : ∃ wb, wb = w8.alloc (.cells #[.int .i64 p.op, .int .i64 p.ctor, .int .i64 p.n, .int .i64 p.m, .int .i64 p.var, .slice A8 p.kids.length p.kids.length] 45) := ⟨_, rfl⟩
    have hb8b : Below w8.heap.size w8 wb := by rw [hwb]; exact (Below.refl _ _).alloc (Nat.le_refl _) _
    have X10 : Hid (PBx wb w8.heap.size p (.slice A8 p.kids.length p.kids.length)) := by rw [hwb]; exact ⟨by simp [go_sem], by simp [go_sem], by simp [go_sem], by simp [go_sem], by simp [go_sem], by simp [go_sem]⟩
    have O8 : Hid (OPs (e + 1) wb (Nw w7 w8) A8 p.kids) := ho8.later3 hb8b
    have hs8b : w8.heap.size < wb.heap.size := by rw [hwb]; simp
    have HWB := Lib.hid hwb
    have B7b := Lib.hid (below_aft B78.out hb8b hs78)
    have B2b := Lib.hid (below_aft B27.out B7b.out B27.out.size)
    have hbbw := below_aft hb7w B7b.out hb7w.size
    clear hwb ho8 hb8' hb8b y0 y1 y2 y3 y4 y5
    obtain ⟨_, _, _, _, _, _, _, _, z0, z1, z2⟩ := HKS.out wb B2b.out
    go_upto_region 14 with fail
    rw [← HWB.out]
    go_wp2_with fail
    refine (toVO_any e E v.kids ev v.ctor v.n wb (HV.out.at_ hbbw) hnv).mono ?_; rintro e9 w9 ⟨A9, rfl, ho9, hb9'⟩
    have Bb9 := Lib.hid hb9'
    have hsb9 := hb9'.size
    obtain ⟨wc, hwc⟩ : ∃ wc, wc = w9.alloc (.cells #[.int .i64 v.ctor, .int .i64 v.n, .slice A9 v.kids.length v.kids.length] 51) := ⟨_, rfl⟩
    have hb9c : Below w9.heap.size w9 wc := by rw [hwc]; exact (Below.refl _ _).alloc (Nat.le_refl _) _
    have X14 : Hid (VBx wc w9.heap.size v.ctor v.n (.slice A9 v.kids.length v.kids.length)) := by rw [hwc]; exact ⟨by simp [go_sem], by simp [go_sem], by simp [go_sem]⟩
    have O9 : Hid (OVs (e + 1) wc (Nw wb w9) A9 v.kids) := ho9.later3 hb9c
    have hs9c : w9.heap.size < wc.heap.size := by rw [hwc]; simp
    have HWC := Lib.hid hwc
    have Bbc := Lib.hid (below_aft Bb9.out hb9c hsb9)
    have B7c := Lib.hid (below_aft B7b.out Bbc.out B7b.out.size)
    have B6c := Lib.hid (below_aft B67.out B7c.out hs67)
    have B2c := Lib.hid (below_aft B27.out B7c.out B27.out.size)
    have hbcw := below_aft hb7w B7c.out hb7w.size
    have X13 := Lib.hid (X10.out.at_ Bbc.out)
    have P13 : Hid (OPs (e + 1) wc (Nw w7 w8) A8 p.kids) := O8.out.later3 Bbc.out
    have RD : Hid (RDas wc wc.heap.size (some ⟨g7, 0, none⟩) l) := R7.out.at_ B7c.out
    have RP : Hid (RPs e wc wc.heap.size A8 p.kids) := OPs.reads e P13.out
    have RV : Hid (RVs e wc wc.heap.size A9 v.kids) := OVs.reads e O9.out
    clear hwc ho9 hb9' hb9c z0 z1 z2
    have HKB : Hid (∀ W, Below wc.heap.size wc W → W.cell? ⟨w.heap.size, 0, none⟩ = some (.int .i64 t.data) ∧ W.cell? ⟨w.heap.size, 1, none⟩ = some (.int .i64 t.index) ∧ W.cell? ⟨w8.heap.size, 0, none⟩ = some (.int .i64 p.op) ∧ W.cell? ⟨w8.heap.size, 1, none⟩ = some (.int .i64 p.ctor) ∧ W.cell? ⟨w8.heap.size, 2, none⟩ = some (.int .i64 p.n) ∧ W.cell? ⟨w8.heap.size, 3, none⟩ = some (.int .i64 p.m) ∧ W.cell? ⟨w8.heap.size, 4, none⟩ = some (.int .i64 p.var) ∧ W.cell? ⟨w8.heap.size, 5, none⟩ = some (.slice A8 p.kids.length p.kids.length) ∧ W.cell? ⟨w9.heap.size, 0, none⟩ = some (.int .i64 v.ctor) ∧ W.cell? ⟨w9.heap.size, 1, none⟩ = some (.int .i64 v.n) ∧ W.cell? ⟨w9.heap.size, 2, none⟩ = some (.slice A9 v.kids.length v.kids.length)) := fun W h => by
      obtain ⟨a0, a1, _⟩ := HKS.out W (below_aft B2c.out h B2c.out.size)
      obtain ⟨c0, c1, c2, c3, c4, c5⟩ := X13.out.at_ h
      exact ⟨a0, a1, c0, c1, c2, c3, c4, c5, X14.out.at_ h⟩
    have SQ := HKB.out wc.drew (Below.refl _ wc).drew
    go_wp2_with fail
    rw [← HWC.out]
    go_region_held3 (fun w' => w'.cell? ⟨w.heap.size, 0, none⟩ = some (.int .i64 t.data) ∧ w'.cell? ⟨w.heap.size, 1, none⟩ = some (.int .i64 t.index) ∧ w'.cell? ⟨w8.heap.size, 0, none⟩ = some (.int .i64 p.op) ∧ w'.cell? ⟨w8.heap.size, 1, none⟩ = some (.int .i64 p.ctor) ∧ w'.cell? ⟨w8.heap.size, 2, none⟩ = some (.int .i64 p.n) ∧ w'.cell? ⟨w8.heap.size, 3, none⟩ = some (.int .i64 p.m) ∧ w'.cell? ⟨w8.heap.size, 4, none⟩ = some (.int .i64 p.var) ∧ w'.cell? ⟨w8.heap.size, 5, none⟩ = some (.slice A8 p.kids.length p.kids.length) ∧ w'.cell? ⟨w9.heap.size, 0, none⟩ = some (.int .i64 v.ctor) ∧ w'.cell? ⟨w9.heap.size, 1, none⟩ = some (.int .i64 v.n) ∧ w'.cell? ⟨w9.heap.size, 2, none⟩ = some (.slice A9 v.kids.length v.kids.length)) (with_reducible exact SQ) (first
        | (go_at_call 15; (with_reducible refine (toType_any _ _ wc.drew).mono ?_); rintro e10 w9b ⟨rfl, hb'⟩; have hbq : Below wc.heap.size wc w9b := ⟨hb'.os, hb'.tape, hb'.output, hb'.size, hb'.block⟩; have SQ := HKB.out _ hbq; have hsc9 := hbq.size; clear hb')
        | (go_at_call 35; (with_reducible refine (HIM.out _ _ _ _ _ _ w9b (RD.out.at_ hbq) (RP.out.at_ hbq) (RV.out.at_ hbq)).mono ?_); rintro e11 w10 ⟨A10, c10, rfl, ho10, hb'⟩; have hbq := below_aft hbq hb' hbq.size; have SQ := HKB.out _ hbq; have O10 := Lib.hid ho10; clear ho10 hb'))
    have hb10w := below_aft hbcw hbq hbcw.size
    have BC10 := Lib.hid hbq
    have B610 := Lib.hid (below_aft B6c.out hbq B6c.out.size)
    have hsc10 := hbq.size
    clear SQ hbq
    go_wp2_with fail
    refine (eqBs_same e _ _ S _ _ w10 (OBs.reads O10.out) (Q6.out.at_ B610.out)).mono ?_; rintro e11 w11 ⟨rfl, hb11'⟩
    have hb11w := below_aft hb10w hb11' hb10w.size
    have BC11 := Lib.hid (below_aft BC10.out hb11' hsc10)
    have B611 := Lib.hid (below_aft B610.out hb11' B610.out.size)
    have O11 : Hid (OBs (e + 1) w11 (Nw w9b w10) A10 S) := O10.out.later_ hb11'
    clear hb11'
    go_wp2_with fail
    refine (toDataS_any _ _ _ _ (Hr.out.at_ hb11w) (by omega)).mono ?_; rintro e12 w12 ⟨g12, rfl, hf12, hb12'⟩
    have hb12w := below_aft hb11w hb12' hb11w.size
    have R12 := Lib.hid hf12.reads
    have BC12 := Lib.hid (below_aft BC11.out hb12' BC11.out.size)
    have B612 := Lib.hid (below_aft B611.out hb12' B611.out.size)
    have O12 : Hid (OBs (e + 1) w12 (Nw w9b w10) A10 S) := O11.out.later_ hb12'
    clear hb12' hf12
    go_wp2_with fail
    refine (eqDataS_same _ _ _ _ _ _ (RD.out.at_ BC12.out) R12.out).mono ?_; rintro e13 w13 ⟨rfl, hb13'⟩
    have hb13w := below_aft hb12w hb13' hb12w.size
    have BC13 := Lib.hid (below_aft BC12.out hb13' BC12.out.size)
    have B613 := Lib.hid (below_aft B612.out hb13' B612.out.size)
    have O13 : Hid (OBs (e + 1) w13 (Nw w9b w10) A10 S) := O12.out.later_ hb13'
    clear hb13' R12
    have HKC : Hid (∀ W, Below wc.heap.size wc W → W.cell? ⟨w8.heap.size, 0, none⟩ = some (.int .i64 p.op) ∧ W.cell? ⟨w8.heap.size, 1, none⟩ = some (.int .i64 p.ctor) ∧ W.cell? ⟨w8.heap.size, 2, none⟩ = some (.int .i64 p.n) ∧ W.cell? ⟨w8.heap.size, 3, none⟩ = some (.int .i64 p.m) ∧ W.cell? ⟨w8.heap.size, 4, none⟩ = some (.int .i64 p.var) ∧ W.cell? ⟨w8.heap.size, 5, none⟩ = some (.slice A8 p.kids.length p.kids.length) ∧ W.cell? ⟨w.heap.size + 1, 0, none⟩ = some (.int .i64 p.op) ∧ W.cell? ⟨w.heap.size + 1, 1, none⟩ = some (.int .i64 p.ctor) ∧ W.cell? ⟨w.heap.size + 1, 2, none⟩ = some (.int .i64 p.n) ∧ W.cell? ⟨w.heap.size + 1, 3, none⟩ = some (.int .i64 p.m) ∧ W.cell? ⟨w.heap.size + 1, 4, none⟩ = some (.int .i64 p.var) ∧ W.cell? ⟨w.heap.size + 1, 5, none⟩ = some (.slice D p.kids.length ep)) := fun W h => by
      obtain ⟨_, _, x0, x1, x2, x3, x4, x5, _⟩ := HKS.out W (below_aft B2c.out h B2c.out.size)
      obtain ⟨c0, c1, c2, c3, c4, c5⟩ := X13.out.at_ h
      exact ⟨c0, c1, c2, c3, c4, c5, x0, x1, x2, x3, x4, x5⟩
    have HKD : Hid (∀ W, Below wc.heap.size wc W → W.cell? ⟨w9.heap.size, 0, none⟩ = some (.int .i64 v.ctor) ∧ W.cell? ⟨w9.heap.size, 1, none⟩ = some (.int .i64 v.n) ∧ W.cell? ⟨w9.heap.size, 2, none⟩ = some (.slice A9 v.kids.length v.kids.length) ∧ W.cell? ⟨w.heap.size + 2, 0, none⟩ = some (.int .i64 v.ctor) ∧ W.cell? ⟨w.heap.size + 2, 1, none⟩ = some (.int .i64 v.n) ∧ W.cell? ⟨w.heap.size + 2, 2, none⟩ = some (.slice E v.kids.length ev)) := fun W h => by
      obtain ⟨_, _, _, _, _, _, _, _, x0, x1, x2⟩ := HKS.out W (below_aft B2c.out h B2c.out.size)
      obtain ⟨c0, c1, c2⟩ := X14.out.at_ h
      exact ⟨c0, c1, c2, x0, x1, x2⟩
    have SQ := HKC.out w13.drew BC13.out.drew
    go_wp2_with fail
    go_region_held3 (fun w' => w'.cell? ⟨w8.heap.size, 0, none⟩ = some (.int .i64 p.op) ∧ w'.cell? ⟨w8.heap.size, 1, none⟩ = some (.int .i64 p.ctor) ∧ w'.cell? ⟨w8.heap.size, 2, none⟩ = some (.int .i64 p.n) ∧ w'.cell? ⟨w8.heap.size, 3, none⟩ = some (.int .i64 p.m) ∧ w'.cell? ⟨w8.heap.size, 4, none⟩ = some (.int .i64 p.var) ∧ w'.cell? ⟨w8.heap.size, 5, none⟩ = some (.slice A8 p.kids.length p.kids.length) ∧ w'.cell? ⟨w.heap.size + 1, 0, none⟩ = some (.int .i64 p.op) ∧ w'.cell? ⟨w.heap.size + 1, 1, none⟩ = some (.int .i64 p.ctor) ∧ w'.cell? ⟨w.heap.size + 1, 2, none⟩ = some (.int .i64 p.n) ∧ w'.cell? ⟨w.heap.size + 1, 3, none⟩ = some (.int .i64 p.m) ∧ w'.cell? ⟨w.heap.size + 1, 4, none⟩ = some (.int .i64 p.var) ∧ w'.cell? ⟨w.heap.size + 1, 5, none⟩ = some (.slice D p.kids.length ep)) (with_reducible exact SQ) (first
        | (go_at_call 22; (with_reducible refine (toPO_any e D p.kids ep p.op p.ctor p.n p.m p.var w13.drew (HP.out.at_ hb13w.drew) hnp).mono ?_); rintro e14 w14 ⟨A14, rfl, ho14, hb'⟩; have hb14' : Below w13.heap.size w13 w14 := ⟨hb'.os, hb'.tape, hb'.output, hb'.size, hb'.block⟩; have hbq := below_aft BC13.out hb14' BC13.out.size; have SQ := HKC.out _ hbq; have V14 := Lib.hid (OPs.reads _ ho14); clear ho14 hb')
        | (go_at_call 24; (with_reducible refine (eqP_same e _ _ p.kids _ _ p.op p.ctor p.n p.m p.var w14 (RP.out.at_ hbq) V14.out).mono ?_); rintro e15 w15 ⟨rfl, hb'⟩; have hb15' := below_aft hb14' hb' hb14'.size; have hbq := below_aft hbq hb' hbq.size; have SQ := HKC.out _ hbq; clear hb'))
    have hb15w := below_aft hb13w hb15' hb13w.size
    have BC15 := Lib.hid hbq
    have B615 := Lib.hid (below_aft B613.out hb15' B613.out.size)
    have O15 : Hid (OBs (e + 1) w15 (Nw w9b w10) A10 S) := O13.out.later_ hb15'
    clear SQ hbq hb15' V14 hb14'
    have SQ := HKD.out w15.drew BC15.out.drew
    go_wp2_with fail
    go_region_held3 (fun w' => w'.cell? ⟨w9.heap.size, 0, none⟩ = some (.int .i64 v.ctor) ∧ w'.cell? ⟨w9.heap.size, 1, none⟩ = some (.int .i64 v.n) ∧ w'.cell? ⟨w9.heap.size, 2, none⟩ = some (.slice A9 v.kids.length v.kids.length) ∧ w'.cell? ⟨w.heap.size + 2, 0, none⟩ = some (.int .i64 v.ctor) ∧ w'.cell? ⟨w.heap.size + 2, 1, none⟩ = some (.int .i64 v.n) ∧ w'.cell? ⟨w.heap.size + 2, 2, none⟩ = some (.slice E v.kids.length ev)) (with_reducible exact SQ) (first
        | (go_at_call 34; (with_reducible refine (toVO_any e E v.kids ev v.ctor v.n w15.drew (HV.out.at_ hb15w.drew) hnv).mono ?_); rintro e16 w16 ⟨A16, rfl, ho16, hb'⟩; have hb16' : Below w15.heap.size w15 w16 := ⟨hb'.os, hb'.tape, hb'.output, hb'.size, hb'.block⟩; have hbq := below_aft BC15.out hb16' BC15.out.size; have SQ := HKD.out _ hbq; have V16 := Lib.hid (OVs.reads _ ho16); clear ho16 hb')
        | (go_at_call 27; (with_reducible refine (eqV_same e _ _ v.kids _ _ v.ctor v.n w16 (RV.out.at_ hbq) V16.out).mono ?_); rintro e17 w17 ⟨rfl, hb'⟩; have hb17' := below_aft hb16' hb' hb16'.size; have hbq := below_aft hbq hb' hbq.size; have SQ := HKD.out _ hbq; clear hb'))
    have hb17w := below_aft hb15w hb17' hb15w.size
    have BC17 := Lib.hid hbq
    have B617 := Lib.hid (below_aft B615.out hb17' B615.out.size)
    have O17 : Hid (OBs (e + 1) w17 (Nw w9b w10) A10 S) := O15.out.later_ hb17'
    have P17 : Hid (OPs (e + 1) w17 (Nw w7 w8) A8 p.kids) := P13.out.later3 hbq
    have V17 : Hid (OVs (e + 1) w17 (Nw wb w9) A9 v.kids) := O9.out.later3 hbq
    have X17 := Lib.hid (X13.out.at_ hbq)
    have Y17 := Lib.hid (X14.out.at_ hbq)
    have hsc17 := hbq.size
    clear SQ hbq hb17' V16 hb16'
    have hlens := HLN.out
    have hs78 := B78.out.size
    go_wp2_with fail
    refine (markDataS_any _ l _ w6.heap.size w7.heap.size 1 _ B617.out.size hlens.1 hlens.2 (by omega) (by omega) (SH7.out.kept (Kept.below (below_aft B7c.out BC17.out B7c.out.size) hs67))).mono ?_; rintro e18 w18 ⟨rfl, hk18⟩
    have hb18w : Below w.heap.size w w18 := hb17w.trans (hk18.1.mono hb6w.size)
    have B618 : Hid (Below w6.heap.size w6 w18) := B617.out.trans hk18.1
    have F18 := Fr.kept hk18
    have hs1718 := hk18.1.size
    have P18 : Hid (OPs (e + 1) w18 (Nw w7 w8) A8 p.kids) := P17.out.fr _ F18 (fun b h1 h2 => by have := h1.1; have := h2.2; omega)
    have V18 : Hid (OVs (e + 1) w18 (Nw wb w9) A9 v.kids) := V17.out.fr _ F18 (fun b h1 h2 => by have := h1.1; have := h2.2; omega)
    have X18 := Lib.hid (X17.out.fr3 F18 (fun h2 => by have := h2.2; omega))
    have Y18 := Lib.hid (Y17.out.fr3 F18 (fun h2 => by have := h2.2; omega))
    have O18 : Hid (OBs (e + 1) w18 (Nw w9b w10) A10 S) := O17.out.fr F18 (fun b h1 h2 => by have := h1.1; have := h2.2; omega)
    clear hk18 F18
    obtain ⟨y0, y1, y2, y3, y4, y5⟩ := X18.out
    go_wp2_with fail
    refine (markP_any (e + 1) (Nw w7 w8) _ p.kids _ p.op p.ctor p.n p.m p.var _ w18 P18.out (fun b h => by have := h.2; omega) hnp (by omega) (by omega)).mono ?_; rintro e19 w19 ⟨rfl, _, hf19⟩
    have hn19 : ∀ b, b < w6.heap.size → ¬ Nw w7 w8 b := fun b h h2 => by have := h2.1; omega
    have hb19w : Below w.heap.size w w19 := hb18w.trans (hf19.to hb18w.size (fun b h => hn19 b (by have := hb6w.size; omega)))
    have B619 : Hid (Below w6.heap.size w6 w19) := B618.out.trans (hf19.to B618.out.size hn19)
    have hs1819 := hf19.size
    have V19 : Hid (OVs (e + 1) w19 (Nw wb w9) A9 v.kids) := V18.out.fr _ hf19 (fun b h1 h2 => by have := h1.1; have := h2.2; omega)
    have Y19 := Lib.hid (Y18.out.fr3 hf19 (fun h2 => by have := h2.2; omega))
    have O19 : Hid (OBs (e + 1) w19 (Nw w9b w10) A10 S) := O18.out.fr hf19 (fun b h1 h2 => by have := h1.1; have := h2.2; omega)
    clear hf19 y0 y1 y2 y3 y4 y5
    obtain ⟨z0, z1, z2⟩ := Y19.out
    go_wp2_with fail
    refine (markV_any (e + 1) (Nw wb w9) _ v.kids _ v.ctor v.n _ w19 V19.out (fun b h => by have := h.2; omega) hnv (by omega) (by omega)).mono ?_; rintro e20 w20 ⟨rfl, _, hf20⟩
    have hn20 : ∀ b, b < w6.heap.size → ¬ Nw wb w9 b := fun b h h2 => by have := h2.1; omega
    have hb20w : Below w.heap.size w w20 := hb19w.trans (hf20.to hb19w.size (fun b h => hn20 b (by have := hb6w.size; omega)))
    have B620 : Hid (Below w6.heap.size w6 w20) := B619.out.trans (hf20.to B619.out.size hn20)
    have O20 : Hid (OBs (e + 1) w20 (Nw w9b w10) A10 S) := O19.out.fr hf20 (fun b h1 h2 => by have := h1.1; have := h2.2; omega)
    have hkd : decide (1 + ((l.map mD).sum : Int) + 5 * (wPs p.kids : Int) + 2 * (wVs v.kids : Int) < 0) = false := decide_eq_false (by omega)
    clear hf20 z0 z1 z2
    go_wp2_with fail
    refine (eqBs_same e _ _ S _ _ w20 (OBs.reads O20.out) (Q6.out.at_ B620.out)).mono ?_; rintro e21 w21 ⟨rfl, hb21'⟩
    have hb21w := below_aft hb20w hb21' hb20w.size
    have B621 := Lib.hid (below_aft B620.out hb21' B620.out.size)
    have O21 : Hid (OBs (e + 1) w21 (Nw w9b w10) A10 S) := O20.out.later_ hb21'
    clear hb21'
    go_wp2_with fail
    refine (mkB_any (e + 1) (Nw w9b w10) A10 S c10 1 w21 O21.out (by omega) (by omega) (by omega)).mono ?_; rintro e22 w22 ⟨rfl, ho22, hf22⟩
    have hn22 : ∀ b, b < w6.heap.size → ¬ Nw w9b w10 b := fun b h h2 => by have := h2.1; have := B6c.out.size; omega
    have hb22w : Below w.heap.size w w22 := hb21w.trans (hf22.to hb21w.size (fun b h => hn22 b (by have := hb6w.size; omega)))
    have B622 : Hid (Below w6.heap.size w6 w22) := B621.out.trans (hf22.to B621.out.size hn22)
    have O22 := Lib.hid ho22
    have hqd : decide (1 + ((stB S S.length : Nat) : Int) < 0) = false := decide_eq_false (by omega)
    have hqm := hmm (1 + ((stB S S.length : Nat) : Int))
    clear hf22 ho22
    go_wp2_with fail
    refine (hdB_any e A10 S c10 1 w22 (OBs.reads O22.out) (by omega) (by omega) (by omega)).mono ?_; rintro e23 w23 ⟨rfl, rfl⟩
    have B222 := Lib.hid (below_aft B26.out B622.out hs26)
    have SQ := HKS.out w22.drew B222.out.drew
    go_wp2_with fail
    go_region_held3 (fun w' => w'.cell? ⟨w.heap.size, 0, none⟩ = some (.int .i64 t.data) ∧ w'.cell? ⟨w.heap.size, 1, none⟩ = some (.int .i64 t.index) ∧ w'.cell? ⟨w.heap.size + 1, 0, none⟩ = some (.int .i64 p.op) ∧ w'.cell? ⟨w.heap.size + 1, 1, none⟩ = some (.int .i64 p.ctor) ∧ w'.cell? ⟨w.heap.size + 1, 2, none⟩ = some (.int .i64 p.n) ∧ w'.cell? ⟨w.heap.size + 1, 3, none⟩ = some (.int .i64 p.m) ∧ w'.cell? ⟨w.heap.size + 1, 4, none⟩ = some (.int .i64 p.var) ∧ w'.cell? ⟨w.heap.size + 1, 5, none⟩ = some (.slice D p.kids.length ep) ∧ w'.cell? ⟨w.heap.size + 2, 0, none⟩ = some (.int .i64 v.ctor) ∧ w'.cell? ⟨w.heap.size + 2, 1, none⟩ = some (.int .i64 v.n) ∧ w'.cell? ⟨w.heap.size + 2, 2, none⟩ = some (.slice E v.kids.length ev)) (with_reducible exact SQ) (first
        | (go_at_call 14; (with_reducible refine (toDataS_any _ _ _ w22.drew (Hr.out.at_ hb22w.drew) (by omega)).mono ?_); rintro e3 w3 ⟨g3, rfl, hf3, hb'⟩; have hbz : Below w22.heap.size w22 w3 := ⟨hb'.os, hb'.tape, hb'.output, hb'.size, hb'.block⟩; have hbq := below_aft B222.out hbz B222.out.size; have SQ := HKS.out _ hbq; have R3 := Lib.hid hf3.reads; clear hf3 hb')
        | (go_at_call 15; (with_reducible refine (toType_any _ _ w3).mono ?_); rintro e4 w4 ⟨rfl, hb'⟩; have hbz := below_aft hbz hb' hbz.size; have hbq := below_aft B222.out hbz B222.out.size; have SQ := HKS.out _ hbq; have R4 := Lib.hid (R3.out.at_ hb'); clear hb')
        | (go_at_call 22; (with_reducible refine (toPO_any e D p.kids ep p.op p.ctor p.n p.m p.var w4 (HP.out.at_ (below_aft hb22w hbz hb22w.size)) hnp).mono ?_); rintro e5 w5 ⟨A5, rfl, ho5, hb'⟩; have hbz := below_aft hbz hb' hbz.size; have hbq := below_aft B222.out hbz B222.out.size; have SQ := HKS.out _ hbq; have R5 := Lib.hid (R4.out.at_ hb'); have V5 := Lib.hid (OPs.reads _ ho5); clear ho5 hb')
        | (go_at_call 34; (with_reducible refine (toVO_any e E v.kids ev v.ctor v.n w5 (HV.out.at_ (below_aft hb22w hbz hb22w.size)) hnv).mono ?_); rintro e6 w5b ⟨A6b, rfl, ho6, hb'⟩; have hbz := below_aft hbz hb' hbz.size; have hbq := below_aft B222.out hbz B222.out.size; have SQ := HKS.out _ hbq; have R6 := Lib.hid (R5.out.at_ hb'); have V6 := Lib.hid (V5.out.at_ hb'); have U6 := Lib.hid (OVs.reads _ ho6); clear ho6 hb')
        | (go_at_call 35; (with_reducible refine (HIM.out _ _ _ _ _ _ w5b R6.out V6.out U6.out).mono ?_); rintro e24 w24 ⟨A24, c24, rfl, ho24, hb'⟩; have hbz := below_aft hbz hb' hbz.size; have hbq := below_aft B222.out hbz B222.out.size; have SQ := HKS.out _ hbq; have Q24 := Lib.hid (OBs.reads ho24); clear ho24 hb'))
    have hb24w := below_aft hb22w hbz hb22w.size
    have B624 := Lib.hid (below_aft B622.out hbz B622.out.size)
    have O24 : Hid (OBs (e + 1) w24 (Nw w9b w10) A10 (numBs 1 S)) := O22.out.later_ hbz
    clear SQ hbq hbz
    go_wp2_with fail
    refine (eqBs_same e _ _ S _ _ w24 Q24.out (Q6.out.at_ B624.out)).mono ?_; rintro e25 w25 ⟨rfl, hb25'⟩
    have hb25w := below_aft hb24w hb25' hb24w.size
    have O25 : Hid (OBs (e + 1) w25 (Nw w9b w10) A10 (numBs 1 S)) := O24.out.later_ hb25'
    clear hb25'
    go_wp2_with fail
    refine (hdB_any e A10 S c10 1 w25 (OBs.reads O25.out) (by omega) (by omega) (by omega)).mono ?_; rintro e26 w26 ⟨rfl, rfl⟩
    go_wp2_with fail
    go_ret
    exact ⟨rfl, hb25w⟩
end Go.Proofs.YthecfkdilbfimaaGreat
