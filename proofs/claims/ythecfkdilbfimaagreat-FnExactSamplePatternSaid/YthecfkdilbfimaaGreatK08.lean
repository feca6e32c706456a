/-
  The law FnExactSamplePattern walked. No statement is proved here.
-/
import Derived.Test.YthecfkdilbfimaaGreatK05
import Derived.Test.YthecfkdilbfimaaGreatK06
import Derived.Test.YthecfkdilbfimaaGreatG03
import Derived.Test.YthecfkdilbfimaaGreatG04
import Derived.Test.YthecfkdilbfimaaGreatK07
import Derived.Deep.RegionHeld3
import Derived.Deep.DeepCutAuto
namespace Go.Proofs.YthecfkdilbfimaaGreat
open Go.RowKit Go.Sort Go.Deep
set_option maxRecDepth 100000
set_option linter.unusedVariables false

theorem PBx.fr {w w' : World} {b : Nat} {p : Pt} {s : Value} {P : Nat → Prop} (h : PBx w b p s) (hf : Fr P w w') (hp : ¬ P b) : PBx w' b p s := h.keep (hf.2.2.2.2 b (Go.block_lt_of_cell h.1) hp)
theorem VBx.fr {w w' : World} {b : Nat} {c n : Int} {s : Value} {P : Nat → Prop} (h : VBx w b c n s) (hf : Fr P w w') (hp : ¬ P b) : VBx w' b c n s := by
  have hk := hf.2.2.2.2 b (Go.block_lt_of_cell h.1) hp
  exact ⟨(World.cell?_of_block (a := ⟨b, 0, none⟩) hk).trans h.1, (World.cell?_of_block (a := ⟨b, 1, none⟩) hk).trans h.2.1, (World.cell?_of_block (a := ⟨b, 2, none⟩) hk).trans h.2.2⟩
theorem OPs.later {d : Nat} {w w' : World} {P : Nat → Prop} {A : Option Addr} {l : List Pt} (h : OPs d w P A l) (hb : Below w.heap.size w w') : OPs d w' P A l := h.fr _ (Fr.below (P := fun _ => False) hb) (fun _ _ h => h)
theorem OVs.later {d : Nat} {w w' : World} {P : Nat → Prop} {A : Option Addr} {l : List Vl} (h : OVs d w P A l) (hb : Below w.heap.size w w') : OVs d w' P A l := h.fr _ (Fr.below (P := fun _ => False) hb) (fun _ _ h => h)

set_option maxHeartbeats 16000000 in
theorem sp_law (A D : Option Addr) (l : List Da) (cap ep e : Nat) (t : Ty) (p : Pt) (w : World) (hr : RDas w w.heap.size A l) (hv : RPs e w w.heap.size D p.kids) :
    Calls Tryz.prog 5 #[.slice A l.length cap, .agg #[.int .i64 t.data, .int .i64 t.index], .agg #[.int .i64 p.op, .int .i64 p.ctor, .int .i64 p.n, .int .i64 p.m, .int .i64 p.var, .slice D p.kids.length ep]] w fun e w' => e = .returned (.bool true) ∧ Below w.heap.size w w' := by
  have Hr := Lib.hid hr
  have HV := Lib.hid hv
  clear hr hv
  generalize hw0 : (w.alloc (.cells #[.int .i64 t.data, .int .i64 t.index] 24)).alloc (.cells #[.int .i64 p.op, .int .i64 p.ctor, .int .i64 p.n, .int .i64 p.m, .int .i64 p.var, .slice D p.kids.length ep] 40) = w0
  have hb0 := below_box2 hw0
  have HXT : Hid (Bx w0 w.heap.size t) := by rw [← hw0]; exact ⟨by simp [go_sem], by simp [go_sem]⟩
  have HXV : Hid (PBx w0 (w.heap.size + 1) p (.slice D p.kids.length ep)) := by rw [← hw0]; exact ⟨by simp [go_sem], by simp [go_sem], by simp [go_sem], by simp [go_sem], by simp [go_sem], by simp [go_sem]⟩
  have HW := Lib.hid hw0
  clear hw0
  by_cases h1 : (wDas l : Int) ≤ 1048576
  · have H1 := Lib.hid (left_ok h1)
    by_cases h2 : (wPs p.kids : Int) ≤ 1048576 - (wDas l : Int)
    · have H2 := Lib.hid (left_ok h2)
      have hnv : wPs p.kids ≤ 1048576 := by omega
      have hnw : wP p ≤ 1048576 := by rw [wP_kids]; exact hnv
      have hnd : wDas l ≤ 1048576 := by omega
      have hlens := lens_le (l := l) (N := 1048576) (by omega)
      have hmd := mD_le l
      have HLN := Lib.hid hlens
      have HSP : Hid (∀ (B E : Option Addr) (c c' : Nat) (W : World), RDas W W.heap.size B l → RPs e W W.heap.size E p.kids → Calls Tryz.prog 25 #[.slice B l.length c, .agg #[.int .i64 t.data, .int .i64 t.index], .agg #[.int .i64 p.op, .int .i64 p.ctor, .int .i64 p.n, .int .i64 p.m, .int .i64 p.var, .slice E p.kids.length c']] W fun e' w' => ∃ B' c'', e' = .returned (.tuple #[.agg #[.int .i64 (spR l t p).ctor, .int .i64 (spR l t p).n, .slice B' (spR l t p).kids.length c''], .bool (spB l t p)]) ∧ OVs 20 w' (Nw W w') B' (spR l t p).kids ∧ Below W.heap.size W w') := fun B E c c' W h h' => sp_spec B E l c c' e t p W h h' hnw
      have HIM : Hid (∀ (B E : Option Addr) (c c' : Nat) (W : World), RDas W W.heap.size B l → RPs e W W.heap.size E p.kids → Calls Tryz.prog 26 #[.slice B l.length c, .agg #[.int .i64 t.data, .int .i64 t.index], .agg #[.int .i64 p.op, .int .i64 p.ctor, .int .i64 p.n, .int .i64 p.m, .int .i64 p.var, .slice E p.kids.length c']] W fun e' w' => ∃ B' c'', e' = .returned (.tuple #[.agg #[.int .i64 (spR l t p).ctor, .int .i64 (spR l t p).n, .slice B' (spR l t p).kids.length c''], .bool (spB l t p)]) ∧ OVs 20 w' (Nw W w') B' (spR l t p).kids ∧ Below W.heap.size W w') := fun B E c c' W h h' => sp_impl B E l c c' e t p W h h'
      have hpw := spR_w l t p
      generalize spR l t p = v at HSP HIM hpw
      generalize spB l t p = bb at HSP HIM
      have hbb : (bb != bb) = false := by simp
      have hwk : wVs v.kids ≤ 1048576 := by rw [wV_kids] at hpw; omega
      have hmm : ∀ x : Int, (x != x) = false := fun x => by simp
      clear hlens
      go_enter Tryz.func5, Tryz.ntmps5
      go_wp2_with (first | (go_at_call 11; rw [HW.out]; refine (szDataS_any _ _ _ _ _ (Hr.out.at_ hb0) (by omega) (by omega)).mono ?_; rw [H1.out]; rintro e1 w1 ⟨rfl, hb1⟩; obtain ⟨y0, y1, y2, y3, y4, y5⟩ := HXV.out.at_ hb1; have hb1w := below_aft hb0 hb1 hb0.size))
      refine (szP_any e D p.kids ep p.op p.ctor p.n p.m p.var _ _ (HV.out.at_ hb1w) (by omega) (by omega)).mono ?_
      rw [H2.out]
      rintro e2 w2 ⟨rfl, hb2⟩
      have hb2w := below_aft hb1w hb2 hb1w.size
      have hb20 := below_aft hb1 hb2 hb1.size
      have HKS : Hid (∀ W, Below w2.heap.size w2 W → W.cell? ⟨w.heap.size, 0, none⟩ = some (.int .i64 t.data) ∧ W.cell? ⟨w.heap.size, 1, none⟩ = some (.int .i64 t.index) ∧ W.cell? ⟨w.heap.size + 1, 0, none⟩ = some (.int .i64 p.op) ∧ W.cell? ⟨w.heap.size + 1, 1, none⟩ = some (.int .i64 p.ctor) ∧ W.cell? ⟨w.heap.size + 1, 2, none⟩ = some (.int .i64 p.n) ∧ W.cell? ⟨w.heap.size + 1, 3, none⟩ = some (.int .i64 p.m) ∧ W.cell? ⟨w.heap.size + 1, 4, none⟩ = some (.int .i64 p.var) ∧ W.cell? ⟨w.heap.size + 1, 5, none⟩ = some (.slice D p.kids.length ep)) := fun W h => by
        obtain ⟨a, b⟩ := HXT.out.at_ (below_aft hb20 h hb20.size)
        exact ⟨a, b, HXV.out.at_ (below_aft hb20 h hb20.size)⟩
      have SQ := HKS.out w2.drew (Below.refl _ w2).drew
      clear y0 y1 y2 y3 y4 y5 hb1 hb2
      have hbZ : Below w.heap.size w ((w2.alloc (.cells #[.int .i64 0, .int .i64 0, .slice none 0 0] 51)).drew) := (hb2w.alloc hb2w.size _).drew
      have SQ1 := HKS.out ((w2.alloc (.cells #[.int .i64 0, .int .i64 0, .slice none 0 0] 51)).drew) ((Below.refl _ w2).alloc (Nat.le_refl _) _).drew
      go_upto_region 8 with fail
      go_cut [8, 9] (fun s6 s7 wx => ∃ g B c, s6 = .pointer (some ⟨g, 0, none⟩) ∧ s7 = .bool bb ∧ StV 20 w2 g v B c wx)
      case first =>
        go_region_held3 (fun w' => w'.cell? ⟨w.heap.size, 0, none⟩ = some (.int .i64 t.data) ∧ w'.cell? ⟨w.heap.size, 1, none⟩ = some (.int .i64 t.index) ∧ w'.cell? ⟨w.heap.size + 1, 0, none⟩ = some (.int .i64 p.op) ∧ w'.cell? ⟨w.heap.size + 1, 1, none⟩ = some (.int .i64 p.ctor) ∧ w'.cell? ⟨w.heap.size + 1, 2, none⟩ = some (.int .i64 p.n) ∧ w'.cell? ⟨w.heap.size + 1, 3, none⟩ = some (.int .i64 p.m) ∧ w'.cell? ⟨w.heap.size + 1, 4, none⟩ = some (.int .i64 p.var) ∧ w'.cell? ⟨w.heap.size + 1, 5, none⟩ = some (.slice D p.kids.length ep)) (first | with_reducible exact SQ | with_reducible exact (HKS.out _ (hbq.alloc hbq.size _)) | with_reducible exact SQ1 | with_reducible exact (HKS.out _ (below_set3 hbq hgz _ _ _))) (first
          | (go_at_call 14; (with_reducible refine (toDataS_any _ _ _ w2.drew (Hr.out.at_ hb2w.drew) (by omega)).mono ?_); rintro e w3 ⟨g3, rfl, hf3, hb'⟩; have hbq : Below w2.heap.size w2 w3 := ⟨hb'.os, hb'.tape, hb'.output, hb'.size, hb'.block⟩; have SQ := HKS.out _ hbq; have R3 := Lib.hid hf3.reads; have hs3 := hbq.size; clear hf3 hb')
          | (go_at_call 14; (with_reducible refine (toDataS_any _ _ _ ((w2.alloc (.cells #[.int .i64 0, .int .i64 0, .slice none 0 0] 51)).drew) (Hr.out.at_ hbZ) (by omega)).mono ?_); rintro e w3 ⟨g3, rfl, hf3, hb'⟩; have hbq : Below w2.heap.size w2 w3 := ((Below.refl _ w2).alloc (Nat.le_refl _) _).drew.trans (hb'.mono (by simp)); have SQ := HKS.out _ hbq; have hzb : ZbV w3 w2.heap.size := ZbV.at_ (w := (w2.alloc (.cells #[.int .i64 0, .int .i64 0, .slice none 0 0] 51)).drew) (ZbV.new w2) hb'; have hgz : w2.heap.size ≤ w2.heap.size := Nat.le_refl _; have R3 := Lib.hid hf3.reads; have hs3 := hbq.size; clear hf3 hb')
          | (go_at_call 15; (with_reducible refine (toType_any _ _ w3).mono ?_); rintro e w4 ⟨rfl, hb'⟩; have hbq := below_aft hbq hb' hbq.size; have SQ := HKS.out _ hbq; have R4 := Lib.hid (R3.out.at_ hb'); have hs4 := hb'.size; (try (have hzb : ZbV w4 w2.heap.size := hzb.at_ hb')); clear hb')
          | (go_at_call 15; (with_reducible refine (toType_any _ _ (w3.alloc (.cells #[.int .i64 0, .int .i64 0, .slice none 0 0] 51))).mono ?_); rintro e w4 ⟨rfl, hb'⟩; have hbq := below_aft (hbq.alloc hbq.size _) hb' (by simp; have := hbq.size; omega); have SQ := HKS.out _ hbq; have R4 := Lib.hid ((R3.out.at_ ((Below.refl _ _).alloc (Nat.le_refl _) _)).at_ hb'); have hs4 : w3.heap.size ≤ w4.heap.size := (by have := hb'.size; simp at this; omega); have hzb : ZbV w4 w3.heap.size := ZbV.at_ (ZbV.new w3) hb'; have hgz : w2.heap.size ≤ w3.heap.size := hs3; clear hb')
          | (go_at_call 22; (with_reducible refine (toPO_any e D p.kids ep p.op p.ctor p.n p.m p.var w4 (HV.out.at_ (below_aft hb2w hbq hb2w.size)) hnv).mono ?_); rintro e5 w5 ⟨A5, rfl, ho5, hb'⟩; have hbq := below_aft hbq hb' hbq.size; have SQ := HKS.out _ hbq; have R5 := Lib.hid (R4.out.at_ hb'); have V5 := Lib.hid (OPs.reads _ ho5); have hs5 := hb'.size; (try (have hzb := hzb.at_ hb')); clear hb' ho5)
          | (go_at_call 22; (with_reducible refine (toPO_any e D p.kids ep p.op p.ctor p.n p.m p.var (w4.alloc (.cells #[.int .i64 0, .int .i64 0, .slice none 0 0] 51)) (HV.out.at_ ((below_aft hb2w hbq hb2w.size).alloc (Nat.le_trans hb2w.size hbq.size) _)) hnv).mono ?_); rintro e5 w5 ⟨A5, rfl, ho5, hb'⟩; have hbq0 := hbq; have hbq := below_aft (hbq.alloc hbq.size _) hb' (by simp; have := hbq0.size; omega); have SQ := HKS.out _ hbq; have R5 := Lib.hid ((R4.out.at_ ((Below.refl _ _).alloc (Nat.le_refl _) _)).at_ hb'); have V5 := Lib.hid (OPs.reads _ ho5); have hs5 : w4.heap.size ≤ w5.heap.size := (by have := hb'.size; simp at this; omega); have hzb : ZbV w5 w4.heap.size := ZbV.at_ (ZbV.new w4) hb'; have hgz : w2.heap.size ≤ w4.heap.size := hbq0.size; clear hb' ho5)
          | (go_at_call 25; (with_reducible refine (HSP.out _ _ _ _ w5 R5.out V5.out).mono ?_); rintro e6 w6 ⟨B0, c0, rfl, ho6, hb'⟩; have hbq := below_aft hbq hb' hbq.size; have SQ := HKS.out _ hbq; have O6 := Lib.hid ho6; (try (have hzd := hzb.at_ hb'; obtain ⟨k0, k1, k2, k3, k4, k5⟩ := hzd.cells)); clear ho6 hb')
          | (go_at_call 25; (with_reducible refine (HSP.out _ _ _ _ (w5.alloc (.cells #[.int .i64 0, .int .i64 0, .slice none 0 0] 51)) (R5.out.at_ ((Below.refl _ _).alloc (Nat.le_refl _) _)) (V5.out.at_ ((Below.refl _ _).alloc (Nat.le_refl _) _))).mono ?_); rintro e6 w6 ⟨B0, c0, rfl, ho6, hb'⟩; have hbq0 := hbq; have hbq := below_aft (hbq.alloc hbq.size _) hb' (by simp; have := hbq0.size; omega); have SQ := HKS.out _ hbq; have O6 := Lib.hid ho6; have hzd : ZbV w6 w5.heap.size := ZbV.at_ (ZbV.new w5) hb'; have hgz : w2.heap.size ≤ w5.heap.size := hbq0.size; obtain ⟨k0, k1, k2, k3, k4, k5⟩ := hzd.cells; clear ho6 hb'))
        all_goals
          go_wp2_with fail
          go_meet
          refine ⟨_, B0, c0, rfl, rfl, ?_⟩
          first
          | ((with_reducible refine StV.new hbq O6.out ?_); (intro b h; have h1 := h.1; have h2 := h.2; exact ⟨by omega, h2⟩))
          | ((unfold ZbV at hzd); (with_reducible refine StV.set hbq hzd hgz O6.out ?_); (intro b h; have h1 := h.1; have h2 := h.2; (try (have h3 := heap_lt hzb)); (try simp only [World.size_alloc] at h1); exact ⟨by omega, h2, by omega⟩))
      case rest =>
        clear SQ SQ1 hbZ
        obtain ⟨gs8, B0, c0, rfl, rfl, hst⟩ := hcut
        generalize wc = wa at *
        have hba := hst.2.1
        have XA : Hid (VBx wa gs8 v.ctor v.n (.slice B0 v.kids.length c0)) := hst.cells
        have RA : Hid (RVs 19 wa wa.heap.size B0 v.kids) := OVs.reads 19 hst.2.2.2
        have hbA := below_aft hb2w hba hb2w.size
        have HKA : Hid (∀ W, Below wa.heap.size wa W → W.cell? ⟨w.heap.size, 0, none⟩ = some (.int .i64 t.data) ∧ W.cell? ⟨w.heap.size, 1, none⟩ = some (.int .i64 t.index) ∧ W.cell? ⟨w.heap.size + 1, 0, none⟩ = some (.int .i64 p.op) ∧ W.cell? ⟨w.heap.size + 1, 1, none⟩ = some (.int .i64 p.ctor) ∧ W.cell? ⟨w.heap.size + 1, 2, none⟩ = some (.int .i64 p.n) ∧ W.cell? ⟨w.heap.size + 1, 3, none⟩ = some (.int .i64 p.m) ∧ W.cell? ⟨w.heap.size + 1, 4, none⟩ = some (.int .i64 p.var) ∧ W.cell? ⟨w.heap.size + 1, 5, none⟩ = some (.slice D p.kids.length ep)) := fun W h => HKS.out W (below_aft hba h hba.size)
        have hlens := HLN.out
        clear hst
        -- the copies that are handed to the program
        go_wp2_with fail
        refine (toDataS_any _ _ _ _ (Hr.out.at_ hbA) (by omega)).mono ?_; rintro e6 w6 ⟨g6, rfl, hf6, hb6'⟩
        have BA6 := Lib.hid hb6'
        have R6 := Lib.hid hf6.reads
        have SH6 := Lib.hid hf6.shape
        have hb6 := below_aft hbA hb6' hbA.size
        have hsa6 := hb6'.size
        clear hb6' hf6
        obtain ⟨q0, q1, y0, y1, y2, y3, y4, y5⟩ := HKA.out w6 BA6.out
        go_wp2_with fail
        refine (toPO_any e D p.kids ep p.op p.ctor p.n p.m p.var w6 (HV.out.at_ hb6) hnv).mono ?_; rintro e7 w7 ⟨A7, rfl, ho7, hb7'⟩
        have B67 := Lib.hid hb7'
        have hb7 := below_aft hb6 hb7' hb6.size
        have BA7 := Lib.hid (below_aft BA6.out hb7' hsa6)
        have hs67 := hb7'.size
        obtain ⟨wb, hwb⟩ : ∃ wb, wb = w7.alloc (.cells #[.int .i64 p.op, .int .i64 p.ctor, .int .i64 p.n, .int .i64 p.m, .int .i64 p.var, .slice A7 p.kids.length p.kids.length] 45) := ⟨_, rfl⟩
        have hb7b : Below w7.heap.size w7 wb := by rw [hwb]; exact (Below.refl _ _).alloc (Nat.le_refl _) _
        have X11 : Hid (PBx wb w7.heap.size p (.slice A7 p.kids.length p.kids.length)) := by rw [hwb]; exact ⟨by simp [go_sem], by simp [go_sem], by simp [go_sem], by simp [go_sem], by simp [go_sem], by simp [go_sem]⟩
        have O7 : Hid (OPs (e + 1) wb (Nw w6 w7) A7 p.kids) := ho7.later hb7b
        have hbB := below_aft hb7 hb7b hb7.size
        have BAb := Lib.hid (below_aft BA7.out hb7b BA7.out.size)
        have B6b := Lib.hid (below_aft B67.out hb7b hs67)
        have hs7b : w7.heap.size < wb.heap.size := by rw [hwb]; simp
        have HWB := Lib.hid hwb
        have RD : Hid (RDas wb wb.heap.size (some ⟨g6, 0, none⟩) l) := R6.out.at_ B6b.out
        have RV : Hid (RPs e wb wb.heap.size A7 p.kids) := OPs.reads _ O7.out
        clear hwb ho7 hb7' hb7b q0 q1 y0 y1 y2 y3 y4 y5
        have HKB : Hid (∀ W, Below wb.heap.size wb W → W.cell? ⟨w.heap.size, 0, none⟩ = some (.int .i64 t.data) ∧ W.cell? ⟨w.heap.size, 1, none⟩ = some (.int .i64 t.index) ∧ W.cell? ⟨w7.heap.size, 0, none⟩ = some (.int .i64 p.op) ∧ W.cell? ⟨w7.heap.size, 1, none⟩ = some (.int .i64 p.ctor) ∧ W.cell? ⟨w7.heap.size, 2, none⟩ = some (.int .i64 p.n) ∧ W.cell? ⟨w7.heap.size, 3, none⟩ = some (.int .i64 p.m) ∧ W.cell? ⟨w7.heap.size, 4, none⟩ = some (.int .i64 p.var) ∧ W.cell? ⟨w7.heap.size, 5, none⟩ = some (.slice A7 p.kids.length p.kids.length)) := fun W h => by
          obtain ⟨a, b, _⟩ := HKA.out W (below_aft BAb.out h BAb.out.size)
          exact ⟨a, b, X11.out.at_ h⟩
        have SQ := HKB.out wb.drew (Below.refl _ wb).drew
        have SQ1 := HKB.out ((wb.alloc (.cells #[.int .i64 0, .int .i64 0, .slice none 0 0] 51)).drew) ((Below.refl _ wb).alloc (Nat.le_refl _) _).drew
        go_upto_region 11 with fail
        rw [← HWB.out]
        go_cut [12, 13] (fun s6 s7 wx => ∃ g B c, s6 = .pointer (some ⟨g, 0, none⟩) ∧ s7 = .bool bb ∧ StV 20 wb g v B c wx)
        case first =>
          go_region_held3 (fun w' => w'.cell? ⟨w.heap.size, 0, none⟩ = some (.int .i64 t.data) ∧ w'.cell? ⟨w.heap.size, 1, none⟩ = some (.int .i64 t.index) ∧ w'.cell? ⟨w7.heap.size, 0, none⟩ = some (.int .i64 p.op) ∧ w'.cell? ⟨w7.heap.size, 1, none⟩ = some (.int .i64 p.ctor) ∧ w'.cell? ⟨w7.heap.size, 2, none⟩ = some (.int .i64 p.n) ∧ w'.cell? ⟨w7.heap.size, 3, none⟩ = some (.int .i64 p.m) ∧ w'.cell? ⟨w7.heap.size, 4, none⟩ = some (.int .i64 p.var) ∧ w'.cell? ⟨w7.heap.size, 5, none⟩ = some (.slice A7 p.kids.length p.kids.length)) (first | with_reducible exact SQ | with_reducible exact (HKB.out _ (hbq.alloc hbq.size _)) | with_reducible exact SQ1 | with_reducible exact (HKB.out _ (below_set3 hbq hgz _ _ _))) (first
            | (go_at_call 15; (with_reducible refine (toType_any _ _ wb.drew).mono ?_); rintro e8 w8 ⟨rfl, hb'⟩; have hbq : Below wb.heap.size wb w8 := ⟨hb'.os, hb'.tape, hb'.output, hb'.size, hb'.block⟩; have SQ := HKB.out _ hbq; have hs8 := hbq.size; clear hb')
            | (go_at_call 15; (with_reducible refine (toType_any _ _ ((wb.alloc (.cells #[.int .i64 0, .int .i64 0, .slice none 0 0] 51)).drew)).mono ?_); rintro e8 w8 ⟨rfl, hb'⟩; have hbq : Below wb.heap.size wb w8 := ((Below.refl _ wb).alloc (Nat.le_refl _) _).drew.trans (hb'.mono (by simp)); have SQ := HKB.out _ hbq; have hs8 := hbq.size; have hzb : ZbV w8 wb.heap.size := ZbV.at_ (w := (wb.alloc (.cells #[.int .i64 0, .int .i64 0, .slice none 0 0] 51)).drew) (ZbV.new wb) hb'; have hgz : wb.heap.size ≤ wb.heap.size := Nat.le_refl _; clear hb')
            | (go_at_call 26; (with_reducible refine (HIM.out _ _ _ _ w8 (RD.out.at_ hbq) (RV.out.at_ hbq)).mono ?_); rintro e9 w9 ⟨B1, c1, rfl, ho9, hb'⟩; have hbq := below_aft hbq hb' hbq.size; have SQ := HKB.out _ hbq; have O9 := Lib.hid ho9; (try (have hzd := hzb.at_ hb'; obtain ⟨k0, k1, k2, k3, k4, k5⟩ := hzd.cells)); clear ho9 hb')
            | (go_at_call 26; (with_reducible refine (HIM.out _ _ _ _ (w8.alloc (.cells #[.int .i64 0, .int .i64 0, .slice none 0 0] 51)) (RD.out.at_ (hbq.alloc hbq.size _)) (RV.out.at_ (hbq.alloc hbq.size _))).mono ?_); rintro e9 w9 ⟨B1, c1, rfl, ho9, hb'⟩; have hbq0 := hbq; have hbq := below_aft (hbq.alloc hbq.size _) hb' (by simp; have := hbq0.size; omega); have SQ := HKB.out _ hbq; have O9 := Lib.hid ho9; have hzd : ZbV w9 w8.heap.size := ZbV.at_ (ZbV.new w8) hb'; have hgz : wb.heap.size ≤ w8.heap.size := hbq0.size; obtain ⟨k0, k1, k2, k3, k4, k5⟩ := hzd.cells; clear ho9 hb'))
          all_goals
            go_wp2_with fail
            go_meet
            refine ⟨_, B1, c1, rfl, rfl, ?_⟩
            first
            | ((with_reducible refine StV.new hbq O9.out ?_); (intro b h; have h1 := h.1; have h2 := h.2; exact ⟨by omega, h2⟩))
            | ((unfold ZbV at hzd); (with_reducible refine StV.set hbq hzd hgz O9.out ?_); (intro b h; have h1 := h.1; have h2 := h.2; (try (have h3 := heap_lt hzb)); (try simp only [World.size_alloc] at h1); exact ⟨by omega, h2, by omega⟩))
        case rest =>
          clear SQ SQ1
          obtain ⟨g12, B1, c1, rfl, rfl, hst⟩ := hcut
          generalize wc = w9 at *
          have hb9' := hst.2.1
          have hb9 := below_aft hbB hb9' hbB.size
          have BA9 := Lib.hid (below_aft BAb.out hb9' BAb.out.size)
          have B69 := Lib.hid (below_aft B6b.out hb9' B6b.out.size)
          have X12 : Hid (VBx w9 g12 v.ctor v.n (.slice B1 v.kids.length c1)) := hst.cells
          have O12 : Hid (OVs 20 w9 (fun b => wb.heap.size ≤ b ∧ b < w9.heap.size ∧ b ≠ g12) B1 v.kids) := hst.2.2.2
          have hg12 : wb.heap.size ≤ g12 := hst.1
          have hg12' : g12 < w9.heap.size := heap_lt hst.2.2.1
          have P7 : Hid (OPs (e + 1) w9 (Nw w6 w7) A7 p.kids) := O7.out.later hb9'
          have Y11 := Lib.hid (X11.out.at_ hb9')
          have hs9 := hb9'.size
          clear hst hb9'
          obtain ⟨a0, a1, a2⟩ := X12.out
          obtain ⟨d0, d1, d2⟩ := XA.out.at_ BA9.out
          go_wp2_with fail
          refine (eqV_same 19 _ _ v.kids _ _ v.ctor v.n w9 (OVs.reads 19 O12.out) (RA.out.at_ BA9.out)).mono ?_; rintro e10 w10 ⟨rfl, hb10'⟩
          have hb10 := below_aft hb9 hb10' hb9.size
          have B910 := Lib.hid hb10'
          clear hb10' a0 a1 a2 d0 d1 d2
          go_wp2_with fail
          refine (toDataS_any _ _ _ _ (Hr.out.at_ hb10) (by omega)).mono ?_; rintro e11 w11 ⟨g11, rfl, hf11, hb11'⟩
          have hb11 := below_aft hb10 hb11' hb10.size
          have R11 := Lib.hid hf11.reads
          have B911 := Lib.hid (below_aft B910.out hb11' B910.out.size)
          clear hb11' hf11
          go_wp2_with fail
          refine (eqDataS_same _ _ _ _ _ _ (R6.out.at_ (below_aft B69.out B911.out B69.out.size)) R11.out).mono ?_; rintro e12 w12 ⟨rfl, hb12'⟩
          have hb12 := below_aft hb11 hb12' hb11.size
          have B912 := Lib.hid (below_aft B911.out hb12' B911.out.size)
          clear hb12' R11 B911 B910
          have HKC : Hid (∀ W, Below w9.heap.size w9 W → W.cell? ⟨w7.heap.size, 0, none⟩ = some (.int .i64 p.op) ∧ W.cell? ⟨w7.heap.size, 1, none⟩ = some (.int .i64 p.ctor) ∧ W.cell? ⟨w7.heap.size, 2, none⟩ = some (.int .i64 p.n) ∧ W.cell? ⟨w7.heap.size, 3, none⟩ = some (.int .i64 p.m) ∧ W.cell? ⟨w7.heap.size, 4, none⟩ = some (.int .i64 p.var) ∧ W.cell? ⟨w7.heap.size, 5, none⟩ = some (.slice A7 p.kids.length p.kids.length) ∧ W.cell? ⟨w.heap.size + 1, 0, none⟩ = some (.int .i64 p.op) ∧ W.cell? ⟨w.heap.size + 1, 1, none⟩ = some (.int .i64 p.ctor) ∧ W.cell? ⟨w.heap.size + 1, 2, none⟩ = some (.int .i64 p.n) ∧ W.cell? ⟨w.heap.size + 1, 3, none⟩ = some (.int .i64 p.m) ∧ W.cell? ⟨w.heap.size + 1, 4, none⟩ = some (.int .i64 p.var) ∧ W.cell? ⟨w.heap.size + 1, 5, none⟩ = some (.slice D p.kids.length ep)) := fun W h => by
            obtain ⟨_, _, x, y, z, x', y', z'⟩ := HKA.out W (below_aft BA9.out h BA9.out.size)
            obtain ⟨a, b, c, d, e', f⟩ := Y11.out.at_ h
            exact ⟨a, b, c, d, e', f, x, y, z, x', y', z'⟩
          have SQ := HKC.out w12.drew B912.out.drew
          have hs912 := B912.out.size
          go_wp2_with fail
          go_region_held3 (fun w' => w'.cell? ⟨w7.heap.size, 0, none⟩ = some (.int .i64 p.op) ∧ w'.cell? ⟨w7.heap.size, 1, none⟩ = some (.int .i64 p.ctor) ∧ w'.cell? ⟨w7.heap.size, 2, none⟩ = some (.int .i64 p.n) ∧ w'.cell? ⟨w7.heap.size, 3, none⟩ = some (.int .i64 p.m) ∧ w'.cell? ⟨w7.heap.size, 4, none⟩ = some (.int .i64 p.var) ∧ w'.cell? ⟨w7.heap.size, 5, none⟩ = some (.slice A7 p.kids.length p.kids.length) ∧ w'.cell? ⟨w.heap.size + 1, 0, none⟩ = some (.int .i64 p.op) ∧ w'.cell? ⟨w.heap.size + 1, 1, none⟩ = some (.int .i64 p.ctor) ∧ w'.cell? ⟨w.heap.size + 1, 2, none⟩ = some (.int .i64 p.n) ∧ w'.cell? ⟨w.heap.size + 1, 3, none⟩ = some (.int .i64 p.m) ∧ w'.cell? ⟨w.heap.size + 1, 4, none⟩ = some (.int .i64 p.var) ∧ w'.cell? ⟨w.heap.size + 1, 5, none⟩ = some (.slice D p.kids.length ep)) (with_reducible exact SQ) (first
            | (go_at_call 22; (with_reducible refine (toPO_any e D p.kids ep p.op p.ctor p.n p.m p.var w12.drew (HV.out.at_ hb12.drew) hnv).mono ?_); rintro e13 w13 ⟨A13, rfl, ho13, hb'⟩; have hb13' : Below w12.heap.size w12 w13 := ⟨hb'.os, hb'.tape, hb'.output, hb'.size, hb'.block⟩; have hbq := below_aft B912.out hb13' B912.out.size; have SQ := HKC.out _ hbq; have V13 := Lib.hid (OPs.reads _ ho13); clear ho13 hb')
            | (go_at_call 24; (with_reducible refine (eqP_same e _ _ p.kids _ _ p.op p.ctor p.n p.m p.var w13 (OPs.reads e (P7.out.later hbq)) V13.out).mono ?_); rintro e14 w14 ⟨rfl, hb'⟩; have hb14' := below_aft hb13' hb' hb13'.size; have hbq := below_aft hbq hb' hbq.size; have SQ := HKC.out _ hbq; clear hb'))
          have hb14 := below_aft hb12 hb14' hb12.size
          have B614 := Lib.hid (below_aft B69.out hbq B69.out.size)
          have BA14 := Lib.hid (below_aft BA9.out hbq BA9.out.size)
          have P14 : Hid (OPs (e + 1) w14 (Nw w6 w7) A7 p.kids) := P7.out.later hbq
          have Q14 : Hid (OVs 20 w14 (fun b => wb.heap.size ≤ b ∧ b < w9.heap.size ∧ b ≠ g12) B1 v.kids) := O12.out.later hbq
          have X14 := Lib.hid (X12.out.at_ hbq)
          have Y14 := Lib.hid (Y11.out.at_ hbq)
          have hs914 := hbq.size
          clear SQ hbq hb14' hb13'
          go_wp2_with fail
          refine (markDataS_any _ l _ wa.heap.size w6.heap.size 1 _ (Nat.le_trans hsa6 B614.out.size) hlens.1 hlens.2 (by omega) (by omega) (SH6.out.kept (Kept.below B614.out hsa6))).mono ?_; rintro e15 w15 ⟨rfl, hk15⟩
          have hb15 : Below w.heap.size w w15 := hb14.trans (hk15.1.mono hbA.size)
          have BA15 : Hid (Below wa.heap.size wa w15) := BA14.out.trans hk15.1
          have F15 := Fr.kept hk15
          have hs1415 : w14.heap.size ≤ w15.heap.size := hk15.1.size
          have P15 : Hid (OPs (e + 1) w15 (Nw w6 w7) A7 p.kids) := P14.out.fr _ F15 (fun b h1 h2 => by have := h1.1; have := h2.2; omega)
          have Q15 : Hid (OVs 20 w15 (fun b => wb.heap.size ≤ b ∧ b < w9.heap.size ∧ b ≠ g12) B1 v.kids) := Q14.out.fr _ F15 (fun b h1 h2 => by have := h1.1; have := h2.2; omega)
          have X15 := Lib.hid (X14.out.fr F15 (fun h2 => by have := h2.2; omega))
          have Y15 := Lib.hid (Y14.out.fr F15 (fun h2 => by have := h2.2; omega))
          clear hk15 F15
          obtain ⟨y0, y1, y2, y3, y4, y5⟩ := Y15.out
          go_wp2_with fail
          refine (markP_any (e + 1) (Nw w6 w7) _ p.kids _ p.op p.ctor p.n p.m p.var _ w15 P15.out (fun b h => by have := h.2; omega) hnv (by omega) (by omega)).mono ?_; rintro e16 w16 ⟨rfl, _, hf16⟩
          have hna : ∀ b, b < wa.heap.size → ¬ Nw w6 w7 b := fun b h h2 => by have := h2.1; omega
          have hsa15 := BA15.out.size
          have hb16 : Below w.heap.size w w16 := hb15.trans (hf16.to hb15.size (fun b h => hna b (by have := hbA.size; omega)))
          have BA16 : Hid (Below wa.heap.size wa w16) := BA15.out.trans (hf16.to hsa15 hna)
          have Q16 : Hid (OVs 20 w16 (fun b => wb.heap.size ≤ b ∧ b < w9.heap.size ∧ b ≠ g12) B1 v.kids) := Q15.out.fr _ hf16 (fun b h1 h2 => by have := h1.1; have := h2.2; omega)
          have X16 := Lib.hid (X15.out.fr hf16 (fun h2 => by have := h2.2; omega))
          have hs1516 := hf16.size
          have hkd : decide (1 + ((l.map mD).sum : Int) + 5 * (wPs p.kids : Int) < 0) = false := decide_eq_false (by omega)
          clear hf16 y0 y1 y2 y3 y4 y5
          obtain ⟨a0, a1, a2⟩ := X16.out
          obtain ⟨d0, d1, d2⟩ := XA.out.at_ BA16.out
          go_wp2_with fail
          refine (eqV_same 19 _ _ v.kids _ _ v.ctor v.n w16 (OVs.reads 19 Q16.out) (RA.out.at_ BA16.out)).mono ?_; rintro e17 w17 ⟨rfl, hb17'⟩
          have hb17 := below_aft hb16 hb17' hb16.size
          have BA17 := Lib.hid (below_aft BA16.out hb17' BA16.out.size)
          have Q17 : Hid (OVs 20 w17 (fun b => wb.heap.size ≤ b ∧ b < w9.heap.size ∧ b ≠ g12) B1 v.kids) := Q16.out.later hb17'
          have X17 := Lib.hid (X16.out.at_ hb17')
          have hs1617 := hb17'.size
          clear hb17' a0 a1 a2 d0 d1 d2
          obtain ⟨a0, a1, a2⟩ := X17.out
          go_wp2_with fail
          refine (markV_any 20 (fun b => wb.heap.size ≤ b ∧ b < w9.heap.size ∧ b ≠ g12) _ v.kids _ v.ctor v.n 1 w17 Q17.out (fun b h => by have := h.2.1; omega) hwk (by omega) (by omega)).mono ?_; rintro e18 w18 ⟨rfl, ho18, hf18⟩
          have hsab := BAb.out.size
          have hnb : ∀ b, b < wa.heap.size → ¬ (wb.heap.size ≤ b ∧ b < w9.heap.size ∧ b ≠ g12) := fun b h h2 => by have := h2.1; omega
          have hb18 : Below w.heap.size w w18 := hb17.trans (hf18.to hb17.size (fun b h => hnb b (by have := hbA.size; omega)))
          have BA18 : Hid (Below wa.heap.size wa w18) := BA17.out.trans (hf18.to BA17.out.size hnb)
          have X18 := Lib.hid (X17.out.fr hf18 (fun h2 => h2.2.2 rfl))
          have Q18 := Lib.hid ho18
          clear hf18 ho18 a0 a1 a2
          obtain ⟨a0, a1, a2⟩ := X18.out
          go_wp2_with fail
          refine (heldV_any 19 _ v.kids _ v.ctor v.n 1 w18 (OVs.reads 19 Q18.out) hwk (by omega) (by omega)).mono ?_; rintro e19 w19 ⟨rfl, hb19'⟩
          have hb19 := below_aft hb18 hb19' hb18.size
          have BA19 := Lib.hid (below_aft BA18.out hb19' BA18.out.size)
          have X19 := Lib.hid (X18.out.at_ hb19')
          have Q19 : Hid (OVs 20 w19 (fun b => wb.heap.size ≤ b ∧ b < w9.heap.size ∧ b ≠ g12) B1 (numVs 1 v.kids)) := Q18.out.later hb19'
          clear hb19' a0 a1 a2
          have hqm := hmm (1 + 2 * (wVs v.kids : Int))
          have HKS : Hid (∀ W, Below w19.heap.size w19 W → W.cell? ⟨w.heap.size, 0, none⟩ = some (.int .i64 t.data) ∧ W.cell? ⟨w.heap.size, 1, none⟩ = some (.int .i64 t.index) ∧ W.cell? ⟨w.heap.size + 1, 0, none⟩ = some (.int .i64 p.op) ∧ W.cell? ⟨w.heap.size + 1, 1, none⟩ = some (.int .i64 p.ctor) ∧ W.cell? ⟨w.heap.size + 1, 2, none⟩ = some (.int .i64 p.n) ∧ W.cell? ⟨w.heap.size + 1, 3, none⟩ = some (.int .i64 p.m) ∧ W.cell? ⟨w.heap.size + 1, 4, none⟩ = some (.int .i64 p.var) ∧ W.cell? ⟨w.heap.size + 1, 5, none⟩ = some (.slice D p.kids.length ep)) := fun W h => HKA.out W (below_aft BA19.out h BA19.out.size)
          have SQ := HKS.out w19.drew (Below.refl _ w19).drew
          have hbZ : Below w.heap.size w ((w19.alloc (.cells #[.int .i64 0, .int .i64 0, .slice none 0 0] 51)).drew) := (hb19.alloc hb19.size _).drew
          have SQ1 := HKS.out ((w19.alloc (.cells #[.int .i64 0, .int .i64 0, .slice none 0 0] 51)).drew) ((Below.refl _ w19).alloc (Nat.le_refl _) _).drew
          go_upto_region 31 with fail
          go_cut [17, 18] (fun s6 s7 wx => ∃ g B c, s6 = .pointer (some ⟨g, 0, none⟩) ∧ s7 = .bool bb ∧ StV 20 w19 g v B c wx)
          case first =>
            go_region_held3 (fun w' => w'.cell? ⟨w.heap.size, 0, none⟩ = some (.int .i64 t.data) ∧ w'.cell? ⟨w.heap.size, 1, none⟩ = some (.int .i64 t.index) ∧ w'.cell? ⟨w.heap.size + 1, 0, none⟩ = some (.int .i64 p.op) ∧ w'.cell? ⟨w.heap.size + 1, 1, none⟩ = some (.int .i64 p.ctor) ∧ w'.cell? ⟨w.heap.size + 1, 2, none⟩ = some (.int .i64 p.n) ∧ w'.cell? ⟨w.heap.size + 1, 3, none⟩ = some (.int .i64 p.m) ∧ w'.cell? ⟨w.heap.size + 1, 4, none⟩ = some (.int .i64 p.var) ∧ w'.cell? ⟨w.heap.size + 1, 5, none⟩ = some (.slice D p.kids.length ep)) (first | with_reducible exact SQ | with_reducible exact (HKS.out _ (hbq.alloc hbq.size _)) | with_reducible exact SQ1 | with_reducible exact (HKS.out _ (below_set3 hbq hgz _ _ _))) (first
              | (go_at_call 14; (with_reducible refine (toDataS_any _ _ _ w19.drew (Hr.out.at_ hb19.drew) (by omega)).mono ?_); rintro e w3 ⟨g3, rfl, hf3, hb'⟩; have hbq : Below w19.heap.size w19 w3 := ⟨hb'.os, hb'.tape, hb'.output, hb'.size, hb'.block⟩; have SQ := HKS.out _ hbq; have R3 := Lib.hid hf3.reads; have hs3 := hbq.size; clear hf3 hb')
              | (go_at_call 14; (with_reducible refine (toDataS_any _ _ _ ((w19.alloc (.cells #[.int .i64 0, .int .i64 0, .slice none 0 0] 51)).drew) (Hr.out.at_ hbZ) (by omega)).mono ?_); rintro e w3 ⟨g3, rfl, hf3, hb'⟩; have hbq : Below w19.heap.size w19 w3 := ((Below.refl _ w19).alloc (Nat.le_refl _) _).drew.trans (hb'.mono (by simp)); have SQ := HKS.out _ hbq; have hzb : ZbV w3 w19.heap.size := ZbV.at_ (w := (w19.alloc (.cells #[.int .i64 0, .int .i64 0, .slice none 0 0] 51)).drew) (ZbV.new w19) hb'; have hgz : w19.heap.size ≤ w19.heap.size := Nat.le_refl _; have R3 := Lib.hid hf3.reads; have hs3 := hbq.size; clear hf3 hb')
              | (go_at_call 15; (with_reducible refine (toType_any _ _ w3).mono ?_); rintro e w4 ⟨rfl, hb'⟩; have hbq := below_aft hbq hb' hbq.size; have SQ := HKS.out _ hbq; have R4 := Lib.hid (R3.out.at_ hb'); have hs4 := hb'.size; (try (have hzb : ZbV w4 w19.heap.size := hzb.at_ hb')); clear hb')
              | (go_at_call 15; (with_reducible refine (toType_any _ _ (w3.alloc (.cells #[.int .i64 0, .int .i64 0, .slice none 0 0] 51))).mono ?_); rintro e w4 ⟨rfl, hb'⟩; have hbq := below_aft (hbq.alloc hbq.size _) hb' (by simp; have := hbq.size; omega); have SQ := HKS.out _ hbq; have R4 := Lib.hid ((R3.out.at_ ((Below.refl _ _).alloc (Nat.le_refl _) _)).at_ hb'); have hs4 : w3.heap.size ≤ w4.heap.size := (by have := hb'.size; simp at this; omega); have hzb : ZbV w4 w3.heap.size := ZbV.at_ (ZbV.new w3) hb'; have hgz : w19.heap.size ≤ w3.heap.size := hs3; clear hb')
              | (go_at_call 22; (with_reducible refine (toPO_any e D p.kids ep p.op p.ctor p.n p.m p.var w4 (HV.out.at_ (below_aft hb19 hbq hb19.size)) hnv).mono ?_); rintro e5 w5 ⟨A5, rfl, ho5, hb'⟩; have hbq := below_aft hbq hb' hbq.size; have SQ := HKS.out _ hbq; have R5 := Lib.hid (R4.out.at_ hb'); have V5 := Lib.hid (OPs.reads _ ho5); have hs5 := hb'.size; (try (have hzb := hzb.at_ hb')); clear hb' ho5)
              | (go_at_call 22; (with_reducible refine (toPO_any e D p.kids ep p.op p.ctor p.n p.m p.var (w4.alloc (.cells #[.int .i64 0, .int .i64 0, .slice none 0 0] 51)) (HV.out.at_ ((below_aft hb19 hbq hb19.size).alloc (Nat.le_trans hb19.size hbq.size) _)) hnv).mono ?_); rintro e5 w5 ⟨A5, rfl, ho5, hb'⟩; have hbq0 := hbq; have hbq := below_aft (hbq.alloc hbq.size _) hb' (by simp; have := hbq0.size; omega); have SQ := HKS.out _ hbq; have R5 := Lib.hid ((R4.out.at_ ((Below.refl _ _).alloc (Nat.le_refl _) _)).at_ hb'); have V5 := Lib.hid (OPs.reads _ ho5); have hs5 : w4.heap.size ≤ w5.heap.size := (by have := hb'.size; simp at this; omega); have hzb : ZbV w5 w4.heap.size := ZbV.at_ (ZbV.new w4) hb'; have hgz : w19.heap.size ≤ w4.heap.size := hbq0.size; clear hb' ho5)
              | (go_at_call 26; (with_reducible refine (HIM.out _ _ _ _ w5 R5.out V5.out).mono ?_); rintro e6 w6 ⟨B0, c0, rfl, ho6, hb'⟩; have hbq := below_aft hbq hb' hbq.size; have SQ := HKS.out _ hbq; have O6 := Lib.hid ho6; (try (have hzd := hzb.at_ hb'; obtain ⟨k0, k1, k2, k3, k4, k5⟩ := hzd.cells)); clear ho6 hb')
              | (go_at_call 26; (with_reducible refine (HIM.out _ _ _ _ (w5.alloc (.cells #[.int .i64 0, .int .i64 0, .slice none 0 0] 51)) (R5.out.at_ ((Below.refl _ _).alloc (Nat.le_refl _) _)) (V5.out.at_ ((Below.refl _ _).alloc (Nat.le_refl _) _))).mono ?_); rintro e6 w6 ⟨B0, c0, rfl, ho6, hb'⟩; have hbq0 := hbq; have hbq := below_aft (hbq.alloc hbq.size _) hb' (by simp; have := hbq0.size; omega); have SQ := HKS.out _ hbq; have O6 := Lib.hid ho6; have hzd : ZbV w6 w5.heap.size := ZbV.at_ (ZbV.new w5) hb'; have hgz : w19.heap.size ≤ w5.heap.size := hbq0.size; obtain ⟨k0, k1, k2, k3, k4, k5⟩ := hzd.cells; clear ho6 hb'))
            all_goals
              go_wp2_with fail
              go_meet
              refine ⟨_, B0, c0, rfl, rfl, ?_⟩
              first
              | ((with_reducible refine StV.new hbq O6.out ?_); (intro b h; have h1 := h.1; have h2 := h.2; exact ⟨by omega, h2⟩))
              | ((unfold ZbV at hzd); (with_reducible refine StV.set hbq hzd hgz O6.out ?_); (intro b h; have h1 := h.1; have h2 := h.2; (try (have h3 := heap_lt hzb)); (try simp only [World.size_alloc] at h1); exact ⟨by omega, h2, by omega⟩))
          case rest =>
            clear SQ SQ1 hbZ
            obtain ⟨gs17, B2, c2, rfl, rfl, hst⟩ := hcut
            generalize wc = w20 at *
            have hb20' := hst.2.1
            have X20 : Hid (VBx w20 gs17 v.ctor v.n (.slice B2 v.kids.length c2)) := hst.cells
            have R20 : Hid (RVs 19 w20 w20.heap.size B2 v.kids) := OVs.reads 19 hst.2.2.2
            have hb20 := below_aft hb19 hb20' hb19.size
            have BA20 := Lib.hid (below_aft BA19.out hb20' BA19.out.size)
            have Y20 := Lib.hid (X19.out.at_ hb20')
            have Q20 : Hid (OVs 20 w20 (fun b => wb.heap.size ≤ b ∧ b < w9.heap.size ∧ b ≠ g12) B1 (numVs 1 v.kids)) := Q19.out.later hb20'
            clear hst hb20'
            obtain ⟨a0, a1, a2⟩ := X20.out
            obtain ⟨d0, d1, d2⟩ := XA.out.at_ BA20.out
            go_wp2_with fail
            refine (eqV_same 19 _ _ v.kids _ _ v.ctor v.n w20 R20.out (RA.out.at_ BA20.out)).mono ?_; rintro e21 w21 ⟨rfl, hb21'⟩
            have hb21 := below_aft hb20 hb21' hb20.size
            have X21 := Lib.hid (Y20.out.at_ hb21')
            have Q21 : Hid (OVs 20 w21 (fun b => wb.heap.size ≤ b ∧ b < w9.heap.size ∧ b ≠ g12) B1 (numVs 1 v.kids)) := Q20.out.later hb21'
            clear hb21' a0 a1 a2 d0 d1 d2
            obtain ⟨a0, a1, a2⟩ := X21.out
            go_wp2_with fail
            refine (heldV_any 19 _ v.kids _ v.ctor v.n 1 w21 (OVs.reads 19 Q21.out) hwk (by omega) (by omega)).mono ?_; rintro e22 w22 ⟨rfl, hb22'⟩
            have hb22 := below_aft hb21 hb22' hb21.size
            go_wp2_with fail
            go_ret
            exact ⟨rfl, hb22⟩
    · have H2 := Lib.hid (left_no h2)
      go_enter Tryz.func5, Tryz.ntmps5
      go_wp2_with (first | (go_at_call 11; rw [HW.out]; refine (szDataS_any _ _ _ _ _ (Hr.out.at_ hb0) (by omega) (by omega)).mono ?_; rw [H1.out]; rintro e1 w1 ⟨rfl, hb1⟩; obtain ⟨y0, y1, y2, y3, y4, y5⟩ := HXV.out.at_ hb1; have hb1w := below_aft hb0 hb1 hb0.size) | (go_at_call 20; refine (szP_any e D p.kids ep p.op p.ctor p.n p.m p.var _ _ (HV.out.at_ hb1w) (by omega) (by omega)).mono ?_; rw [H2.out]; rintro e2 w2 ⟨rfl, hb2⟩; have hb2w := below_aft hb1w hb2 hb1w.size))
      go_ret
      exact ⟨rfl, hb2w⟩
  · have H1 := Lib.hid (left_no h1)
    go_enter Tryz.func5, Tryz.ntmps5
    go_wp2_with (go_at_call 11; rw [HW.out]; refine (szDataS_any _ _ _ _ _ (Hr.out.at_ hb0) (by omega) (by omega)).mono ?_; rw [H1.out]; rintro e1 w1 ⟨rfl, hb1⟩; have hb1w := below_aft hb0 hb1 hb0.size)
    go_ret
    exact ⟨rfl, hb1w⟩
end Go.Proofs.YthecfkdilbfimaaGreat
