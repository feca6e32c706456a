/-
  The law of the values of least depth walked. No statement is proved here.
-/
import Derived.Test.YtholdmdkhbhokaaSLvC
import Derived.Test.YtholdmdkhbhokaaG04
import Derived.Test.YtholdmdkhbhokaaG01
import Derived.Deep.RegionHeld3
import Derived.Deep.DeepCutAuto
namespace Go.Proofs.Ytholdmdkhbhokaa
open Go.RowKit Go.Deep
set_option maxRecDepth 100000
set_option linter.unusedVariables false

set_option maxHeartbeats 8000000 in
theorem lv_law (A : Option Addr) (l : List Da) (cap : Nat) (t : Ty) (w : World) (hr : RDas w w.heap.size A l) :
    Calls Try.prog 7 #[.slice A l.length cap, .agg #[.int .i64 t.data, .int .i64 t.index]] w fun e w' => e = .returned (.bool true) ∧ Below w.heap.size w w' := by
  have Hr := Lib.hid hr
  clear hr
  have HX := Lib.hid (Bx.new w t 24)
  by_cases h1 : (wDas l : Int) ≤ 1048576
  · have H1 := Lib.hid (left_ok h1)
    have hlens := lens_le (l := l) (N := 1048576) (by omega)
    have hmd := mD_le l
    have HLN := Lib.hid hlens
    have HSP : Hid (∀ (B : Option Addr) (c : Nat) (W : World), RDas W W.heap.size B l → Calls Try.prog 35 #[.slice B l.length c, .agg #[.int .i64 t.data, .int .i64 t.index]] W fun e w' => ∃ B' c', e = .returned (.tuple #[.agg #[.int .i64 (lvR l t).ctor, .int .i64 (lvR l t).n, .slice B' (lvR l t).kids.length c'], .bool (lvB l t)]) ∧ OVs 10 w' (Nw W w') B' (lvR l t).kids ∧ Below W.heap.size W w') := fun B c W h => lv_spec B l c t W h
    have HIM : Hid (∀ (B : Option Addr) (c : Nat) (W : World), RDas W W.heap.size B l → Calls Try.prog 36 #[.slice B l.length c, .agg #[.int .i64 t.data, .int .i64 t.index]] W fun e w' => ∃ B' c', e = .returned (.tuple #[.agg #[.int .i64 (lvR l t).ctor, .int .i64 (lvR l t).n, .slice B' (lvR l t).kids.length c'], .bool (lvB l t)]) ∧ OVs 10 w' (Nw W w') B' (lvR l t).kids ∧ Below W.heap.size W w') := fun B c W h => lv_impl B l c t W h
    have hwv := lvR_w l t
    generalize lvR l t = v at HSP HIM hwv
    generalize lvB l t = bb at HSP HIM
    have hbb : (bb != bb) = false := by simp
    have hwk : wVs v.kids ≤ 200000 := by have := wV_kids v; omega
    have hmm : ∀ x : Int, (x != x) = false := fun x => by simp
    clear hlens hwv
    go_enter Try.func7, Try.ntmps7
    go_wp2_with fail
    refine (szDataS_any _ _ _ _ _ (Hr.out.keep (keep_one _) (by simp)) (by omega) (by omega)).mono ?_; rw [H1.out]; rintro e w1 ⟨rfl, hb1'⟩
    have HX1 := Lib.hid (HX.out.at_ hb1')
    have hb1 := below_one hb1'
    clear hb1' HX
    obtain ⟨x0, x1⟩ := HX1.out
    have hwlt : w.heap.size < w1.heap.size := Go.block_lt_of_cell x0
    go_upto_region 5 with fail
    go_cut [6, 7] (fun s6 s7 wx => ∃ g B c, s6 = .pointer (some ⟨g, 0, none⟩) ∧ s7 = .bool bb ∧ StV 10 w1 g v B c wx)
    case first =>
      go_region_with (first
        | (go_at_call 13; refine (toDataS_any _ _ _ w1.drew (Hr.out.at_ hb1.drew) (by omega)).mono ?_; rintro e w3 ⟨g3, rfl, hf3, hb3'⟩; have hb3 : Below w1.heap.size w1 w3 := ⟨hb3'.os, hb3'.tape, hb3'.output, hb3'.size, hb3'.block⟩; have R3 := Lib.hid hf3.reads; obtain ⟨y0, y1⟩ := HX1.out.at_ hb3; have hlt3 := Nat.lt_of_lt_of_le hwlt hb3.size; clear hf3 hb3')
        | (go_at_call 13; refine (toDataS_any _ _ _ (w1.drew.alloc (.cells #[.int .i64 0, .int .i64 0, .slice none 0 0] 56)) (Hr.out.at_ (hb1.drew.alloc hb1.size _)) (by omega)).mono ?_; rintro e w3 ⟨g3, rfl, hf3, hb3'⟩; have hb3 : Below w1.heap.size w1 w3 := ((Below.refl _ w1).drew.alloc (Nat.le_refl _) _).trans (hb3'.mono (by simp)); have hzb : ZbV w3 w1.heap.size := ZbV.at_ (ZbV.new w1.drew) hb3'; have R3 := Lib.hid hf3.reads; obtain ⟨y0, y1⟩ := HX1.out.at_ hb3; have hlt3 := Nat.lt_of_lt_of_le hwlt hb3.size; clear hf3 hb3')
        | (go_at_call 14; refine (toType_any _ _ w3).mono ?_; rintro e w4 ⟨rfl, hb4'⟩; have hb4 := below_aft hb3 hb4' hb3.size; have R4 := Lib.hid (R3.out.at_ hb4'); have hlt4 := Nat.lt_of_lt_of_le hwlt hb4.size; have hs34 := hb4'.size; (try (have hzc : ZbV w4 w1.heap.size := hzb.at_ hb4')); clear hb4')
        | (go_at_call 14; refine (toType_any _ _ (w3.alloc (.cells #[.int .i64 0, .int .i64 0, .slice none 0 0] 56))).mono ?_; rintro e w4 ⟨rfl, hb4'⟩; have hb4 := below_aft (hb3.alloc hb3.size _) hb4' (by simp; have := hb3.size; omega); have R4 := Lib.hid ((R3.out.at_ ((Below.refl _ _).alloc (Nat.le_refl _) _)).at_ hb4'); have hlt4 := Nat.lt_of_lt_of_le hwlt hb4.size; have hs34 := hb3.size; have hzc : ZbV w4 w3.heap.size := ZbV.at_ (ZbV.new w3) hb4'; clear hb4')
        | (go_at_call 35; refine (HSP.out _ _ w4 R4.out).mono ?_; rintro e w5 ⟨B0, c0, rfl, ho0, hb5'⟩; have hb5 := below_aft hb4 hb5' hb4.size; have O5 := Lib.hid ho0; (try (have hzd := hzc.at_ hb5'; obtain ⟨k0, k1, k2, k3, k4, k5⟩ := hzd.cells)); clear ho0)
        | (go_at_call 35; refine (HSP.out _ _ (w4.alloc (.cells #[.int .i64 0, .int .i64 0, .slice none 0 0] 56)) (R4.out.at_ ((Below.refl _ _).alloc (Nat.le_refl _) _))).mono ?_; rintro e w5 ⟨B0, c0, rfl, ho0, hb5'⟩; have hb5 := below_aft (hb4.alloc hb4.size _) hb5' (by simp; have := hb4.size; omega); have O5 := Lib.hid ho0; have hzd : ZbV w5 w4.heap.size := ZbV.at_ (ZbV.new w4) hb5'; obtain ⟨k0, k1, k2, k3, k4, k5⟩ := hzd.cells; clear ho0))
      all_goals
        go_wp2_with fail
        go_meet
        first
        | exact ⟨_, _, _, rfl, rfl, StV.new hb5 O5.out (fun b h => ⟨Nat.le_trans hb4.size h.1, h.2⟩)⟩
        | exact ⟨_, _, _, rfl, rfl, StV.set hb5 hzd (by first | exact Nat.le_refl _ | exact hs34 | exact hb4.size) O5.out (fun b h => ⟨Nat.le_trans hb4.size h.1, h.2, by have h1 := h.1; have h2 := heap_lt hzc; omega⟩)⟩
        | exact ⟨_, _, _, rfl, rfl, StV.set hb5 hzd hb4.size O5.out (fun b h => by have h1 := h.1; have h2 := h.2; have h3 := hb4.size; simp only [World.size_alloc] at h1; exact ⟨by omega, h2, by omega⟩)⟩
    case rest =>
      obtain ⟨gs6, B0, c0, rfl, rfl, hst⟩ := hcut
      generalize wc = wa at *
      have hba := hst.2.1
      have XA : Hid (VBx wa gs6 v.ctor v.n (.slice B0 v.kids.length c0)) := hst.cells
      have RA : Hid (RVs 9 wa wa.heap.size B0 v.kids) := OVs.reads 9 hst.2.2.2
      have hbA := below_aft hb1 hba hb1.size
      have HXA := Lib.hid (HX1.out.at_ hba)
      have hlens := HLN.out
      clear hba hst x0 x1 hwlt
      obtain ⟨z0, z1⟩ := HXA.out
      -- the copy that is handed to the program
      go_wp2_with fail
      refine (toDataS_any _ _ _ _ (Hr.out.at_ hbA) (by omega)).mono ?_; rintro e w6 ⟨g6, rfl, hf6, hb6'⟩
      have hb6 := below_then hbA hb6'
      have BA6 := Lib.hid hb6'
      have R6 := Lib.hid hf6.reads
      have SH6 := Lib.hid hf6.shape
      have HX6 := Lib.hid (HXA.out.at_ hb6')
      clear hb6' hf6
      obtain ⟨z0, z1⟩ := HX6.out
      go_wp2_with fail
      refine (toType_any _ _ _).mono ?_; rintro e w7 ⟨rfl, hb7'⟩
      have hb7 := below_then hb6 hb7'
      have BA7 := Lib.hid (below_then BA6.out hb7')
      have B67 := Lib.hid hb7'
      clear hb6 hb7' z0 z1
      go_wp2_with fail
      refine (HIM.out _ _ _ (R6.out.at_ B67.out)).mono ?_; rintro e w8 ⟨B1, c1, rfl, ho1, hb8'⟩
      have hb8 := below_then hb7 hb8'
      have BA8 := Lib.hid (below_then BA7.out hb8')
      have B68 := Lib.hid (below_then B67.out hb8')
      have O8 := Lib.hid ho1
      have h78 : w7.heap.size ≤ w8.heap.size := hb8'.size
      have h67 : w6.heap.size ≤ w7.heap.size := B67.out.size
      clear hb7 hb8' ho1
      obtain ⟨a0, a1, a2⟩ := XA.out.at_ BA8.out
      have hgs : gs6 < w8.heap.size := Go.block_lt_of_cell a0
      go_wp2_with fail
      obtain ⟨w9, hw9⟩ : ∃ w9, w9 = w8.alloc (.cells #[.int .i64 v.ctor, .int .i64 v.n, .slice B1 v.kids.length c1] 56) := ⟨_, rfl⟩
      rw [← hw9]
      have hb9' : Below w8.heap.size w8 w9 := by rw [hw9]; exact (Below.refl _ _).alloc (Nat.le_refl _) _
      have X9 : Hid (VBx w9 w8.heap.size v.ctor v.n (.slice B1 v.kids.length c1)) := by rw [hw9]; exact ⟨by simp [go_sem], by simp [go_sem], by simp [go_sem]⟩
      have h89 : w8.heap.size < w9.heap.size := by rw [hw9]; simp
      have hb9 := below_then hb8 hb9'
      have BA9 := Lib.hid (below_then BA8.out hb9')
      have B69 := Lib.hid (below_then B68.out hb9')
      have O9 : Hid (OVs 10 w9 (Nw w7 w8) B1 v.kids) := O8.out.fr _ (Fr.below (P := fun _ => False) hb9') (fun _ _ h => h)
      clear hw9 hb8 hb9'
      refine (eqV_same 9 _ _ v.kids _ _ v.ctor v.n _ (OVs.reads 9 O9.out) (RA.out.at_ BA9.out)).mono ?_; rintro e w10 ⟨rfl, hb10'⟩
      have hb10 := below_then hb9 hb10'
      have BA10 := Lib.hid (below_then BA9.out hb10')
      have B610 := Lib.hid (below_then B69.out hb10')
      have B910 := Lib.hid hb10'
      clear hb9 hb10' a0 a1 a2 hgs
      go_wp2_with fail
      refine (toDataS_any _ _ _ _ (Hr.out.at_ hb10) (by omega)).mono ?_; rintro e w11 ⟨g11, rfl, hf11, hb11'⟩
      have hb11 := below_then hb10 hb11'
      have R11 := Lib.hid hf11.reads
      have B611 := Lib.hid (below_then B610.out hb11')
      have B911 := Lib.hid (below_then B910.out hb11')
      clear hb10 hb11' hf11
      go_wp2_with fail
      refine (eqDataS_same _ _ _ _ _ _ (R6.out.at_ B611.out) R11.out).mono ?_; rintro e w12 ⟨rfl, hb12'⟩
      have hb12 := below_then hb11 hb12'
      have B612 := Lib.hid (below_then B611.out hb12')
      have B912 := Lib.hid (below_then B911.out hb12')
      have BA12 := Lib.hid (below_then BA6.out B612.out)
      clear hb11 hb12' R11
      have hlo : wa.heap.size ≤ w6.heap.size := BA6.out.size
      have h912 := B912.out.size
      go_wp2_with fail
      refine (markDataS_any _ l _ wa.heap.size w6.heap.size 1 _ (Nat.le_trans hlo B612.out.size) hlens.1 hlens.2 (by omega) (by omega) (SH6.out.kept (Kept.below B612.out hlo))).mono ?_; rintro e w13 ⟨rfl, hk13⟩
      have hb13 : Below w.heap.size w w13 := hb12.trans (hk13.1.mono (by have := hbA.size; omega))
      have BA13 : Hid (Below wa.heap.size wa w13) := BA12.out.trans hk13.1
      have F13 := Lib.hid (Fr.kept hk13)
      have h1213 : w12.heap.size ≤ w13.heap.size := hk13.1.size
      have O13 : Hid (OVs 10 w13 (Nw w7 w8) B1 v.kids) := (O9.out.fr _ (Fr.below (P := fun _ => False) B912.out) (fun _ _ h => h)).fr _ F13.out (fun b h1 h2 => by have := h1.1; have := h2.2; omega)
      have X13 : Hid (VBx w13 w8.heap.size v.ctor v.n (.slice B1 v.kids.length c1)) := by
        obtain ⟨q0, q1, q2⟩ := X9.out.at_ B912.out
        have hg : w13.heap[w8.heap.size]? = w12.heap[w8.heap.size]? := F13.out.2.2.2.2 _ (by omega) (fun h2 => by have := h2.2; omega)
        exact ⟨(World.cell?_of_block (a := ⟨w8.heap.size, 0, none⟩) hg).trans q0, (World.cell?_of_block (a := ⟨w8.heap.size, 1, none⟩) hg).trans q1, (World.cell?_of_block (a := ⟨w8.heap.size, 2, none⟩) hg).trans q2⟩
      clear hb12 hk13 F13
      obtain ⟨a0, a1, a2⟩ := XA.out.at_ BA13.out
      obtain ⟨e0, e1, e2⟩ := X13.out
      go_wp2_with fail
      refine (eqV_same 9 _ _ v.kids _ _ v.ctor v.n _ (OVs.reads 9 O13.out) (RA.out.at_ BA13.out)).mono ?_; rintro e w14 ⟨rfl, hb14'⟩
      have hb14 := below_then hb13 hb14'
      have BA14 := Lib.hid (below_then BA13.out hb14')
      have O14 : Hid (OVs 10 w14 (Nw w7 w8) B1 v.kids) := O13.out.fr _ (Fr.below (P := fun _ => False) hb14') (fun _ _ h => h)
      have X14 := Lib.hid (X13.out.at_ hb14')
      have h1314 : w13.heap.size ≤ w14.heap.size := hb14'.size
      clear hb13 hb14' a0 a1 a2 e0 e1 e2 O13 X13
      obtain ⟨e0, e1, e2⟩ := X14.out
      go_wp2_with fail
      refine (markV_any 10 (Nw w7 w8) _ v.kids _ v.ctor v.n 1 _ O14.out (fun b h => by have := h.2; omega) (by omega) (by omega) (by omega)).mono ?_; rintro e w15 ⟨rfl, ho15, hf15⟩
      have hpa : ∀ b, b < wa.heap.size → ¬ Nw w7 w8 b := fun b h h2 => by have := h2.1; have := BA7.out.size; omega
      have hb15 : Below w.heap.size w w15 := hb14.trans (hf15.to hb14.size (fun b h => hpa b (by have := hbA.size; omega)))
      have BA15 : Hid (Below wa.heap.size wa w15) := BA14.out.trans (hf15.to BA14.out.size hpa)
      have O15 := Lib.hid ho15
      have X15 : Hid (VBx w15 w8.heap.size v.ctor v.n (.slice B1 v.kids.length c1)) := by
        obtain ⟨q0, q1, q2⟩ := X14.out
        have hg : w15.heap[w8.heap.size]? = w14.heap[w8.heap.size]? := hf15.2.2.2.2 _ (by omega) (fun h2 => by have := h2.2; omega)
        exact ⟨(World.cell?_of_block (a := ⟨w8.heap.size, 0, none⟩) hg).trans q0, (World.cell?_of_block (a := ⟨w8.heap.size, 1, none⟩) hg).trans q1, (World.cell?_of_block (a := ⟨w8.heap.size, 2, none⟩) hg).trans q2⟩
      clear hb14 ho15 hf15 e0 e1 e2 O14 X14
      obtain ⟨e0, e1, e2⟩ := X15.out
      go_wp2_with fail
      refine (heldV_any 9 _ v.kids _ v.ctor v.n 1 _ (OVs.reads 9 O15.out) (by omega) (by omega) (by omega)).mono ?_; rintro e w16 ⟨rfl, hb16'⟩
      have hb16 := below_then hb15 hb16'
      have BA16 := Lib.hid (below_then BA15.out hb16')
      have O16 : Hid (OVs 10 w16 (Nw w7 w8) B1 (numVs 1 v.kids)) := O15.out.fr _ (Fr.below (P := fun _ => False) hb16') (fun _ _ h => h)
      have X16 := Lib.hid (X15.out.at_ hb16')
      clear hb15 hb16' e0 e1 e2 O15 X15
      obtain ⟨u0, u1⟩ := HXA.out.at_ BA16.out
      have hqm := hmm (1 + 2 * (wVs v.kids : Int))
      have hwlt : w.heap.size < w16.heap.size := Go.block_lt_of_cell u0
      have HX16 := Lib.hid (HXA.out.at_ BA16.out)
      go_upto_region 24 with fail
      go_cut [14, 15] (fun s6 s7 wx => ∃ g B c, s6 = .pointer (some ⟨g, 0, none⟩) ∧ s7 = .bool bb ∧ StV 10 w16 g v B c wx)
      case first =>
        go_region_with (first
          | (go_at_call 13; refine (toDataS_any _ _ _ w16.drew (Hr.out.at_ hb16.drew) (by omega)).mono ?_; rintro e w3 ⟨g3, rfl, hf3, hb3'⟩; have hb3 : Below w16.heap.size w16 w3 := ⟨hb3'.os, hb3'.tape, hb3'.output, hb3'.size, hb3'.block⟩; have R3 := Lib.hid hf3.reads; obtain ⟨y0, y1⟩ := HX16.out.at_ hb3; have hlt3 := Nat.lt_of_lt_of_le hwlt hb3.size; clear hf3 hb3')
          | (go_at_call 13; refine (toDataS_any _ _ _ (w16.drew.alloc (.cells #[.int .i64 0, .int .i64 0, .slice none 0 0] 56)) (Hr.out.at_ (hb16.drew.alloc hb16.size _)) (by omega)).mono ?_; rintro e w3 ⟨g3, rfl, hf3, hb3'⟩; have hb3 : Below w16.heap.size w16 w3 := ((Below.refl _ w16).drew.alloc (Nat.le_refl _) _).trans (hb3'.mono (by simp)); have hzb : ZbV w3 w16.heap.size := ZbV.at_ (ZbV.new w16.drew) hb3'; have R3 := Lib.hid hf3.reads; obtain ⟨y0, y1⟩ := HX16.out.at_ hb3; have hlt3 := Nat.lt_of_lt_of_le hwlt hb3.size; clear hf3 hb3')
          | (go_at_call 14; refine (toType_any _ _ w3).mono ?_; rintro e w4 ⟨rfl, hb4'⟩; have hb4 := below_aft hb3 hb4' hb3.size; have R4 := Lib.hid (R3.out.at_ hb4'); have hlt4 := Nat.lt_of_lt_of_le hwlt hb4.size; have hs34 := hb4'.size; (try (have hzc : ZbV w4 w16.heap.size := hzb.at_ hb4')); clear hb4')
          | (go_at_call 14; refine (toType_any _ _ (w3.alloc (.cells #[.int .i64 0, .int .i64 0, .slice none 0 0] 56))).mono ?_; rintro e w4 ⟨rfl, hb4'⟩; have hb4 := below_aft (hb3.alloc hb3.size _) hb4' (by simp; have := hb3.size; omega); have R4 := Lib.hid ((R3.out.at_ ((Below.refl _ _).alloc (Nat.le_refl _) _)).at_ hb4'); have hlt4 := Nat.lt_of_lt_of_le hwlt hb4.size; have hs34 := hb3.size; have hzc : ZbV w4 w3.heap.size := ZbV.at_ (ZbV.new w3) hb4'; clear hb4')
          | (go_at_call 36; refine (HIM.out _ _ w4 R4.out).mono ?_; rintro e w5 ⟨B0, c0, rfl, ho0, hb5'⟩; have hb5 := below_aft hb4 hb5' hb4.size; have O5 := Lib.hid ho0; (try (have hzd := hzc.at_ hb5'; obtain ⟨k0, k1, k2, k3, k4, k5⟩ := hzd.cells)); clear ho0)
          | (go_at_call 36; refine (HIM.out _ _ (w4.alloc (.cells #[.int .i64 0, .int .i64 0, .slice none 0 0] 56)) (R4.out.at_ ((Below.refl _ _).alloc (Nat.le_refl _) _))).mono ?_; rintro e w5 ⟨B0, c0, rfl, ho0, hb5'⟩; have hb5 := below_aft (hb4.alloc hb4.size _) hb5' (by simp; have := hb4.size; omega); have O5 := Lib.hid ho0; have hzd : ZbV w5 w4.heap.size := ZbV.at_ (ZbV.new w4) hb5'; obtain ⟨k0, k1, k2, k3, k4, k5⟩ := hzd.cells; clear ho0))
        all_goals
          go_wp2_with fail
          go_meet
          first
          | exact ⟨_, _, _, rfl, rfl, StV.new hb5 O5.out (fun b h => ⟨Nat.le_trans hb4.size h.1, h.2⟩)⟩
          | exact ⟨_, _, _, rfl, rfl, StV.set hb5 hzd (by first | exact Nat.le_refl _ | exact hs34 | exact hb4.size) O5.out (fun b h => ⟨Nat.le_trans hb4.size h.1, h.2, by have h1 := h.1; have h2 := heap_lt hzc; omega⟩)⟩
          | exact ⟨_, _, _, rfl, rfl, StV.set hb5 hzd hb4.size O5.out (fun b h => by have h1 := h.1; have h2 := h.2; have h3 := hb4.size; simp only [World.size_alloc] at h1; exact ⟨by omega, h2, by omega⟩)⟩
      case rest =>
        obtain ⟨gs20, B2, c2, rfl, rfl, hst⟩ := hcut
        generalize wc = w20 at *
        have B20 := Lib.hid hst.2.1
        have X20 : Hid (VBx w20 gs20 v.ctor v.n (.slice B2 v.kids.length c2)) := hst.cells
        have R20 : Hid (RVs 9 w20 w20.heap.size B2 v.kids) := OVs.reads 9 hst.2.2.2
        clear hst u0 u1 hwlt
        have BA20 := Lib.hid (below_then BA16.out B20.out)
        obtain ⟨a0, a1, a2⟩ := XA.out.at_ BA20.out
        obtain ⟨e0, e1, e2⟩ := X20.out
        go_wp2_with fail
        refine (eqV_same 9 _ _ v.kids _ _ v.ctor v.n _ R20.out (RA.out.at_ BA20.out)).mono ?_; rintro e w21 ⟨rfl, hb21'⟩
        have B21 := below_then B20.out hb21'
        have hb21 := below_then hb16 B21
        have O21 : Hid (OVs 10 w21 (Nw w7 w8) B1 (numVs 1 v.kids)) := O16.out.fr _ (Fr.below (P := fun _ => False) B21) (fun _ _ h => h)
        have X21 := Lib.hid (X16.out.at_ B21)
        clear a0 a1 a2 e0 e1 e2 hb21'
        obtain ⟨e0, e1, e2⟩ := X21.out
        go_wp2_with fail
        refine (heldV_any 9 _ v.kids _ v.ctor v.n 1 _ (OVs.reads 9 O21.out) (by omega) (by omega) (by omega)).mono ?_; rintro e w22 ⟨rfl, hb22'⟩
        have hb22 := below_then hb21 hb22'
        clear e0 e1 e2
        go_wp2_with fail
        go_ret
        exact ⟨rfl, hb22⟩
  · have H1 := Lib.hid (left_no h1)
    go_enter Try.func7, Try.ntmps7
    go_wp2_with fail
    refine (szDataS_any _ _ _ _ _ (Hr.out.keep (keep_one _) (by simp)) (by omega) (by omega)).mono ?_; rw [H1.out]; rintro e w1 ⟨rfl, hb1⟩
    go_wp2_with fail
    go_ret
    exact ⟨rfl, below_one hb1⟩
end Go.Proofs.Ytholdmdkhbhokaa
