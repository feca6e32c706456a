/-
  A value is drawn: the document's function. No statement is proved here.
-/
import Derived.Test.YtakhobhmplneeaaY21
import Derived.Test.YtakhobhmplneeaaY22
import Derived.Deep.RegionHeld3
import Derived.Lib.QuietBelow
namespace Go.Proofs.Ytakhobhmplneeaa
open Go.RowKit Go.Sort Go.Deep
set_option maxRecDepth 100000
set_option linter.unusedVariables false
theorem Fr.setNew {P : Nat → Prop} {w w1 : World} (h : Fr P w w1) {g i : Nat} {u : Value} (hg : w.heap.size ≤ g) : Fr P w (w1.setCell ⟨g, i, none⟩ u) :=
  ⟨h.1, h.2.1, h.2.2.1, by simpa [World.setCell] using h.size, fun b hb hp => (Below.heap_setCell _ _ _ _ (by simp only; omega)).trans (h.2.2.2.2 b hb hp)⟩
theorem Fr.andThen {P Q : Nat → Prop} {a b c : World} (h : Fr P a b) (h' : Fr Q b c) (hq : ∀ x, x < a.heap.size → Q x → P x) : Fr P a c :=
  ⟨h'.1.trans h.1, h'.2.1.trans h.2.1, h'.2.2.1.trans h.2.2.1, Nat.le_trans h.size h'.size, fun x hx hp => (h'.2.2.2.2 x (Nat.lt_of_lt_of_le hx h.size) (fun hQ => hp (hq x hx hQ))).trans (h.2.2.2.2 x hx hp)⟩
theorem RRd.fr {w w' : World} {B rb N : Nat} {P : Nat → Prop} (h : RRd w B rb N) (hf : Fr P w w') (hP : ∀ b, P b → b ≠ rb ∧ B ≤ b) : RRd w' B rb N := by
  obtain ⟨A, m, cap, p, h1, h2, h3, h4, h5⟩ := h
  refine ⟨A, m, cap, p, hf.block h1 (fun hp => (hP _ hp).1 rfl), h2, h3, h4, fun k hk => ?_⟩
  obtain ⟨b, off, x, e, hB, hc, hx⟩ := h5 k hk
  have := heap_lt h1
  exact ⟨b, off, x, e, hB, (World.cell?_of_block (a := ⟨b, off + k, none⟩) (hf.2.2.2.2 b (by omega) (fun hp => by have := (hP b hp).2; omega))).trans hc, hx⟩
theorem upto_every {f : Nat → Bool} : ∀ n, (∀ k, k < n → f k = true) → upto f n = true
  | 0, _ => rfl
  | n + 1, h => upto_t (upto_every n (fun k hk => h k (by omega))) (h n (by omega))
def DwQ (l : List Da) (n : Nat) (t : Ty) (B rb N : Nat) (w : World) (e : Ending) (w' : World) : Prop := ∃ (v : Vl) (A : Option Addr) (c : Nat), e = .returned (.agg #[.int .i64 v.ctor, .int .i64 v.n, .slice A v.kids.length c]) ∧ fitV l n t v = true ∧ (v.kids.length ≤ c ∧ c ≤ maxLen) ∧ OVc n w' (Nw w w') A v.kids ∧ RRd w' B rb (N + pk n) ∧ Fr (fun b => b = rb) w w'
def DwS (l : List Da) (n : Nat) : Prop := ∀ (A A2 : Option Addr) (T : List Int) (cap cap2 : Nat) (t : Ty) (dp : Int) (lo B rb N : Nat) (w : World), Rob w lo A l A2 T → rb < lo → St l T (l.length * 4 + 1) 0 0 → TyOK l t → Inh l t → ldep l t ≤ n → dp ≤ n → -1000 + (n : Int) ≤ dp → dp ≤ 1000 → RRd w B rb N → N + pk n ≤ 90000 →
  Calls Try.prog 33 #[.pointer (some ⟨rb, 0, none⟩), .slice A l.length cap, .slice A2 (l.length * 4) cap2, .agg #[.int .i64 t.data, .int .i64 t.index], .int .i64 dp] w (DwQ l n t B rb N w)
/-- Those of the first k constructors that serve. -/
def FineI (l : List Da) (t : Ty) (dp : Int) (k : Nat) (xs : List Int) : Prop := xs.length ≤ k ∧ (∀ x ∈ xs, x ∈ ctR l t ∧ 0 < mdp l (agR l t x) ∧ (mdp l (agR l t x) ≤ dp ∨ mdp l (agR l t x) = ldep l t)) ∧ ∀ j (h : j < (ctR l t).length), j < k → 0 < mdp l (agR l t (ctR l t)[j]) → mdp l (agR l t (ctR l t)[j]) = ldep l t → (ctR l t)[j] ∈ xs
theorem FineI.zero (l : List Da) (t : Ty) (dp : Int) : FineI l t dp 0 [] := ⟨Nat.le_refl _, fun x h => by simp at h, fun j _ h => absurd h (Nat.not_lt_zero _)⟩
theorem FineI.yes {l : List Da} {t : Ty} {dp : Int} {k : Nat} {xs : List Int} (h : FineI l t dp k xs) (hk : k < (ctR l t).length) (h0 : 0 < mdp l (agR l t (ctR l t)[k]) ∧ (mdp l (agR l t (ctR l t)[k]) ≤ dp ∨ mdp l (agR l t (ctR l t)[k]) = ldep l t)) : FineI l t dp (k + 1) (xs ++ [(ctR l t)[k]]) := by
  refine ⟨by have := h.1; simp; omega, fun x hx => ?_, fun j hj hjk h1 h2 => ?_⟩
  · rcases List.mem_append.1 hx with hx | hx
    · exact h.2.1 x hx
    · rw [List.mem_singleton.1 hx]; exact ⟨List.getElem_mem hk, h0.1, h0.2⟩
  · by_cases e : j = k
    · subst e; exact List.mem_append.2 (.inr (List.mem_singleton.2 rfl))
    · exact List.mem_append.2 (.inl (h.2.2 j hj (by omega) h1 h2))
theorem FineI.no {l : List Da} {t : Ty} {dp : Int} {k : Nat} {xs : List Int} (h : FineI l t dp k xs) (hk : k < (ctR l t).length) (h0 : ¬ (0 < mdp l (agR l t (ctR l t)[k]) ∧ (mdp l (agR l t (ctR l t)[k]) ≤ dp ∨ mdp l (agR l t (ctR l t)[k]) = ldep l t))) : FineI l t dp (k + 1) xs := by
  refine ⟨by have := h.1; omega, h.2.1, fun j hj hjk h1 h2 => ?_⟩
  by_cases e : j = k
  · subst e; exact absurd ⟨h1, .inr h2⟩ h0
  · exact h.2.2 j hj (by omega) h1 h2
theorem FineI.some {l : List Da} {t : Ty} {dp : Int} {k : Nat} {xs : List Int} (h : FineI l t dp k xs) (hk : (ctR l t).length ≤ k) (hok : TyOK l t) (hd : ¬ t.data = -1) (hi : Inh l t) : 0 < xs.length := by
  obtain ⟨x, hx, he⟩ := least_ctor hok hd hi
  obtain ⟨j, hj, rfl⟩ := List.getElem_of_mem hx
  exact List.length_pos_of_mem (h.2.2 j hj (by omega) (by rw [he]; exact ldep_yes hi) he)
set_option maxHeartbeats 1600000 in
theorem dw_int (l : List Da) (n : Nat) (A A2 : Option Addr) (cap M cap2 : Nat) (t : Ty) (dp : Int) (B rb N : Nat) (w : World) (h1 : t.data = -1) (hR : RRd w B rb N) (hN : N + pk (n + 1) ≤ 90000) :
    Calls Try.prog 33 #[.pointer (some ⟨rb, 0, none⟩), .slice A l.length cap, .slice A2 M cap2, .agg #[.int .i64 t.data, .int .i64 t.index], .int .i64 dp] w (DwQ l (n + 1) t B rb N w) := by
  have q1 := ieq_t h1
  have HFT : Hid (∀ k : Nat, k ≤ 9 → fitV l (n + 1) t (.mk (-1) k []) = true) := fun k hk => by
    rw [fit_int h1]
    simp only [Vl.ctor, Vl.n, Vl.kids, List.length_nil, Bool.and_eq_true, decide_eq_true_eq]
    exact ⟨trivial, decide_eq_true (by omega), decide_eq_true (by omega), trivial⟩
  have hpk : pk (n + 1) = 1 + 3 * pk n := rfl
  have hlt := hR.lt
  have hge := hR.ge
  generalize hwx : (w.alloc (.cells #[.int .i64 t.data, .int .i64 t.index] 25)).alloc (.cells #[.int .i64 0, .int .i64 0, .slice none 0 0] 28) = wx
  have hbx := below_box2 hwx
  have HRX : Hid (RRd wx B rb N) := hR.below hbx
  have HZX : Hid (wx.heap[w.heap.size + 1]? = some (.cells #[.int .i64 0, .int .i64 0, .slice none 0 0] 28 (0, 0))) := by
    have h := heap_alloc_new (w.alloc (.cells #[.int .i64 t.data, .int .i64 t.index] 25)) (.cells #[.int .i64 0, .int .i64 0, .slice none 0 0] 28)
    simp only [World.size_alloc] at h
    unfold Hid; rw [← hwx]; exact h
  have x0 : wx.cell? ⟨w.heap.size, 0, none⟩ = some (.int .i64 t.data) := by rw [← hwx]; simp [go_sem]
  have HWX := Lib.hid hwx
  clear hwx h1 hR
  go_enter Try.func33, Try.ntmps33
  go_wp2_with fail
  rw [HWX.out]
  refine (pick_any rb B N 10 _ HRX.out (by omega)).mono ?_
  rintro e w1 ⟨k, rfl, hk, hR1, hg1⟩
  have hz1 := hg1.size
  have hz0 := heap_lt HZX.out
  have hZ1 : w1.heap[w.heap.size + 1]? = some (.cells #[.int .i64 0, .int .i64 0, .slice none 0 0] 28 (0, 0)) := (hg1.block _ hz0 (fun e => by injection e with e; omega)).trans HZX.out
  have HZ1 := Lib.hid hZ1
  have hF : Fr (fun b => b = rb) w w1 := (Fr.below hbx).trans (Fr.grown hg1 (fun b e => by injection e))
  have HF : Hid (DwQ l (n + 1) t B rb N w (.returned (.agg #[.int .i64 (-1), .int .i64 k, .slice none 0 0])) (((w1.setCell ⟨w.heap.size + 1, 0, none⟩ (.int .i64 (-1))).setCell ⟨w.heap.size + 1, 1, none⟩ (.int .i64 k)).setCell ⟨w.heap.size + 1, 2, none⟩ (.slice none 0 0))) :=
    ⟨.mk (-1) k [], none, 0, rfl, HFT.out k (by omega), ⟨Nat.le_refl _, by unfold maxLen; omega⟩, OVc.nil _ _ _ _, (((hR1.setCell (by omega) (by omega)).setCell (by omega) (by omega)).setCell (by omega) (by omega)).more (by omega), ((hF.setNew (by omega)).setNew (by omega)).setNew (by omega)⟩
  have z0 := (cell_of_blk hZ1 0).trans rfl
  have z1 := (cell_of_blk hZ1 1).trans rfl
  have z2 := (cell_of_blk hZ1 2).trans rfl
  have f0 := frozen_of_row w1 (w.heap.size + 1) 0 _ 28 hZ1
  have f1 := frozen_of_row w1 (w.heap.size + 1) 1 _ 28 hZ1
  have f2 := frozen_of_row w1 (w.heap.size + 1) 2 _ 28 hZ1
  clear hR1 hg1 hF hZ1 hk
  go_wp2_with fail
  exact bodyPost_ret (v := .agg #[.int .i64 (-1), .int .i64 k, .slice none 0 0]) (by simp [results, Try.results33, go_sem, z0, z1, z2]) rfl HF.out
set_option maxHeartbeats 8000000 in
theorem dw_step (l : List Da) (n : Nat) (hw : WorldOK l) (ih : DwS l n) : DwS l (n + 1) := by
  intro A A2 T cap cap2 t dp lo B rb N w hrob hlo hS ht hi ht5 hdp hdp0 hdp1 hR hN
  by_cases h1 : t.data = -1
  · exact dw_int l n A A2 cap _ cap2 t dp B rb N w h1 hR hN
  obtain ⟨i0, hi0, hz0, hz1, hz2⟩ := info_parts infoOVc
  obtain ⟨j0, hj0, hy0, hy1, hy2⟩ := info_parts info3
  have hpk : pk (n + 1) = 1 + 3 * pk n := rfl
  have HPK := Lib.hid hpk
  have HN := Lib.hid hN
  have q1 := ieq_f h1
  have H1 := Lib.hid h1
  have HROB := Lib.hid hrob
  have HLO := Lib.hid hlo
  have HS := Lib.hid hS
  have HK := Lib.hid ht
  have HI := Lib.hid hi
  have IH := Lib.hid ih
  have HW := Lib.hid hw
  have H5 := Lib.hid ht5
  have HD5 := Lib.hid hdp
  have HD0 := Lib.hid hdp0
  have HD1 := Lib.hid hdp1
  have hl4 := hw.1
  have HIX := Lib.hid (tys_ix (ok_tys ht))
  have hcl := ctR_len l t
  have hrl := hR.lt
  have hrg := hR.ge
  have HRL : Hid (rb < w.heap.size ∧ B ≤ rb) := ⟨hrl, hrg⟩
  generalize hwx : (w.alloc (.cells #[.int .i64 t.data, .int .i64 t.index] 25)).alloc (.cells #[.int .i64 0, .int .i64 0, .slice none 0 0] 28) = wx
  have hbx := below_box2 hwx
  have HXT : Hid (Bx wx w.heap.size t) := by rw [← hwx]; exact ⟨by simp [go_sem], by simp [go_sem]⟩
  have HXR : Hid (wx.heap[w.heap.size + 1]? = some (.cells #[.int .i64 0, .int .i64 0, .slice none 0 0] 28 (0, 0))) := by
    have h := heap_alloc_new (w.alloc (.cells #[.int .i64 t.data, .int .i64 t.index] 25)) (.cells #[.int .i64 0, .int .i64 0, .slice none 0 0] 28)
    simp only [World.size_alloc] at h
    unfold Hid; rw [← hwx]; exact h
  have HRX := Lib.hid (hR.below hbx)
  have HWX := Lib.hid hwx
  clear h1 hrob hlo hS ht hi ih hw ht5 hdp hdp0 hdp1 hR hN hpk hrl hrg hwx
  have HSX : Hid (Stays lo w wx) := Stays.below hbx
  obtain ⟨x0, x1⟩ := HXT.out
  go_enter Try.func33, Try.ntmps33
  go_wp2_with fail
  rw [HWX.out]
  refine (l1Ctors_all A l cap t _ (HROB.out _ HSX.out).1 HK.out).mono ?_
  rintro e w1 ⟨v1, rfl, ho1, hb1⟩
  obtain ⟨A1, c1, rfl, hr1⟩ := ho1.form (by unfold maxLen; omega)
  have HR1 := Lib.hid hr1
  have HB1 := Lib.hid (below_aft hbx hb1 hbx.size)
  have HX1 := Lib.hid (HXT.out.at_ hb1)
  have HXR1 : Hid (w1.heap[w.heap.size + 1]? = some (.cells #[.int .i64 0, .int .i64 0, .slice none 0 0] 28 (0, 0))) := (hb1.block _ (heap_lt HXR.out)).trans HXR.out
  have HRR1 := Lib.hid (HRX.out.below hb1)
  clear hr1 ho1 hb1 x0 x1 hbx
  go_wp2_with fail
  generalize hwf : w1.alloc (.cells #[] 3) = wf
  have HBF : Hid (Below w1.heap.size w1 wf) := by unfold Hid; rw [← hwf]; exact (Below.refl _ _).alloc (Nat.le_refl _) _
  have HO0 : Hid (OInts wf w1.heap.size (.slice (some ⟨w1.heap.size, 0, none⟩) 0 0) []) := by
    unfold Hid OInts
    rw [← hwf]
    have := World.ownsRow_lit (base := w1.heap.size) (e := 3) (size := 1) w1 #[] 0 (by simp) (by simp) rfl
    simpa using this
  clear hwf
  go_loopw [12, 13] (fun v i wr => ∃ k xs, k ≤ (ctR l t).length ∧ i = .int .i64 (k : Nat) ∧ Hid (FineI l t dp k xs) ∧ OInts wr w1.heap.size v xs ∧ Below w1.heap.size w1 wr) (fun _ i _ => (ctR l t).length - (intOf i).toNat)
  case atStart => exact ⟨0, [], by omega, rfl, FineI.zero l t dp, HO0.out, HBF.out⟩
  case round =>
    obtain ⟨k, xs, hk, rfl, HFI, hown, hb⟩ := hrel
    have HO := Lib.hid hown
    clear hown HO0
    by_cases hlt : k < (ctR l t).length
    · have hkI : (k : Int) < ((ctR l t).length : Int) := by omega
      obtain ⟨b, off, rfl, hbB, c0⟩ := (HR1.out.at_ hb).2 k hlt
      obtain ⟨x0, x1⟩ := HX1.out.at_ hb
      have HXM : Hid ((ctR l t)[k] ∈ ctR l t) := List.getElem_mem hlt
      have HYES : Hid ((0 < mdp l (agR l t (ctR l t)[k]) ∧ (mdp l (agR l t (ctR l t)[k]) ≤ dp ∨ mdp l (agR l t (ctR l t)[k]) = ldep l t)) → FineI l t dp (k + 1) (xs ++ [(ctR l t)[k]])) := fun h => HFI.out.yes hlt h
      have HNO : Hid (¬ (0 < mdp l (agR l t (ctR l t)[k]) ∧ (mdp l (agR l t (ctR l t)[k]) ≤ dp ∨ mdp l (agR l t (ctR l t)[k]) = ldep l t)) → FineI l t dp (k + 1) xs) := fun h => HFI.out.no hlt h
      have hxs := HFI.out.1
      generalize (ctR l t)[k] = x at HXM HYES HNO c0
      have HV : Hid (mostL T (agR l t x) = mdp l (agR l t x)) := most_mdp HW.out HS.out HXM.out
      generalize mdp l (agR l t x) = V at HYES HNO HV
      have d0 := cell_regrown c0
      have d1 := cell_regrown x0
      have d2 := cell_regrown x1
      have hbw := below_aft HB1.out hb HB1.out.size
      have HST := Lib.hid (fun (dq : _) (osq : _) => HROB.out _ (Stays.below (lo := lo) (below_aft hbw (below_regrown wr dq osq) hbw.size)))
      go_wp2_with fail
      refine wp_region_quiet_below (by kernel_rfl) (by kernel_rfl) ?_
      repeat (quiet_step (exact Calls.regrown_of (most_v _ _ l T _ _ _ t x V HV.out HS.out.len HXM.out _ (HST.out _ _).1 (HST.out _ _).2 HS.out.len (HS.out.bd5 hl4) HIX.out)))
      refine wpQuiet_nil ?_
      intro w2 hw'
      have hb2 : Below wr.heap.size wr w2 := by obtain ⟨⟨dq, osq⟩, h⟩ := hw'; subst h; exact below_regrown wr dq osq
      have y0 : w2.cell? ⟨b, off + k, none⟩ = some (.int .i64 x) := (hb2.cell (p := ⟨b, off + k, none⟩) hbB).trans c0
      obtain ⟨y1, y2⟩ := (Bx.at_ ⟨x0, x1⟩ hb2 : Bx w2 w.heap.size t)
      clear hw' d0 d1 d2 c0 x0 x1 HST
      have hbw2 := below_aft hbw hb2 hbw.size
      have hb12 := below_aft hb hb2 hb.size
      have HO2 : Hid (w2.ownsRow w1.heap.size 3 1 u12 xs.length (xs.map (Value.int .i64))) := own_below HO.out hb2
      by_cases hv0 : 0 < V
      · by_cases hvd : V ≤ dp
        · have HGOOD : 0 < V ∧ (V ≤ dp ∨ V = ldep l t) := ⟨hv0, .inl hvd⟩
          have HOY := HO2
          have hbY := hb12
          have hzY := hbY.size
          go_wp2_with (at_builtin; refine wpList_append_own _ rfl _ _ 37 rfl w1.heap.size 3 j0 (.int .i64 0) 1 8 Try.underlying37 hj0 hy0 hy1 hy2 rfl (by decide) _ _ _ rfl (HOY.out.alloc _) ⟨w2.heap.size, 0, none⟩ 1 1 [.int .i64 x] rfl rfl ?c1 ?c2 ?c3 ?c4 ?c5 ?_)
          case c1 => exact cell_one_one _ _ _
          case c2 => intro u hu; simp at hu; subst hu; rfl
          case c3 => unfold maxLen; omega
          case c4 => omega
          case c5 => simp; omega
          intro v' w3 hown' hgrow hnn
          have hb3 : Below w1.heap.size w1 w3 := (hbY.alloc hbY.size _).grown hgrow (by simp; omega) (fun g' e => (HOY.out.lt g' e).1)
          have ho3 : OInts w3 w1.heap.size v' (xs ++ [x]) := by unfold OInts; simpa using hown'
          clear hown' hgrow hnn
          go_wp2_with fail
          go_roundw
          case rel => exact ⟨k + 1, xs ++ [x], by omega, by go_num, HYES.out HGOOD, ho3, hb3⟩
          case measure => simp [intOf]; omega
        · by_cases hve : V = ldep l t
          · have HGOOD : 0 < V ∧ (V ≤ dp ∨ V = ldep l t) := ⟨hv0, .inr hve⟩
            subst hve
            go_wp2_with fail
            refine (depth_l _ l T _ _ t HS.out.len _ (HROB.out _ (Stays.below (lo := lo) hbw2)).2 HW.out HS.out (ok_tys HK.out)).mono ?_
            rintro e w2y ⟨rfl, hby⟩
            have HOY : Hid (w2y.ownsRow w1.heap.size 3 1 u12 xs.length (xs.map (Value.int .i64))) := own_below HO2.out hby
            have hbY := below_aft hb12 hby hb12.size
            have y0' : w2y.cell? ⟨b, off + k, none⟩ = some (.int .i64 x) := (hby.cell (p := ⟨b, off + k, none⟩) (Go.block_lt_of_cell y0)).trans y0
            have qe : (ldep l t == ldep l t) = true := by simp
            clear y0 y1 y2
            have hzY := hbY.size
            go_wp2_with (at_builtin; refine wpList_append_own _ rfl _ _ 37 rfl w1.heap.size 3 j0 (.int .i64 0) 1 8 Try.underlying37 hj0 hy0 hy1 hy2 rfl (by decide) _ _ _ rfl (HOY.out.alloc _) ⟨w2y.heap.size, 0, none⟩ 1 1 [.int .i64 x] rfl rfl ?c1 ?c2 ?c3 ?c4 ?c5 ?_)
            case c1 => exact cell_one_one _ _ _
            case c2 => intro u hu; simp at hu; subst hu; rfl
            case c3 => unfold maxLen; omega
            case c4 => omega
            case c5 => simp; omega
            intro v' w3 hown' hgrow hnn
            have hb3 : Below w1.heap.size w1 w3 := (hbY.alloc hbY.size _).grown hgrow (by simp; omega) (fun g' e => (HOY.out.lt g' e).1)
            have ho3 : OInts w3 w1.heap.size v' (xs ++ [x]) := by unfold OInts; simpa using hown'
            clear hown' hgrow hnn
            go_wp2_with fail
            go_roundw
            case rel => exact ⟨k + 1, xs ++ [x], by omega, by go_num, HYES.out HGOOD, ho3, hb3⟩
            case measure => simp [intOf]; omega
          · have HBAD : ¬ (0 < V ∧ (V ≤ dp ∨ V = ldep l t)) := fun h => h.2.elim hvd hve
            go_wp2_with fail
            refine (depth_l _ l T _ _ t HS.out.len _ (HROB.out _ (Stays.below (lo := lo) hbw2)).2 HW.out HS.out (ok_tys HK.out)).mono ?_
            rintro e w2y ⟨rfl, hby⟩
            have HOY : Hid (w2y.ownsRow w1.heap.size 3 1 u12 xs.length (xs.map (Value.int .i64))) := own_below HO2.out hby
            have hbY := below_aft hb12 hby hb12.size
            have qe : (V == ldep l t) = false := ieq_f hve
            clear y0 y1 y2
            go_wp2_with fail
            go_roundw
            case rel => exact ⟨k + 1, xs, by omega, by go_num, HNO.out HBAD, HOY.out, hbY⟩
            case measure => simp [intOf]; omega
      · have HBAD : ¬ (0 < V ∧ (V ≤ dp ∨ V = ldep l t)) := fun h => hv0 h.1
        have HOY := HO2
        have hbY := hb12
        go_wp2_with fail
        go_roundw
        case rel => exact ⟨k + 1, xs, by omega, by go_num, HNO.out HBAD, HOY.out, hbY⟩
        case measure => simp [intOf]; omega
    · have hpos := HFI.out.some (by omega) HK.out H1.out HI.out
      have hx4 : xs.length ≤ 4 := by have := HFI.out.1; omega
      obtain ⟨A5, c5, rfl, hr5, hat5⟩ := HO.out.form2 hx4
      have HXS := Lib.hid HFI.out.2.1
      have HR5 := Lib.hid hr5
      have HAT5 := Lib.hid hat5
      have hkI : ((ctR l t).length : Int) ≤ (k : Int) := by omega
      have HBW := Lib.hid (below_aft HB1.out hb HB1.out.size)
      have HRW := Lib.hid (HRR1.out.below hb)
      have HXW := Lib.hid (HX1.out.at_ hb)
      have HZW : Hid (wr.heap[w.heap.size + 1]? = some (.cells #[.int .i64 0, .int .i64 0, .slice none 0 0] 28 (0, 0))) := (hb.block _ (heap_lt HXR1.out)).trans HXR1.out
      have hzw1 := HB1.out.size
      have hzwr := HBW.out.size
      clear hr5 hat5 HO hb HX1 HXR1 HFI
      go_wp2_with fail
      refine (pick_any rb B N xs.length _ HRW.out (by have := HN.out; omega)).mono ?_
      rintro e w2 ⟨kk, rfl, hkk, hR2, hg2⟩
      have hkl : kk < xs.length := by omega
      have hkkI : (kk : Int) < (xs.length : Int) := by omega
      obtain ⟨b5, o5, rfl, hb5, c0⟩ := HR5.out.2 kk hkl
      have hrl := HRL.out
      have hat5 := HAT5.out b5 o5 rfl
      have hne5 : b5 ≠ rb := by omega
      have y0 : w2.cell? ⟨b5, o5 + kk, none⟩ = some (.int .i64 xs[kk]) := hg2.cell c0 (fun e => hne5 (by injection e))
      have HXG := Lib.hid (HXS.out xs[kk] (List.getElem_mem hkl))
      generalize xs[kk] = x at HXG y0
      have y1 : w2.cell? ⟨w.heap.size, 0, none⟩ = some (.int .i64 t.data) := hg2.cell HXW.out.1 (fun e => by injection e with e; simp only at e; omega)
      have y2 : w2.cell? ⟨w.heap.size, 1, none⟩ = some (.int .i64 t.index) := hg2.cell HXW.out.2 (fun e => by injection e with e; simp only at e; omega)
      have HZ2 : Hid (w2.heap[w.heap.size + 1]? = some (.cells #[.int .i64 0, .int .i64 0, .slice none 0 0] 28 (0, 0))) := (hg2.block _ (heap_lt HZW.out) (fun e => by injection e with e; omega)).trans HZW.out
      have HF2 : Hid (Fr (fun b => b = rb) w w2) := (Fr.below HBW.out).trans (Fr.grown hg2 (fun b e => by injection e))
      have HR2 := Lib.hid hR2
      have hsz2 : w.heap.size + 1 < w2.heap.size := heap_lt HZ2.out
      clear hR2 hg2 c0 hkk HR5 HXS HRW HZW HXW HBW hat5 HAT5 hb5 hzw1 hzwr hrl
      have y1' : (w2.alloc (.cells #[.int .i64 x, .int .i64 0, .slice none 0 0] 28)).cell? ⟨w.heap.size, 0, none⟩ = some (.int .i64 t.data) := (World.cell?_alloc_lt _ _ _ (by simp only; omega)).trans y1
      have y2' : (w2.alloc (.cells #[.int .i64 x, .int .i64 0, .slice none 0 0] 28)).cell? ⟨w.heap.size, 1, none⟩ = some (.int .i64 t.index) := (World.cell?_alloc_lt _ _ _ (by simp only; omega)).trans y2
      go_wp2_with fail
      clear y1' y2'
      generalize hw3 : w2.alloc (.cells #[.int .i64 x, .int .i64 0, .slice none 0 0] 28) = w3
      have hb3 : Below w2.heap.size w2 w3 := by rw [← hw3]; exact (Below.refl _ _).alloc (Nat.le_refl _) _
      have HG3 : Hid (w3.heap[w2.heap.size]? = some (.cells #[.int .i64 x, .int .i64 0, .slice none 0 0] 28 (0, 0))) := by unfold Hid; rw [← hw3]; exact heap_alloc_new _ _
      clear hw3
      have HF3 : Hid (Fr (fun b => b = rb) w w3) := HF2.out.trans (Fr.below hb3)
      refine (l1Args_all _ l _ t x _ (HROB.out _ (Stays.fr HF3.out HLO.out)).1 HXG.out.1).mono ?_
      rintro e w4 ⟨v4, rfl, ho4, hb4⟩
      obtain ⟨A3, c3, rfl, hr4⟩ := ho4.form (by have := agR_len l t x; unfold maxLen; omega)
      have HR4 := Lib.hid hr4
      have HA3 : Hid (∀ b o, A3 = some ⟨b, o, none⟩ → w3.heap.size ≤ b ∧ b < w4.heap.size) := (by obtain ⟨_, hro, _⟩ := ho4; obtain ⟨_, _, _, hob⟩ := own_form hro; exact fun b o e => by subst e; exact hob b rfl)
      have HG4 : Hid (w4.heap[w2.heap.size]? = some (.cells #[.int .i64 x, .int .i64 0, .slice none 0 0] 28 (0, 0))) := (hb4.block _ (heap_lt HG3.out)).trans HG3.out
      have HZL : Hid (w4.heap[w.heap.size + 1]? = some (.cells #[.int .i64 0, .int .i64 0, .slice none 0 0] 28 (0, 0))) := (hb4.block _ (by have := hb3.size; omega)).trans ((hb3.block _ (by omega)).trans HZ2.out)
      have HFL : Hid (Fr (fun b => b = rb) w w4) := HF3.out.trans (Fr.below hb4)
      have HRL4 : Hid (RRd w4 B rb (N + 1)) := (HR2.out.below hb3).below hb4
      have hats := agR_len l t x
      have HAK : Hid (∀ j (h : j < (agR l t x).length), TyOK l (agR l t x)[j] ∧ Inh l (agR l t x)[j] ∧ ldep l (agR l t x)[j] ≤ n) := fun j h => by
        obtain ⟨hxm, hx0, hxd⟩ := HXG.out
        have h5 := H5.out
        have hd5 := HD5.out
        obtain ⟨i1, i2⟩ := mdp_pos hx0 _ (List.getElem_mem h)
        exact ⟨agR_ok hxm _ (List.getElem_mem h), i1, by omega⟩
      have HFT : Hid (∀ vs : List Vl, vs.length = (agR l t x).length → (∀ j (h : j < vs.length) (h' : j < (agR l t x).length), fitV l n (agR l t x)[j] vs[j] = true) → fitV l (n + 1) t (.mk x 0 vs) = true) := fun vs he hv => by
        rw [fit_go (v := .mk x 0 vs) H1.out rfl HXG.out.1 he]
        exact upto_every _ (fun j hj => by have hj' : j < (agR l t x).length := hj; exact (kidV_at hj (by show j < vs.length; omega)).trans (hv j (by omega) hj'))
      have HSZ4 : Hid (w2.heap.size < w4.heap.size ∧ w.heap.size ≤ w4.heap.size) := ⟨heap_lt HG4.out, by have := heap_lt HG4.out; omega⟩
      have HA3' : Hid (∀ b o, A3 = some ⟨b, o, none⟩ → w2.heap.size < b ∧ b < w4.heap.size) := fun b o e => by obtain ⟨h1, h2⟩ := HA3.out b o e; have h3 := heap_lt HG3.out; exact ⟨by omega, h2⟩
      clear HA3 hr4 ho4 y0 y1 y2
      generalize agR l t x = ats at HAK HFT hats HR4
      generalize hg : w2.heap.size = g at hsz2 HSZ4 HG4 HA3'
      have hrl := HRL.out
      have hgc4 := HG4.out
      have z0 := (cell_of_blk hgc4 0).trans rfl
      clear hb4 hb3 hgc4
      generalize w4 = wl at *
      go_wp2_with fail
      go_loopw [17] (fun i wr => ∃ vs : List Vl, vs.length ≤ ats.length ∧ i = .int .i64 (vs.length : Nat) ∧ Hid (BldD n wl wr g rb x 0 vs) ∧ Hid (∀ j (h : j < vs.length) (h' : j < ats.length), fitV l n ats[j] vs[j] = true) ∧ Hid (RRd wr B rb (N + 1 + vs.length * pk n))) (fun i _ => ats.length - (intOf i).toNat)
      case atStart => exact ⟨[], by simp, rfl, BldD.zero HG4.out (by have := HSZ4.out; omega) (by omega), fun j h => absurd h (by simp), by show RRd wl B rb (N + 1 + 0 * pk n); rw [Nat.zero_mul]; exact HRL4.out⟩
      case round =>
        clear z0
        obtain ⟨vs, hk, rfl, HBd, HVS, HRr⟩ := hrel
        by_cases hlt : vs.length < ats.length
        · have hkI : (vs.length : Int) < (ats.length : Int) := by omega
          obtain ⟨hgl, hrbl, hne, hf, Ak, ck, ys, Q, hgc, hown, hrow⟩ := HBd.out
          obtain ⟨b3, o3, rfl, hb3B, p0, p1⟩ := HR4.out.2 vs.length hlt
          obtain ⟨hgb, hbl⟩ := HA3'.out b3 o3 rfl
          have hwr := hf.size
          have hbe : wr.heap[b3]? = wl.heap[b3]? := hf.2.2.2.2 b3 hb3B (by omega)
          have p0' := (World.cell?_of_block (a := ⟨b3, o3 + vs.length * 2, none⟩) hbe).trans p0
          have p1' := (World.cell?_of_block (a := ⟨b3, o3 + vs.length * 2 + 1, none⟩) hbe).trans p1
          have hfwr : Fr (fun b => b = rb) w wr := HFL.out.andThen hf (fun y hy hq => hq.elim (fun e => by omega) id)
          obtain ⟨_, _, _, hob⟩ := own_form hown
          have HOB := Lib.hid hob
          have HLZ : Hid (B ≤ rb ∧ rb < wl.heap.size) := ⟨hrl.2, hrbl⟩
          have HGL : Hid (g < wl.heap.size ∧ rb < wl.heap.size ∧ g ≠ rb) := ⟨hgl, hrbl, hne⟩
          have HFR := Lib.hid hf
          have HGC := Lib.hid hgc
          have HOW := Lib.hid hown
          have HRW := Lib.hid hrow
          have c2x : wr.cell? ⟨g, 2, none⟩ = some (.slice Ak vs.length ck) := (cell_of_blk hgc 2).trans rfl
          have hgw := heap_lt hgc
          have HKP : Hid (∀ w2, Fr (fun b => b = rb) wr w2 → w2.cell? ⟨g, 2, none⟩ = some (.slice Ak vs.length ck) ∧ w2.cell? ⟨b3, o3 + vs.length * 2, none⟩ = some (.int .i64 ats[vs.length].data) ∧ w2.cell? ⟨b3, o3 + vs.length * 2 + 1, none⟩ = some (.int .i64 ats[vs.length].index)) := fun w2 h =>
            have e1 : w2.heap[g]? = wr.heap[g]? := h.2.2.2.2 g hgw hne
            have e2 : w2.heap[b3]? = wr.heap[b3]? := h.2.2.2.2 b3 (by omega) (by omega)
            ⟨(World.cell?_of_block (a := ⟨g, 2, none⟩) e1).trans c2x, (World.cell?_of_block (a := ⟨b3, o3 + vs.length * 2, none⟩) e2).trans p0', (World.cell?_of_block (a := ⟨b3, o3 + vs.length * 2 + 1, none⟩) e2).trans p1'⟩
          have HKB : Hid (∀ (w2 : World) (o : Obj), Fr (fun b => b = rb) wr w2 → ∀ b, (Value.slice Ak vs.length ck).ownBlock = some b → (w2.alloc o).heap[b]? = wr.heap[b]?) := fun w2 o h b e => by
            have h2 := (hob b e).2
            have h1 := (hob b e).1
            rw [Below.heap_alloc _ _ _ (Nat.lt_of_lt_of_le h2 h.size), h.2.2.2.2 b h2 (by omega)]
          have HKC : Hid (∀ (w2 w4 : World) (o : Obj), Fr (fun b => b = rb) wr w2 → (w2.alloc o).grownBy w4 (Value.slice Ak vs.length ck).ownBlock → w4.cell? ⟨b3, o3 + vs.length * 2, none⟩ = some (.int .i64 ats[vs.length].data) ∧ w4.cell? ⟨b3, o3 + vs.length * 2 + 1, none⟩ = some (.int .i64 ats[vs.length].index)) := fun w2 w4 o h hg => by
            have hlw : b3 < w2.heap.size := by have := h.size; omega
            have e : w4.heap[b3]? = wr.heap[b3]? := by
              rw [hg.block b3 (by simp; omega) (fun e => by have := (hob b3 e.symm).1; omega), Below.heap_alloc _ _ _ hlw, h.2.2.2.2 b3 (by omega) (by omega)]
            exact ⟨(World.cell?_of_block (a := ⟨b3, o3 + vs.length * 2, none⟩) e).trans p0', (World.cell?_of_block (a := ⟨b3, o3 + vs.length * 2 + 1, none⟩) e).trans p1'⟩
          obtain ⟨ha1, ha2, ha3⟩ := HAK.out vs.length hlt
          have hmul : vs.length * pk n + pk n ≤ 3 * pk n := by have := Nat.mul_le_mul_right (pk n) (show vs.length + 1 ≤ 3 by omega); rw [Nat.succ_mul] at this; exact this
          have hd5 := HD5.out
          have hd0 := HD0.out
          have hd1 := HD1.out
          have hwrap : IntKind.i64.wrap (dp - 1) = dp - 1 := IntWalk.i64_in _ (by omega)
          have HIH : Hid (Calls Try.prog 33 #[.pointer (some ⟨rb, 0, none⟩), .slice A l.length cap, .slice A2 (l.length * 4) cap2, .agg #[.int .i64 ats[vs.length].data, .int .i64 ats[vs.length].index], .int .i64 (dp - 1)] wr.drew (DwQ l n ats[vs.length] B rb (N + 1 + vs.length * pk n) wr.drew)) := IH.out A A2 T cap cap2 ats[vs.length] (dp - 1) lo B rb _ wr.drew (HROB.out.at_ (Stays.fr (⟨hfwr.1, hfwr.2.1, hfwr.2.2.1, hfwr.2.2.2.1, hfwr.2.2.2.2⟩ : Fr (fun b => b = rb) w wr.drew) HLO.out)) HLO.out HS.out ha1 ha2 ha3 (by omega) (by omega) (by omega) HRr.out.drew (by have := HN.out; have := HPK.out; omega)
          have HS0 : Hid (wr.drew.cell? ⟨g, 2, none⟩ = some (.slice Ak vs.length ck) ∧ wr.drew.cell? ⟨b3, o3 + vs.length * 2, none⟩ = some (.int .i64 ats[vs.length].data) ∧ wr.drew.cell? ⟨b3, o3 + vs.length * 2 + 1, none⟩ = some (.int .i64 ats[vs.length].index)) := ⟨c2x, p0', p1'⟩
          clear hgl hrbl hne hf hgc hown hrow hob hbe p0 p1 p0' p1' ha1 ha2 ha3 c2x hb3B hfwr hd5 hd0 hd1
          go_wp2_with fail
          refine Till.start (S := fun w' => w'.cell? ⟨g, 2, none⟩ = some (.slice Ak vs.length ck) ∧ w'.cell? ⟨b3, o3 + vs.length * 2, none⟩ = some (.int .i64 ats[vs.length].data) ∧ w'.cell? ⟨b3, o3 + vs.length * 2 + 1, none⟩ = some (.int .i64 ats[vs.length].index)) (z := 15) (by kernel_rfl) ?_
          refine Till.take_ (i := 0) (d := some 82) (v := .pointer (some ⟨g, 2, none⟩)) (ls' := #[true, false, false, false, false, false, false, false, false, false, false, false, false, false, false, false]) rfl rfl (by kernel_rfl) (by kernel_rfl) (by kernel_rfl) (by kernel_rfl) (fun _ _ _ h => h) HS0.out (Or.inl ⟨by rfl, fun wq hSw => ?_⟩) (by kernel_rfl) ?_
          · obtain ⟨hs0, hs1, hs2⟩ := hSw
            go_simp
          simp only [Act.put, List.setIfInBounds_toArray, List.set_cons_zero, List.set_cons_succ]
          refine Till.take_ (i := 1) (d := some 83) (v := .slice Ak vs.length ck) (ls' := #[true, true, false, false, false, false, false, false, false, false, false, false, false, false, false, false]) rfl rfl (by kernel_rfl) (by kernel_rfl) (by kernel_rfl) (by kernel_rfl) (fun _ _ _ h => h) HS0.out (Or.inl ⟨by rfl, fun wq hSw => ?_⟩) (by kernel_rfl) ?_
          · obtain ⟨hs0, hs1, hs2⟩ := hSw
            go_simp
          simp only [Act.put, List.setIfInBounds_toArray, List.set_cons_zero, List.set_cons_succ]
          refine Till.take_ (i := 2) (d := some 84) (v := .pointer (some ⟨rb, 0, none⟩)) (ls' := #[true, true, true, false, false, false, false, false, false, false, false, false, false, false, false, false]) rfl rfl (by kernel_rfl) (by kernel_rfl) (by kernel_rfl) (by kernel_rfl) (fun _ _ _ h => h) HS0.out (Or.inl ⟨by rfl, fun wq hSw => ?_⟩) (by kernel_rfl) ?_
          · obtain ⟨hs0, hs1, hs2⟩ := hSw
            go_simp
          simp only [Act.put, List.setIfInBounds_toArray, List.set_cons_zero, List.set_cons_succ]
          refine Till.take_ (i := 3) (d := some 85) (v := .slice A l.length cap) (ls' := #[true, true, true, true, false, false, false, false, false, false, false, false, false, false, false, false]) rfl rfl (by kernel_rfl) (by kernel_rfl) (by kernel_rfl) (by kernel_rfl) (fun _ _ _ h => h) HS0.out (Or.inl ⟨by rfl, fun wq hSw => ?_⟩) (by kernel_rfl) ?_
          · obtain ⟨hs0, hs1, hs2⟩ := hSw
            go_simp
          simp only [Act.put, List.setIfInBounds_toArray, List.set_cons_zero, List.set_cons_succ]
          refine Till.take_ (i := 4) (d := some 86) (v := .slice A2 (l.length * 4) cap2) (ls' := #[true, true, true, true, true, false, false, false, false, false, false, false, false, false, false, false]) rfl rfl (by kernel_rfl) (by kernel_rfl) (by kernel_rfl) (by kernel_rfl) (fun _ _ _ h => h) HS0.out (Or.inl ⟨by rfl, fun wq hSw => ?_⟩) (by kernel_rfl) ?_
          · obtain ⟨hs0, hs1, hs2⟩ := hSw
            go_simp
          simp only [Act.put, List.setIfInBounds_toArray, List.set_cons_zero, List.set_cons_succ]
          refine Till.take_ (i := 5) (d := some 87) (v := .slice (some ⟨b3, o3, none⟩) ats.length c3) (ls' := #[true, true, true, true, true, true, false, false, false, false, false, false, false, false, false, false]) rfl rfl (by kernel_rfl) (by kernel_rfl) (by kernel_rfl) (by kernel_rfl) (fun _ _ _ h => h) HS0.out (Or.inl ⟨by rfl, fun wq hSw => ?_⟩) (by kernel_rfl) ?_
          · obtain ⟨hs0, hs1, hs2⟩ := hSw
            go_simp
          simp only [Act.put, List.setIfInBounds_toArray, List.set_cons_zero, List.set_cons_succ]
          refine Till.take_ (i := 6) (d := some 88) (v := .int .i64 vs.length) (ls' := #[true, true, true, true, true, true, true, false, false, false, false, false, false, false, false, false]) rfl rfl (by kernel_rfl) (by kernel_rfl) (by kernel_rfl) (by kernel_rfl) (fun _ _ _ h => h) HS0.out (Or.inl ⟨by rfl, fun wq hSw => ?_⟩) (by kernel_rfl) ?_
          · obtain ⟨hs0, hs1, hs2⟩ := hSw
            go_simp
          simp only [Act.put, List.setIfInBounds_toArray, List.set_cons_zero, List.set_cons_succ]
          refine Till.take_ (i := 7) (d := some 89) (v := .pointer (some ⟨b3, o3 + vs.length * 2, none⟩)) (ls' := #[true, true, true, true, true, true, true, true, false, false, false, false, false, false, false, false]) rfl rfl (by kernel_rfl) (by kernel_rfl) (by kernel_rfl) (by kernel_rfl) (fun _ _ _ h => h) HS0.out (Or.inl ⟨by rfl, fun wq hSw => ?_⟩) (by kernel_rfl) ?_
          · obtain ⟨hs0, hs1, hs2⟩ := hSw
            go_simp
          simp only [Act.put, List.setIfInBounds_toArray, List.set_cons_zero, List.set_cons_succ]
          refine Till.take_ (i := 8) (d := some 90) (v := .agg #[.int .i64 ats[vs.length].data, .int .i64 ats[vs.length].index]) (ls' := #[true, true, true, true, true, true, true, true, true, false, false, false, false, false, false, false]) rfl rfl (by kernel_rfl) (by kernel_rfl) (by kernel_rfl) (by kernel_rfl) (fun _ _ _ h => h) HS0.out (Or.inl ⟨by rfl, fun wq hSw => ?_⟩) (by kernel_rfl) ?_
          · obtain ⟨hs0, hs1, hs2⟩ := hSw
            go_simp
          simp only [Act.put, List.setIfInBounds_toArray, List.set_cons_zero, List.set_cons_succ]
          refine Till.take_ (i := 9) (d := some 91) (v := .int .i64 dp) (ls' := #[true, true, true, true, true, true, true, true, true, true, false, false, false, false, false, false]) rfl rfl (by kernel_rfl) (by kernel_rfl) (by kernel_rfl) (by kernel_rfl) (fun _ _ _ h => h) HS0.out (Or.inl ⟨by rfl, fun wq hSw => ?_⟩) (by kernel_rfl) ?_
          · obtain ⟨hs0, hs1, hs2⟩ := hSw
            go_simp
          simp only [Act.put, List.setIfInBounds_toArray, List.set_cons_zero, List.set_cons_succ]
          refine Till.take_ (i := 10) (d := some 92) (v := .int .i64 (dp - 1)) (ls' := #[true, true, true, true, true, true, true, true, true, true, true, false, false, false, false, false]) rfl rfl (by kernel_rfl) (by kernel_rfl) (by kernel_rfl) (by kernel_rfl) (fun _ _ _ h => h) HS0.out (Or.inl ⟨by rfl, fun wq hSw => ?_⟩) (by kernel_rfl) ?_
          · obtain ⟨hs0, hs1, hs2⟩ := hSw
            go_simp
          simp only [Act.put, List.setIfInBounds_toArray, List.set_cons_zero, List.set_cons_succ]
          refine Till.all (rs := [11]) (by kernel_rfl) (by decide) (List.forall_mem_cons.2 ⟨?_, fun _ h => nomatch h⟩)
          refine Till.step rfl (by rfl) ?_
          intro K hK
          go_simp
          go_at_call 33
          with_reducible refine (HIH.out).mono ?_
          rintro e w2 ⟨v2, A4, c4, rfl, hfit, hc4, ho4, hR4, hf4'⟩
          have hf4 : Fr (fun b => b = rb) wr w2 := ⟨hf4'.1, hf4'.2.1, hf4'.2.2.1, hf4'.2.2.2.1, hf4'.2.2.2.2⟩
          have HS2 := Lib.hid (HKP.out w2 hf4)
          have HF4 := Lib.hid hf4
          have HO4 : Hid (OVc n w2 (Nw wr w2) A4 v2.kids) := ho4
          have hbz : wr.heap.size ≤ w2.heap.size := hf4.size
          have HC4 := Lib.hid hc4
          have HFIT := Lib.hid hfit
          have HR4 := Lib.hid hR4
          clear hf4 hf4' ho4 hc4 hfit hR4
          go_simp
          refine hK _ _ (fun _ => HS2.out) ?_
          clear hK K
          refine Till.all (rs := [12]) (by kernel_rfl) (by decide) (List.forall_mem_cons.2 ⟨?_, fun _ h => nomatch h⟩)
          refine Till.step rfl (by rfl) ?_
          intro K hK
          go_simp
          refine hK _ _ (fun _ => ⟨by have := HS2.out.1; go_keep, by have := HS2.out.2.1; go_keep, by have := HS2.out.2.2; go_keep⟩) ?_
          clear hK K
          refine Till.all (rs := [13]) (by kernel_rfl) (by decide) (List.forall_mem_cons.2 ⟨?_, fun _ h => nomatch h⟩)
          refine Till.step rfl (by rfl) ?_
          intro K hK
          refine wp_append_own (.tmp 83) (.tmp 94) 26 (by rfl) wl.heap.size 28 i0 (.agg #[.int .i64 0, .int .i64 0, .slice none 0 0]) 3 40 Try.underlying26 hi0 hz0 hz1 hz2 (by rfl) (by decide) (.slice Ak vs.length ck) vs.length ys (by rfl) (own_at HOW.out (HKB.out w2 _ HF4.out)) ⟨w2.heap.size, 0, none⟩ 1 1 [.int .i64 v2.ctor, .int .i64 v2.n, .slice A4 v2.kids.length c4] (by rfl) rfl (cell_three_new _ _ _ _ _) (by intro u hu; simp at hu; rcases hu with rfl | rfl | rfl <;> rfl) (by unfold maxLen; omega) (by omega) (by simp; omega) ?_
          intro v4 w4 hown4 hgr4 hat4
          obtain ⟨A5, c5, rfl, hg4, hbl4⟩ := BldD.step HGL.out.1 HGL.out.2.1 HGL.out.2.2 HFR.out HGC.out HOW.out HRW.out HF4.out HO4.out HC4.out hown4 hgr4 hat4
          have HS4 := Lib.hid (And.intro ((cell_of_blk hg4 2).trans rfl) (HKC.out w2 w4 _ HF4.out hgr4))
          have HRR : Hid (RRd w4 B rb (N + 1 + vs.length * pk n + pk n)) := (HR4.out.alloc _).fr (Fr.grown (P := fun b => wl.heap.size ≤ b) hgr4 (fun b e => (HOB.out b e.symm).1)) (fun b h => by have := HLZ.out; omega)
          have hfz : w4.frozen? ⟨g, 2, none⟩ = false := frozen_of_row w4 g 2 _ 28 hg4
          have c4x := HS4.out.1
          have HBL := Lib.hid hbl4
          clear hown4 hgr4 hat4 hg4 hbl4
          refine hK _ _ (fun _ => HS4.out) ?_
          clear hK K
          refine Till.all (rs := [14]) (by kernel_rfl) (by decide) (List.forall_mem_cons.2 ⟨?_, fun _ h => nomatch h⟩)
          refine Till.step rfl (by rfl) ?_
          intro K hK
          go_simp
          refine hK _ _ (fun _ => HS4.out) ?_
          clear hK K
          refine Till.all (rs := [15]) (by kernel_rfl) (by decide) (List.forall_mem_cons.2 ⟨?_, fun _ h => nomatch h⟩)
          refine Till.step rfl (by rfl) ?_
          intro K hK
          go_simp
          refine hK _ _ (fun h => absurd rfl h) ?_
          clear hK K
          refine Till.done (by kernel_rfl) ?_ _
          clear c4x hfz HS4 HS2
          go_wp2_with fail
          have hll : ((vs ++ [v2]).length : Int) = (vs.length : Int) + 1 := by simp
          go_roundw
          case rel =>
            refine ⟨vs ++ [v2], by simp; omega, by rw [hll], HBL.out, fun j h h' => ?_, ?_⟩
            · by_cases e : j < vs.length
              · rw [List.getElem_append_left e]; exact HVS.out j e h'
              · have ej : j = vs.length := by simp at h; omega
                subst ej
                have e1 : (vs ++ [v2])[vs.length]'h = v2 := by simp
                rw [e1]; exact HFIT.out
            · have e : N + 1 + (vs ++ [v2]).length * pk n = N + 1 + vs.length * pk n + pk n := by rw [List.length_append]; simp only [List.length_singleton, Nat.succ_mul]; omega
              rw [e]
              exact HRR.out.setCell (by have := HGL.out; omega) (by have := HLZ.out; omega)
          case measure => simp [intOf]; omega
        · have hke : vs.length = ats.length := by omega
          obtain ⟨A6, c6, hg6, hc6, ho6, hf6⟩ := HBd.out.all (by omega)
          have hr6 : wr.heap[w.heap.size + 1]? = some (.cells #[.int .i64 0, .int .i64 0, .slice none 0 0] 28 (0, 0)) := hf6.block HZL.out (by omega)
          have hfw : Fr (fun b => b = rb) w wr := HFL.out.andThen hf6 (fun y hy hq => hq.elim (fun e => by omega) id)
          have HFW := Lib.hid hfw
          have HO6 := Lib.hid ho6
          have HC6 := Lib.hid hc6
          have g0 := (cell_of_blk hg6 0).trans rfl
          have g1 := (cell_of_blk hg6 1).trans rfl
          have g2 := (cell_of_blk hg6 2).trans rfl
          have r0 := (cell_of_blk hr6 0).trans rfl
          have r1 := (cell_of_blk hr6 1).trans rfl
          have r2 := (cell_of_blk hr6 2).trans rfl
          have f0 := frozen_of_row wr (w.heap.size + 1) 0 _ 28 hr6
          have f1 := frozen_of_row wr (w.heap.size + 1) 1 _ 28 hr6
          have f2 := frozen_of_row wr (w.heap.size + 1) 2 _ 28 hr6
          have hkI : (ats.length : Int) ≤ (vs.length : Int) := by omega
          have hwl : wl.heap.size ≤ wr.heap.size := hf6.size
          have HKE := Lib.hid hke
          clear hke hg6 ho6 hf6 hfw hc6
          go_wp2_with fail
          refine bodyPost_ret (v := .agg #[.int .i64 x, .int .i64 0, .slice A6 vs.length c6]) (by simp [results, Try.results33, go_sem, r0, r1, r2]) rfl ?_
          have hmul : vs.length * pk n ≤ 3 * pk n := Nat.mul_le_mul_right (pk n) (show vs.length ≤ 3 by omega)
          have hs4 := HSZ4.out
          refine ⟨.mk x 0 vs, A6, c6, rfl, HFT.out vs HKE.out (fun j h h' => HVS.out j h h'), HC6.out, (HO6.out.fr _ (P' := fun b => b = w.heap.size + 1) (((Fr.set (P := fun b => b = w.heap.size + 1) _ _ _ _ rfl).trans (Fr.set _ _ _ _ rfl)).trans (Fr.set _ _ _ _ rfl)) (fun b hq e => by have := hq.1; omega)).wide _ (fun b hq => ⟨by have := hq.1; omega, by have h2 := hq.2; simpa [World.setCell] using h2⟩), ?_, ((HFW.out.setNew (by omega)).setNew (by omega)).setNew (by omega)⟩
          exact (((HRr.out.setCell (by omega) (by omega)).setCell (by omega) (by omega)).setCell (by omega) (by omega)).more (by have := HPK.out; omega)
theorem dw_any (l : List Da) (hw : WorldOK l) : ∀ n, DwS l n
  | 0 => fun A A2 T cap cap2 t dp lo B rb N w _ _ _ _ hi h5 _ _ _ _ _ => absurd (ldep_yes hi) (by omega)
  | n + 1 => dw_step l n hw (dw_any l hw n)
end Go.Proofs.Ytakhobhmplneeaa
