/-
  A pattern is drawn: the document's function. No statement is proved here.
-/
import Derived.Test.YteoopmogklpnoaaT24
import Derived.Deep.RegionHeld3
import Derived.Lib.QuietBelow
namespace Go.Proofs.Yteoopmogklpnoaa
open Go.RowKit Go.Sort Go.Deep
set_option maxRecDepth 100000
set_option linter.unusedVariables false
theorem six_far {w : World} {b c o : Nat} {y0 y1 y2 y3 y4 y5 v : Value} (hne : b ≠ c) (h : w.cell? ⟨c, o, none⟩ = some v) : ((((((w.setCell ⟨b, 0, none⟩ y0).setCell ⟨b, 1, none⟩ y1).setCell ⟨b, 2, none⟩ y2).setCell ⟨b, 3, none⟩ y3).setCell ⟨b, 4, none⟩ y4).setCell ⟨b, 5, none⟩ y5).cell? ⟨c, o, none⟩ = some v :=
  three_far hne (three_far hne h)
/-- What a pattern's drawing reads lies from block lo on. -/
def RobW (w : World) (lo : Nat) (A : Option Addr) (l : List Da) : Prop := ∀ w', Stays lo w w' → RDas w' w'.heap.size A l
theorem RobW.at_ {w w' : World} {lo : Nat} {A : Option Addr} {l : List Da} (h : RobW w lo A l) (hs : Stays lo w w') : RobW w' lo A l := fun w2 h2 => h w2 (hs.trans h2)
theorem OPs.one {d : Nat} {w : World} {P Q0 : Nat → Prop} {g : Nat} {p : Pt} {A1 : Option Addr} {c1 : Nat} (hg : w.heap[g]? = some (.cells #[.int .i64 p.op, .int .i64 p.ctor, .int .i64 p.n, .int .i64 p.m, .int .i64 p.var, .slice A1 p.kids.length c1] 50 (0, 0))) (h1 : OPs d w Q0 A1 p.kids) (hP : P g) (hq : ∀ b, Q0 b → P b ∧ b ≠ g) : OPs (d + 1) w P (some ⟨g, 0, none⟩) [p] :=
  OPs.mk (by simp [maxLen]) (fun _ => ⟨g, _, fun _ => Q0, rfl, hP, hg, fun k b hk hb => ⟨(hq b hb).1, (hq b hb).2, fun j hj hne => by simp at hj hk; omega⟩, fun k hk => by
    have e : k = 0 := by simp at hk; omega
    subst e
    exact ⟨A1, c1, rfl, rfl, rfl, rfl, rfl, rfl, h1⟩⟩)
theorem OPs.two {d : Nat} {w : World} {P Q0 Q1 : Nat → Prop} {g : Nat} {p q : Pt} {A1 A2 : Option Addr} {c1 c2 : Nat} (hg : w.heap[g]? = some (.cells #[.int .i64 p.op, .int .i64 p.ctor, .int .i64 p.n, .int .i64 p.m, .int .i64 p.var, .slice A1 p.kids.length c1, .int .i64 q.op, .int .i64 q.ctor, .int .i64 q.n, .int .i64 q.m, .int .i64 q.var, .slice A2 q.kids.length c2] 50 (0, 0))) (h1 : OPs d w Q0 A1 p.kids) (h2 : OPs d w Q1 A2 q.kids) (hP : P g) (hq0 : ∀ b, Q0 b → P b ∧ b ≠ g ∧ ¬ Q1 b) (hq1 : ∀ b, Q1 b → P b ∧ b ≠ g ∧ ¬ Q0 b) : OPs (d + 1) w P (some ⟨g, 0, none⟩) [p, q] :=
  OPs.mk (by simp [maxLen]) (fun _ => ⟨g, _, fun k => if k = 0 then Q0 else Q1, rfl, hP, hg, fun k b hk hb => by
    have hk2 : k = 0 ∨ k = 1 := by simp at hk; omega
    rcases hk2 with rfl | rfl
    · have hb' : Q0 b := hb
      refine ⟨(hq0 b hb').1, (hq0 b hb').2.1, fun j hj hne hqj => ?_⟩
      have ej : j = 1 := by simp at hj; omega
      subst ej
      exact (hq0 b hb').2.2 hqj
    · have hb' : Q1 b := hb
      refine ⟨(hq1 b hb').1, (hq1 b hb').2.1, fun j hj hne hqj => ?_⟩
      have ej : j = 0 := by simp at hj; omega
      subst ej
      exact (hq1 b hb').2.2 hqj, fun k hk => by
    have hk2 : k = 0 ∨ k = 1 := by simp at hk; omega
    rcases hk2 with rfl | rfl
    · exact ⟨A1, c1, rfl, rfl, rfl, rfl, rfl, rfl, h1⟩
    · exact ⟨A2, c2, rfl, rfl, rfl, rfl, rfl, rfl, h2⟩⟩)
theorem wPs_le {E : Nat} {L : List Pt} (h : ∀ x ∈ L, 2 + wP x ≤ E) : wPs L + L.length ≤ L.length * E := by
  induction L with
  | nil => rw [wPs]; simp
  | cons a L ih =>
    have h1 := h a (List.mem_cons_self)
    have h2 := ih (fun x hx => h x (List.mem_cons_of_mem _ hx))
    rw [wPs]
    simp only [List.length_cons, Nat.add_mul, Nat.one_mul]
    omega
def PwQ (n B rb N : Nat) (w : World) (e : Ending) (w' : World) : Prop := ∃ (v : Pt) (A : Option Addr) (c : Nat), e = .returned (.agg #[.int .i64 v.op, .int .i64 v.ctor, .int .i64 v.n, .int .i64 v.m, .int .i64 v.var, .slice A v.kids.length c]) ∧ 2 + wP v ≤ 2 * 3 ^ (n + 1) ∧ OPs (n + 1) w' (Nw w w') A v.kids ∧ RRd w' B rb (N + pkP (n + 1)) ∧ Fr (fun b => b = rb) w w'
def PwS (l : List Da) (n : Nat) : Prop := ∀ (A : Option Addr) (cap : Nat) (t : Ty) (dp : Int) (lo B rb N : Nat) (w : World), RobW w lo A l → rb < lo → TyOK l t → dp ≤ n + 1 → -1000 + (n : Int) ≤ dp → dp ≤ 1000 → RRd w B rb N → N + pkP (n + 1) ≤ 90000 →
  Calls Try.prog 110 #[.pointer (some ⟨rb, 0, none⟩), .slice A l.length cap, .agg #[.int .i64 t.data, .int .i64 t.index], .int .i64 dp] w (PwQ n B rb N w)
set_option maxHeartbeats 8000000 in
theorem pw_of (l : List Da) (n : Nat) (hw : WorldOK l) (ih : ∀ m, n = m + 1 → PwS l m) : PwS l n := by
  intro A cap t dp lo B rb N w hrob hlo ht hdp hdp0 hdp1 hR hN
  obtain ⟨i0, hi0, hz0, hz1, hz2⟩ := info_parts infoOP
  have hpk : pkP (n + 1) = 5 + 3 * pkP n := rfl
  have HPK := Lib.hid hpk
  have HN := Lib.hid hN
  have HROB := Lib.hid hrob
  have HLO := Lib.hid hlo
  have HK := Lib.hid ht
  have IH := Lib.hid ih
  have HD5 := Lib.hid hdp
  have HD0 := Lib.hid hdp0
  have HD1 := Lib.hid hdp1
  have hcl := ctR_len l t
  have hrl := hR.lt
  have hrg := hR.ge
  generalize hwx : (w.alloc (.cells #[.int .i64 t.data, .int .i64 t.index] 25)).alloc (.cells #[.int .i64 0, .int .i64 0, .int .i64 0, .int .i64 0, .int .i64 0, .slice none 0 0] 50) = wx
  have hbx := below_box2 hwx
  have HXT : Hid (Bx wx w.heap.size t) := by rw [← hwx]; exact ⟨by simp [go_sem], by simp [go_sem]⟩
  have HXR : Hid (wx.heap[w.heap.size + 1]? = some (.cells #[.int .i64 0, .int .i64 0, .int .i64 0, .int .i64 0, .int .i64 0, .slice none 0 0] 50 (0, 0))) := by
    have h := heap_alloc_new (w.alloc (.cells #[.int .i64 t.data, .int .i64 t.index] 25)) (.cells #[.int .i64 0, .int .i64 0, .int .i64 0, .int .i64 0, .int .i64 0, .slice none 0 0] 50)
    simp only [World.size_alloc] at h
    unfold Hid; rw [← hwx]; exact h
  have HRX := Lib.hid (hR.below hbx)
  have HR0 := Lib.hid hR
  have HBX := Lib.hid hbx
  have HWX := Lib.hid hwx
  clear hrob hlo ht ih hdp hdp0 hdp1 hR hN hpk hwx hbx
  obtain ⟨x0, x1⟩ := HXT.out
  have hzx := heap_lt HXR.out
  by_cases hd2 : dp < 2
  · have HF : Hid (PwQ n B rb N w (.returned (.agg #[.int .i64 1, .int .i64 0, .int .i64 0, .int .i64 0, .int .i64 0, .slice none 0 0])) ((w.alloc (.cells #[.int .i64 t.data, .int .i64 t.index] 25)).alloc (.cells #[.int .i64 1, .int .i64 0, .int .i64 0, .int .i64 0, .int .i64 0, .slice none 0 0] 50))) :=
      ⟨.mk 1 0 0 0 0 [], none, 0, rfl, by rw [wP, wPs]; have : 1 ≤ 3 ^ (n + 1) := Nat.one_le_pow _ _ (by omega); omega, OPs.nil _ _ _ _, (HR0.out.below (below_box2 rfl)).more (by simp only [pkP]; omega), Fr.below (below_box2 rfl)⟩
    go_enter Try.func110, Try.ntmps110
    go_wp2_with fail
    exact bodyPost_ret (v := .agg #[.int .i64 1, .int .i64 0, .int .i64 0, .int .i64 0, .int .i64 0, .slice none 0 0]) (by simp [results, Try.results110, go_sem]) rfl HF.out
  · have hd2' : 2 ≤ dp := by omega
    obtain ⟨m, rfl⟩ : ∃ m, n = m + 1 := ⟨n - 1, by have := HD5.out; omega⟩
    have IHm := Lib.hid (IH.out m rfl)
    have hpm : pkP (m + 1 + 1) = 5 + 3 * pkP (m + 1) := rfl
    have HPM := Lib.hid hpm
    have h3 : 2 * 3 ^ (m + 1 + 1) = 3 * (2 * 3 ^ (m + 1)) := by rw [Nat.pow_succ]; omega
    have H3 := Lib.hid h3
    have h31 : 1 ≤ 3 ^ (m + 1) := Nat.one_le_pow _ _ (by omega)
    have H31 := Lib.hid h31
    clear hpm h3 h31 IH
    go_enter Try.func110, Try.ntmps110
    go_wp2_with fail
    rw [HWX.out]
    refine (pick_any rb B N 4 _ HRX.out (by have := HN.out; omega)).mono ?_
    rintro e w1 ⟨k1, rfl, hk1, hR1, hg1⟩
    have HF1 : Hid (Fr (fun b => b = rb) wx w1) := Fr.grown hg1 (fun b e => by injection e)
    have HR1 := Lib.hid hR1
    have hX1 : Bx w1 w.heap.size t := ⟨hg1.cell x0 (fun e => by injection e with e; simp only at e; omega), hg1.cell x1 (fun e => by injection e with e; simp only at e; omega)⟩
    have HX1 := Lib.hid hX1
    have HXR1 : Hid (w1.heap[w.heap.size + 1]? = some (.cells #[.int .i64 0, .int .i64 0, .int .i64 0, .int .i64 0, .int .i64 0, .slice none 0 0] 50 (0, 0))) := HF1.out.block HXR.out (by omega)
    have hz1w := HF1.out.size
    clear x0 x1 hR1 hg1 hX1 hk1
    by_cases hk0 : k1 = 0
    · have q0 : ((k1 : Int) == 0) = true := ieq_t (by omega)
      have hxr := HXR1.out
      have hfx : Fr (fun b => b = rb) w w1 := (Fr.below HBX.out).trans HF1.out
      obtain ⟨k0, k1, k2, k3, k4, k5, k6, k7, k8, k9, k10, k11⟩ := cellsP hxr
      have HF : Hid (PwQ (m + 1) B rb N w (.returned (.agg #[.int .i64 1, .int .i64 0, .int .i64 0, .int .i64 0, .int .i64 0, .slice none 0 0])) (((((((w1).setCell ⟨w.heap.size + 1, 0, none⟩ (.int .i64 1)).setCell ⟨w.heap.size + 1, 1, none⟩ (.int .i64 0)).setCell ⟨w.heap.size + 1, 2, none⟩ (.int .i64 0)).setCell ⟨w.heap.size + 1, 3, none⟩ (.int .i64 0)).setCell ⟨w.heap.size + 1, 4, none⟩ (.int .i64 0)).setCell ⟨w.heap.size + 1, 5, none⟩ (.slice none 0 0))) :=
        ⟨.mk 1 0 0 0 0 [], none, 0, rfl, by rw [wP, wPs]; have : 1 ≤ 3 ^ (m + 1 + 1) := Nat.one_le_pow _ _ (by omega); omega, OPs.nil _ _ _ _, (HR1.out).fr (Fr.six _ _ _ _ _ _ _ _) (fun b hb => by omega) |>.more (by simp only [pkP]; omega), (hfx).put6 (by omega) _ _ _ _ _ _⟩
      go_wp2_with fail
      exact bodyPost_ret (v := .agg #[.int .i64 1, .int .i64 0, .int .i64 0, .int .i64 0, .int .i64 0, .slice none 0 0]) (by simp [results, Try.results110, go_sem, k0, k1, k2, k3, k4, k5]) rfl HF.out
    · have q0 : ((k1 : Int) == 0) = false := ieq_f (by omega)
      go_wp2_with fail
      refine (pick_any rb B (N + 1) 6 _ HR1.out (by have := HN.out; omega)).mono ?_
      rintro e w2 ⟨k2, rfl, hk2, hR2, hg2⟩
      have hf2 : Fr (fun b => b = rb) w1 w2 := Fr.grown hg2 (fun b e => by injection e)
      have HF2 := Lib.hid (HF1.out.trans hf2)
      have HR2 := Lib.hid hR2
      have hX2 : Bx w2 w.heap.size t := ⟨hg2.cell HX1.out.1 (fun e => by injection e with e; simp only at e; omega), hg2.cell HX1.out.2 (fun e => by injection e with e; simp only at e; omega)⟩
      have HX2 := Lib.hid hX2
      have HXR2 : Hid (w2.heap[w.heap.size + 1]? = some (.cells #[.int .i64 0, .int .i64 0, .int .i64 0, .int .i64 0, .int .i64 0, .slice none 0 0] 50 (0, 0))) := HF2.out.block HXR.out (by omega)
      have HFW2 : Hid (Fr (fun b => b = rb) w w2) := (Fr.below HBX.out).trans HF2.out
      have hz2w := HF2.out.size
      clear hR2 hg2 hX2 hk2 hf2 HX1 HXR1 HR1 HF1 q0 hk0
      by_cases hk0 : k2 = 0
      · have q0 : ((k2 : Int) == 0) = true := ieq_t (by omega)
        obtain ⟨y0, y1⟩ := HX2.out
        have hd5 := HD5.out
        have hd0 := HD0.out
        have hd1 := HD1.out
        have hwrap : IntKind.i64.wrap (dp - 1) = dp - 1 := IntWalk.i64_in _ (by omega)
        have HIH1 : Hid (Calls Try.prog 110 #[.pointer (some ⟨rb, 0, none⟩), .slice A l.length cap, .agg #[.int .i64 t.data, .int .i64 t.index], .int .i64 (dp - 1)] w2.drew (PwQ m B rb (N + 1 + 1) w2.drew)) := IHm.out A cap t (dp - 1) lo B rb _ w2.drew (HROB.out.at_ (Stays.fr (⟨HFW2.out.1, HFW2.out.2.1, HFW2.out.2.2.1, HFW2.out.2.2.2.1, HFW2.out.2.2.2.2⟩ : Fr (fun b => b = rb) w w2.drew) HLO.out)) HLO.out HK.out (by omega) (by omega) (by omega) HR2.out.drew (by have := HN.out; have := HPM.out; omega)
        clear hd5 hd0 hd1
        go_wp2_with fail
        go_region_held3 (fun w' => w'.cell? ⟨w.heap.size, 0, none⟩ = some (.int .i64 t.data) ∧ w'.cell? ⟨w.heap.size, 1, none⟩ = some (.int .i64 t.index)) (first | (with_reducible exact ⟨y0, y1⟩) | (with_reducible exact ⟨p0, p1⟩) | (with_reducible exact ⟨m0, m1⟩) | (with_reducible exact ⟨n0, n1⟩) | (with_reducible exact ⟨six_far hnb n0, six_far hnb n1⟩) | go_keep) (first | (go_at_call 110; (with_reducible refine (HIH2.out).mono ?_); rintro e w4 ⟨pb, A4, c4, rfl, hs4, ho4, hR4, hf4⟩; have HF4 := Lib.hid hf4; have HS4 := Lib.hid hs4; have HO4 := Lib.hid ho4; have HR4 := Lib.hid hR4; have m0 : w4.cell? ⟨w.heap.size, 0, none⟩ = some (.int .i64 t.data) := (World.cell?_of_block (a := ⟨w.heap.size, 0, none⟩) (hf4.2.2.2.2 _ HLW.out.1 HLW.out.2)).trans p0; have m1 : w4.cell? ⟨w.heap.size, 1, none⟩ = some (.int .i64 t.index) := (World.cell?_of_block (a := ⟨w.heap.size, 1, none⟩) (hf4.2.2.2.2 _ HLW.out.1 HLW.out.2)).trans p1; have HZ4 : Hid (w4.heap[w.heap.size + 1]? = some (.cells #[.int .i64 0, .int .i64 0, .int .i64 0, .int .i64 0, .int .i64 0, .slice none 0 0] 50 (0, 0))) := hf4.block HZ3.out (by omega); clear hf4 hs4 ho4 hR4; have hl4 : w.heap.size + 1 < w4.heap.size := heap_lt HZ4.out; obtain ⟨e0, e1, e2, e3, e4, e5, e6, e7, e8, e9, e10, e11⟩ := cellsP HZ4.out; have hl5 : w.heap.size + 1 ≠ w4.heap.size := (by omega); have n0 : (w4.alloc (.cells #[.int .i64 pa.op, .int .i64 pa.ctor, .int .i64 pa.n, .int .i64 pa.m, .int .i64 pa.var, .slice A3 pa.kids.length c3, .int .i64 pb.op, .int .i64 pb.ctor, .int .i64 pb.n, .int .i64 pb.m, .int .i64 pb.var, .slice A4 pb.kids.length c4] 50)).cell? ⟨w.heap.size, 0, none⟩ = some (.int .i64 t.data) := (World.cell?_alloc_lt _ _ _ (by simp only; omega)).trans m0; have n1 : (w4.alloc (.cells #[.int .i64 pa.op, .int .i64 pa.ctor, .int .i64 pa.n, .int .i64 pa.m, .int .i64 pa.var, .slice A3 pa.kids.length c3, .int .i64 pb.op, .int .i64 pb.ctor, .int .i64 pb.n, .int .i64 pb.m, .int .i64 pb.var, .slice A4 pb.kids.length c4] 50)).cell? ⟨w.heap.size, 1, none⟩ = some (.int .i64 t.index) := (World.cell?_alloc_lt _ _ _ (by simp only; omega)).trans m1) | (go_at_call 110; (with_reducible refine (HIH1.out).mono ?_); rintro e w3 ⟨pa, A3, c3, rfl, hs3, ho3, hR3, hf3'⟩; have hf3 : Fr (fun b => b = rb) w2 w3 := ⟨hf3'.1, hf3'.2.1, hf3'.2.2.1, hf3'.2.2.2.1, hf3'.2.2.2.2⟩; have HF3 := Lib.hid hf3; have HS3 := Lib.hid hs3; have HO3 : Hid (OPs (m + 1) w3 (Nw w2 w3) A3 pa.kids) := ho3; have HR3 := Lib.hid hR3; have HLW : Hid (w.heap.size < w3.heap.size ∧ ¬ w.heap.size = rb) := ⟨by have := hf3.size; omega, by omega⟩; have p0 : w3.cell? ⟨w.heap.size, 0, none⟩ = some (.int .i64 t.data) := (World.cell?_of_block (a := ⟨w.heap.size, 0, none⟩) (hf3.2.2.2.2 w.heap.size (by omega) (by omega))).trans y0; have p1 : w3.cell? ⟨w.heap.size, 1, none⟩ = some (.int .i64 t.index) := (World.cell?_of_block (a := ⟨w.heap.size, 1, none⟩) (hf3.2.2.2.2 w.heap.size (by omega) (by omega))).trans y1; have HZ3 : Hid (w3.heap[w.heap.size + 1]? = some (.cells #[.int .i64 0, .int .i64 0, .int .i64 0, .int .i64 0, .int .i64 0, .slice none 0 0] 50 (0, 0))) := hf3.block HXR2.out (by omega); have hnb : w.heap.size + 1 ≠ w.heap.size := (by omega); have HIH2 : Hid (Calls Try.prog 110 #[.pointer (some ⟨rb, 0, none⟩), .slice A l.length cap, .agg #[.int .i64 t.data, .int .i64 t.index], .int .i64 (dp - 1)] w3 (PwQ m B rb (N + 1 + 1 + pkP (m + 1)) w3)) := IHm.out A cap t (dp - 1) lo B rb _ w3 (HROB.out.at_ (Stays.fr (HFW2.out.trans hf3) HLO.out)) HLO.out HK.out (by have := HD5.out; omega) (by have := HD0.out; omega) (by have := HD1.out; omega) HR3.out (by have := HN.out; have := HPM.out; omega); clear hf3 hf3' hs3 ho3 hR3))
        all_goals
          have hp := ZP.put HZ4.out 5 0 0 0 0 (.slice (some ⟨w4.heap.size, 0, none⟩) 2 2)
          have hf6 := Fr.six w4 (w.heap.size + 1) (.int .i64 5) (.int .i64 0) (.int .i64 0) (.int .i64 0) (.int .i64 0) (.slice (some ⟨w4.heap.size, 0, none⟩) 2 2)
          have hsz6 : ((((((w4.setCell ⟨w.heap.size + 1, 0, none⟩ (.int .i64 5)).setCell ⟨w.heap.size + 1, 1, none⟩ (.int .i64 0)).setCell ⟨w.heap.size + 1, 2, none⟩ (.int .i64 0)).setCell ⟨w.heap.size + 1, 3, none⟩ (.int .i64 0)).setCell ⟨w.heap.size + 1, 4, none⟩ (.int .i64 0)).setCell ⟨w.heap.size + 1, 5, none⟩ (.slice (some ⟨w4.heap.size, 0, none⟩) 2 2)).heap.size = w4.heap.size := by simp [World.setCell]
          generalize ((((((w4.setCell ⟨w.heap.size + 1, 0, none⟩ (.int .i64 5)).setCell ⟨w.heap.size + 1, 1, none⟩ (.int .i64 0)).setCell ⟨w.heap.size + 1, 2, none⟩ (.int .i64 0)).setCell ⟨w.heap.size + 1, 3, none⟩ (.int .i64 0)).setCell ⟨w.heap.size + 1, 4, none⟩ (.int .i64 0)).setCell ⟨w.heap.size + 1, 5, none⟩ (.slice (some ⟨w4.heap.size, 0, none⟩) 2 2)) = wb at hp hf6 hsz6 ⊢
          have HG5 := heap_alloc_new wb (.cells #[.int .i64 pa.op, .int .i64 pa.ctor, .int .i64 pa.n, .int .i64 pa.m, .int .i64 pa.var, .slice A3 pa.kids.length c3, .int .i64 pb.op, .int .i64 pb.ctor, .int .i64 pb.n, .int .i64 pb.m, .int .i64 pb.var, .slice A4 pb.kids.length c4] 50)
          rw [hsz6] at HG5
          have hba : Below wb.heap.size wb (wb.alloc (.cells #[.int .i64 pa.op, .int .i64 pa.ctor, .int .i64 pa.n, .int .i64 pa.m, .int .i64 pa.var, .slice A3 pa.kids.length c3, .int .i64 pb.op, .int .i64 pb.ctor, .int .i64 pb.n, .int .i64 pb.m, .int .i64 pb.var, .slice A4 pb.kids.length c4] 50)) := (Below.refl _ _).alloc (Nat.le_refl _) _
          have hz3 := HF3.out.size
          have hz4 := HF4.out.size
          have hp2 := (hba.block _ (heap_lt hp)).trans hp
          generalize (wb.alloc (.cells #[.int .i64 pa.op, .int .i64 pa.ctor, .int .i64 pa.n, .int .i64 pa.m, .int .i64 pa.var, .slice A3 pa.kids.length c3, .int .i64 pb.op, .int .i64 pb.ctor, .int .i64 pb.n, .int .i64 pb.m, .int .i64 pb.var, .slice A4 pb.kids.length c4] 50)) = wa at HG5 hba hp2 ⊢
          have hza := hba.size
          have hll := heap_lt HG5
          have hO3 : OPs (m + 1) wa (Nw w2 w3) A3 pa.kids := ((HO3.out.fr _ HF4.out (fun b hb e => by have := hb.1; omega)).fr _ hf6 (fun b hb e => by have := hb.1; omega)).fr _ (Fr.below (P := fun _ => False) hba) (fun _ _ h => h)
          have hO4 : OPs (m + 1) wa (Nw w3 w4) A4 pb.kids := (HO4.out.fr _ hf6 (fun b hb e => by have := hb.1; omega)).fr _ (Fr.below (P := fun _ => False) hba) (fun _ _ h => h)
          have hOK : OPs (m + 1 + 1) wa (Nw w wa) (some ⟨w4.heap.size, 0, none⟩) [pa, pb] := OPs.two HG5 hO3 hO4 ⟨by omega, hll⟩ (fun b hb => ⟨⟨by have := hb.1; omega, by have := hb.2; omega⟩, by have := hb.2; omega, fun hb' => by have := hb.2; have := hb'.1; omega⟩) (fun b hb => ⟨⟨by have := hb.1; omega, by have := hb.2; omega⟩, by have := hb.2; omega, fun hb' => by have := hb.1; have := hb'.2; omega⟩)
          have hfa : Fr (fun b => b = rb) w wa := (((HFW2.out.trans HF3.out).trans HF4.out).andThen hf6 (fun x hx e => by omega)).trans (Fr.below hba)
          have hRa : RRd wa B rb (N + 1 + 1 + pkP (m + 1) + pkP (m + 1)) := (HR4.out.fr hf6 (fun b hb => by omega)).below hba
          have HF : Hid (PwQ (m + 1) B rb N w (.returned (.agg #[.int .i64 5, .int .i64 0, .int .i64 0, .int .i64 0, .int .i64 0, .slice (some ⟨w4.heap.size, 0, none⟩) 2 2])) wa) := by
            refine ⟨.mk 5 0 0 0 0 [pa, pb], some ⟨w4.heap.size, 0, none⟩, 2, rfl, ?_, hOK, hRa.more (by have := HPM.out; omega), hfa⟩
            have := HS3.out
            have := HS4.out
            have := H3.out
            rw [wP, wPs, wPs, wPs]
            omega
          obtain ⟨r0, r1, r2, r3, r4, r5, _⟩ := cellsP hp2
          clear hOK hfa hRa hO3 hO4 HG5 hba hp2 hp hf6
          go_wp2_with fail
          exact bodyPost_ret (v := .agg #[.int .i64 5, .int .i64 0, .int .i64 0, .int .i64 0, .int .i64 0, .slice (some ⟨w4.heap.size, 0, none⟩) 2 2]) (by simp [results, Try.results110, go_sem, r0, r1, r2, r3, r4, r5]) rfl HF.out
      · have q0 : ((k2 : Int) == 0) = false := ieq_f (by omega)
        obtain ⟨y0, y1⟩ := HX2.out
        by_cases h1 : t.data = -1
        · have q1 := ieq_t h1
          clear h1
          go_wp2_with fail
          refine (pick_any rb B (N + 1 + 1) 10 _ HR2.out (by have := HN.out; omega)).mono ?_
          rintro e w3 ⟨k3, rfl, hk3, hR3, hg3⟩
          have hk39 : k3 ≤ 9 := by omega
          have hw1 : IntKind.i64.wrap (10 - (k3 : Int)) = 10 - (k3 : Int) := IntWalk.i64_in _ (by omega)
          have HR3 := Lib.hid hR3
          have HF3 : Hid (Fr (fun b => b = rb) w2 w3) := Fr.grown hg3 (fun b e => by injection e)
          clear hR3 hg3 y0 y1
          go_wp2_with fail
          refine (pick_any rb B (N + 1 + 1 + 1) (10 - (k3 : Int)) _ HR3.out (by have := HN.out; omega)).mono ?_
          rintro e w4 ⟨k4, rfl, hk4, hR4, hg4⟩
          have HR4 := Lib.hid hR4
          have HF4 : Hid (Fr (fun b => b = rb) w3 w4) := Fr.grown hg4 (fun b e => by injection e)
          clear hR4 hg4
          go_wp2_with fail
          refine (pick_any rb B (N + 1 + 1 + 1 + 1) 2 _ HR4.out (by have := HN.out; omega)).mono ?_
          rintro e w5 ⟨k5, rfl, hk5, hR5, hg5⟩
          have HR5 := Lib.hid hR5
          have HF5 : Hid (Fr (fun b => b = rb) w4 w5) := Fr.grown hg5 (fun b e => by injection e)
          have hk5' : k5 = 0 ∨ k5 = 1 := by omega
          obtain ⟨z, hz, hz0, hz9⟩ : ∃ z : Int, (k4 : Int) * (k5 : Int) = z ∧ 0 ≤ z ∧ z ≤ 9 := by
            refine ⟨_, rfl, ?_⟩
            rcases hk5' with rfl | rfl
            · simp
            · simp; omega
          have hw2 : IntKind.i64.wrap ((k4 : Int) * (k5 : Int)) = z := by rw [hz]; exact IntWalk.i64_in _ (by omega)
          have hw3 : IntKind.i64.wrap ((k3 : Int) + z) = (k3 : Int) + z := IntWalk.i64_in _ (by omega)
          have hfx : Fr (fun b => b = rb) w w5 := ((HFW2.out.trans HF3.out).trans HF4.out).trans HF5.out
          have hxr : w5.heap[w.heap.size + 1]? = some (.cells #[.int .i64 0, .int .i64 0, .int .i64 0, .int .i64 0, .int .i64 0, .slice none 0 0] 50 (0, 0)) := (((HF3.out.trans HF4.out).trans HF5.out).block HXR2.out (by omega))
          clear hR5 hg5 hk3 hk4 hk5 hk5' hz
          obtain ⟨k0, k1, k2, k3', k4', k5', k6, k7, k8, k9, k10, k11⟩ := cellsP hxr
          have HF : Hid (PwQ (m + 1) B rb N w (.returned (.agg #[.int .i64 3, .int .i64 0, .int .i64 k3, .int .i64 ((k3 : Int) + z), .int .i64 0, .slice none 0 0])) (((((((w5).setCell ⟨w.heap.size + 1, 0, none⟩ (.int .i64 3)).setCell ⟨w.heap.size + 1, 1, none⟩ (.int .i64 0)).setCell ⟨w.heap.size + 1, 2, none⟩ (.int .i64 k3)).setCell ⟨w.heap.size + 1, 3, none⟩ (.int .i64 ((k3 : Int) + z))).setCell ⟨w.heap.size + 1, 4, none⟩ (.int .i64 0)).setCell ⟨w.heap.size + 1, 5, none⟩ (.slice none 0 0))) :=
            ⟨.mk 3 0 k3 ((k3 : Int) + z) 0 [], none, 0, rfl, by rw [wP, wPs]; have : 1 ≤ 3 ^ (m + 1 + 1) := Nat.one_le_pow _ _ (by omega); omega, OPs.nil _ _ _ _, (HR5.out).fr (Fr.six _ _ _ _ _ _ _ _) (fun b hb => by omega) |>.more (by simp only [pkP]; omega), (hfx).put6 (by omega) _ _ _ _ _ _⟩
          go_wp2_with fail
          exact bodyPost_ret (v := .agg #[.int .i64 3, .int .i64 0, .int .i64 k3, .int .i64 ((k3 : Int) + z), .int .i64 0, .slice none 0 0]) (by simp [results, Try.results110, go_sem, k0, k1, k2, k3', k4', k5']) rfl HF.out
        · have q1 := ieq_f h1
          have H1 := Lib.hid h1
          clear h1
          go_wp2_with fail
          refine (l1Ctors_all A l cap t _ (HROB.out _ (Stays.fr HFW2.out HLO.out)) HK.out).mono ?_
          rintro e w3 ⟨v1, rfl, ho1, hb3⟩
          obtain ⟨A1, c1, rfl, hr1, hat1⟩ := ho1.form2 hcl
          have HR1 := Lib.hid hr1
          have HAT1 := Lib.hid hat1
          have hfx : Fr (fun b => b = rb) w w3 := HFW2.out.trans (Fr.below hb3)
          have HFW3 := Lib.hid hfx
          have hxr : w3.heap[w.heap.size + 1]? = some (.cells #[.int .i64 0, .int .i64 0, .int .i64 0, .int .i64 0, .int .i64 0, .slice none 0 0] 50 (0, 0)) := (hb3.block _ (heap_lt HXR2.out)).trans HXR2.out
          have HXR3 := Lib.hid hxr
          have HR3 := Lib.hid (HR2.out.below hb3)
          have HX3 : Hid (Bx w3 w.heap.size t) := Bx.at_ ⟨y0, y1⟩ hb3
          have hz3w := hb3.size
          clear ho1 hr1 hat1 hb3 y0 y1 q0 hk0
          by_cases hl0 : (ctR l t).length = 0
          · have q0 : (((ctR l t).length : Int) == 0) = true := ieq_t (by omega)
            obtain ⟨k0, k1, k2, k3, k4, k5, k6, k7, k8, k9, k10, k11⟩ := cellsP hxr
            have HF : Hid (PwQ (m + 1) B rb N w (.returned (.agg #[.int .i64 1, .int .i64 0, .int .i64 0, .int .i64 0, .int .i64 0, .slice none 0 0])) (((((((w3).setCell ⟨w.heap.size + 1, 0, none⟩ (.int .i64 1)).setCell ⟨w.heap.size + 1, 1, none⟩ (.int .i64 0)).setCell ⟨w.heap.size + 1, 2, none⟩ (.int .i64 0)).setCell ⟨w.heap.size + 1, 3, none⟩ (.int .i64 0)).setCell ⟨w.heap.size + 1, 4, none⟩ (.int .i64 0)).setCell ⟨w.heap.size + 1, 5, none⟩ (.slice none 0 0))) :=
              ⟨.mk 1 0 0 0 0 [], none, 0, rfl, by rw [wP, wPs]; have : 1 ≤ 3 ^ (m + 1 + 1) := Nat.one_le_pow _ _ (by omega); omega, OPs.nil _ _ _ _, (HR3.out).fr (Fr.six _ _ _ _ _ _ _ _) (fun b hb => by omega) |>.more (by simp only [pkP]; omega), (hfx).put6 (by omega) _ _ _ _ _ _⟩
            go_wp2_with fail
            exact bodyPost_ret (v := .agg #[.int .i64 1, .int .i64 0, .int .i64 0, .int .i64 0, .int .i64 0, .slice none 0 0]) (by simp [results, Try.results110, go_sem, k0, k1, k2, k3, k4, k5]) rfl HF.out
          · have q0 : (((ctR l t).length : Int) == 0) = false := ieq_f (by omega)
            clear hfx hxr
            go_wp2_with fail
            refine (pick_any rb B (N + 1 + 1) (ctR l t).length _ HR3.out (by have := HN.out; omega)).mono ?_
            rintro e w4 ⟨kk, rfl, hkk, hR4, hg4⟩
            have hkl : kk < (ctR l t).length := by omega
            have hkkI : (kk : Int) < ((ctR l t).length : Int) := by omega
            obtain ⟨b5, o5, rfl, hb5, c0⟩ := HR1.out.2 kk hkl
            have hat5 := HAT1.out b5 o5 rfl
            have hne5 : b5 ≠ rb := by omega
            have u0 : w4.cell? ⟨b5, o5 + kk, none⟩ = some (.int .i64 (ctR l t)[kk]) := hg4.cell c0 (fun e => hne5 (by injection e))
            have HXM : Hid ((ctR l t)[kk] ∈ ctR l t) := List.getElem_mem hkl
            generalize (ctR l t)[kk] = x at HXM u0
            have u1 : w4.cell? ⟨w.heap.size, 0, none⟩ = some (.int .i64 t.data) := hg4.cell HX3.out.1 (fun e => by injection e with e; simp only at e; omega)
            have u2 : w4.cell? ⟨w.heap.size, 1, none⟩ = some (.int .i64 t.index) := hg4.cell HX3.out.2 (fun e => by injection e with e; simp only at e; omega)
            have hf4 : Fr (fun b => b = rb) w3 w4 := Fr.grown hg4 (fun b e => by injection e)
            have HFW4 : Hid (Fr (fun b => b = rb) w w4) := HFW3.out.trans hf4
            have HXR4 : Hid (w4.heap[w.heap.size + 1]? = some (.cells #[.int .i64 0, .int .i64 0, .int .i64 0, .int .i64 0, .int .i64 0, .slice none 0 0] 50 (0, 0))) := hf4.block HXR3.out (by omega)
            have HR4 := Lib.hid hR4
            have hsz4 : w.heap.size + 1 < w4.heap.size := heap_lt HXR4.out
            have y1' : (w4.alloc (.cells #[.int .i64 4, .int .i64 x, .int .i64 0, .int .i64 0, .int .i64 0, .slice none 0 0] 50)).cell? ⟨w.heap.size, 0, none⟩ = some (.int .i64 t.data) := (World.cell?_alloc_lt _ _ _ (by simp only; omega)).trans u1
            have y2' : (w4.alloc (.cells #[.int .i64 4, .int .i64 x, .int .i64 0, .int .i64 0, .int .i64 0, .slice none 0 0] 50)).cell? ⟨w.heap.size, 1, none⟩ = some (.int .i64 t.index) := (World.cell?_alloc_lt _ _ _ (by simp only; omega)).trans u2
            clear hR4 hg4 c0 hkk hb5 hat5 hf4 q0 hl0
            go_wp2_with fail
            clear y1' y2'
            generalize hw5 : w4.alloc (.cells #[.int .i64 4, .int .i64 x, .int .i64 0, .int .i64 0, .int .i64 0, .slice none 0 0] 50) = w5
            have hb5 : Below w4.heap.size w4 w5 := by rw [← hw5]; exact (Below.refl _ _).alloc (Nat.le_refl _) _
            have HG5 : Hid (w5.heap[w4.heap.size]? = some (.cells #[.int .i64 4, .int .i64 x, .int .i64 0, .int .i64 0, .int .i64 0, .slice none 0 0] 50 (0, 0))) := by unfold Hid; rw [← hw5]; exact heap_alloc_new _ _
            clear hw5
            have HF5 : Hid (Fr (fun b => b = rb) w w5) := HFW4.out.trans (Fr.below hb5)
            refine (l1Args_all _ l _ t x _ (HROB.out _ (Stays.fr HF5.out HLO.out)) HXM.out).mono ?_
            rintro e w6 ⟨v4, rfl, ho6, hb6⟩
            obtain ⟨A3, c3, rfl, hr4⟩ := ho6.form (by have := agR_len l t x; unfold maxLen; omega)
            have HR6 := Lib.hid hr4
            have HA3 : Hid (∀ b o, A3 = some ⟨b, o, none⟩ → w5.heap.size ≤ b ∧ b < w6.heap.size) := (by obtain ⟨_, hro, _⟩ := ho6; obtain ⟨_, _, _, hob⟩ := own_form hro; exact fun b o e => by subst e; exact hob b rfl)
            have HG4 : Hid (w6.heap[w4.heap.size]? = some (.cells #[.int .i64 4, .int .i64 x, .int .i64 0, .int .i64 0, .int .i64 0, .slice none 0 0] 50 (0, 0))) := (hb6.block _ (heap_lt HG5.out)).trans HG5.out
            have HZL : Hid (w6.heap[w.heap.size + 1]? = some (.cells #[.int .i64 0, .int .i64 0, .int .i64 0, .int .i64 0, .int .i64 0, .slice none 0 0] 50 (0, 0))) := (hb6.block _ (by have := hb5.size; omega)).trans ((hb5.block _ (by omega)).trans HXR4.out)
            have HFL : Hid (Fr (fun b => b = rb) w w6) := HF5.out.trans (Fr.below hb6)
            have HRL4 : Hid (RRd w6 B rb (N + 5)) := ((HR4.out.below hb5).below hb6).more (by omega)
            have hats := agR_len l t x
            have HAK : Hid (∀ j (h : j < (agR l t x).length), TyOK l (agR l t x)[j]) := fun j h => agR_ok HXM.out _ (List.getElem_mem h)
            have HSZ4 : Hid (w4.heap.size < w6.heap.size ∧ w.heap.size ≤ w6.heap.size) := ⟨heap_lt HG4.out, by have := heap_lt HG4.out; omega⟩
            have HA3' : Hid (∀ b o, A3 = some ⟨b, o, none⟩ → w4.heap.size < b ∧ b < w6.heap.size) := fun b o e => by obtain ⟨h1, h2⟩ := HA3.out b o e; have h3 := heap_lt HG5.out; exact ⟨by omega, h2⟩
            clear HA3 hr4 ho6 u0 u1 u2 HXM
            generalize agR l t x = ats at HAK hats HR6
            generalize hg : w4.heap.size = g at hsz4 HSZ4 HG4 HA3'
            have hgc4 := HG4.out
            clear hb6 hb5 hgc4
            generalize w6 = wl at *
            go_wp2_with fail
            go_loopw [13] (fun i wr => ∃ (vs : List Pt) (Q : Nat → Nat → Prop), vs.length ≤ ats.length ∧ i = .int .i64 (vs.length : Nat) ∧ Hid (BldG (m + 1) wl wr g rb (fun b => wl.heap.size ≤ b) 4 x 0 0 0 vs Q) ∧ Hid (∀ p ∈ vs, 2 + wP p ≤ 2 * 3 ^ (m + 1)) ∧ Hid (RRd wr B rb (N + 5 + vs.length * pkP (m + 1)))) (fun i _ => ats.length - (intOf i).toNat)
            case atStart => exact ⟨[], fun _ _ => False, by simp, rfl, BldG.zero _ HG4.out (by have := HSZ4.out; omega) (by omega), fun p h => absurd h (by simp), by show RRd wl B rb (N + 5 + 0 * pkP (m + 1)); rw [Nat.zero_mul]; exact HRL4.out⟩
            case round =>
              obtain ⟨vs, Q, hk, rfl, HBd, HVS, HRr⟩ := hrel
              by_cases hlt : vs.length < ats.length
              · have hkI : (vs.length : Int) < (ats.length : Int) := by omega
                obtain ⟨hgl, hrbl, hne, hf, Ak, ck, ys, hgc, hown, hrow⟩ := HBd.out
                obtain ⟨b3, o3, rfl, hb3B, p0, p1⟩ := HR6.out.2 vs.length hlt
                obtain ⟨hgb, hbl⟩ := HA3'.out b3 o3 rfl
                have hwr := hf.size
                have HWR := Lib.hid hwr
                have hbe : wr.heap[b3]? = wl.heap[b3]? := hf.2.2.2.2 b3 hb3B (by omega)
                have p0' := (World.cell?_of_block (a := ⟨b3, o3 + vs.length * 2, none⟩) hbe).trans p0
                have p1' := (World.cell?_of_block (a := ⟨b3, o3 + vs.length * 2 + 1, none⟩) hbe).trans p1
                have hfwr : Fr (fun b => b = rb) w wr := HFL.out.andThen hf (fun y hy hq => hq.elim (fun e => by omega) id)
                obtain ⟨_, _, _, hob⟩ := own_form hown
                have HOB := Lib.hid hob
                have HLZ : Hid (B ≤ rb ∧ rb < wl.heap.size) := ⟨hrg, hrbl⟩
                have HGL : Hid (g < wl.heap.size ∧ rb < wl.heap.size ∧ g ≠ rb) := ⟨hgl, hrbl, hne⟩
                have HFR := Lib.hid hf
                have HGC := Lib.hid hgc
                have HOW := Lib.hid hown
                have HRW := Lib.hid hrow
                have c2x : wr.cell? ⟨g, 5, none⟩ = some (.slice Ak vs.length ck) := (cell_of_blk hgc 5).trans rfl
                have hgw := heap_lt hgc
                have HKP : Hid (∀ w2, Fr (fun b => b = rb) wr w2 → w2.cell? ⟨g, 5, none⟩ = some (.slice Ak vs.length ck) ∧ w2.cell? ⟨b3, o3 + vs.length * 2, none⟩ = some (.int .i64 ats[vs.length].data) ∧ w2.cell? ⟨b3, o3 + vs.length * 2 + 1, none⟩ = some (.int .i64 ats[vs.length].index)) := fun w2 h =>
                  have e1 : w2.heap[g]? = wr.heap[g]? := h.2.2.2.2 g hgw hne
                  have e2 : w2.heap[b3]? = wr.heap[b3]? := h.2.2.2.2 b3 (by omega) (by omega)
                  ⟨(World.cell?_of_block (a := ⟨g, 5, none⟩) e1).trans c2x, (World.cell?_of_block (a := ⟨b3, o3 + vs.length * 2, none⟩) e2).trans p0', (World.cell?_of_block (a := ⟨b3, o3 + vs.length * 2 + 1, none⟩) e2).trans p1'⟩
                have HKB : Hid (∀ (w2 : World) (o : Obj), Fr (fun b => b = rb) wr w2 → ∀ b, (Value.slice Ak vs.length ck).ownBlock = some b → (w2.alloc o).heap[b]? = wr.heap[b]?) := fun w2 o h b e => by
                  have h2 := (hob b e).2
                  have h1 := (hob b e).1
                  rw [Below.heap_alloc _ _ _ (Nat.lt_of_lt_of_le h2 h.size), h.2.2.2.2 b h2 (by omega)]
                have HKC : Hid (∀ (w2 w4 : World) (o : Obj), Fr (fun b => b = rb) wr w2 → (w2.alloc o).grownBy w4 (Value.slice Ak vs.length ck).ownBlock → w4.cell? ⟨b3, o3 + vs.length * 2, none⟩ = some (.int .i64 ats[vs.length].data) ∧ w4.cell? ⟨b3, o3 + vs.length * 2 + 1, none⟩ = some (.int .i64 ats[vs.length].index)) := fun w2 w4 o h hg => by
                  have hlw : b3 < w2.heap.size := by have := h.size; omega
                  have e : w4.heap[b3]? = wr.heap[b3]? := by
                    rw [hg.block b3 (by simp; omega) (fun e => by have := (hob b3 e.symm).1; omega), Below.heap_alloc _ _ _ hlw, h.2.2.2.2 b3 (by omega) (by omega)]
                  exact ⟨(World.cell?_of_block (a := ⟨b3, o3 + vs.length * 2, none⟩) e).trans p0', (World.cell?_of_block (a := ⟨b3, o3 + vs.length * 2 + 1, none⟩) e).trans p1'⟩
                have ha1 := HAK.out vs.length hlt
                have hmul : vs.length * pkP (m + 1) + pkP (m + 1) ≤ 3 * pkP (m + 1) := by have := Nat.mul_le_mul_right (pkP (m + 1)) (show vs.length + 1 ≤ 3 by omega); rw [Nat.succ_mul] at this; exact this
                have hd5 := HD5.out
                have hd0 := HD0.out
                have hd1 := HD1.out
                have hwrap : IntKind.i64.wrap (dp - 1) = dp - 1 := IntWalk.i64_in _ (by omega)
                have HIH : Hid (Calls Try.prog 110 #[.pointer (some ⟨rb, 0, none⟩), .slice A l.length cap, .agg #[.int .i64 ats[vs.length].data, .int .i64 ats[vs.length].index], .int .i64 (dp - 1)] wr.drew (PwQ m B rb (N + 5 + vs.length * pkP (m + 1)) wr.drew)) := IHm.out A cap ats[vs.length] (dp - 1) lo B rb _ wr.drew (HROB.out.at_ (Stays.fr (⟨hfwr.1, hfwr.2.1, hfwr.2.2.1, hfwr.2.2.2.1, hfwr.2.2.2.2⟩ : Fr (fun b => b = rb) w wr.drew) HLO.out)) HLO.out ha1 (by omega) (by omega) (by omega) HRr.out.drew (by have := HN.out; have := HPM.out; omega)
                have HS0 : Hid (wr.drew.cell? ⟨g, 5, none⟩ = some (.slice Ak vs.length ck) ∧ wr.drew.cell? ⟨b3, o3 + vs.length * 2, none⟩ = some (.int .i64 ats[vs.length].data) ∧ wr.drew.cell? ⟨b3, o3 + vs.length * 2 + 1, none⟩ = some (.int .i64 ats[vs.length].index)) := ⟨c2x, p0', p1'⟩
                clear hgl hrbl hne hf hgc hown hrow hob hbe p0 p1 p0' p1' ha1 c2x hb3B hfwr hd5 hd0 hd1
                go_wp2_with fail
                refine Till.start (S := fun w' => w'.cell? ⟨g, 5, none⟩ = some (.slice Ak vs.length ck) ∧ w'.cell? ⟨b3, o3 + vs.length * 2, none⟩ = some (.int .i64 ats[vs.length].data) ∧ w'.cell? ⟨b3, o3 + vs.length * 2 + 1, none⟩ = some (.int .i64 ats[vs.length].index)) (z := 14) (by kernel_rfl) ?_
                refine Till.take_ (i := 0) (d := some 81) (v := .pointer (some ⟨g, 5, none⟩)) (ls' := #[true, false, false, false, false, false, false, false, false, false, false, false, false, false, false]) rfl rfl (by kernel_rfl) (by kernel_rfl) (by kernel_rfl) (by kernel_rfl) (fun _ _ _ h => h) HS0.out (Or.inl ⟨by rfl, fun wq hSw => ?_⟩) (by kernel_rfl) ?_
                · obtain ⟨hs0, hs1, hs2⟩ := hSw
                  go_simp
                simp only [Act.put, List.setIfInBounds_toArray, List.set_cons_zero, List.set_cons_succ]
                refine Till.take_ (i := 1) (d := some 82) (v := .slice Ak vs.length ck) (ls' := #[true, true, false, false, false, false, false, false, false, false, false, false, false, false, false]) rfl rfl (by kernel_rfl) (by kernel_rfl) (by kernel_rfl) (by kernel_rfl) (fun _ _ _ h => h) HS0.out (Or.inl ⟨by rfl, fun wq hSw => ?_⟩) (by kernel_rfl) ?_
                · obtain ⟨hs0, hs1, hs2⟩ := hSw
                  go_simp
                simp only [Act.put, List.setIfInBounds_toArray, List.set_cons_zero, List.set_cons_succ]
                refine Till.take_ (i := 2) (d := some 83) (v := .pointer (some ⟨rb, 0, none⟩)) (ls' := #[true, true, true, false, false, false, false, false, false, false, false, false, false, false, false]) rfl rfl (by kernel_rfl) (by kernel_rfl) (by kernel_rfl) (by kernel_rfl) (fun _ _ _ h => h) HS0.out (Or.inl ⟨by rfl, fun wq hSw => ?_⟩) (by kernel_rfl) ?_
                · obtain ⟨hs0, hs1, hs2⟩ := hSw
                  go_simp
                simp only [Act.put, List.setIfInBounds_toArray, List.set_cons_zero, List.set_cons_succ]
                refine Till.take_ (i := 3) (d := some 84) (v := .slice A l.length cap) (ls' := #[true, true, true, true, false, false, false, false, false, false, false, false, false, false, false]) rfl rfl (by kernel_rfl) (by kernel_rfl) (by kernel_rfl) (by kernel_rfl) (fun _ _ _ h => h) HS0.out (Or.inl ⟨by rfl, fun wq hSw => ?_⟩) (by kernel_rfl) ?_
                · obtain ⟨hs0, hs1, hs2⟩ := hSw
                  go_simp
                simp only [Act.put, List.setIfInBounds_toArray, List.set_cons_zero, List.set_cons_succ]
                refine Till.take_ (i := 4) (d := some 85) (v := .slice (some ⟨b3, o3, none⟩) ats.length c3) (ls' := #[true, true, true, true, true, false, false, false, false, false, false, false, false, false, false]) rfl rfl (by kernel_rfl) (by kernel_rfl) (by kernel_rfl) (by kernel_rfl) (fun _ _ _ h => h) HS0.out (Or.inl ⟨by rfl, fun wq hSw => ?_⟩) (by kernel_rfl) ?_
                · obtain ⟨hs0, hs1, hs2⟩ := hSw
                  go_simp
                simp only [Act.put, List.setIfInBounds_toArray, List.set_cons_zero, List.set_cons_succ]
                refine Till.take_ (i := 5) (d := some 86) (v := .int .i64 vs.length) (ls' := #[true, true, true, true, true, true, false, false, false, false, false, false, false, false, false]) rfl rfl (by kernel_rfl) (by kernel_rfl) (by kernel_rfl) (by kernel_rfl) (fun _ _ _ h => h) HS0.out (Or.inl ⟨by rfl, fun wq hSw => ?_⟩) (by kernel_rfl) ?_
                · obtain ⟨hs0, hs1, hs2⟩ := hSw
                  go_simp
                simp only [Act.put, List.setIfInBounds_toArray, List.set_cons_zero, List.set_cons_succ]
                refine Till.take_ (i := 6) (d := some 87) (v := .pointer (some ⟨b3, o3 + vs.length * 2, none⟩)) (ls' := #[true, true, true, true, true, true, true, false, false, false, false, false, false, false, false]) rfl rfl (by kernel_rfl) (by kernel_rfl) (by kernel_rfl) (by kernel_rfl) (fun _ _ _ h => h) HS0.out (Or.inl ⟨by rfl, fun wq hSw => ?_⟩) (by kernel_rfl) ?_
                · obtain ⟨hs0, hs1, hs2⟩ := hSw
                  go_simp
                simp only [Act.put, List.setIfInBounds_toArray, List.set_cons_zero, List.set_cons_succ]
                refine Till.take_ (i := 7) (d := some 88) (v := .agg #[.int .i64 ats[vs.length].data, .int .i64 ats[vs.length].index]) (ls' := #[true, true, true, true, true, true, true, true, false, false, false, false, false, false, false]) rfl rfl (by kernel_rfl) (by kernel_rfl) (by kernel_rfl) (by kernel_rfl) (fun _ _ _ h => h) HS0.out (Or.inl ⟨by rfl, fun wq hSw => ?_⟩) (by kernel_rfl) ?_
                · obtain ⟨hs0, hs1, hs2⟩ := hSw
                  go_simp
                simp only [Act.put, List.setIfInBounds_toArray, List.set_cons_zero, List.set_cons_succ]
                refine Till.take_ (i := 8) (d := some 89) (v := .int .i64 dp) (ls' := #[true, true, true, true, true, true, true, true, true, false, false, false, false, false, false]) rfl rfl (by kernel_rfl) (by kernel_rfl) (by kernel_rfl) (by kernel_rfl) (fun _ _ _ h => h) HS0.out (Or.inl ⟨by rfl, fun wq hSw => ?_⟩) (by kernel_rfl) ?_
                · obtain ⟨hs0, hs1, hs2⟩ := hSw
                  go_simp
                simp only [Act.put, List.setIfInBounds_toArray, List.set_cons_zero, List.set_cons_succ]
                refine Till.take_ (i := 9) (d := some 90) (v := .int .i64 (dp - 1)) (ls' := #[true, true, true, true, true, true, true, true, true, true, false, false, false, false, false]) rfl rfl (by kernel_rfl) (by kernel_rfl) (by kernel_rfl) (by kernel_rfl) (fun _ _ _ h => h) HS0.out (Or.inl ⟨by rfl, fun wq hSw => ?_⟩) (by kernel_rfl) ?_
                · obtain ⟨hs0, hs1, hs2⟩ := hSw
                  go_simp
                simp only [Act.put, List.setIfInBounds_toArray, List.set_cons_zero, List.set_cons_succ]
                refine Till.all (rs := [10]) (by kernel_rfl) (by decide) (List.forall_mem_cons.2 ⟨?_, fun _ h => nomatch h⟩)
                refine Till.step rfl (by rfl) ?_
                intro K hK
                go_simp
                go_at_call 110
                with_reducible refine (HIH.out).mono ?_
                rintro e w2 ⟨v2, A4, c4, rfl, hsz, ho4, hR4, hf4'⟩
                have hf4 : Fr (fun b => b = rb) wr w2 := ⟨hf4'.1, hf4'.2.1, hf4'.2.2.1, hf4'.2.2.2.1, hf4'.2.2.2.2⟩
                have HS2 := Lib.hid (HKP.out w2 hf4)
                have HF4 := Lib.hid hf4
                have HO4 : Hid (OPs (m + 1) w2 (Nw wr w2) A4 v2.kids) := ho4
                have hbz : wr.heap.size ≤ w2.heap.size := hf4.size
                have HSZ := Lib.hid hsz
                have HR4 := Lib.hid hR4
                clear hf4 hf4' ho4 hsz hR4
                go_simp
                refine hK _ _ (fun _ => HS2.out) ?_
                clear hK K
                refine Till.all (rs := [11]) (by kernel_rfl) (by decide) (List.forall_mem_cons.2 ⟨?_, fun _ h => nomatch h⟩)
                refine Till.step rfl (by rfl) ?_
                intro K hK
                go_simp
                refine hK _ _ (fun _ => ⟨by have := HS2.out.1; go_keep, by have := HS2.out.2.1; go_keep, by have := HS2.out.2.2; go_keep⟩) ?_
                clear hK K
                refine Till.all (rs := [12]) (by kernel_rfl) (by decide) (List.forall_mem_cons.2 ⟨?_, fun _ h => nomatch h⟩)
                refine Till.step rfl (by rfl) ?_
                intro K hK
                refine wp_append_own (.tmp 82) (.tmp 92) 48 (by rfl) wl.heap.size 50 i0 (.agg #[.int .i64 0, .int .i64 0, .int .i64 0, .int .i64 0, .int .i64 0, .slice none 0 0]) 6 64 Try.underlying48 hi0 hz0 hz1 hz2 (by rfl) (by decide) (.slice Ak vs.length ck) vs.length ys (by rfl) (own_at HOW.out (HKB.out w2 _ HF4.out)) ⟨w2.heap.size, 0, none⟩ 1 1 [.int .i64 v2.op, .int .i64 v2.ctor, .int .i64 v2.n, .int .i64 v2.m, .int .i64 v2.var, .slice A4 v2.kids.length c4] (by rfl) rfl (cell_six_new _ _ _ _ _ _ _ _) (by intro u hu; simp at hu; rcases hu with rfl | rfl | rfl | rfl | rfl | rfl <;> rfl) (by unfold maxLen; omega) (by omega) (by simp; omega) ?_
                intro v4 w4 hown4 hgr4 hat4
                obtain ⟨A5, c5, rfl, hg4, hbl4⟩ := BldG.step HGL.out.1 HGL.out.2.1 HGL.out.2.2 HFR.out HGC.out HOW.out HRW.out (fun b hb => by have hbx : wl.heap.size ≤ b := hb; have := HGL.out; omega) HF4.out HO4.out (fun b hb => ⟨by show wl.heap.size ≤ b; have := hb.1; have := HWR.out; omega, hb.2, fun e => by have := (HOB.out b e.symm).2; have := hb.1; omega, fun j hj hq => by have := ((HRW.out j hj).1 b hq).2.1; have := hb.1; omega⟩) hown4 hgr4 hat4
                have HS4 := Lib.hid (And.intro ((cell_of_blk hg4 5).trans rfl) (HKC.out w2 w4 _ HF4.out hgr4))
                have HRR : Hid (RRd w4 B rb (N + 5 + vs.length * pkP (m + 1) + pkP (m + 1))) := (HR4.out.alloc _).fr (Fr.grown (P := fun b => wl.heap.size ≤ b) hgr4 (fun b e => (HOB.out b e.symm).1)) (fun b h => by have := HLZ.out; omega)
                have hfz : w4.frozen? ⟨g, 5, none⟩ = false := frozen_of_row w4 g 5 _ 50 hg4
                have c4x := HS4.out.1
                have HBL := Lib.hid hbl4
                clear hown4 hgr4 hat4 hg4 hbl4
                refine hK _ _ (fun _ => HS4.out) ?_
                clear hK K
                refine Till.all (rs := [13]) (by kernel_rfl) (by decide) (List.forall_mem_cons.2 ⟨?_, fun _ h => nomatch h⟩)
                refine Till.step rfl (by rfl) ?_
                intro K hK
                go_simp
                refine hK _ _ (fun _ => HS4.out) ?_
                clear hK K
                refine Till.all (rs := [14]) (by kernel_rfl) (by decide) (List.forall_mem_cons.2 ⟨?_, fun _ h => nomatch h⟩)
                refine Till.step rfl (by rfl) ?_
                intro K hK
                go_simp
                refine hK _ _ (fun h => absurd rfl h) ?_
                clear hK K
                refine Till.done (by kernel_rfl) ?_ _
                clear c4x hfz HS4 HS2
                go_wp2_with fail
                have hll : ((vs ++ [v2]).length : Int) = (vs.length : Int) + 1 := by simp
                go_roundw
                case rel =>
                  refine ⟨vs ++ [v2], _, by simp; omega, by rw [hll], HBL.out, fun p hp => ?_, ?_⟩
                  · rcases List.mem_append.1 hp with hp | hp
                    · exact HVS.out p hp
                    · rw [List.mem_singleton.1 hp]; exact HSZ.out
                  · have e : N + 5 + (vs ++ [v2]).length * pkP (m + 1) = N + 5 + vs.length * pkP (m + 1) + pkP (m + 1) := by rw [List.length_append]; simp only [List.length_singleton, Nat.succ_mul]; omega
                    rw [e]
                    exact HRR.out.setCell (by have := HGL.out; omega) (by have := HLZ.out; omega)
                case measure => simp [intOf]; omega
              · have hke : vs.length = ats.length := by omega
                obtain ⟨A6, c6, hg6, ho6, hf6⟩ := HBd.out.all (by omega)
                have hr6 : wr.heap[w.heap.size + 1]? = some (.cells #[.int .i64 0, .int .i64 0, .int .i64 0, .int .i64 0, .int .i64 0, .slice none 0 0] 50 (0, 0)) := hf6.block HZL.out (by omega)
                have hfw : Fr (fun b => b = rb) w wr := HFL.out.andThen hf6 (fun y hy hq => hq.elim (fun e => by omega) id)
                have HFW := Lib.hid hfw
                have HO6 := Lib.hid ho6
                obtain ⟨g0, g1, g2, g3, g4, g5, _⟩ := cellsP hg6
                obtain ⟨k0, k1', k2', k3, k4, k5, k6, k7, k8, k9, k10, k11⟩ := cellsP hr6
                have hkI : (ats.length : Int) ≤ (vs.length : Int) := by omega
                have hwl : wl.heap.size ≤ wr.heap.size := hf6.size
                have hmul : vs.length * pkP (m + 1) ≤ 3 * pkP (m + 1) := Nat.mul_le_mul_right (pkP (m + 1)) (show vs.length ≤ 3 by omega)
                have HFIN : Hid (PwQ (m + 1) B rb N w (.returned (.agg #[.int .i64 4, .int .i64 x, .int .i64 0, .int .i64 0, .int .i64 0, .slice A6 vs.length c6])) ((((((wr.setCell ⟨w.heap.size + 1, 0, none⟩ (.int .i64 4)).setCell ⟨w.heap.size + 1, 1, none⟩ (.int .i64 x)).setCell ⟨w.heap.size + 1, 2, none⟩ (.int .i64 0)).setCell ⟨w.heap.size + 1, 3, none⟩ (.int .i64 0)).setCell ⟨w.heap.size + 1, 4, none⟩ (.int .i64 0)).setCell ⟨w.heap.size + 1, 5, none⟩ (.slice A6 vs.length c6))) := by
                  have hs4 := HSZ4.out
                  refine ⟨.mk 4 x 0 0 0 vs, A6, c6, rfl, ?_, ((HO6.out.fr _ (Fr.six _ _ _ _ _ _ _ _) (fun b hq e => by rcases hq.1 with h | h <;> (first | (have h' : wl.heap.size ≤ b := h; omega) | omega))).wide _ (fun b hq => ⟨by rcases hq.1 with h | h <;> (first | (have h' : wl.heap.size ≤ b := h; omega) | omega), by have h2 := hq.2; simpa [World.setCell] using h2⟩)), (HRr.out.fr (Fr.six _ _ _ _ _ _ _ _) (fun b hb => by omega)).more (by have := HPM.out; omega), HFW.out.put6 (by omega) _ _ _ _ _ _⟩
                  rw [H3.out, wP]
                  have h1 := wPs_le HVS.out
                  have h31 := H31.out
                  have hl3 : vs.length ≤ 3 := by omega
                  have hE : 2 ≤ 2 * 3 ^ (m + 1) := by omega
                  generalize 2 * 3 ^ (m + 1) = E at h1 hE ⊢
                  rcases (show vs.length = 0 ∨ vs.length = 1 ∨ vs.length = 2 ∨ vs.length = 3 by omega) with e | e | e | e <;> rw [e] at h1 <;> omega
                clear hke hg6 ho6 hf6 hfw hr6
                go_wp2_with fail
                exact bodyPost_ret (v := .agg #[.int .i64 4, .int .i64 x, .int .i64 0, .int .i64 0, .int .i64 0, .slice A6 vs.length c6]) (by simp [results, Try.results110, go_sem, k0, k1', k2', k3, k4, k5]) rfl HFIN.out
theorem pw_any (l : List Da) (hw : WorldOK l) : ∀ n, PwS l n
  | 0 => pw_of l 0 hw (fun m h => by omega)
  | n + 1 => pw_of l (n + 1) hw (fun m h => (Nat.succ.inj h) ▸ pw_any l hw n)
end Go.Proofs.Yteoopmogklpnoaa
