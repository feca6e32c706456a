/-
  A clause is drawn: the document's function. No statement is proved here.
-/
import Derived.Test.YteoopmogklpnoaaT34
import Derived.Test.YteoopmogklpnoaaT36
import Derived.Test.YteoopmogklpnoaaT33
namespace Go.Proofs.Yteoopmogklpnoaa
open Go.RowKit Go.Sort Go.Deep
set_option maxRecDepth 100000
set_option linter.unusedVariables false
/-- A clause in blocks of its own. -/
def ClQ (l : List Da) (t : Ty) (B rb N : Nat) (w : World) (e : Ending) (w' : World) : Prop := ∃ (p : Pt) (g0 g1 g2 : Int) (D : Option Addr) (c : Nat), e = .returned (.agg #[.int .i64 p.op, .int .i64 p.ctor, .int .i64 p.n, .int .i64 p.m, .int .i64 p.var, .slice D p.kids.length c, .int .i64 g0, .int .i64 g1, .int .i64 g2]) ∧ (isP l t p = true ∨ p = .mk 1 0 0 0 0 []) ∧ wP p ≤ 400 ∧ OPs 8 w' (Nw w w') D p.kids ∧ RRd w' B rb (N + 2000) ∧ Fr (fun b => b = rb) w w'
theorem sh_any {l : List Da} {t : Ty} {p : Pt} (h : isP l t p = true ∨ p = .mk 1 0 0 0 0 []) : shP l 10 t p = true := by
  rcases h with h | h
  · unfold isP at h
    rw [Bool.and_eq_true] at h
    exact h.1
  · subst h
    have e : tysP l t (.mk 1 0 0 0 0 []) = [] := by
      rw [tysP_other (by decide)]; rfl
    have ho : OwnOK l t (.mk 1 0 0 0 0 []) := ⟨fun h => absurd h (by decide), fun _ => rfl, fun _ => ⟨rfl, rfl⟩, fun _ => rfl, .inl rfl⟩
    rw [shP_go (d := 9) ho (by rw [e]; rfl), e]
    rfl
def C9 (w : World) (b : Nat) (p : Pt) (D : Option Addr) (c : Nat) (g0 g1 g2 : Int) : Prop := w.heap[b]? = some (.cells #[.int .i64 p.op, .int .i64 p.ctor, .int .i64 p.n, .int .i64 p.m, .int .i64 p.var, .slice D p.kids.length c, .int .i64 g0, .int .i64 g1, .int .i64 g2] 128 (0, 0))
theorem C9.cells {w : World} {b : Nat} {p : Pt} {D : Option Addr} {c : Nat} {g0 g1 g2 : Int} (h : C9 w b p D c g0 g1 g2) : w.cell? ⟨b, 0, none⟩ = some (.int .i64 p.op) ∧ w.cell? ⟨b, 1, none⟩ = some (.int .i64 p.ctor) ∧ w.cell? ⟨b, 2, none⟩ = some (.int .i64 p.n) ∧ w.cell? ⟨b, 3, none⟩ = some (.int .i64 p.m) ∧ w.cell? ⟨b, 4, none⟩ = some (.int .i64 p.var) ∧ w.cell? ⟨b, 5, none⟩ = some (.slice D p.kids.length c) ∧ w.cell? ⟨b, 6, none⟩ = some (.int .i64 g0) ∧ w.cell? ⟨b, 7, none⟩ = some (.int .i64 g1) ∧ w.cell? ⟨b, 8, none⟩ = some (.int .i64 g2) :=
  ⟨(cell_of_blk h 0).trans rfl, (cell_of_blk h 1).trans rfl, (cell_of_blk h 2).trans rfl, (cell_of_blk h 3).trans rfl, (cell_of_blk h 4).trans rfl, (cell_of_blk h 5).trans rfl, (cell_of_blk h 6).trans rfl, (cell_of_blk h 7).trans rfl, (cell_of_blk h 8).trans rfl⟩
theorem C9.free {w : World} {b : Nat} {p : Pt} {D : Option Addr} {c : Nat} {g0 g1 g2 : Int} (h : C9 w b p D c g0 g1 g2) (o : Nat) : w.frozen? ⟨b, o, none⟩ = false := free_of_blk h o
theorem C9.put {w : World} {b : Nat} {p : Pt} {D : Option Addr} {c : Nat} {g0 g1 g2 : Int} (h : C9 w b p D c g0 g1 g2) (x y z : Int) : C9 (((w.setCell ⟨b, 6, none⟩ (.int .i64 x)).setCell ⟨b, 7, none⟩ (.int .i64 y)).setCell ⟨b, 8, none⟩ (.int .i64 z)) b p D c x y z := by
  refine (heap_setCell_same _ b 8 _ _ _ (heap_setCell_same _ b 7 _ _ _ (heap_setCell_same _ b 6 _ _ _ h))).trans rfl
set_option maxHeartbeats 16000000 in
theorem cl_any (l : List Da) (hw : WorldOK l) (A : Option Addr) (cap : Nat) (t : Ty) (lo B rb N : Nat) (w : World) (hrob : RobW w lo A l) (hlo : rb < lo) (ht : TyOK l t) (hR : RRd w B rb N) (hN : N ≤ 70000) :
    Calls Try.prog 135 #[.pointer (some ⟨rb, 0, none⟩), .slice A l.length cap, .agg #[.int .i64 t.data, .int .i64 t.index]] w (ClQ l t B rb N w) := by
  have hBr : B ≤ rb := by obtain ⟨_, _, _, _, _, _, _, h, _⟩ := hR; exact h
  have hrl := hR.lt
  generalize hwx : (w.alloc (.cells #[.int .i64 t.data, .int .i64 t.index] 25)).alloc (.cells #[.int .i64 0, .int .i64 0, .int .i64 0, .int .i64 0, .int .i64 0, .slice none 0 0, .int .i64 0, .int .i64 0, .int .i64 0] 128) = wx
  have hbx := below_box2 hwx
  have hsx : wx.heap.size = w.heap.size + 2 := by rw [← hwx]; simp
  have HXT : Hid (Bx wx w.heap.size t) := by rw [← hwx]; exact ⟨by simp [go_sem], by simp [go_sem]⟩
  have HZC : Hid (wx.heap[w.heap.size + 1]? = some (.cells #[.int .i64 0, .int .i64 0, .int .i64 0, .int .i64 0, .int .i64 0, .slice none 0 0, .int .i64 0, .int .i64 0, .int .i64 0] 128 (0, 0))) := by
    have h := heap_alloc_new (w.alloc (.cells #[.int .i64 t.data, .int .i64 t.index] 25)) (.cells #[.int .i64 0, .int .i64 0, .int .i64 0, .int .i64 0, .int .i64 0, .slice none 0 0, .int .i64 0, .int .i64 0, .int .i64 0] 128)
    rw [World.size_alloc] at h
    unfold Hid; rw [← hwx]; exact h
  have HRBx : Hid (RobW wx lo A l) := hrob.at_ (Stays.below hbx)
  have HBX := Lib.hid hbx
  have HWX := Lib.hid hwx
  have HW := Lib.hid hw
  have HT := Lib.hid ht
  have HRx := Lib.hid (hR.below hbx)
  clear hwx hbx hrob hw ht hR
  obtain ⟨x0, x1⟩ := HXT.out
  go_enter Try.func135, Try.ntmps135
  go_wp2_with fail
  rw [HWX.out]
  with_reducible refine (sm_any l HW.out A cap t lo B rb N wx HRBx.out hlo HT.out HRx.out (by omega)).mono ?_
  rintro e w1 ⟨p, D, c, rfl, hp, hwp, hop, hR1, hf1⟩
  have hs1 := hf1.size
  have HP := Lib.hid hp
  have HSH := Lib.hid (sh_any hp)
  have HWP := Lib.hid hwp
  generalize hw2 : w1.alloc (.cells #[.int .i64 p.op, .int .i64 p.ctor, .int .i64 p.n, .int .i64 p.m, .int .i64 p.var, .slice D p.kids.length c, .int .i64 0, .int .i64 0, .int .i64 0] 128) = w2
  have hb2 : Below w1.heap.size w1 w2 := by rw [← hw2]; exact (Below.refl _ _).alloc (Nat.le_refl _) _
  have hs2 : w2.heap.size = w1.heap.size + 1 := by rw [← hw2]; simp
  have HC2 : Hid (C9 w2 w1.heap.size p D c 0 0 0) := by unfold Hid C9; rw [← hw2]; exact heap_alloc_new w1 _
  have HF2 : Hid (Fr (fun b => b = rb) w w2) := ((Fr.below HBX.out).trans hf1).trans (Fr.below hb2)
  have HFX2 : Hid (Fr (fun b => b = rb) wx w2) := hf1.trans (Fr.below hb2)
  have HO2 : Hid (OPs 8 w2 (Nw wx w1) D p.kids) := hop.fr _ (Fr.below (P := fun _ => False) hb2) (fun _ _ h => h)
  have HR2 := Lib.hid (hR1.below hb2)
  have HB2 : Hid (RobW w2 lo A l) := HRBx.out.at_ (Stays.fr HFX2.out hlo)
  have HW2 := Lib.hid hw2
  have hxt2 : w1.heap[w.heap.size]? = wx.heap[w.heap.size]? := hf1.2.2.2.2 _ (by omega) (by omega)
  have u0 := (World.cell?_of_block (a := ⟨w.heap.size, 0, none⟩) hxt2).trans x0
  have u1 := (World.cell?_of_block (a := ⟨w.heap.size, 1, none⟩) hxt2).trans x1
  have hl01 : w.heap.size < w1.heap.size := by omega
  clear hp hwp hop hR1 hf1 hw2 hb2 x0 x1 hxt2
  have HVC := Lib.hid (varC_any l 10 A D cap c 7 t p [] (.slice none 0 0) w2.heap.size w2 (HB2.out w2 (Stays.refl _ _)) HT.out (OPs.reads 7 HO2.out) HSH.out (OVt.nil _ _) (Nat.le_refl _) (by have := HWP.out; simp; omega))
  go_wp2_with fail
  rw [HW2.out]
  with_reducible refine (HVC.out).mono ?_
  rintro e w3 ⟨v3, rfl, hov, hg3, _⟩
  rw [List.nil_append] at hov
  have hlen : (vrP l 10 t p).length ≤ 401 := by have := vrP_len l 10 t p HSH.out; have := HWP.out; omega
  generalize vrP l 10 t p = L at hov hlen
  obtain ⟨A3, c3, rfl, hr3⟩ := hov.form (by unfold maxLen; omega)
  have HLT := Lib.hid hov.lt
  have HQ3 := Lib.hid hr3
  have hb3 : Below w2.heap.size w2 w3 := ⟨hg3.os, hg3.tape, hg3.output, hg3.size, fun b hb => hg3.block b hb (fun e => by simp [Value.ownBlock] at e)⟩
  have hs3 := hb3.size
  have HC3 : Hid (C9 w3 w1.heap.size p D c 0 0 0) := (hb3.block _ (heap_lt HC2.out)).trans HC2.out
  have HR3 := Lib.hid (HR2.out.below hb3)
  have HF3 : Hid (Fr (fun b => b = rb) w w3) := HF2.out.trans (Fr.below hb3)
  have HO3 : Hid (OPs 8 w3 (Nw wx w1) D p.kids) := HO2.out.fr _ (Fr.below (P := fun _ => False) hb3) (fun _ _ h => h)
  have HZ3 : Hid (w3.heap[w.heap.size + 1]? = some (.cells #[.int .i64 0, .int .i64 0, .int .i64 0, .int .i64 0, .int .i64 0, .slice none 0 0, .int .i64 0, .int .i64 0, .int .i64 0] 128 (0, 0))) := (hb3.block _ (by omega)).trans (HFX2.out.block HZC.out (by omega))
  have hll : (L.length : Int) ≤ 401 := by omega
  clear hov hg3 hb3 hr3 u0 u1 HVC
  go_wp2_with fail
  go_loopw [9] (fun i wr => ∃ (k : Nat) (g0 g1 g2 : Int), k ≤ L.length ∧ i = .int .i64 k ∧ Hid (C9 wr w1.heap.size p D c g0 g1 g2) ∧ Hid (RRd wr B rb (N + 600 + 3 * k)) ∧ Fr (fun b => b = rb ∨ b = w1.heap.size) w3 wr) (fun i _ => L.length - (intOf i).toNat)
  case atStart => exact ⟨0, 0, 0, 0, by omega, rfl, HC3.out, HR3.out.more (by omega), Fr.refl _ _⟩
  case round =>
    obtain ⟨k, g0, g1, g2, hk, rfl, HC, HR, hf⟩ := hrel
    have hsr := hf.size
    by_cases hlt : k < L.length
    · have hi : (k : Int) < (L.length : Int) := by omega
      obtain ⟨b, off, hA, hbB, c0, c1, c2'⟩ := HQ3.out.2 k hlt
      subst hA
      have hbl := HLT.out b rfl
      have hblk : wr.heap[b]? = w3.heap[b]? := hf.2.2.2.2 b hbl.2 (by omega)
      have d0 := (World.cell?_of_block (a := ⟨b, off + k * 3, none⟩) hblk).trans c0
      have d1 := (World.cell?_of_block (a := ⟨b, off + k * 3 + 1, none⟩) hblk).trans c1
      have HD0 := Lib.hid d0
      have HF := Lib.hid hf
      have hbl1 := hbl.1
      have hbl2 : b < wr.heap.size := by omega
      clear c0 c1 c2' hblk hbl hf d0
      by_cases hd : L[k].ty.data = -1
      · have q1 := ieq_t hd
        clear hd
        go_wp2_with fail
        with_reducible refine (pick_any rb B (N + 600 + 3 * k) 2 wr HR.out (by omega)).mono ?_
        rintro e w5 ⟨k2, rfl, hk2, hR5, hg5⟩
        have hf5 : Fr (fun b => b = rb) wr w5 := Fr.grown hg5 (fun b e => by injection e)
        have HF5 : Hid (Fr (fun b => b = rb ∨ b = w1.heap.size) w3 w5) := HF.out.trans (hf5.wide (fun b hb => .inl hb))
        have HC5 : Hid (C9 w5 w1.heap.size p D c g0 g1 g2) := hf5.block HC.out (by omega)
        have hs5 := hf5.size
        have d0 : w5.cell? ⟨b, off + k * 3, none⟩ = some (.int .i64 L[k].var) := (World.cell?_of_block (a := ⟨b, off + k * 3, none⟩) (hf5.2.2.2.2 b hbl2 (by omega))).trans HD0.out
        have HR5 := Lib.hid hR5
        clear hg5 hk2 hR5 d1
        by_cases hk0 : k2 = 0
        · have q0 : ((k2 : Int) == 0) = true := ieq_t (by omega)
          have HD5 := Lib.hid d0
          have HKR : Hid (∀ W, Fr (fun b => b = rb ∨ b = w1.heap.size) w5 W → W.cell? ⟨b, off + k * 3, none⟩ = some (.int .i64 L[k].var)) := fun W h => (World.cell?_of_block (a := ⟨b, off + k * 3, none⟩) (h.2.2.2.2 b (by omega) (by omega))).trans HD5.out
          have SA0 := HKR.out w5 (Fr.refl _ _)
          have SB0 : w5.drew.cell? ⟨b, off + k * 3, none⟩ = some (.int .i64 L[k].var) := SA0
          have HP1 := Lib.hid (pick_any rb B (N + 600 + 3 * k + 1) 2 w5.drew HR5.out.drew (by omega))
          clear hk0 d0
          go_wp2_with fail
          go_region_held3 (fun w' => w'.cell? ⟨b, off + k * 3, none⟩ = some (.int .i64 L[k].var)) (first | with_reducible exact SQ | with_reducible exact SA0 | with_reducible exact SB0 | with_reducible exact SQ1 | go_keep) (first | (go_at_call 42; (with_reducible refine (HP2.out).mono ?_); rintro e w7 ⟨k4, rfl, hk4, hR7, hg7⟩; have hf7 : Fr (fun b => b = rb) w6 w7 := Fr.grown hg7 (fun b e => by injection e); have HF7 : Hid (Fr (fun b => b = rb ∨ b = w1.heap.size) w5 w7) := HF6.out.trans (hf7.wide (fun b hb => .inl hb)); have SQ := HKR.out w7 HF7.out; have HC7 : Hid (C9 w7 w1.heap.size p D c g0 g1 g2) := hf7.block HC6.out (by omega); have hs7 := hf7.size; have HR7 := Lib.hid hR7; have SQ1 := HKR.out (((w7.setCell ⟨w1.heap.size, 6, none⟩ (.int .i64 (IntKind.i64.wrap (1 + (k3 : Int))))).setCell ⟨w1.heap.size, 7, none⟩ (.int .i64 L[k].var)).setCell ⟨w1.heap.size, 8, none⟩ (.int .i64 k4)) (((HF7.out.setOf (.inr rfl)).setOf (.inr rfl)).setOf (.inr rfl)); obtain ⟨_, _, _, _, _, _, e6, e7, e8⟩ := HC7.out.cells; have f6 := HC7.out.free 6; have f7 := HC7.out.free 7; have f8 := HC7.out.free 8; clear hg7 hf7 hR7) | (go_at_call 42; (with_reducible refine (HP1.out).mono ?_); rintro e w6 ⟨k3, rfl, hk3, hR6, hg6⟩; have hf6 : Fr (fun b => b = rb) w5 w6 := Fr.grown (grown_drew hg6) (fun b e => by injection e); have HF6 : Hid (Fr (fun b => b = rb ∨ b = w1.heap.size) w5 w6) := hf6.wide (fun b hb => .inl hb); have SQ := HKR.out w6 HF6.out; have HC6 : Hid (C9 w6 w1.heap.size p D c g0 g1 g2) := hf6.block HC5.out (by omega); have hs6 := hf6.size; have HP2 := Lib.hid (pick_any rb B (N + 600 + 3 * k + 1 + 1) 10 w6 hR6 (by omega)); have hk3' : (k3 : Int) ≤ 1 := (by rcases hk3 with h | h <;> omega); clear hg6 hf6 hR6))
          all_goals
            have hfz : Fr (fun b => b = rb ∨ b = w1.heap.size) w5 (((w7.setCell ⟨w1.heap.size, 6, none⟩ (.int .i64 (IntKind.i64.wrap (1 + (k3 : Int))))).setCell ⟨w1.heap.size, 7, none⟩ (.int .i64 L[k].var)).setCell ⟨w1.heap.size, 8, none⟩ (.int .i64 k4)) := ((HF7.out.setOf (.inr rfl)).setOf (.inr rfl)).setOf (.inr rfl)
            have HCZ : Hid (C9 (((w7.setCell ⟨w1.heap.size, 6, none⟩ (.int .i64 (IntKind.i64.wrap (1 + (k3 : Int))))).setCell ⟨w1.heap.size, 7, none⟩ (.int .i64 L[k].var)).setCell ⟨w1.heap.size, 8, none⟩ (.int .i64 k4)) w1.heap.size p D c (IntKind.i64.wrap (1 + (k3 : Int))) L[k].var k4) := HC7.out.put _ _ _
            have HRZ : Hid (RRd (((w7.setCell ⟨w1.heap.size, 6, none⟩ (.int .i64 (IntKind.i64.wrap (1 + (k3 : Int))))).setCell ⟨w1.heap.size, 7, none⟩ (.int .i64 L[k].var)).setCell ⟨w1.heap.size, 8, none⟩ (.int .i64 k4)) B rb (N + 600 + 3 * (k + 1))) := (((HR7.out.setCell (by omega) (by omega)).setCell (by omega) (by omega)).setCell (by omega) (by omega)).more (by omega)
            have HFZ : Hid (Fr (fun b => b = rb ∨ b = w1.heap.size) w3 (((w7.setCell ⟨w1.heap.size, 6, none⟩ (.int .i64 (IntKind.i64.wrap (1 + (k3 : Int))))).setCell ⟨w1.heap.size, 7, none⟩ (.int .i64 L[k].var)).setCell ⟨w1.heap.size, 8, none⟩ (.int .i64 k4))) := HF5.out.trans hfz
            generalize (((w7.setCell ⟨w1.heap.size, 6, none⟩ (.int .i64 (IntKind.i64.wrap (1 + (k3 : Int))))).setCell ⟨w1.heap.size, 7, none⟩ (.int .i64 L[k].var)).setCell ⟨w1.heap.size, 8, none⟩ (.int .i64 k4)) = wz at HCZ HRZ HFZ ⊢
            clear hfz
            go_wp2_with fail
            go_roundw
            case rel => exact ⟨k + 1, _, _, _, by omega, by go_num, HCZ, HRZ, HFZ.out⟩
            case measure => simp [intOf]; omega
        · have q0 : ((k2 : Int) == 0) = false := ieq_f (by omega)
          have HRZ : Hid (RRd w5 B rb (N + 600 + 3 * (k + 1))) := HR5.out.more (by omega)
          clear hk0
          go_wp2_with fail
          go_roundw
          case rel => exact ⟨k + 1, g0, g1, g2, by omega, by go_num, HC5, HRZ, HF5.out⟩
          case measure => simp [intOf]; omega
      · have q1 := ieq_f hd
        have HRZ : Hid (RRd wr B rb (N + 600 + 3 * (k + 1))) := HR.out.more (by omega)
        clear hd
        go_wp2_with fail
        go_roundw
        case rel => exact ⟨k + 1, g0, g1, g2, by omega, by go_num, HC, HRZ, HF.out⟩
        case measure => simp [intOf]; omega
    · obtain ⟨e0, e1, e2, e3, e4, e5, e6, e7, e8⟩ := HC.out.cells
      have hz : wr.heap[w.heap.size + 1]? = some (.cells #[.int .i64 0, .int .i64 0, .int .i64 0, .int .i64 0, .int .i64 0, .slice none 0 0, .int .i64 0, .int .i64 0, .int .i64 0] 128 (0, 0)) := hf.block HZ3.out (by omega)
      have hi : (L.length : Int) ≤ (k : Int) := by omega
      have z0 : wr.cell? ⟨w.heap.size + 1, 0, none⟩ = some (.int .i64 0) := (cell_of_blk hz 0).trans rfl
      have z1 : wr.cell? ⟨w.heap.size + 1, 1, none⟩ = some (.int .i64 0) := (cell_of_blk hz 1).trans rfl
      have z2 : wr.cell? ⟨w.heap.size + 1, 2, none⟩ = some (.int .i64 0) := (cell_of_blk hz 2).trans rfl
      have z3 : wr.cell? ⟨w.heap.size + 1, 3, none⟩ = some (.int .i64 0) := (cell_of_blk hz 3).trans rfl
      have z4 : wr.cell? ⟨w.heap.size + 1, 4, none⟩ = some (.int .i64 0) := (cell_of_blk hz 4).trans rfl
      have z5 : wr.cell? ⟨w.heap.size + 1, 5, none⟩ = some (.slice none 0 0) := (cell_of_blk hz 5).trans rfl
      have z6 : wr.cell? ⟨w.heap.size + 1, 6, none⟩ = some (.int .i64 0) := (cell_of_blk hz 6).trans rfl
      have z7 : wr.cell? ⟨w.heap.size + 1, 7, none⟩ = some (.int .i64 0) := (cell_of_blk hz 7).trans rfl
      have z8 : wr.cell? ⟨w.heap.size + 1, 8, none⟩ = some (.int .i64 0) := (cell_of_blk hz 8).trans rfl
      have y0 : wr.frozen? ⟨w.heap.size + 1, 0, none⟩ = false := free_of_blk hz 0
      have y1 : wr.frozen? ⟨w.heap.size + 1, 1, none⟩ = false := free_of_blk hz 1
      have y2 : wr.frozen? ⟨w.heap.size + 1, 2, none⟩ = false := free_of_blk hz 2
      have y3 : wr.frozen? ⟨w.heap.size + 1, 3, none⟩ = false := free_of_blk hz 3
      have y4 : wr.frozen? ⟨w.heap.size + 1, 4, none⟩ = false := free_of_blk hz 4
      have y5 : wr.frozen? ⟨w.heap.size + 1, 5, none⟩ = false := free_of_blk hz 5
      have y6 : wr.frozen? ⟨w.heap.size + 1, 6, none⟩ = false := free_of_blk hz 6
      have y7 : wr.frozen? ⟨w.heap.size + 1, 7, none⟩ = false := free_of_blk hz 7
      have y8 : wr.frozen? ⟨w.heap.size + 1, 8, none⟩ = false := free_of_blk hz 8
      have h1 : (((((((((wr.setCell ⟨w.heap.size + 1, 0, none⟩ (.int .i64 p.op)).setCell ⟨w.heap.size + 1, 1, none⟩ (.int .i64 p.ctor)).setCell ⟨w.heap.size + 1, 2, none⟩ (.int .i64 p.n)).setCell ⟨w.heap.size + 1, 3, none⟩ (.int .i64 p.m)).setCell ⟨w.heap.size + 1, 4, none⟩ (.int .i64 p.var)).setCell ⟨w.heap.size + 1, 5, none⟩ (.slice D p.kids.length c)).setCell ⟨w.heap.size + 1, 6, none⟩ (.int .i64 g0)).setCell ⟨w.heap.size + 1, 7, none⟩ (.int .i64 g1)).setCell ⟨w.heap.size + 1, 8, none⟩ (.int .i64 g2)).heap[w.heap.size + 1]? = some (.cells #[.int .i64 p.op, .int .i64 p.ctor, .int .i64 p.n, .int .i64 p.m, .int .i64 p.var, .slice D p.kids.length c, .int .i64 g0, .int .i64 g1, .int .i64 g2] 128 (0, 0)) := (heap_setCell_same _ (w.heap.size + 1) 8 _ _ _ (heap_setCell_same _ (w.heap.size + 1) 7 _ _ _ (heap_setCell_same _ (w.heap.size + 1) 6 _ _ _ (heap_setCell_same _ (w.heap.size + 1) 5 _ _ _ (heap_setCell_same _ (w.heap.size + 1) 4 _ _ _ (heap_setCell_same _ (w.heap.size + 1) 3 _ _ _ (heap_setCell_same _ (w.heap.size + 1) 2 _ _ _ (heap_setCell_same _ (w.heap.size + 1) 1 _ _ _ (heap_setCell_same _ (w.heap.size + 1) 0 _ _ _ hz))))))))).trans rfl
      have hff : Fr (fun b => b = rb ∨ b = w1.heap.size ∨ b = w.heap.size + 1) w3 (((((((((wr.setCell ⟨w.heap.size + 1, 0, none⟩ (.int .i64 p.op)).setCell ⟨w.heap.size + 1, 1, none⟩ (.int .i64 p.ctor)).setCell ⟨w.heap.size + 1, 2, none⟩ (.int .i64 p.n)).setCell ⟨w.heap.size + 1, 3, none⟩ (.int .i64 p.m)).setCell ⟨w.heap.size + 1, 4, none⟩ (.int .i64 p.var)).setCell ⟨w.heap.size + 1, 5, none⟩ (.slice D p.kids.length c)).setCell ⟨w.heap.size + 1, 6, none⟩ (.int .i64 g0)).setCell ⟨w.heap.size + 1, 7, none⟩ (.int .i64 g1)).setCell ⟨w.heap.size + 1, 8, none⟩ (.int .i64 g2)) := ((((((((((hf.wide (fun b hb => by rcases hb with h | h <;> omega)).setOf (.inr (.inr rfl))).setOf (.inr (.inr rfl))).setOf (.inr (.inr rfl))).setOf (.inr (.inr rfl))).setOf (.inr (.inr rfl))).setOf (.inr (.inr rfl))).setOf (.inr (.inr rfl))).setOf (.inr (.inr rfl))).setOf (.inr (.inr rfl)))
      have HRF : Hid (RRd (((((((((wr.setCell ⟨w.heap.size + 1, 0, none⟩ (.int .i64 p.op)).setCell ⟨w.heap.size + 1, 1, none⟩ (.int .i64 p.ctor)).setCell ⟨w.heap.size + 1, 2, none⟩ (.int .i64 p.n)).setCell ⟨w.heap.size + 1, 3, none⟩ (.int .i64 p.m)).setCell ⟨w.heap.size + 1, 4, none⟩ (.int .i64 p.var)).setCell ⟨w.heap.size + 1, 5, none⟩ (.slice D p.kids.length c)).setCell ⟨w.heap.size + 1, 6, none⟩ (.int .i64 g0)).setCell ⟨w.heap.size + 1, 7, none⟩ (.int .i64 g1)).setCell ⟨w.heap.size + 1, 8, none⟩ (.int .i64 g2)) B rb (N + 2000)) := ((((((((((HR.out.setCell (by omega) (by omega)).setCell (by omega) (by omega)).setCell (by omega) (by omega)).setCell (by omega) (by omega)).setCell (by omega) (by omega)).setCell (by omega) (by omega)).setCell (by omega) (by omega)).setCell (by omega) (by omega)).setCell (by omega) (by omega))).more (by omega)
      have HFIN : Hid (ClQ l t B rb N w (.returned (.agg #[.int .i64 p.op, .int .i64 p.ctor, .int .i64 p.n, .int .i64 p.m, .int .i64 p.var, .slice D p.kids.length c, .int .i64 g0, .int .i64 g1, .int .i64 g2])) (((((((((wr.setCell ⟨w.heap.size + 1, 0, none⟩ (.int .i64 p.op)).setCell ⟨w.heap.size + 1, 1, none⟩ (.int .i64 p.ctor)).setCell ⟨w.heap.size + 1, 2, none⟩ (.int .i64 p.n)).setCell ⟨w.heap.size + 1, 3, none⟩ (.int .i64 p.m)).setCell ⟨w.heap.size + 1, 4, none⟩ (.int .i64 p.var)).setCell ⟨w.heap.size + 1, 5, none⟩ (.slice D p.kids.length c)).setCell ⟨w.heap.size + 1, 6, none⟩ (.int .i64 g0)).setCell ⟨w.heap.size + 1, 7, none⟩ (.int .i64 g1)).setCell ⟨w.heap.size + 1, 8, none⟩ (.int .i64 g2))) := by
        have hfs := hff.size
        refine ⟨p, g0, g1, g2, D, c, rfl, HP.out, HWP.out, (HO3.out.fr _ hff (fun b hb e => by have h1 := hb.1; have h2 := hb.2; rcases e with e | e | e <;> omega)).wide _ (fun b hb => ⟨by have := hb.1; omega, by have := hb.2; omega⟩), HRF.out, HF3.out.andThen hff (fun x hx hq => by rcases hq with e | e | e <;> omega)⟩
      obtain ⟨wf, hwf⟩ : ∃ wf, (((((((((wr.setCell ⟨w.heap.size + 1, 0, none⟩ (.int .i64 p.op)).setCell ⟨w.heap.size + 1, 1, none⟩ (.int .i64 p.ctor)).setCell ⟨w.heap.size + 1, 2, none⟩ (.int .i64 p.n)).setCell ⟨w.heap.size + 1, 3, none⟩ (.int .i64 p.m)).setCell ⟨w.heap.size + 1, 4, none⟩ (.int .i64 p.var)).setCell ⟨w.heap.size + 1, 5, none⟩ (.slice D p.kids.length c)).setCell ⟨w.heap.size + 1, 6, none⟩ (.int .i64 g0)).setCell ⟨w.heap.size + 1, 7, none⟩ (.int .i64 g1)).setCell ⟨w.heap.size + 1, 8, none⟩ (.int .i64 g2)) = wf := ⟨_, rfl⟩
      rw [hwf] at h1 HFIN
      have HWF := Lib.hid hwf
      obtain ⟨r0, r1, r2, r3, r4, r5, r6, r7, r8⟩ := C9.cells h1
      clear h1 hff hz hf HRF hwf
      go_wp2_with fail
      rw [HWF.out]
      exact bodyPost_ret (v := .agg #[.int .i64 p.op, .int .i64 p.ctor, .int .i64 p.n, .int .i64 p.m, .int .i64 p.var, .slice D p.kids.length c, .int .i64 g0, .int .i64 g1, .int .i64 g2]) (by simp [results, Try.results135, go_sem, r0, r1, r2, r3, r4, r5, r6, r7, r8]) rfl HFIN.out
end Go.Proofs.Yteoopmogklpnoaa
