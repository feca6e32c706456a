/-
  The fields of a node of a pattern, and the types of its parts: the document's functions. No statement is proved here.
-/
import Derived.Test.YteoopmogklpnoaaT27
import Derived.Test.YteoopmogklpnoaaT05
import Derived.Test.YteoopmogklpnoaaT07
import Derived.Test.YteoopmogklpnoaaT20
import Derived.Deep.RegionHeld3
namespace Go.Proofs.Yteoopmogklpnoaa
open Go.RowKit Go.Sort Go.Deep
set_option maxRecDepth 100000
set_option linter.unusedVariables false
theorem oeq_t {a b : Int} (h : a = b) : (a != b) = false := by simp [h]
theorem oeq_f {a b : Int} (h : ¬ a = b) : (a != b) = true := by simpa using h
def PBx (w : World) (b : Nat) (p : Pt) (s : Value) : Prop := w.cell? ⟨b, 0, none⟩ = some (.int .i64 p.op) ∧ w.cell? ⟨b, 1, none⟩ = some (.int .i64 p.ctor) ∧ w.cell? ⟨b, 2, none⟩ = some (.int .i64 p.n) ∧ w.cell? ⟨b, 3, none⟩ = some (.int .i64 p.m) ∧ w.cell? ⟨b, 4, none⟩ = some (.int .i64 p.var) ∧ w.cell? ⟨b, 5, none⟩ = some s
theorem PBx.keep {w w' : World} {b : Nat} {p : Pt} {s : Value} (h : PBx w b p s) (hk : w'.heap[b]? = w.heap[b]?) : PBx w' b p s :=
  ⟨(World.cell?_of_block (a := ⟨b, 0, none⟩) hk).trans h.1, (World.cell?_of_block (a := ⟨b, 1, none⟩) hk).trans h.2.1, (World.cell?_of_block (a := ⟨b, 2, none⟩) hk).trans h.2.2.1, (World.cell?_of_block (a := ⟨b, 3, none⟩) hk).trans h.2.2.2.1, (World.cell?_of_block (a := ⟨b, 4, none⟩) hk).trans h.2.2.2.2.1, (World.cell?_of_block (a := ⟨b, 5, none⟩) hk).trans h.2.2.2.2.2⟩
theorem PBx.at_ {w w' : World} {b : Nat} {p : Pt} {s : Value} (h : PBx w b p s) (hb : Below w.heap.size w w') : PBx w' b p s := h.keep (hb.block b (Go.block_lt_of_cell h.1))
theorem kids_any (op : Int) (w : World) : ¬ op = 4 → Calls Try.prog 129 #[.int .i64 op] w fun e w' => e = .returned (.int .i64 (kidN op : Nat)) ∧ w = w' := by
  intro h4
  by_cases h5 : op = 5
  · have H : Hid (kidN op = 2) := if_pos h5
    have q5 := ieq_t h5
    clear h5
    go_enter Try.func129, Try.ntmps129
    go_wp2_with fail
    go_ret
    exact ⟨ret_i64 (by rw [H.out]; rfl), rfl⟩
  · by_cases h6 : op = 6
    · have H : Hid (kidN op = 1) := (if_neg h5).trans (if_pos h6)
      have q5 := ieq_f h5
      have q6 := ieq_t h6
      clear h5 h6
      go_enter Try.func129, Try.ntmps129
      go_wp2_with fail
      go_ret
      exact ⟨ret_i64 (by rw [H.out]; rfl), rfl⟩
    · have H : Hid (kidN op = 0) := (if_neg h5).trans (if_neg h6)
      have q5 := ieq_f h5
      have q6 := ieq_f h6
      have q4 := ieq_f h4
      clear h5 h6 h4
      go_enter Try.func129, Try.ntmps129
      go_wp2_with fail
      go_ret
      exact ⟨ret_i64 (by rw [H.out]; rfl), rfl⟩
set_option maxHeartbeats 1600000 in
theorem own_1 (A D : Option Addr) (l : List Da) (cap ep : Nat) (t : Ty) (p : Pt) (w : World) (hr : RDas w w.heap.size A l) (ht : TyOK l t) (hop : p.op = 1) :
    Calls Try.prog 132 #[.slice A l.length cap, .agg #[.int .i64 t.data, .int .i64 t.index], .agg #[.int .i64 p.op, .int .i64 p.ctor, .int .i64 p.n, .int .i64 p.m, .int .i64 p.var, .slice D p.kids.length ep]] w fun e w' => e = .returned (.bool (dec (OwnOK l t p))) ∧ Below w.heap.size w w' := by
  have HB : Hid (∀ o o' : Obj, Below w.heap.size w ((w.alloc o).alloc o')) := fun o o' => ((Below.refl _ _).alloc (Nat.le_refl _) _).alloc (by simp) _
  have u1 := ieq_t hop
  have v1 := oeq_t hop
  have u2 : (p.op == 2) = false := ieq_f (by omega)
  have v2 : (p.op != 2) = true := oeq_f (by omega)
  have u3 : (p.op == 3) = false := ieq_f (by omega)
  have v3 : (p.op != 3) = true := oeq_f (by omega)
  have u4 : (p.op == 4) = false := ieq_f (by omega)
  have v4 : (p.op != 4) = true := oeq_f (by omega)
  have u5 : (p.op == 5) = false := ieq_f (by omega)
  have v5 : (p.op != 5) = true := oeq_f (by omega)
  have u6 : (p.op == 6) = false := ieq_f (by omega)
  have v6 : (p.op != 6) = true := oeq_f (by omega)
  by_cases ka : p.var = 0
  · have za : (p.var != 0) = false := by simpa using ka
    by_cases kc : p.n = 0
    · have zc : (p.n != 0) = false := by simpa using kc
      by_cases kd : p.m = 0
      · have zd : (p.m != 0) = false := by simpa using kd
        by_cases ke : p.ctor = 0
        · have ze : (p.ctor != 0) = false := by simpa using ke
          have HR : Hid (dec (OwnOK l t p) = true) := dec_t (⟨fun _ => by omega, fun h => by omega, fun h => by omega, fun h => by omega, .inl hop⟩)
          clear ka kc kd ke hop
          go_enter Try.func132, Try.ntmps132
          go_wp2_with fail
          go_ret
          exact ⟨ret_bool HR.out.symm, HB.out _ _⟩
        · have ze : (p.ctor != 0) = true := by simpa using ke
          have HR : Hid (dec (OwnOK l t p) = false) := dec_f (fun h => by have := h.2.2.2.1 (by omega); omega)
          clear ka kc kd ke hop
          go_enter Try.func132, Try.ntmps132
          go_wp2_with fail
          go_ret
          exact ⟨ret_bool HR.out.symm, HB.out _ _⟩
      · have zd : (p.m != 0) = true := by simpa using kd
        have HR : Hid (dec (OwnOK l t p) = false) := dec_f (fun h => by have := h.2.2.1 (by omega); omega)
        clear ka kc kd hop
        go_enter Try.func132, Try.ntmps132
        go_wp2_with fail
        go_ret
        exact ⟨ret_bool HR.out.symm, HB.out _ _⟩
    · have zc : (p.n != 0) = true := by simpa using kc
      have HR : Hid (dec (OwnOK l t p) = false) := dec_f (fun h => by have := h.2.2.1 (by omega); omega)
      clear ka kc hop
      go_enter Try.func132, Try.ntmps132
      go_wp2_with fail
      go_ret
      exact ⟨ret_bool HR.out.symm, HB.out _ _⟩
  · have za : (p.var != 0) = true := by simpa using ka
    have HR : Hid (dec (OwnOK l t p) = false) := dec_f (fun h => by have := h.2.1 (by omega); omega)
    clear ka hop
    go_enter Try.func132, Try.ntmps132
    go_wp2_with fail
    go_ret
    exact ⟨ret_bool HR.out.symm, HB.out _ _⟩
set_option maxHeartbeats 1600000 in
theorem own_2 (A D : Option Addr) (l : List Da) (cap ep : Nat) (t : Ty) (p : Pt) (w : World) (hr : RDas w w.heap.size A l) (ht : TyOK l t) (hop : p.op = 2) :
    Calls Try.prog 132 #[.slice A l.length cap, .agg #[.int .i64 t.data, .int .i64 t.index], .agg #[.int .i64 p.op, .int .i64 p.ctor, .int .i64 p.n, .int .i64 p.m, .int .i64 p.var, .slice D p.kids.length ep]] w fun e w' => e = .returned (.bool (dec (OwnOK l t p))) ∧ Below w.heap.size w w' := by
  have HB : Hid (∀ o o' : Obj, Below w.heap.size w ((w.alloc o).alloc o')) := fun o o' => ((Below.refl _ _).alloc (Nat.le_refl _) _).alloc (by simp) _
  have u1 : (p.op == 1) = false := ieq_f (by omega)
  have v1 : (p.op != 1) = true := oeq_f (by omega)
  have u2 := ieq_t hop
  have v2 := oeq_t hop
  have u3 : (p.op == 3) = false := ieq_f (by omega)
  have v3 : (p.op != 3) = true := oeq_f (by omega)
  have u4 : (p.op == 4) = false := ieq_f (by omega)
  have v4 : (p.op != 4) = true := oeq_f (by omega)
  have u5 : (p.op == 5) = false := ieq_f (by omega)
  have v5 : (p.op != 5) = true := oeq_f (by omega)
  have u6 : (p.op == 6) = false := ieq_f (by omega)
  have v6 : (p.op != 6) = true := oeq_f (by omega)
  by_cases ka : 0 ≤ p.var
  · have za : decide (p.var < 0) = false := by simpa using ka
    by_cases kb : p.var ≤ 5
    · have zb : decide (5 < p.var) = false := by simpa using kb
      by_cases kc : p.n = 0
      · have zc : (p.n != 0) = false := by simpa using kc
        by_cases kd : p.m = 0
        · have zd : (p.m != 0) = false := by simpa using kd
          by_cases ke : p.ctor = 0
          · have ze : (p.ctor != 0) = false := by simpa using ke
            have HR : Hid (dec (OwnOK l t p) = true) := dec_t (⟨fun _ => by omega, fun h => by omega, fun h => by omega, fun h => by omega, .inr (.inl hop)⟩)
            clear ka kb kc kd ke hop
            go_enter Try.func132, Try.ntmps132
            go_wp2_with fail
            go_ret
            exact ⟨ret_bool HR.out.symm, HB.out _ _⟩
          · have ze : (p.ctor != 0) = true := by simpa using ke
            have HR : Hid (dec (OwnOK l t p) = false) := dec_f (fun h => by have := h.2.2.2.1 (by omega); omega)
            clear ka kb kc kd ke hop
            go_enter Try.func132, Try.ntmps132
            go_wp2_with fail
            go_ret
            exact ⟨ret_bool HR.out.symm, HB.out _ _⟩
        · have zd : (p.m != 0) = true := by simpa using kd
          have HR : Hid (dec (OwnOK l t p) = false) := dec_f (fun h => by have := h.2.2.1 (by omega); omega)
          clear ka kb kc kd hop
          go_enter Try.func132, Try.ntmps132
          go_wp2_with fail
          go_ret
          exact ⟨ret_bool HR.out.symm, HB.out _ _⟩
      · have zc : (p.n != 0) = true := by simpa using kc
        have HR : Hid (dec (OwnOK l t p) = false) := dec_f (fun h => by have := h.2.2.1 (by omega); omega)
        clear ka kb kc hop
        go_enter Try.func132, Try.ntmps132
        go_wp2_with fail
        go_ret
        exact ⟨ret_bool HR.out.symm, HB.out _ _⟩
    · have zb : decide (5 < p.var) = true := by simpa using kb
      have HR : Hid (dec (OwnOK l t p) = false) := dec_f (fun h => by have := h.1 (by omega); omega)
      clear ka kb hop
      go_enter Try.func132, Try.ntmps132
      go_wp2_with fail
      go_ret
      exact ⟨ret_bool HR.out.symm, HB.out _ _⟩
  · have za : decide (p.var < 0) = true := by simpa using ka
    have HR : Hid (dec (OwnOK l t p) = false) := dec_f (fun h => by have := h.1 (by omega); omega)
    clear ka hop
    go_enter Try.func132, Try.ntmps132
    go_wp2_with fail
    go_ret
    exact ⟨ret_bool HR.out.symm, HB.out _ _⟩
set_option maxHeartbeats 1600000 in
theorem own_3 (A D : Option Addr) (l : List Da) (cap ep : Nat) (t : Ty) (p : Pt) (w : World) (hr : RDas w w.heap.size A l) (ht : TyOK l t) (hop : p.op = 3) :
    Calls Try.prog 132 #[.slice A l.length cap, .agg #[.int .i64 t.data, .int .i64 t.index], .agg #[.int .i64 p.op, .int .i64 p.ctor, .int .i64 p.n, .int .i64 p.m, .int .i64 p.var, .slice D p.kids.length ep]] w fun e w' => e = .returned (.bool (dec (OwnOK l t p))) ∧ Below w.heap.size w w' := by
  have HB : Hid (∀ o o' : Obj, Below w.heap.size w ((w.alloc o).alloc o')) := fun o o' => ((Below.refl _ _).alloc (Nat.le_refl _) _).alloc (by simp) _
  have u1 : (p.op == 1) = false := ieq_f (by omega)
  have v1 : (p.op != 1) = true := oeq_f (by omega)
  have u2 : (p.op == 2) = false := ieq_f (by omega)
  have v2 : (p.op != 2) = true := oeq_f (by omega)
  have u3 := ieq_t hop
  have v3 := oeq_t hop
  have u4 : (p.op == 4) = false := ieq_f (by omega)
  have v4 : (p.op != 4) = true := oeq_f (by omega)
  have u5 : (p.op == 5) = false := ieq_f (by omega)
  have v5 : (p.op != 5) = true := oeq_f (by omega)
  have u6 : (p.op == 6) = false := ieq_f (by omega)
  have v6 : (p.op != 6) = true := oeq_f (by omega)
  by_cases ka : p.var = 0
  · have za : (p.var != 0) = false := by simpa using ka
    by_cases ke : p.ctor = 0
    · have ze : (p.ctor != 0) = false := by simpa using ke
      by_cases kf : t.data = -1
      · have zf : (t.data == -1) = true := by simpa using kf
        by_cases kg : 0 ≤ p.n
        · have zg : decide (0 ≤ p.n) = true := by simpa using kg
          by_cases ki : p.n ≤ p.m
          · have zi : decide (p.n ≤ p.m) = true := by simpa using ki
            by_cases kj : p.m ≤ 9
            · have zj : decide (p.m ≤ 9) = true := by simpa using kj
              have HR : Hid (dec (OwnOK l t p) = true) := dec_t (⟨fun _ => by omega, fun h => by omega, fun h => by omega, fun h => by omega, .inr (.inr (.inr (.inr (.inl ⟨hop, kf, kg, ki, kj⟩))))⟩)
              clear ka ke kf kg ki kj hop
              go_enter Try.func132, Try.ntmps132
              go_wp2_with fail
              go_ret
              exact ⟨ret_bool HR.out.symm, HB.out _ _⟩
            · have zj : decide (p.m ≤ 9) = false := by simpa using kj
              have HR : Hid (dec (OwnOK l t p) = false) := dec_f (fun h => by rcases h.2.2.2.2 with h | h | h | h | h | ⟨h, _⟩ <;> omega)
              clear ka ke kf kg ki kj hop
              go_enter Try.func132, Try.ntmps132
              go_wp2_with fail
              go_ret
              exact ⟨ret_bool HR.out.symm, HB.out _ _⟩
          · have zi : decide (p.n ≤ p.m) = false := by simpa using ki
            have HR : Hid (dec (OwnOK l t p) = false) := dec_f (fun h => by rcases h.2.2.2.2 with h | h | h | h | h | ⟨h, _⟩ <;> omega)
            clear ka ke kf kg ki hop
            go_enter Try.func132, Try.ntmps132
            go_wp2_with fail
            go_ret
            exact ⟨ret_bool HR.out.symm, HB.out _ _⟩
        · have zg : decide (0 ≤ p.n) = false := by simpa using kg
          have HR : Hid (dec (OwnOK l t p) = false) := dec_f (fun h => by rcases h.2.2.2.2 with h | h | h | h | h | ⟨h, _⟩ <;> omega)
          clear ka ke kf kg hop
          go_enter Try.func132, Try.ntmps132
          go_wp2_with fail
          go_ret
          exact ⟨ret_bool HR.out.symm, HB.out _ _⟩
      · have zf : (t.data == -1) = false := by simpa using kf
        have HR : Hid (dec (OwnOK l t p) = false) := dec_f (fun h => by rcases h.2.2.2.2 with h | h | h | h | h | ⟨h, _⟩ <;> omega)
        clear ka ke kf hop
        go_enter Try.func132, Try.ntmps132
        go_wp2_with fail
        go_ret
        exact ⟨ret_bool HR.out.symm, HB.out _ _⟩
    · have ze : (p.ctor != 0) = true := by simpa using ke
      have HR : Hid (dec (OwnOK l t p) = false) := dec_f (fun h => by have := h.2.2.2.1 (by omega); omega)
      clear ka ke hop
      go_enter Try.func132, Try.ntmps132
      go_wp2_with fail
      go_ret
      exact ⟨ret_bool HR.out.symm, HB.out _ _⟩
  · have za : (p.var != 0) = true := by simpa using ka
    have HR : Hid (dec (OwnOK l t p) = false) := dec_f (fun h => by have := h.2.1 (by omega); omega)
    clear ka hop
    go_enter Try.func132, Try.ntmps132
    go_wp2_with fail
    go_ret
    exact ⟨ret_bool HR.out.symm, HB.out _ _⟩
set_option maxHeartbeats 1600000 in
theorem own_4 (A D : Option Addr) (l : List Da) (cap ep : Nat) (t : Ty) (p : Pt) (w : World) (hr : RDas w w.heap.size A l) (ht : TyOK l t) (hop : p.op = 4) :
    Calls Try.prog 132 #[.slice A l.length cap, .agg #[.int .i64 t.data, .int .i64 t.index], .agg #[.int .i64 p.op, .int .i64 p.ctor, .int .i64 p.n, .int .i64 p.m, .int .i64 p.var, .slice D p.kids.length ep]] w fun e w' => e = .returned (.bool (dec (OwnOK l t p))) ∧ Below w.heap.size w w' := by
  have HB : Hid (∀ o o' : Obj, Below w.heap.size w ((w.alloc o).alloc o')) := fun o o' => ((Below.refl _ _).alloc (Nat.le_refl _) _).alloc (by simp) _
  have u1 : (p.op == 1) = false := ieq_f (by omega)
  have v1 : (p.op != 1) = true := oeq_f (by omega)
  have u2 : (p.op == 2) = false := ieq_f (by omega)
  have v2 : (p.op != 2) = true := oeq_f (by omega)
  have u3 : (p.op == 3) = false := ieq_f (by omega)
  have v3 : (p.op != 3) = true := oeq_f (by omega)
  have u4 := ieq_t hop
  have v4 := oeq_t hop
  have u5 : (p.op == 5) = false := ieq_f (by omega)
  have v5 : (p.op != 5) = true := oeq_f (by omega)
  have u6 : (p.op == 6) = false := ieq_f (by omega)
  have v6 : (p.op != 6) = true := oeq_f (by omega)
  by_cases ka : p.var = 0
  · have za : (p.var != 0) = false := by simpa using ka
    by_cases kc : p.n = 0
    · have zc : (p.n != 0) = false := by simpa using kc
      by_cases kd : p.m = 0
      · have zd : (p.m != 0) = false := by simpa using kd
        have HD : Hid (dec (p.ctor ∈ ctR l t) = dec (OwnOK l t p)) := dec_congr ⟨fun h => ⟨fun _ => by omega, fun _ => ka, fun _ => ⟨kc, kd⟩, fun h => absurd hop h, .inr (.inr (.inr (.inr (.inr ⟨hop, h⟩))))⟩, fun h => h.mem hop⟩
        clear ka kc kd hop
        have Hr := Lib.hid hr
        have HT := Lib.hid ht
        generalize hw0 : (w.alloc (.cells #[.int .i64 t.data, .int .i64 t.index] 25)).alloc (.cells #[.int .i64 p.op, .int .i64 p.ctor, .int .i64 p.n, .int .i64 p.m, .int .i64 p.var, .slice D p.kids.length ep] 50) = w0
        have hb0 := below_box2 hw0
        have HXT : Hid (Bx w0 w.heap.size t) := by rw [← hw0]; exact ⟨by simp [go_sem], by simp [go_sem]⟩
        have HXP : Hid (PBx w0 (w.heap.size + 1) p (.slice D p.kids.length ep)) := by rw [← hw0]; exact ⟨by simp [go_sem], by simp [go_sem], by simp [go_sem], by simp [go_sem], by simp [go_sem], by simp [go_sem]⟩
        have HW := Lib.hid hw0
        clear hw0 hr ht
        have HKS : Hid (∀ W, Below w0.heap.size w0 W → W.cell? ⟨w.heap.size, 0, none⟩ = some (.int .i64 t.data) ∧ W.cell? ⟨w.heap.size, 1, none⟩ = some (.int .i64 t.index) ∧ W.cell? ⟨w.heap.size + 1, 1, none⟩ = some (.int .i64 p.ctor)) := fun W h => ⟨(HXT.out.at_ h).1, (HXT.out.at_ h).2, (HXP.out.at_ h).2.1⟩
        have SQ := HKS.out w0.drew (Below.refl _ w0).drew
        have y0 := HXP.out.1
        have y2 := HXP.out.2.2.1
        have y3 := HXP.out.2.2.2.1
        have y4 := HXP.out.2.2.2.2.1
        go_enter Try.func132, Try.ntmps132
        go_wp2_with fail
        rw [HW.out]
        go_region_held3 (fun w' => w'.cell? ⟨w.heap.size, 0, none⟩ = some (.int .i64 t.data) ∧ w'.cell? ⟨w.heap.size, 1, none⟩ = some (.int .i64 t.index) ∧ w'.cell? ⟨w.heap.size + 1, 1, none⟩ = some (.int .i64 p.ctor)) (with_reducible exact SQ) (first | (go_at_call 98; (with_reducible refine (l1Ctors_all _ l _ t w0.drew (Hr.out.at_ hb0.drew) HT.out).mono ?_); rintro e w1 ⟨v1, rfl, ho, hb1'⟩; have hb1 : Below w0.heap.size w0 w1 := ⟨hb1'.os, hb1'.tape, hb1'.output, hb1'.size, hb1'.block⟩; obtain ⟨A1, c1, rfl, hri⟩ := ho.form (by have := ctR_len l t; unfold maxLen; omega); have HRI := Lib.hid hri; have SQ := HKS.out _ hb1; clear hri ho hb1') | (go_at_call 120; (with_reducible refine (has_any _ _ _ _ _ HRI.out).mono ?_); rw [HD.out]; rintro e w2 ⟨rfl, rfl⟩))
        go_wp2_with fail
        go_ret
        exact ⟨rfl, below_aft hb0 hb1 hb0.size⟩
      · have zd : (p.m != 0) = true := by simpa using kd
        have HR : Hid (dec (OwnOK l t p) = false) := dec_f (fun h => by have := h.2.2.1 (by omega); omega)
        clear ka kc kd hop
        go_enter Try.func132, Try.ntmps132
        go_wp2_with fail
        go_ret
        exact ⟨ret_bool HR.out.symm, HB.out _ _⟩
    · have zc : (p.n != 0) = true := by simpa using kc
      have HR : Hid (dec (OwnOK l t p) = false) := dec_f (fun h => by have := h.2.2.1 (by omega); omega)
      clear ka kc hop
      go_enter Try.func132, Try.ntmps132
      go_wp2_with fail
      go_ret
      exact ⟨ret_bool HR.out.symm, HB.out _ _⟩
  · have za : (p.var != 0) = true := by simpa using ka
    have HR : Hid (dec (OwnOK l t p) = false) := dec_f (fun h => by have := h.2.1 (by omega); omega)
    clear ka hop
    go_enter Try.func132, Try.ntmps132
    go_wp2_with fail
    go_ret
    exact ⟨ret_bool HR.out.symm, HB.out _ _⟩
set_option maxHeartbeats 1600000 in
theorem own_5 (A D : Option Addr) (l : List Da) (cap ep : Nat) (t : Ty) (p : Pt) (w : World) (hr : RDas w w.heap.size A l) (ht : TyOK l t) (hop : p.op = 5) :
    Calls Try.prog 132 #[.slice A l.length cap, .agg #[.int .i64 t.data, .int .i64 t.index], .agg #[.int .i64 p.op, .int .i64 p.ctor, .int .i64 p.n, .int .i64 p.m, .int .i64 p.var, .slice D p.kids.length ep]] w fun e w' => e = .returned (.bool (dec (OwnOK l t p))) ∧ Below w.heap.size w w' := by
  have HB : Hid (∀ o o' : Obj, Below w.heap.size w ((w.alloc o).alloc o')) := fun o o' => ((Below.refl _ _).alloc (Nat.le_refl _) _).alloc (by simp) _
  have u1 : (p.op == 1) = false := ieq_f (by omega)
  have v1 : (p.op != 1) = true := oeq_f (by omega)
  have u2 : (p.op == 2) = false := ieq_f (by omega)
  have v2 : (p.op != 2) = true := oeq_f (by omega)
  have u3 : (p.op == 3) = false := ieq_f (by omega)
  have v3 : (p.op != 3) = true := oeq_f (by omega)
  have u4 : (p.op == 4) = false := ieq_f (by omega)
  have v4 : (p.op != 4) = true := oeq_f (by omega)
  have u5 := ieq_t hop
  have v5 := oeq_t hop
  have u6 : (p.op == 6) = false := ieq_f (by omega)
  have v6 : (p.op != 6) = true := oeq_f (by omega)
  by_cases ka : p.var = 0
  · have za : (p.var != 0) = false := by simpa using ka
    by_cases kc : p.n = 0
    · have zc : (p.n != 0) = false := by simpa using kc
      by_cases kd : p.m = 0
      · have zd : (p.m != 0) = false := by simpa using kd
        by_cases ke : p.ctor = 0
        · have ze : (p.ctor != 0) = false := by simpa using ke
          have HR : Hid (dec (OwnOK l t p) = true) := dec_t (⟨fun _ => by omega, fun h => by omega, fun h => by omega, fun h => by omega, .inr (.inr (.inl hop))⟩)
          clear ka kc kd ke hop
          go_enter Try.func132, Try.ntmps132
          go_wp2_with fail
          go_ret
          exact ⟨ret_bool HR.out.symm, HB.out _ _⟩
        · have ze : (p.ctor != 0) = true := by simpa using ke
          have HR : Hid (dec (OwnOK l t p) = false) := dec_f (fun h => by have := h.2.2.2.1 (by omega); omega)
          clear ka kc kd ke hop
          go_enter Try.func132, Try.ntmps132
          go_wp2_with fail
          go_ret
          exact ⟨ret_bool HR.out.symm, HB.out _ _⟩
      · have zd : (p.m != 0) = true := by simpa using kd
        have HR : Hid (dec (OwnOK l t p) = false) := dec_f (fun h => by have := h.2.2.1 (by omega); omega)
        clear ka kc kd hop
        go_enter Try.func132, Try.ntmps132
        go_wp2_with fail
        go_ret
        exact ⟨ret_bool HR.out.symm, HB.out _ _⟩
    · have zc : (p.n != 0) = true := by simpa using kc
      have HR : Hid (dec (OwnOK l t p) = false) := dec_f (fun h => by have := h.2.2.1 (by omega); omega)
      clear ka kc hop
      go_enter Try.func132, Try.ntmps132
      go_wp2_with fail
      go_ret
      exact ⟨ret_bool HR.out.symm, HB.out _ _⟩
  · have za : (p.var != 0) = true := by simpa using ka
    have HR : Hid (dec (OwnOK l t p) = false) := dec_f (fun h => by have := h.2.1 (by omega); omega)
    clear ka hop
    go_enter Try.func132, Try.ntmps132
    go_wp2_with fail
    go_ret
    exact ⟨ret_bool HR.out.symm, HB.out _ _⟩
set_option maxHeartbeats 1600000 in
theorem own_6 (A D : Option Addr) (l : List Da) (cap ep : Nat) (t : Ty) (p : Pt) (w : World) (hr : RDas w w.heap.size A l) (ht : TyOK l t) (hop : p.op = 6) :
    Calls Try.prog 132 #[.slice A l.length cap, .agg #[.int .i64 t.data, .int .i64 t.index], .agg #[.int .i64 p.op, .int .i64 p.ctor, .int .i64 p.n, .int .i64 p.m, .int .i64 p.var, .slice D p.kids.length ep]] w fun e w' => e = .returned (.bool (dec (OwnOK l t p))) ∧ Below w.heap.size w w' := by
  have HB : Hid (∀ o o' : Obj, Below w.heap.size w ((w.alloc o).alloc o')) := fun o o' => ((Below.refl _ _).alloc (Nat.le_refl _) _).alloc (by simp) _
  have u1 : (p.op == 1) = false := ieq_f (by omega)
  have v1 : (p.op != 1) = true := oeq_f (by omega)
  have u2 : (p.op == 2) = false := ieq_f (by omega)
  have v2 : (p.op != 2) = true := oeq_f (by omega)
  have u3 : (p.op == 3) = false := ieq_f (by omega)
  have v3 : (p.op != 3) = true := oeq_f (by omega)
  have u4 : (p.op == 4) = false := ieq_f (by omega)
  have v4 : (p.op != 4) = true := oeq_f (by omega)
  have u5 : (p.op == 5) = false := ieq_f (by omega)
  have v5 : (p.op != 5) = true := oeq_f (by omega)
  have u6 := ieq_t hop
  have v6 := oeq_t hop
  by_cases ka : 0 ≤ p.var
  · have za : decide (p.var < 0) = false := by simpa using ka
    by_cases kb : p.var ≤ 5
    · have zb : decide (5 < p.var) = false := by simpa using kb
      by_cases kc : p.n = 0
      · have zc : (p.n != 0) = false := by simpa using kc
        by_cases kd : p.m = 0
        · have zd : (p.m != 0) = false := by simpa using kd
          by_cases ke : p.ctor = 0
          · have ze : (p.ctor != 0) = false := by simpa using ke
            have HR : Hid (dec (OwnOK l t p) = true) := dec_t (⟨fun _ => by omega, fun h => by omega, fun h => by omega, fun h => by omega, .inr (.inr (.inr (.inl hop)))⟩)
            clear ka kb kc kd ke hop
            go_enter Try.func132, Try.ntmps132
            go_wp2_with fail
            go_ret
            exact ⟨ret_bool HR.out.symm, HB.out _ _⟩
          · have ze : (p.ctor != 0) = true := by simpa using ke
            have HR : Hid (dec (OwnOK l t p) = false) := dec_f (fun h => by have := h.2.2.2.1 (by omega); omega)
            clear ka kb kc kd ke hop
            go_enter Try.func132, Try.ntmps132
            go_wp2_with fail
            go_ret
            exact ⟨ret_bool HR.out.symm, HB.out _ _⟩
        · have zd : (p.m != 0) = true := by simpa using kd
          have HR : Hid (dec (OwnOK l t p) = false) := dec_f (fun h => by have := h.2.2.1 (by omega); omega)
          clear ka kb kc kd hop
          go_enter Try.func132, Try.ntmps132
          go_wp2_with fail
          go_ret
          exact ⟨ret_bool HR.out.symm, HB.out _ _⟩
      · have zc : (p.n != 0) = true := by simpa using kc
        have HR : Hid (dec (OwnOK l t p) = false) := dec_f (fun h => by have := h.2.2.1 (by omega); omega)
        clear ka kb kc hop
        go_enter Try.func132, Try.ntmps132
        go_wp2_with fail
        go_ret
        exact ⟨ret_bool HR.out.symm, HB.out _ _⟩
    · have zb : decide (5 < p.var) = true := by simpa using kb
      have HR : Hid (dec (OwnOK l t p) = false) := dec_f (fun h => by have := h.1 (by omega); omega)
      clear ka kb hop
      go_enter Try.func132, Try.ntmps132
      go_wp2_with fail
      go_ret
      exact ⟨ret_bool HR.out.symm, HB.out _ _⟩
  · have za : decide (p.var < 0) = true := by simpa using ka
    have HR : Hid (dec (OwnOK l t p) = false) := dec_f (fun h => by have := h.1 (by omega); omega)
    clear ka hop
    go_enter Try.func132, Try.ntmps132
    go_wp2_with fail
    go_ret
    exact ⟨ret_bool HR.out.symm, HB.out _ _⟩
set_option maxHeartbeats 1600000 in
theorem own_x (A D : Option Addr) (l : List Da) (cap ep : Nat) (t : Ty) (p : Pt) (w : World) (hr : RDas w w.heap.size A l) (ht : TyOK l t) (hop1 : ¬ p.op = 1) (hop2 : ¬ p.op = 2) (hop3 : ¬ p.op = 3) (hop4 : ¬ p.op = 4) (hop5 : ¬ p.op = 5) (hop6 : ¬ p.op = 6) :
    Calls Try.prog 132 #[.slice A l.length cap, .agg #[.int .i64 t.data, .int .i64 t.index], .agg #[.int .i64 p.op, .int .i64 p.ctor, .int .i64 p.n, .int .i64 p.m, .int .i64 p.var, .slice D p.kids.length ep]] w fun e w' => e = .returned (.bool (dec (OwnOK l t p))) ∧ Below w.heap.size w w' := by
  have HB : Hid (∀ o o' : Obj, Below w.heap.size w ((w.alloc o).alloc o')) := fun o o' => ((Below.refl _ _).alloc (Nat.le_refl _) _).alloc (by simp) _
  have u1 := ieq_f hop1
  have v1 := oeq_f hop1
  have u2 := ieq_f hop2
  have v2 := oeq_f hop2
  have u3 := ieq_f hop3
  have v3 := oeq_f hop3
  have u4 := ieq_f hop4
  have v4 := oeq_f hop4
  have u5 := ieq_f hop5
  have v5 := oeq_f hop5
  have u6 := ieq_f hop6
  have v6 := oeq_f hop6
  by_cases ka : p.var = 0
  · have za : (p.var != 0) = false := by simpa using ka
    by_cases kc : p.n = 0
    · have zc : (p.n != 0) = false := by simpa using kc
      by_cases kd : p.m = 0
      · have zd : (p.m != 0) = false := by simpa using kd
        by_cases ke : p.ctor = 0
        · have ze : (p.ctor != 0) = false := by simpa using ke
          have HR : Hid (dec (OwnOK l t p) = false) := dec_f (fun h => by rcases h.2.2.2.2 with h | h | h | h | h | ⟨h, _⟩ <;> omega)
          clear ka kc kd ke hop1 hop2 hop3 hop4 hop5 hop6
          go_enter Try.func132, Try.ntmps132
          go_wp2_with fail
          go_ret
          exact ⟨ret_bool HR.out.symm, HB.out _ _⟩
        · have ze : (p.ctor != 0) = true := by simpa using ke
          have HR : Hid (dec (OwnOK l t p) = false) := dec_f (fun h => by have := h.2.2.2.1 (by omega); omega)
          clear ka kc kd ke hop1 hop2 hop3 hop4 hop5 hop6
          go_enter Try.func132, Try.ntmps132
          go_wp2_with fail
          go_ret
          exact ⟨ret_bool HR.out.symm, HB.out _ _⟩
      · have zd : (p.m != 0) = true := by simpa using kd
        have HR : Hid (dec (OwnOK l t p) = false) := dec_f (fun h => by have := h.2.2.1 (by omega); omega)
        clear ka kc kd hop1 hop2 hop3 hop4 hop5 hop6
        go_enter Try.func132, Try.ntmps132
        go_wp2_with fail
        go_ret
        exact ⟨ret_bool HR.out.symm, HB.out _ _⟩
    · have zc : (p.n != 0) = true := by simpa using kc
      have HR : Hid (dec (OwnOK l t p) = false) := dec_f (fun h => by have := h.2.2.1 (by omega); omega)
      clear ka kc hop1 hop2 hop3 hop4 hop5 hop6
      go_enter Try.func132, Try.ntmps132
      go_wp2_with fail
      go_ret
      exact ⟨ret_bool HR.out.symm, HB.out _ _⟩
  · have za : (p.var != 0) = true := by simpa using ka
    have HR : Hid (dec (OwnOK l t p) = false) := dec_f (fun h => by have := h.2.1 (by omega); omega)
    clear ka hop1 hop2 hop3 hop4 hop5 hop6
    go_enter Try.func132, Try.ntmps132
    go_wp2_with fail
    go_ret
    exact ⟨ret_bool HR.out.symm, HB.out _ _⟩
theorem own_any (A D : Option Addr) (l : List Da) (cap ep : Nat) (t : Ty) (p : Pt) (w : World) (hr : RDas w w.heap.size A l) (ht : TyOK l t) :
    Calls Try.prog 132 #[.slice A l.length cap, .agg #[.int .i64 t.data, .int .i64 t.index], .agg #[.int .i64 p.op, .int .i64 p.ctor, .int .i64 p.n, .int .i64 p.m, .int .i64 p.var, .slice D p.kids.length ep]] w fun e w' => e = .returned (.bool (dec (OwnOK l t p))) ∧ Below w.heap.size w w' := by
  by_cases h1 : p.op = 1
  · exact own_1 A D l cap ep t p w hr ht h1
  by_cases h2 : p.op = 2
  · exact own_2 A D l cap ep t p w hr ht h2
  by_cases h3 : p.op = 3
  · exact own_3 A D l cap ep t p w hr ht h3
  by_cases h4 : p.op = 4
  · exact own_4 A D l cap ep t p w hr ht h4
  by_cases h5 : p.op = 5
  · exact own_5 A D l cap ep t p w hr ht h5
  by_cases h6 : p.op = 6
  · exact own_6 A D l cap ep t p w hr ht h6
  exact own_x A D l cap ep t p w hr ht h1 h2 h3 h4 h5 h6
end Go.Proofs.Yteoopmogklpnoaa
