/-
  A map from integers to bools that the call itself has made, as a set. No variable stands twice: the program's function. No statement is proved here.
-/
import Derived.Test.YtphmhlekfmkdkaaGreatG28
import Derived.Test.YtphmhlekfmkdkaaGreatG09
import Derived.Maps.OwnSet
import Derived.Outline
namespace Go.Proofs.YtphmhlekfmkdkaaGreat
open Go.RowKit Go.Maps
set_option maxRecDepth 100000
set_option linter.unusedVariables false

def MapIv (w : World) (b n : Nat) (S : Int → Prop) : Prop :=
  ∃ D : DataW Unit, w.ownsMap Tryz.prog 3 (plainElem Tryz.prog 4) b n D ∧ IsMap D ∧ ∀ s : Int, D.atKey (.int .i64 s) (.lit (.bool false)) = .lit (.bool (dec (S s)))
theorem zeroBool (w : World) : (zeroValue 4).run Tryz.prog w = .ok (.bool false) w := by kernel_rfl
theorem keyIv {s : Int} (h : (Lit.int .i64 s).wf = true) : keyOf Tryz.prog 3 (.int .i64 s) = some (.int .i64 s) := keyOf_int_mk Tryz.underlying3 h
theorem wf_small {s : Int} (h : 0 ≤ s ∧ s ≤ 5) : (Lit.int .i64 s).wf = true := WalkArith.wf_i64 (by omega)
theorem MapIv.made (w : World) : MapIv (w.alloc (.map #[] 0)) w.heap.size 0 (fun _ => False) :=
  ⟨.map [], World.ownsMap_made _ _ _ _, ⟨[], rfl⟩, fun s => by rw [dec_f (fun h => h)]; rfl⟩
theorem MapIv.lt {w : World} {b n : Nat} {S : Int → Prop} (h : MapIv w b n S) : b < w.heap.size := by
  obtain ⟨D, ho, _⟩ := h; exact ho.lt
theorem MapIv.keep {w w' : World} {b n n' : Nat} {S S' : Int → Prop} (h : MapIv w b n S) (hb : w'.heap[b]? = w.heap[b]?) (hn : n ≤ n') (hS : ∀ s, S s ↔ S' s) : MapIv w' b n' S' := by
  obtain ⟨D, ⟨es, clock, h1, h2, h3, h4⟩, hm, hat⟩ := h
  exact ⟨D, ⟨es, clock, hb.trans h1, h2, by omega, h4⟩, hm, fun s => by rw [hat s, dec_congr (hS s)]⟩
theorem MapIv.look {w : World} {b n : Nat} {S : Int → Prop} (h : MapIv w b n S) {s : Int} (hs : (Lit.int .i64 s).wf = true) : (Instr.lookup 232 (.map (some b)) (.int .i64 s) false).run Tryz.prog w = .ok (.bool (dec (S s))) w := by
  obtain ⟨D, ho, hm, hat⟩ := h
  obtain ⟨v, ps, hrun, hv⟩ := ho.lookup (int_keyed Tryz.underlying3) Tryz.underlying232 (zeroBool w) (zd := .lit (.bool false)) (zp := []) (plainElem_bool Tryz.underlying4 false) (keyIv hs)
  rw [hat] at hv
  have : v = .bool (dec (S s)) := by
    unfold plainElem at hv
    rw [Tryz.underlying4] at hv
    cases v <;> simp at hv
    rw [hv.1]
  rw [hrun, this]
theorem MapIv.put {w : World} {b n : Nat} {D : DataW Unit} {S : Int → Prop} {s : Int} (ho : w.ownsMap Tryz.prog 3 (plainElem Tryz.prog 4) b n (D.put (.int .i64 s) (.lit (.bool true)))) (hm : IsMap D) (hat : ∀ s : Int, D.atKey (.int .i64 s) (.lit (.bool false)) = .lit (.bool (dec (S s)))) :
    MapIv w b n (fun t => t = s ∨ S t) := by
  refine ⟨_, ho, ?_, fun t => ?_⟩
  · obtain ⟨es, rfl⟩ := hm
    exact ⟨_, rfl⟩
  · by_cases e : t = s
    · subst e
      rw [atKey_put_same (k := .int .i64 t) hm True.intro, dec_t (Or.inl rfl)]
    · rw [atKey_put_other (by intro e'; injection e' with e1 e''; exact e e''), hat, dec_congr (show S t ↔ (t = s ∨ S t) from ⟨Or.inr, fun h => h.resolve_left e⟩)]

theorem RVts.below {w w' : World} {B B0 : Nat} {A : Option Addr} {l : List Vt} (h : RVts w B A l) (hb : Below B0 w w') (hB : B ≤ B0) : RVts w' B A l := h.keep (fun _ hp => hb.cell (Nat.lt_of_lt_of_le hp hB)) (Nat.le_refl _)
/-- The variables of the first k. -/
def VS (L : List Vt) (k : Nat) (n : Int) : Prop := ∃ j, ∃ h : j < L.length, j < k ∧ L[j].var = n
theorem VS.zero (L : List Vt) (n : Int) : False ↔ VS L 0 n := ⟨False.elim, fun ⟨j, _, h, _⟩ => absurd h (by omega)⟩
theorem VS.succ (L : List Vt) (k : Nat) (hk : k < L.length) (n : Int) : (n = L[k].var ∨ VS L k n) ↔ VS L (k + 1) n := by
  constructor
  · rintro (rfl | ⟨j, h, h1, h2⟩)
    · exact ⟨k, hk, by omega, rfl⟩
    · exact ⟨j, h, by omega, h2⟩
  · rintro ⟨j, h, h1, h2⟩
    by_cases e : j = k
    · subst e; exact .inl h2.symm
    · exact .inr ⟨j, h, by omega, h2⟩
theorem VS.yes {L : List Vt} {k : Nat} (hk : k < L.length) (h : VS L k L[k].var) : onceV L k = false := once_no hk (fun hn => by
  obtain ⟨j, hj, h1, h2⟩ := h
  exact hn j hj h1 h2)
theorem VS.no {L : List Vt} {k : Nat} (hk : k < L.length) (h : ¬ VS L k L[k].var) : onceV L k = true := once_yes hk (fun j hj h1 h2 => h ⟨j, hj, h1, h2⟩)

set_option maxHeartbeats 1600000 in
theorem varTwice_any (A : Option Addr) (L : List Vt) (cap : Nat) (w : World) (hr : RVts w w.heap.size A L) (hv : ∀ x ∈ L, 0 ≤ x.var ∧ x.var ≤ 5) :
    Calls Tryz.prog 156 #[.slice A L.length cap] w fun e w' => e = .returned (.bool (!upto (onceV L) L.length)) ∧ Below w.heap.size w w' := by
  have hn := hr.1
  have hkm : L.length ≤ maxLen := hn
  unfold maxLen at hn
  have Hr := Lib.hid hr
  have HV := Lib.hid hv
  clear hr hv
  have hmm := @run_makeMap Tryz.prog
  go_enter Tryz.func156, Tryz.ntmps156
  go_wp2_with fail
  go_loopw [9] (fun i wr => ∃ k : Nat, k ≤ L.length ∧ i = .int .i64 k ∧ Hid (upto (onceV L) k = true) ∧ MapIv wr w.heap.size k (VS L k) ∧ Below w.heap.size w wr) (fun i _ => L.length - (intOf i).toNat)
  case atStart => exact ⟨0, by omega, rfl, rfl, (MapIv.made w).keep rfl (Nat.le_refl _) (VS.zero L), (Below.refl _ _).alloc (Nat.le_refl _) _⟩
  case round =>
    obtain ⟨k, hk, rfl, HU, hs, hb⟩ := hrel
    clear hmm
    by_cases hlt : k < L.length
    · obtain ⟨b, off, rfl, hbB, c0, c1, c2⟩ := (Hr.out.below hb (Nat.le_refl _)).2 k hlt
      have hwf := wf_small (HV.out _ (List.getElem_mem hlt))
      have HWF := Lib.hid hwf
      have hbs := hb.size
      have hl0 := hs.lt
      have HS := Lib.hid hs
      have HVY := Lib.hid (VS.yes hlt)
      have HVN := Lib.hid (VS.no hlt)
      have HSU := Lib.hid (VS.succ L k hlt)
      have HUF := Lib.hid (fun h => upto_f (f := onceV L) hlt h)
      have HUT := Lib.hid (fun h => upto_t (f := onceV L) HU.out h)
      clear hs hwf
      generalize L[k] = x at HWF HVY HVN HSU c0 c1 c2
      have hlook : ∀ o : Obj, (Instr.lookup 232 (.map (some w.heap.size)) (.int .i64 x.var) false).run Tryz.prog (wr.alloc o) = .ok (.bool (dec (VS L k x.var))) (wr.alloc o) := fun o => (HS.out.keep (w' := wr.alloc o) (Below.heap_alloc wr o _ HS.out.lt) (Nat.le_refl _) (fun _ => Iff.rfl)).look HWF.out
      by_cases hin : VS L k x.var
      · have hd := dec_t hin
        have HF := Lib.hid (HUF.out (HVY.out hin))
        clear hin
        go_wp2_with fail
        go_ret
        exact ⟨ret_bool (by rw [HF.out]; rfl), hb.alloc (by omega) _⟩
      · have hd := dec_f hin
        have HT : Hid (upto (onceV L) (k + 1) = true) := HUT.out (HVN.out hin)
        clear hin
        obtain ⟨D, ho, hmD, hat⟩ := HS.out
        have HA := Lib.hid hat
        have HO := Lib.hid ho
        have HM := Lib.hid hmD
        clear hat ho hmD
        have hkm' : k < maxLen := by unfold maxLen; omega
        go_wp2_with (at_mapUpdate; refine wpList_mapUpdate_own _ rfl _ _ _ 232 rfl 3 4 (int_keyed Tryz.underlying3) Tryz.underlying232 (plainElem Tryz.prog 4) w.heap.size k D rfl (HO.out.alloc _) hkm' _ _ (.int .i64 x.var) rfl rfl (keyIv HWF.out) (.lit (.bool true)) [] (plainElem_bool Tryz.underlying4 true) ?_; intro w1 ho1 hg1)
        have hb1 : Below w.heap.size w w1 := (hb.alloc (by omega) _).grown hg1 (by simp; omega) (fun g e => by injection e with e; omega)
        have s1 := (MapIv.put ho1 HM.out HA.out).keep (w' := w1) rfl (Nat.le_refl _) (fun n => HSU.out n)
        clear hlook hd HS HA HO HM hg1 c0 c1 c2 ho1
        go_roundw
        case rel => exact ⟨k + 1, by omega, by go_num, HT, s1, hb1⟩
        case measure => simp [intOf]; omega
    · have he : k = L.length := by omega
      have HE : Hid (upto (onceV L) L.length = true) := by unfold Hid; rw [← he]; exact HU.out
      clear he
      go_wp2_with fail
      go_ret
      exact ⟨ret_bool (by rw [HE.out]; rfl), hb⟩
end Go.Proofs.YtphmhlekfmkdkaaGreat
/-
  Whether two lists have the same variables: the program's closure, the library's functions over it, the program's function. No statement is proved here.
-/
namespace Go.Proofs.YtphmhlekfmkdkaaGreat
open Go.RowKit Go.Sort Go.Deep
set_option maxRecDepth 100000
set_option linter.unusedVariables false

abbrev vv (x : Vt) : Value := .agg #[.int .i64 x.var, .int .i64 x.ty.data, .int .i64 x.ty.index]
theorem eqlVt (x y : Vt) (w : World) : (Go.binOp .eql 173 (vv x) (vv y)).run Tryz.prog w = .ok (.bool (dec (x = y))) w := by
  have hS : Tryz.prog.underlying 173 = some (.struct (Tryz.prog.fieldsOf 173)) := by kernel_rfl
  have hp : Tryz.prog.stoodInHeld 173 = false := by kernel_rfl
  have hS2 : Tryz.prog.underlying 31 = some (.struct (Tryz.prog.fieldsOf 31)) := by kernel_rfl
  have hp2 : Tryz.prog.stoodInHeld 31 = false := by kernel_rfl
  have u3 := Tryz.underlying3
  have a3 := Tryz.isAgg3
  have z3 := Tryz.sizeOf3
  have a4 := Tryz.isAgg31
  have z4 := Tryz.sizeOf31
  obtain ⟨a, b, c⟩ := x
  obtain ⟨d, e, f⟩ := y
  have hN : (Op.equalIn 9999 31 (.agg #[.int .i64 b, .int .i64 c]) (.agg #[.int .i64 e, .int .i64 f])).run Tryz.prog w = .ok (b == e && c == f) w := by
    rw [show (9999 : Nat) = 9998 + 1 from rfl, run_equalIn_agg w 9998 31 _ _ hS2 hp2]
    simp only [Program.fieldsOf, Tryz.underlying31]
    go_simp
    by_cases h1 : b = e <;> by_cases h2 : c = f <;> simp_all
  have hI : (Op.equalIn 9999 3 (.int .i64 a) (.int .i64 d)).run Tryz.prog w = .ok (a == d) w := by
    rw [show (9999 : Nat) = 9998 + 1 from rfl]
    go_simp
  rw [run_eql_struct, show (10000 : Nat) = 9999 + 1 from rfl, run_equalIn_agg w 9999 173 _ _ hS hp]
  generalize 9999 = n at hN hI
  simp only [Program.fieldsOf, Tryz.underlying173]
  go_simp
  clear hN hI
  by_cases h1 : a = d
  · by_cases h2 : b = e
    · by_cases h3 : c = f
      · rw [dec_t ⟨h1, h2, h3⟩, if_pos h1, if_neg (fun h => h h2 h3)]
      · rw [dec_f (fun h => h3 h.2.2), if_pos h1, if_pos (fun _ => h3)]
    · rw [dec_f (fun h => h2 h.2.1), if_pos h1, if_pos (fun h => absurd h h2)]
  · rw [dec_f (fun h => h1 h.1), if_neg h1]
theorem guardVt (x y : Operand) (xs ys : Array Value) (w : World) : (eqGuard .eql 173 x y (.agg xs) (.agg ys)).run Tryz.prog w = .ok () w := run_eqGuard_agg (P := Tryz.prog) w .eql 173 x y xs ys (by kernel_rfl)

def NotInV (L : List Vt) (x : Vt) (k : Nat) : Prop := ∀ j (h : j < L.length), j < k → ¬ x = L[j]
theorem NotInV.zero (L : List Vt) (x : Vt) : NotInV L x 0 := fun j _ h => absurd h (by omega)
theorem NotInV.step {L : List Vt} {x : Vt} {k : Nat} (h : NotInV L x k) (hk : k < L.length) (e : ¬ x = L[k]) : NotInV L x (k + 1) := by
  intro j hj hjk
  by_cases e' : j = k
  · subst e'; exact e
  · exact h j hj (by omega)
theorem NotInV.all {L : List Vt} {x : Vt} {k : Nat} (h : NotInV L x k) (hk : L.length ≤ k) : ¬ x ∈ L := fun hm => by
  obtain ⟨j, hj, e⟩ := List.getElem_of_mem hm
  exact h j hj (by omega) e.symm

set_option maxHeartbeats 1600000 in
theorem indexVt_any (A : Option Addr) (L : List Vt) (cap : Nat) (x : Vt) (w : World) (hr : RVts w w.heap.size A L) :
    Calls Tryz.prog 157 #[.slice A L.length cap, vv x] w fun e w' => ∃ r : Int, e = .returned (.int .i64 r) ∧ decide (0 ≤ r) = dec (x ∈ L) ∧ Below w.heap.size w w' := by
  have hn := hr.1
  unfold maxLen at hn
  have Hr := Lib.hid hr
  clear hr
  have gd := guardVt
  have hq := eqlVt
  generalize hw0 : w.alloc (.cells #[.int .i64 x.var, .int .i64 x.ty.data, .int .i64 x.ty.index] 173) = w0
  have hb0 : Below w.heap.size w w0 := by rw [← hw0]; exact (Below.refl _ _).alloc (Nat.le_refl _) _
  have HX : Hid (RVt w0 w.heap.size 0 x) := by rw [← hw0]; exact ⟨by simp [go_sem], by simp [go_sem], by simp [go_sem]⟩
  have HW := Lib.hid hw0
  clear hw0
  go_enter Tryz.func157, Tryz.ntmps157
  go_wp2_with fail
  rw [HW.out]
  go_loopw [8, 5] (fun i _ wr => ∃ k : Nat, k ≤ L.length ∧ i = .int .i64 k ∧ NotInV L x k ∧ Below w0.heap.size w0 wr) (fun i _ _ => L.length - (intOf i).toNat)
  case atStart => exact ⟨0, by omega, rfl, NotInV.zero _ _, Below.refl _ _⟩
  case round =>
    obtain ⟨k, hk, rfl, hno, hb⟩ := hrel
    have hbw := below_aft hb0 hb hb0.size
    have HB2 : Hid (∀ n, Below w.heap.size w (wr.drewN n)) := fun n => below_drawn hbw n
    have HB3 : Hid (∀ n, Below w0.heap.size w0 (wr.drewN n)) := fun n => below_drawn hb n
    by_cases hlt : k < L.length
    · obtain ⟨b, off, rfl, hbB, c0, c1, c2⟩ := (Hr.out.below hbw (Nat.le_refl _)).2 k hlt
      obtain ⟨f0, f1, f2⟩ : RVt wr w.heap.size 0 x := ⟨(hb.cell (p := ⟨w.heap.size, 0, none⟩) (Go.block_lt_of_cell HX.out.1)).trans HX.out.1, (hb.cell (p := ⟨w.heap.size, 1, none⟩) (Go.block_lt_of_cell HX.out.2.1)).trans HX.out.2.1, (hb.cell (p := ⟨w.heap.size, 2, none⟩) (Go.block_lt_of_cell HX.out.2.2)).trans HX.out.2.2⟩
      have hkI : (k : Int) < (L.length : Int) := by omega
      have HST := Lib.hid (hno.step hlt)
      have HXM : Hid (L[k] ∈ L) := List.getElem_mem hlt
      generalize L[k] = y at HXM c0 c1 c2 HST
      by_cases hs : x = y
      · have HC := Lib.hid (dec_t hs)
        have HT : Hid (decide (0 ≤ (k : Int)) = dec (x ∈ L)) := by unfold Hid; rw [hs, dec_t HXM.out]; exact decide_eq_true (by omega)
        have hq2 := fun w => (hq x y w).trans (by rw [HC.out])
        clear hs hq
        go_wp2_with fail
        go_quiet (fail)
        go_wp2_with fail
        go_ret
        exact ⟨_, rfl, HT.out, HB2.out _⟩
      · have HC := Lib.hid (dec_f hs)
        have HN := Lib.hid (HST.out hs)
        have hq2 := fun w => (hq x y w).trans (by rw [HC.out])
        clear hs hq
        go_wp2_with fail
        go_quiet (fail)
        go_wp2_with fail
        go_roundw
        case rel => exact ⟨k + 1, by omega, by go_num, HN.out, HB3.out _⟩
        case measure => simp [intOf]; omega
    · have HT : Hid (decide (0 ≤ (-1 : Int)) = dec (x ∈ L)) := by unfold Hid; rw [dec_f (hno.all (by omega))]; rfl
      clear hq
      go_wp2_with fail
      go_ret
      exact ⟨_, rfl, HT.out, hbw⟩
end Go.Proofs.YtphmhlekfmkdkaaGreat
