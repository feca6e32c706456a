/-
  When the program's walk over a pattern says yes: plain mathematics. No statement is proved here.
-/
import Derived.Test.YteoopmogklpnoaaV37
import Derived.Test.YteoopmogklpnoaaV03
import Derived.Maps.OwnSet
import Derived.Outline
namespace Go.Proofs.Yteoopmogklpnoaa
open Go.RowKit
set_option maxRecDepth 100000
set_option linter.unusedVariables false
theorem noV_of {L : List Vt} {n : Int} {i : Nat} (h : findV L n = (i : Nat)) : NoV L n i := by
  unfold findV at h
  split at h
  · rename_i hlt
    have e : L.findIdx (fun x => x.var == n) = i := by omega
    intro j hj hji
    have := List.not_of_lt_findIdx (p := fun x : Vt => x.var == n) (xs := L) (i := j) (by omega)
    simpa using this
  · omega
theorem findV_var {L : List Vt} {n : Int} {i : Nat} (h : findV L n = (i : Nat)) (hi : i < L.length) : L[i].var = n := by
  unfold findV at h
  split at h
  · rename_i hlt
    have e : L.findIdx (fun x => x.var == n) = i := by omega
    have := List.findIdx_getElem (p := fun x : Vt => x.var == n) (w := hlt)
    simp only [e] at this
    simpa using this
  · omega
theorem once_yes {L : List Vt} {k : Nat} (hk : k < L.length) (h : NoV L L[k].var k) : onceV L k = true := by
  rw [onceV_at hk]; exact decide_eq_true (findV_at h hk rfl)
theorem once_no {L : List Vt} {k : Nat} (hk : k < L.length) (h : ¬ NoV L L[k].var k) : onceV L k = false := by
  rw [onceV_at hk]; exact decide_eq_false (fun e => h (noV_of e))
def Once (L : List Vt) : Prop := upto (onceV L) L.length = true
theorem Once.at_ {L : List Vt} (h : Once L) {k : Nat} (hk : k < L.length) : findV L L[k].var = k := by
  have := upto_get h hk
  rw [onceV_at hk] at this
  exact of_decide_eq_true this
/-- The k-th of the first list is in the second. -/
noncomputable def inV (a b : List Vt) (i : Nat) : Bool := dec (a.getD i default ∈ b)
theorem inV_at {a b : List Vt} {i : Nat} (h : i < a.length) : inV a b i = dec (a[i] ∈ b) := by unfold inV; rw [getDv_at a i h]
noncomputable def sameB (a b : List Vt) : Bool := decide (a.length = b.length) && upto (inV a b) a.length
theorem alV_in {a b : List Vt} {i : Nat} (h : i < a.length) (hb : Once b) : alV a b i = inV a b i := by
  rw [inV_at h]
  by_cases hm : a[i] ∈ b
  · rw [dec_t hm]
    obtain ⟨k, hk, e⟩ := List.mem_iff_getElem.1 hm
    have h1 : findV b a[i].var = k := by rw [← e]; exact hb.at_ hk
    rw [alV_yes h hk h1]
    exact eqv_t (by rw [e])
  · rw [dec_f hm]
    rcases findV_cases b a[i].var with h1 | ⟨k, hk, h1⟩
    · exact alV_no h h1
    · rw [alV_yes h hk h1]
      refine eqv_f (fun e => hm ?_)
      have h2 := findV_var h1 hk
      have h3 : b[k] = a[i] := by
        cases hbk : b[k]; cases hai : a[i]
        rw [hbk, hai] at e h2
        simp only at e h2
        rw [e, h2]
      rw [← h3]; exact List.getElem_mem hk
theorem upto_all {f : Nat → Bool} : ∀ {n : Nat}, (∀ i, i < n → f i = true) → upto f n = true
  | 0, _ => rfl
  | n + 1, h => upto_t (upto_all (fun i hi => h i (by omega))) (h n (by omega))
theorem upto_congr {f g : Nat → Bool} : ∀ n, (∀ i, i < n → f i = g i) → upto f n = upto g n
  | 0, _ => rfl
  | n + 1, h => by
    show (upto f n && f n) = (upto g n && g n)
    rw [upto_congr n (fun i hi => h i (by omega)), h n (by omega)]
theorem alike_same {a b : List Vt} (hb : Once b) : alike a b = sameB a b := by
  unfold alike sameB
  rw [upto_congr (g := inV a b) a.length (fun i hi => alV_in hi hb), Bool.and_comm]
/-- The parts' lists, one behind the other. -/
noncomputable def lisV (f : Nat → List Vt) (k : Nat) : List (List Vt) := (List.range k).map f
theorem lisV_len (f : Nat → List Vt) (k : Nat) : (lisV f k).length = k := by simp [lisV]
theorem lisV_at (f : Nat → List Vt) (k j : Nat) (h : j < (lisV f k).length) : (lisV f k)[j] = f j := by simp [lisV]
theorem lisV_flat (f : Nat → List Vt) : ∀ k, (lisV f k).flatten = catV f k
  | 0 => rfl
  | k + 1 => by
    have h := lisV_flat f k
    unfold lisV at h ⊢
    rw [List.range_succ, List.map_append, List.flatten_append, h]
    simp [catV]
theorem lin_once {l : List Da} : ∀ {d : Nat} {t : Ty} {p : Pt}, shP l d t p = true → linP l d t p = true → Once (vrP l d t p)
  | 0, t, p, h, _ => by rw [shP_zero] at h; cases h
  | d + 1, t, p, h, h' => by
    obtain ⟨h1, h2, h3⟩ := shP_parts h
    rw [linP_go, Bool.and_eq_true] at h'
    by_cases h5 : p.op = 5
    · have ht : tysP l t p = [t, t] := by rw [tysP_other (by omega), h5]; rfl
      have hlen : (tysP l t p).length = 2 := by rw [ht]; rfl
      have h0 : 0 < (tysP l t p).length := by omega
      have h0k : 0 < p.kids.length := by omega
      have hs0 := h3 0 h0 h0k
      have hl0 := upto_get h'.1 h0
      rw [kidL_at h0 h0k] at hl0
      have ho := lin_once hs0 hl0
      have e : vrP l (d + 1) t p = vrP l d (tysP l t p)[0] p.kids[0] := by
        rw [vrP_go, hdV_no (by omega)]
        have : limV l t p = 1 := by unfold limV; rw [if_pos h5]
        rw [this]
        show [] ++ ([] ++ kidR l d (tysP l t p) p.kids 0) = _
        rw [kidR_at h0 h0k]; rfl
      rw [e]; exact ho
    · have := h'.2
      rw [headL_no h5] at this
      exact this
/-- The program's answer at a counter's value. -/
noncomputable def okP (l : List Da) (d : Nat) (t : Ty) (p : Pt) (n : Nat) : Bool := shP l d t p && (decide (n + (1 + wP p) ≤ 60) && linP l d t p)
section
variable {l : List Da} {d : Nat} {t : Ty} {p : Pt} {n : Nat}
theorem okP_true (h : okP l d t p n = true) : shP l d t p = true ∧ n + (1 + wP p) ≤ 60 ∧ linP l d t p = true := by
  unfold okP at h
  rw [Bool.and_eq_true, Bool.and_eq_true] at h
  exact ⟨h.1, of_decide_eq_true h.2.1, h.2.2⟩
theorem okP_of (h : shP l d t p = true) (h' : n + (1 + wP p) ≤ 60) : okP l d t p n = linP l d t p := by
  unfold okP; rw [h, decide_eq_true h']; rfl
theorem okP_zero : okP l 0 t p n = false := by unfold okP; rw [shP_zero]; rfl
theorem okP_sh (h : shP l d t p = false) : okP l d t p n = false := by unfold okP; rw [h]; rfl
theorem okP_own (h : ¬ OwnOK l t p) : okP l d t p n = false := by
  cases d with
  | zero => exact okP_zero
  | succ d => exact okP_sh (shP_own h)
theorem okP_len (h : ¬ p.kids.length = (tysP l t p).length) : okP l d t p n = false := by
  cases d with
  | zero => exact okP_zero
  | succ d => exact okP_sh (shP_len h)
theorem okP_big (h : 60 < n + 1) : okP l d t p n = false := by
  unfold okP; rw [decide_eq_false (by omega)]; simp
theorem okP_kid {k : Nat} (hk : k < (tysP l t p).length) (hk' : k < p.kids.length) (h : okP l d (tysP l t p)[k] p.kids[k] (n + upKP p.kids k) = false) : okP l (d + 1) t p n = false := by
  by_cases hb : okP l (d + 1) t p n = true
  · obtain ⟨h1, h2, h3⟩ := okP_true hb
    obtain ⟨_, _, h4⟩ := shP_parts h1
    rw [linP_go, Bool.and_eq_true] at h3
    have h5 := upto_get h3.1 hk
    rw [kidL_at hk hk'] at h5
    have h6 := upKP_le p (k + 1) hk'
    rw [upKP_succ _ _ hk'] at h6
    rw [okP_of (h4 k hk hk') (by omega), h5] at h
    cases h
  · simpa using hb
def KidsOK (l : List Da) (d : Nat) (t : Ty) (p : Pt) (n k : Nat) : Prop := n + upKP p.kids k ≤ 60 ∧ ∀ i (h : i < (tysP l t p).length) (h' : i < p.kids.length), i < k → shP l d (tysP l t p)[i] p.kids[i] = true ∧ linP l d (tysP l t p)[i] p.kids[i] = true
theorem KidsOK.zero (h : n + 1 ≤ 60) : KidsOK l d t p n 0 := ⟨by rw [upKP_zero]; exact h, fun i _ _ h => absurd h (Nat.not_lt_zero _)⟩
theorem KidsOK.step {k : Nat} (h : KidsOK l d t p n k) (hk : k < (tysP l t p).length) (hk' : k < p.kids.length) (hf : okP l d (tysP l t p)[k] p.kids[k] (n + upKP p.kids k) = true) : KidsOK l d t p n (k + 1) := by
  obtain ⟨h1, h2, h3⟩ := okP_true hf
  refine ⟨by rw [upKP_succ _ _ hk']; omega, fun i hi hi' hik => ?_⟩
  by_cases e : i = k
  · subst e; exact ⟨h1, h3⟩
  · exact h.2 i hi hi' (by omega)
theorem KidsOK.all (h : KidsOK l d t p n (tysP l t p).length) (ho : OwnOK l t p) (hl : p.kids.length = (tysP l t p).length) : okP l (d + 1) t p n = headL l d t p ∧ n + (1 + wP p) ≤ 60 := by
  have hc : n + (1 + wP p) ≤ 60 := by have := h.1; rw [← hl, upKP_all] at this; exact this
  have hs : shP l (d + 1) t p = true := by
    rw [shP_go ho hl]
    exact upto_all (fun i hi => by rw [kidP_at hi (by omega)]; exact (h.2 i hi (by omega) hi).1)
  refine ⟨?_, hc⟩
  rw [okP_of hs hc, linP_go, upto_all (fun i hi => by rw [kidL_at hi (by omega)]; exact (h.2 i hi (by omega) hi).2)]
  rfl
theorem KidsOK.or_ (h : KidsOK l d t p n (tysP l t p).length) (ho : OwnOK l t p) (hl : p.kids.length = (tysP l t p).length) (h5 : p.op = 5) (h0 : 0 < p.kids.length) (h1 : 1 < p.kids.length) :
    okP l (d + 1) t p n = sameB (vrP l d t p.kids[0]) (vrP l d t p.kids[1]) ∧ vrP l (d + 1) t p = vrP l d t p.kids[0] := by
  have ht : tysP l t p = [t, t] := by rw [tysP_other (by omega), h5]; rfl
  have a1 := h.2 1 (by omega) h1 (by omega)
  simp only [ht, List.getElem_cons_succ, List.getElem_cons_zero] at a1
  refine ⟨?_, ?_⟩
  · rw [(h.all ho hl).1, headL_or h5 h0 h1, alike_same (lin_once a1.1 a1.2)]
  · rw [vrP_go, hdV_no (by omega)]
    have : limV l t p = 1 := by unfold limV; rw [if_pos h5]
    rw [this]
    show [] ++ ([] ++ kidR l d (tysP l t p) p.kids 0) = _
    rw [kidR_at (by omega) h0]
    simp only [ht, List.getElem_cons_zero, List.nil_append]
theorem KidsOK.not_or (h : KidsOK l d t p n (tysP l t p).length) (ho : OwnOK l t p) (hl : p.kids.length = (tysP l t p).length) (h5 : ¬ p.op = 5) :
    okP l (d + 1) t p n = upto (onceV (vrP l (d + 1) t p)) (vrP l (d + 1) t p).length ∧ vrP l (d + 1) t p = hdV t p ++ (lisV (kidR l d (tysP l t p) p.kids) (tysP l t p).length).flatten := by
  refine ⟨?_, ?_⟩
  · rw [(h.all ho hl).1, headL_no h5]
  · rw [vrP_go, lisV_flat]
    have : limV l t p = (tysP l t p).length := by unfold limV; rw [if_neg h5]
    rw [this]
theorem okP_is (l : List Da) (t : Ty) (p : Pt) : okP l 10 t p 0 = isP l t p := by
  unfold okP isP
  simp only [Nat.zero_add]
end
end Go.Proofs.Yteoopmogklpnoaa
/-
  A map from integers to bools that the call itself has made, as a set. No variable stands twice: the program's function. No statement is proved here.
-/
namespace Go.Proofs.Yteoopmogklpnoaa
open Go.RowKit Go.Maps
set_option maxRecDepth 100000
set_option linter.unusedVariables false
def MapIv (w : World) (b n : Nat) (S : Int → Prop) : Prop :=
  ∃ D : DataW Unit, w.ownsMap Try.prog 3 (plainElem Try.prog 4) b n D ∧ IsMap D ∧ ∀ s : Int, D.atKey (.int .i64 s) (.lit (.bool false)) = .lit (.bool (dec (S s)))
theorem zeroBool (w : World) : (zeroValue 4).run Try.prog w = .ok (.bool false) w := by kernel_rfl
theorem keyIv {s : Int} (h : (Lit.int .i64 s).wf = true) : keyOf Try.prog 3 (.int .i64 s) = some (.int .i64 s) := keyOf_int_mk Try.underlying3 h
theorem wf_small {s : Int} (h : 0 ≤ s ∧ s ≤ 5) : (Lit.int .i64 s).wf = true := WalkArith.wf_i64 (by omega)
theorem MapIv.made (w : World) : MapIv (w.alloc (.map #[] 0)) w.heap.size 0 (fun _ => False) :=
  ⟨.map [], World.ownsMap_made _ _ _ _, ⟨[], rfl⟩, fun s => by rw [dec_f (fun h => h)]; rfl⟩
theorem MapIv.lt {w : World} {b n : Nat} {S : Int → Prop} (h : MapIv w b n S) : b < w.heap.size := by
  obtain ⟨D, ho, _⟩ := h; exact ho.lt
theorem MapIv.keep {w w' : World} {b n n' : Nat} {S S' : Int → Prop} (h : MapIv w b n S) (hb : w'.heap[b]? = w.heap[b]?) (hn : n ≤ n') (hS : ∀ s, S s ↔ S' s) : MapIv w' b n' S' := by
  obtain ⟨D, ⟨es, clock, h1, h2, h3, h4⟩, hm, hat⟩ := h
  exact ⟨D, ⟨es, clock, hb.trans h1, h2, by omega, h4⟩, hm, fun s => by rw [hat s, dec_congr (hS s)]⟩
theorem MapIv.look {w : World} {b n : Nat} {S : Int → Prop} (h : MapIv w b n S) {s : Int} (hs : (Lit.int .i64 s).wf = true) : (Instr.lookup 205 (.map (some b)) (.int .i64 s) false).run Try.prog w = .ok (.bool (dec (S s))) w := by
  obtain ⟨D, ho, hm, hat⟩ := h
  obtain ⟨v, ps, hrun, hv⟩ := ho.lookup (int_keyed Try.underlying3) Try.underlying205 (zeroBool w) (zd := .lit (.bool false)) (zp := []) (plainElem_bool Try.underlying4 false) (keyIv hs)
  rw [hat] at hv
  have : v = .bool (dec (S s)) := by
    unfold plainElem at hv
    rw [Try.underlying4] at hv
    cases v <;> simp at hv
    rw [hv.1]
  rw [hrun, this]
theorem MapIv.put {w : World} {b n : Nat} {D : DataW Unit} {S : Int → Prop} {s : Int} (ho : w.ownsMap Try.prog 3 (plainElem Try.prog 4) b n (D.put (.int .i64 s) (.lit (.bool true)))) (hm : IsMap D) (hat : ∀ s : Int, D.atKey (.int .i64 s) (.lit (.bool false)) = .lit (.bool (dec (S s)))) :
    MapIv w b n (fun t => t = s ∨ S t) := by
  refine ⟨_, ho, ?_, fun t => ?_⟩
  · obtain ⟨es, rfl⟩ := hm
    exact ⟨_, rfl⟩
  · by_cases e : t = s
    · subst e
      rw [atKey_put_same (k := .int .i64 t) hm True.intro, dec_t (Or.inl rfl)]
    · rw [atKey_put_other (by intro e'; injection e' with e1 e''; exact e e''), hat, dec_congr (show S t ↔ (t = s ∨ S t) from ⟨Or.inr, fun h => h.resolve_left e⟩)]
theorem RVts.below {w w' : World} {B B0 : Nat} {A : Option Addr} {l : List Vt} (h : RVts w B A l) (hb : Below B0 w w') (hB : B ≤ B0) : RVts w' B A l := h.keep (fun _ hp => hb.cell (Nat.lt_of_lt_of_le hp hB)) (Nat.le_refl _)
/-- The variables of the first k. -/
def VS (L : List Vt) (k : Nat) (n : Int) : Prop := ∃ j, ∃ h : j < L.length, j < k ∧ L[j].var = n
theorem VS.zero (L : List Vt) (n : Int) : False ↔ VS L 0 n := ⟨False.elim, fun ⟨j, _, h, _⟩ => absurd h (by omega)⟩
theorem VS.succ (L : List Vt) (k : Nat) (hk : k < L.length) (n : Int) : (n = L[k].var ∨ VS L k n) ↔ VS L (k + 1) n := by
  constructor
  · rintro (rfl | ⟨j, h, h1, h2⟩)
    · exact ⟨k, hk, by omega, rfl⟩
    · exact ⟨j, h, by omega, h2⟩
  · rintro ⟨j, h, h1, h2⟩
    by_cases e : j = k
    · subst e; exact .inl h2.symm
    · exact .inr ⟨j, h, by omega, h2⟩
theorem VS.yes {L : List Vt} {k : Nat} (hk : k < L.length) (h : VS L k L[k].var) : onceV L k = false := once_no hk (fun hn => by
  obtain ⟨j, hj, h1, h2⟩ := h
  exact hn j hj h1 h2)
theorem VS.no {L : List Vt} {k : Nat} (hk : k < L.length) (h : ¬ VS L k L[k].var) : onceV L k = true := once_yes hk (fun j hj h1 h2 => h ⟨j, hj, h1, h2⟩)
set_option maxHeartbeats 1600000 in
theorem varTwice_any (A : Option Addr) (L : List Vt) (cap : Nat) (w : World) (hr : RVts w w.heap.size A L) (hv : ∀ x ∈ L, 0 ≤ x.var ∧ x.var ≤ 5) :
    Calls Try.prog 128 #[.slice A L.length cap] w fun e w' => e = .returned (.bool (!upto (onceV L) L.length)) ∧ Below w.heap.size w w' := by
  have hn := hr.1
  have hkm : L.length ≤ maxLen := hn
  unfold maxLen at hn
  have Hr := Lib.hid hr
  have HV := Lib.hid hv
  clear hr hv
  have hmm := @run_makeMap Try.prog
  go_enter Try.func128, Try.ntmps128
  go_wp2_with fail
  go_loopw [9] (fun i wr => ∃ k : Nat, k ≤ L.length ∧ i = .int .i64 k ∧ Hid (upto (onceV L) k = true) ∧ MapIv wr w.heap.size k (VS L k) ∧ Below w.heap.size w wr) (fun i _ => L.length - (intOf i).toNat)
  case atStart => exact ⟨0, by omega, rfl, rfl, (MapIv.made w).keep rfl (Nat.le_refl _) (VS.zero L), (Below.refl _ _).alloc (Nat.le_refl _) _⟩
  case round =>
    obtain ⟨k, hk, rfl, HU, hs, hb⟩ := hrel
    clear hmm
    by_cases hlt : k < L.length
    · obtain ⟨b, off, rfl, hbB, c0, c1, c2⟩ := (Hr.out.below hb (Nat.le_refl _)).2 k hlt
      have hwf := wf_small (HV.out _ (List.getElem_mem hlt))
      have HWF := Lib.hid hwf
      have hbs := hb.size
      have hl0 := hs.lt
      have HS := Lib.hid hs
      have HVY := Lib.hid (VS.yes hlt)
      have HVN := Lib.hid (VS.no hlt)
      have HSU := Lib.hid (VS.succ L k hlt)
      have HUF := Lib.hid (fun h => upto_f (f := onceV L) hlt h)
      have HUT := Lib.hid (fun h => upto_t (f := onceV L) HU.out h)
      clear hs hwf
      generalize L[k] = x at HWF HVY HVN HSU c0 c1 c2
      have hlook : ∀ o : Obj, (Instr.lookup 205 (.map (some w.heap.size)) (.int .i64 x.var) false).run Try.prog (wr.alloc o) = .ok (.bool (dec (VS L k x.var))) (wr.alloc o) := fun o => (HS.out.keep (w' := wr.alloc o) (Below.heap_alloc wr o _ HS.out.lt) (Nat.le_refl _) (fun _ => Iff.rfl)).look HWF.out
      by_cases hin : VS L k x.var
      · have hd := dec_t hin
        have HF := Lib.hid (HUF.out (HVY.out hin))
        clear hin
        go_wp2_with fail
        go_ret
        exact ⟨ret_bool (by rw [HF.out]; rfl), hb.alloc (by omega) _⟩
      · have hd := dec_f hin
        have HT : Hid (upto (onceV L) (k + 1) = true) := HUT.out (HVN.out hin)
        clear hin
        obtain ⟨D, ho, hmD, hat⟩ := HS.out
        have HA := Lib.hid hat
        have HO := Lib.hid ho
        have HM := Lib.hid hmD
        clear hat ho hmD
        have hkm' : k < maxLen := by unfold maxLen; omega
        go_wp2_with (at_mapUpdate; refine wpList_mapUpdate_own _ rfl _ _ _ 205 rfl 3 4 (int_keyed Try.underlying3) Try.underlying205 (plainElem Try.prog 4) w.heap.size k D rfl (HO.out.alloc _) hkm' _ _ (.int .i64 x.var) rfl rfl (keyIv HWF.out) (.lit (.bool true)) [] (plainElem_bool Try.underlying4 true) ?_; intro w1 ho1 hg1)
        have hb1 : Below w.heap.size w w1 := (hb.alloc (by omega) _).grown hg1 (by simp; omega) (fun g e => by injection e with e; omega)
        have s1 := (MapIv.put ho1 HM.out HA.out).keep (w' := w1) rfl (Nat.le_refl _) (fun n => HSU.out n)
        clear hlook hd HS HA HO HM hg1 c0 c1 c2 ho1
        go_roundw
        case rel => exact ⟨k + 1, by omega, by go_num, HT, s1, hb1⟩
        case measure => simp [intOf]; omega
    · have he : k = L.length := by omega
      have HE : Hid (upto (onceV L) L.length = true) := by unfold Hid; rw [← he]; exact HU.out
      clear he
      go_wp2_with fail
      go_ret
      exact ⟨ret_bool (by rw [HE.out]; rfl), hb⟩
end Go.Proofs.Yteoopmogklpnoaa
/-
  Whether two lists have the same variables: the program's closure, the library's functions over it, the program's function. No statement is proved here.
-/
namespace Go.Proofs.Yteoopmogklpnoaa
open Go.RowKit Go.Sort Go.Deep
set_option maxRecDepth 100000
set_option linter.unusedVariables false
abbrev vv (x : Vt) : Value := .agg #[.int .i64 x.var, .int .i64 x.ty.data, .int .i64 x.ty.index]
theorem eqlVt (x y : Vt) (w : World) : (Go.binOp .eql 56 (vv x) (vv y)).run Try.prog w = .ok (.bool (dec (x = y))) w := by
  have hS : Try.prog.underlying 56 = some (.struct (Try.prog.fieldsOf 56)) := by kernel_rfl
  have hp : Try.prog.stoodInHeld 56 = false := by kernel_rfl
  have hS2 : Try.prog.underlying 25 = some (.struct (Try.prog.fieldsOf 25)) := by kernel_rfl
  have hp2 : Try.prog.stoodInHeld 25 = false := by kernel_rfl
  have u3 := Try.underlying3
  have a3 := Try.isAgg3
  have z3 := Try.sizeOf3
  have a4 := Try.isAgg25
  have z4 := Try.sizeOf25
  obtain ⟨a, b, c⟩ := x
  obtain ⟨d, e, f⟩ := y
  have hN : (Op.equalIn 9999 25 (.agg #[.int .i64 b, .int .i64 c]) (.agg #[.int .i64 e, .int .i64 f])).run Try.prog w = .ok (b == e && c == f) w := by
    rw [show (9999 : Nat) = 9998 + 1 from rfl, run_equalIn_agg w 9998 25 _ _ hS2 hp2]
    simp only [Program.fieldsOf, Try.underlying25]
    go_simp
    by_cases h1 : b = e <;> by_cases h2 : c = f <;> simp_all
  have hI : (Op.equalIn 9999 3 (.int .i64 a) (.int .i64 d)).run Try.prog w = .ok (a == d) w := by
    rw [show (9999 : Nat) = 9998 + 1 from rfl]
    go_simp
  rw [run_eql_struct, show (10000 : Nat) = 9999 + 1 from rfl, run_equalIn_agg w 9999 56 _ _ hS hp]
  generalize 9999 = n at hN hI
  simp only [Program.fieldsOf, Try.underlying56]
  go_simp
  clear hN hI
  by_cases h1 : a = d
  · by_cases h2 : b = e
    · by_cases h3 : c = f
      · rw [dec_t ⟨h1, h2, h3⟩, if_pos h1, if_neg (fun h => h h2 h3)]
      · rw [dec_f (fun h => h3 h.2.2), if_pos h1, if_pos (fun _ => h3)]
    · rw [dec_f (fun h => h2 h.2.1), if_pos h1, if_pos (fun h => absurd h h2)]
  · rw [dec_f (fun h => h1 h.1), if_neg h1]
theorem guardVt (x y : Operand) (xs ys : Array Value) (w : World) : (eqGuard .eql 56 x y (.agg xs) (.agg ys)).run Try.prog w = .ok () w := run_eqGuard_agg (P := Try.prog) w .eql 56 x y xs ys (by kernel_rfl)
def NotInV (L : List Vt) (x : Vt) (k : Nat) : Prop := ∀ j (h : j < L.length), j < k → ¬ x = L[j]
theorem NotInV.zero (L : List Vt) (x : Vt) : NotInV L x 0 := fun j _ h => absurd h (by omega)
theorem NotInV.step {L : List Vt} {x : Vt} {k : Nat} (h : NotInV L x k) (hk : k < L.length) (e : ¬ x = L[k]) : NotInV L x (k + 1) := by
  intro j hj hjk
  by_cases e' : j = k
  · subst e'; exact e
  · exact h j hj (by omega)
theorem NotInV.all {L : List Vt} {x : Vt} {k : Nat} (h : NotInV L x k) (hk : L.length ≤ k) : ¬ x ∈ L := fun hm => by
  obtain ⟨j, hj, e⟩ := List.getElem_of_mem hm
  exact h j hj (by omega) e.symm
set_option maxHeartbeats 1600000 in
theorem indexVt_any (A : Option Addr) (L : List Vt) (cap : Nat) (x : Vt) (w : World) (hr : RVts w w.heap.size A L) :
    Calls Try.prog 153 #[.slice A L.length cap, vv x] w fun e w' => ∃ r : Int, e = .returned (.int .i64 r) ∧ decide (0 ≤ r) = dec (x ∈ L) ∧ Below w.heap.size w w' := by
  have hn := hr.1
  unfold maxLen at hn
  have Hr := Lib.hid hr
  clear hr
  have gd := guardVt
  have hq := eqlVt
  generalize hw0 : w.alloc (.cells #[.int .i64 x.var, .int .i64 x.ty.data, .int .i64 x.ty.index] 56) = w0
  have hb0 : Below w.heap.size w w0 := by rw [← hw0]; exact (Below.refl _ _).alloc (Nat.le_refl _) _
  have HX : Hid (RVt w0 w.heap.size 0 x) := by rw [← hw0]; exact ⟨by simp [go_sem], by simp [go_sem], by simp [go_sem]⟩
  have HW := Lib.hid hw0
  clear hw0
  go_enter Try.func153, Try.ntmps153
  go_wp2_with fail
  rw [HW.out]
  go_loopw [8, 5] (fun i _ wr => ∃ k : Nat, k ≤ L.length ∧ i = .int .i64 k ∧ NotInV L x k ∧ Below w0.heap.size w0 wr) (fun i _ _ => L.length - (intOf i).toNat)
  case atStart => exact ⟨0, by omega, rfl, NotInV.zero _ _, Below.refl _ _⟩
  case round =>
    obtain ⟨k, hk, rfl, hno, hb⟩ := hrel
    have hbw := below_aft hb0 hb hb0.size
    have HB2 : Hid (∀ n, Below w.heap.size w (wr.drewN n)) := fun n => below_drawn hbw n
    have HB3 : Hid (∀ n, Below w0.heap.size w0 (wr.drewN n)) := fun n => below_drawn hb n
    by_cases hlt : k < L.length
    · obtain ⟨b, off, rfl, hbB, c0, c1, c2⟩ := (Hr.out.below hbw (Nat.le_refl _)).2 k hlt
      obtain ⟨f0, f1, f2⟩ : RVt wr w.heap.size 0 x := ⟨(hb.cell (p := ⟨w.heap.size, 0, none⟩) (Go.block_lt_of_cell HX.out.1)).trans HX.out.1, (hb.cell (p := ⟨w.heap.size, 1, none⟩) (Go.block_lt_of_cell HX.out.2.1)).trans HX.out.2.1, (hb.cell (p := ⟨w.heap.size, 2, none⟩) (Go.block_lt_of_cell HX.out.2.2)).trans HX.out.2.2⟩
      have hkI : (k : Int) < (L.length : Int) := by omega
      have HST := Lib.hid (hno.step hlt)
      have HXM : Hid (L[k] ∈ L) := List.getElem_mem hlt
      generalize L[k] = y at HXM c0 c1 c2 HST
      by_cases hs : x = y
      · have HC := Lib.hid (dec_t hs)
        have HT : Hid (decide (0 ≤ (k : Int)) = dec (x ∈ L)) := by unfold Hid; rw [hs, dec_t HXM.out]; exact decide_eq_true (by omega)
        have hq2 := fun w => (hq x y w).trans (by rw [HC.out])
        clear hs hq
        go_wp2_with fail
        go_quiet (fail)
        go_wp2_with fail
        go_ret
        exact ⟨_, rfl, HT.out, HB2.out _⟩
      · have HC := Lib.hid (dec_f hs)
        have HN := Lib.hid (HST.out hs)
        have hq2 := fun w => (hq x y w).trans (by rw [HC.out])
        clear hs hq
        go_wp2_with fail
        go_quiet (fail)
        go_wp2_with fail
        go_roundw
        case rel => exact ⟨k + 1, by omega, by go_num, HN.out, HB3.out _⟩
        case measure => simp [intOf]; omega
    · have HT : Hid (decide (0 ≤ (-1 : Int)) = dec (x ∈ L)) := by unfold Hid; rw [dec_f (hno.all (by omega))]; rfl
      clear hq
      go_wp2_with fail
      go_ret
      exact ⟨_, rfl, HT.out, hbw⟩
end Go.Proofs.Yteoopmogklpnoaa
