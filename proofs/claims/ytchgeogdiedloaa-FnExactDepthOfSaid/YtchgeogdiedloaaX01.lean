/-
  Levels of lists of values, as DepthOf of the program walks through them. No statement is proved here.
-/
import Derived.Test.YtchgeogdiedloaaX00
import Derived.Deep.DeepCutAuto
import Derived.BigRegion
import Derived.Deep.RegionHeld3
import Derived.Outline
import Derived.Lib.QuietBelow
import Derived.Deep.QuietTactic
namespace Go.Proofs.Ytchgeogdiedloaa
open Go.RowKit Go.Sort Go.Deep
set_option maxRecDepth 100000
set_option linter.unusedVariables false
mutual
/-- The depth of a value. -/
def dV : Vl → Nat | .mk _ _ ks => 1 + dVs ks
def dVs : List Vl → Nat | [] => 0 | v :: vs => max (dV v) (dVs vs)
end
theorem dV_kids (v : Vl) : dV v = 1 + dVs v.kids := by cases v; rw [dV]; rfl
mutual
theorem dV_le : ∀ v : Vl, dV v ≤ wV v + 1
  | .mk _ _ ks => by rw [dV, wV]; have := dVs_le ks; omega
theorem dVs_le : ∀ l : List Vl, dVs l ≤ wVs l
  | [] => Nat.le_refl _
  | v :: vs => by rw [dVs, wVs]; have := dV_le v; have := dVs_le vs; omega
end
def dLs : List (List Vl) → Nat | [] => 0 | l :: ls => max (dVs l) (dLs ls)
theorem dLs_app (a b : List (List Vl)) : dLs (a ++ b) = max (dLs a) (dLs b) := by
  induction a with
  | nil => rw [List.nil_append, dLs]; omega
  | cons x a ih => rw [List.cons_append, dLs, dLs, ih]; omega
/-- The lists of parts of the elements, without the empty ones. -/
def nb : List Vl → List (List Vl) | [] => [] | v :: vs => (if v.kids = [] then [] else [v.kids]) ++ nb vs
theorem nb_d : ∀ l : List Vl, ¬ l = [] → dVs l = 1 + dLs (nb l)
  | [], h => absurd rfl h
  | [v], _ => by
    rw [dVs, dVs, nb, nb, List.append_nil, dV_kids]
    by_cases e : v.kids = []
    · rw [if_pos e, e, dVs, dLs]; rfl
    · rw [if_neg e, dLs, dLs]; omega
  | v :: v2 :: vs, _ => by
    have ih := nb_d (v2 :: vs) (by simp)
    rw [dVs, ih, show nb (v :: v2 :: vs) = (if v.kids = [] then [] else [v.kids]) ++ nb (v2 :: vs) from rfl, dLs_app, dV_kids]
    by_cases e : v.kids = []
    · rw [if_pos e, e, dVs, dLs]; omega
    · rw [if_neg e, dLs, dLs]; omega
def nbs : List (List Vl) → List (List Vl) | [] => [] | l :: ls => nb l ++ nbs ls
theorem nbs_app (a b : List (List Vl)) : nbs (a ++ b) = nbs a ++ nbs b := by
  induction a with
  | nil => rfl
  | cons x a ih => rw [List.cons_append, nbs, nbs, ih, List.append_assoc]
theorem nb_app (a b : List Vl) : nb (a ++ b) = nb a ++ nb b := by
  induction a with
  | nil => rfl
  | cons x a ih => rw [List.cons_append, nb, nb, ih, List.append_assoc]
theorem nbs_d : ∀ ls : List (List Vl), ¬ ls = [] → (∀ l ∈ ls, ¬ l = []) → dLs ls = 1 + dLs (nbs ls)
  | [], h, _ => absurd rfl h
  | [l], _, h => by rw [dLs, dLs, nbs, nbs, List.append_nil, nb_d l (h l (List.mem_singleton.2 rfl))]; omega
  | l :: l2 :: ls, _, h => by
    have ih := nbs_d (l2 :: ls) (by simp) (fun x hx => h x (List.mem_cons_of_mem _ hx))
    rw [dLs, ih, show nbs (l :: l2 :: ls) = nb l ++ nbs (l2 :: ls) from rfl, dLs_app, nb_d l (h l (List.mem_cons_self ..))]; omega
def wLs : List (List Vl) → Nat | [] => 0 | l :: ls => wVs l + wLs ls
theorem wLs_app (a b : List (List Vl)) : wLs (a ++ b) = wLs a + wLs b := by
  induction a with
  | nil => rw [List.nil_append, wLs]; omega
  | cons x a ih => rw [List.cons_append, wLs, wLs, ih]; omega
theorem nb_w : ∀ l : List Vl, (nb l).length ≤ l.length ∧ wLs (nb l) + l.length ≤ wVs l
  | [] => ⟨Nat.le_refl _, by rw [nb, wLs, wVs]; simp⟩
  | v :: vs => by
    obtain ⟨h1, h2⟩ := nb_w vs
    rw [nb, wLs_app, wVs, wV_kids, List.length_append, List.length_cons]
    by_cases e : v.kids = []
    · rw [if_pos e, wLs]; simp; omega
    · rw [if_neg e, wLs, wLs]; simp; omega
theorem nbs_w : ∀ ls : List (List Vl), (nbs ls).length ≤ wLs ls ∧ (nbs ls).length + wLs (nbs ls) ≤ wLs ls
  | [] => ⟨Nat.le_refl _, Nat.le_refl _⟩
  | l :: ls => by
    obtain ⟨h1, h2⟩ := nbs_w ls
    obtain ⟨h3, h4⟩ := nb_w l
    rw [nbs, wLs_app, wLs, List.length_append]
    omega
structure LvE where
  A : Option Addr
  l : List Vl
  cap : Nat
  d : Nat
  P : Nat → Prop
def LvE.FP (x : LvE) (b : Nat) : Prop := x.P b ∨ x.A = some ⟨b, 0, none⟩
def LvE.ok (w : World) (m : Nat) (x : LvE) : Prop := SfV x.d w m x.P x.A x.l ∧ ¬ x.l = [] ∧ (x.l.length ≤ x.cap ∧ x.cap ≤ maxLen) ∧ ∃ g c, x.A = some ⟨g, 0, none⟩ ∧ g < w.heap.size ∧ g ≠ m ∧ ¬ x.P g ∧ w.heap[g]? = some (.cells c 29 (0, 0))
theorem LvE.of {d m : Nat} {w : World} {Q : Nat → Prop} {A : Option Addr} {l : List Vl} {cap : Nat} (h : OVc (d + 1) w Q A l) (hm : ∀ b, Q b → b < w.heap.size ∧ b ≠ m) (hl : ¬ l = []) (hc : l.length ≤ cap ∧ cap ≤ maxLen) : LvE.ok w m ⟨A, l, cap, d, fun b => Q b ∧ ∀ a, A = some a → b ≠ a.block⟩ ∧ ∀ b, LvE.FP ⟨A, l, cap, d, fun b => Q b ∧ ∀ a, A = some a → b ≠ a.block⟩ b → Q b := by
  obtain ⟨g, rfl, hg, c, hh⟩ := h.addr (List.length_pos_iff.2 hl)
  refine ⟨⟨h.sf hm, hl, hc, g, c, rfl, (hm g hg).1, (hm g hg).2, fun h => h.2 _ rfl rfl, hh⟩, fun b hb => ?_⟩
  rcases hb with hb | hb
  · exact hb.1
  · cases hb; exact hg
/-- What listsBelow has made so far; blocks of Z are still to come. -/
structure LbI (w : World) (m : Nat) (F : Nat → Prop) (mb lo : Nat) (Z : Nat → Prop) (R : List (List Vl)) (u : Value) (wr : World) (B : List LvE) (S : List Kw) : Prop where
  own : ∃ xs, wr.ownsRow lo 27 1 u B.length xs ∧ ∀ j (h : j < B.length), xs[j]? = some (.slice B[j].A B[j].l.length B[j].cap)
  map : MapKw wr mb S
  keys : ∀ k ∈ S, ∃ y ∈ B, k.a = y.A
  ok : ∀ y ∈ B, y.ok w m
  away : ∀ y ∈ B, ∀ b, y.FP b → ¬ Z b
  from_ : ∀ y ∈ B, ∀ b, y.FP b → F b
  apart : B.Pairwise (fun x y => ∀ b, x.FP b → ¬ y.FP b)
  lists : B.map (fun y => y.l) = R
  below : Below w.heap.size w wr
theorem LbI.len {w : World} {m mb lo : Nat} {F Z : Nat → Prop} {R : List (List Vl)} {u : Value} {wr : World} {B : List LvE} {S : List Kw} (h : LbI w m F mb lo Z R u wr B S) : B.length = R.length := by rw [← h.lists, List.length_map]
theorem LbI.next {w : World} {m mb lo : Nat} {F Z Z' : Nat → Prop} {R R' : List (List Vl)} {u : Value} {wr wx : World} {B : List LvE} {S : List Kw} (h : LbI w m F mb lo Z R u wr B S) (hZ : ∀ b, Z' b → Z b) (hR : R' = R) (hb : Below wr.heap.size wr wx) (hmb : mb < wr.heap.size) : LbI w m F mb lo Z' R' u wx B S := by
  obtain ⟨xs, ho, hx⟩ := h.own
  refine ⟨⟨xs, own_below ho hb, hx⟩, h.map.keep (hb.block _ hmb), h.keys, h.ok, fun y hy b hb' hz => h.away y hy b hb' (hZ b hz), h.from_, h.apart, hR ▸ h.lists, h.below.trans (hb.mono h.below.size)⟩
theorem LbI.lies {w : World} {m mb lo : Nat} {F Z : Nat → Prop} {R : List (List Vl)} {u : Value} {wr : World} {B : List LvE} {S : List Kw} (h : LbI w m F mb lo Z R u wr B S) : ∀ k ∈ S, LiesKw wr k := fun k hk x hx => by
  obtain ⟨y, hy, e⟩ := h.keys k hk
  obtain ⟨_, _, _, g, c, e2, hg, _, _, hh⟩ := h.ok y hy
  rw [hx, e2] at e
  cases e
  exact ⟨c, _, (h.below.block g hg).trans hh⟩
theorem LbI.new {w : World} {m mb lo : Nat} {F Z : Nat → Prop} {R : List (List Vl)} {u : Value} {wr : World} {B : List LvE} {S : List Kw} (h : LbI w m F mb lo Z R u wr B S) {g n : Nat} (hz : Z g) : ¬ (⟨some ⟨g, 0, none⟩, n⟩ : Kw) ∈ S := fun hk => by
  obtain ⟨y, hy, e⟩ := h.keys _ hk
  exact h.away y hy g (.inr e.symm) hz
/-- One list more. -/
theorem LbI.push {w : World} {m mb lo : Nat} {F Z Z' : Nat → Prop} {R : List (List Vl)} {u v' : Value} {wr w' : World} {B : List LvE} {S : List Kw} {x : LvE} {k : Kw} {xs : List Value} (h : LbI w m F mb lo Z R u wr B S) (hZ : ∀ b, Z' b → Z b) (hx0 : x.ok w m) (hxZ : ∀ b, x.FP b → Z b ∧ ¬ Z' b ∧ F b) (hk : k.a = x.A)
    (hl : xs.length = B.length) (hx : ∀ j (h : j < B.length), xs[j]? = some (.slice B[j].A B[j].l.length B[j].cap)) (ho : w'.ownsRow lo 27 1 v' (B.length + 1) (xs ++ [.slice x.A x.l.length x.cap])) (hm : MapKw w' mb (S ++ [k])) (hb : Below w.heap.size w w') : LbI w m F mb lo Z' (R ++ [x.l]) v' w' (B ++ [x]) (S ++ [k]) := by
  refine ⟨⟨_, by simpa using ho, fun j hj => ?_⟩, hm, fun k' hk' => ?_, fun y hy => ?_, fun y hy b hb' hz => ?_, fun y hy b hb' => ?_, ?_, ?_, hb⟩
  · have hj' : j < B.length + 1 := by simpa using hj
    by_cases e : j < B.length
    · rw [List.getElem_append_left e, List.getElem?_append_left (by omega)]; exact hx j e
    · have e' : j = B.length := by omega
      subst e'
      rw [List.getElem_append_right (Nat.le_refl _)]
      simp only [Nat.sub_self, List.getElem_cons_zero]
      rw [List.getElem?_append_right (by omega), hl, Nat.sub_self]; rfl
  · rcases mem_last hk' with hk' | rfl
    · obtain ⟨y, hy, e⟩ := h.keys k' hk'; exact ⟨y, in_front hy, e⟩
    · exact ⟨x, in_last, hk⟩
  · rcases mem_last hy with hy | rfl
    · exact h.ok y hy
    · exact hx0
  · rcases mem_last hy with hy | rfl
    · exact h.away y hy b hb' (hZ b hz)
    · exact (hxZ b hb').2.1 hz
  · rcases mem_last hy with hy | rfl
    · exact h.from_ y hy b hb'
    · exact (hxZ b hb').2.2
  · exact List.pairwise_append.2 ⟨h.apart, List.pairwise_singleton _ _, fun y hy z hz b hb' hzb => by rw [List.mem_singleton.1 hz] at hzb; exact h.away y hy b hb' (hxZ b hzb).1⟩
  · rw [List.map_append, h.lists]; rfl
theorem take_w (L : List LvE) (k : Nat) (h : k < L.length) : wLs ((L.take k).map (fun x => x.l)) + wVs L[k].l ≤ wLs (L.map (fun x => x.l)) := by
  have e : L = L.take k ++ L[k] :: L.drop (k + 1) := by rw [← List.drop_eq_getElem_cons h, List.take_append_drop]
  have e2 : wLs (L.map (fun x => x.l)) = wLs ((L.take k ++ L[k] :: L.drop (k + 1)).map (fun x => x.l)) := by rw [← e]
  rw [e2, List.map_append, wLs_app, List.map_cons, wLs]
  omega
theorem SfV.fr {d m : Nat} {w w' : World} {P : Nat → Prop} {A : Option Addr} {l : List Vl} (h : SfV d w m P A l) (hf : Fr (fun b => b = m) w w') : SfV d w' m P A l := by
  obtain ⟨h1, h2, h3⟩ := h
  refine ⟨h1, fun b hb => ⟨Nat.lt_of_lt_of_le (h2 b hb).1 hf.size, (h2 b hb).2⟩, fun hl => ?_⟩
  obtain ⟨g, off, Q, e, hg, hgm, hq, hc⟩ := h3 hl
  refine ⟨g, off, Q, e, Nat.lt_of_lt_of_le hg hf.size, hgm, hq, fun k hk => ?_⟩
  obtain ⟨A', cap, e0, e1, e2, e3, e9⟩ := hc k hk
  exact ⟨A', cap, (hf.cellV (a := ⟨g, _, none⟩) hg hgm).trans e0, (hf.cellV (a := ⟨g, _, none⟩) hg hgm).trans e1, (hf.cellV (a := ⟨g, _, none⟩) hg hgm).trans e2, e3, e9.fr _ hf (fun b hb => (h2 b (hq k b hk hb).1).2)⟩
theorem LyV.fr {w w' : World} {m : Nat} {a : Option Addr} (h : LyV w m a) (hf : Fr (fun b => b = m) w w') : LyV w' m a := fun x hx => by
  obtain ⟨h1, h2, c, t, h3⟩ := h x hx
  exact ⟨Nat.lt_of_lt_of_le h1 hf.size, h2, c, t, hf.block h3 h2⟩
theorem LyV.now {w : World} {m : Nat} {a : Option Addr} (h : LyV w m a) : LiesPV w a := fun x hx => by
  obtain ⟨h1, h2, c, t, h3⟩ := h x hx
  exact ⟨c, t, h3⟩
/-- A level in memory. -/
def RwL (w : World) (u : Value) (L : List LvE) : Prop := ∃ A cap, u = .slice A L.length cap ∧ (0 < L.length → ∃ g, A = some ⟨g, 0, none⟩ ∧ g < w.heap.size ∧ ∀ j (h : j < L.length), w.cell? ⟨g, j, none⟩ = some (.slice L[j].A L[j].l.length L[j].cap))
theorem LbI.row {w : World} {m mb lo : Nat} {F Z : Nat → Prop} {R : List (List Vl)} {u : Value} {wr : World} {B : List LvE} {S : List Kw} (h : LbI w m F mb lo Z R u wr B S) : RwL wr u B := by
  obtain ⟨xs, ho, hx⟩ := h.own
  rcases ho.2 with ⟨h', h0⟩ | ⟨g, cap, cur, h', hb, hg, hnc, hcm, hcs, htake⟩
  · exact ⟨none, 0, by rw [h0]; exact h', fun hl => absurd hl (by omega)⟩
  · refine ⟨_, cap, h', fun hl => ⟨g, rfl, heap_lt hg, fun j hj => ?_⟩⟩
    rw [cell_of_blk hg, show cur[j]? = xs[j]? by rw [← htake, List.getElem?_take_of_lt (by omega), Array.getElem?_toList]]
    exact hx j hj
def LvE.key (x : LvE) : Kw := ⟨x.A, x.l.length⟩
/-- What the loop of DepthOf knows: level L is the j-th; S are the lists seen before. -/
structure DpI (v : Vl) (m : Nat) (wS : World) (u : Value) (wr : World) (j : Nat) (L : List LvE) (S : List Kw) : Prop where
  row : RwL wr u L
  ok : ∀ x ∈ L, SfV x.d wr m x.P x.A x.l ∧ ¬ x.l = []
  ap : L.Pairwise (fun x y => ∀ b, x.P b → ¬ y.P b)
  met : ∀ x ∈ L, ∀ k ∈ S, ∀ a, k.a = some a → ¬ x.P a.block
  map : MapKw wr m S
  lies : ∀ k ∈ S, LyV wr m k.a
  cnt : j ≤ S.length + 1
  dep : dV v + 1 = j + dLs (L.map (fun x => x.l))
  wgt : S.length + wLs (L.map (fun x => x.l)) ≤ wV v + 1
  ne : ¬ L = []
  fr : Fr (fun b => b = m) wS wr
theorem DpI.keys {w : World} {m mb lo : Nat} {F Z : Nat → Prop} {R : List (List Vl)} {u : Value} {wr : World} {B : List LvE} {S' : List Kw} (h : LbI w m F mb lo Z R u wr B S') {S : List Kw} (hS : ∀ k ∈ S, ∀ a, k.a = some a → ¬ F a.block) {i : Nat} (hi : i < B.length) : ¬ B[i].key ∈ S ++ (B.take i).map LvE.key := fun hk => by
  obtain ⟨_, _, _, g, c, e, _, _, hnp, _⟩ := h.ok B[i] (List.getElem_mem hi)
  rcases List.mem_append.1 hk with hk | hk
  · exact hS _ hk ⟨g, 0, none⟩ e (h.from_ _ (List.getElem_mem hi) g (.inr e))
  · obtain ⟨y, hy, e2⟩ := List.mem_map.1 hk
    obtain ⟨j, hj, e3⟩ := List.mem_take_iff_getElem.1 hy
    have e4 : y.A = some ⟨g, 0, none⟩ := (congrArg Kw.a e2).trans e
    rw [← e3] at e4
    exact List.pairwise_iff_getElem.1 h.apart j i (by omega) hi (by omega) g (.inr e4) (.inr e)
theorem DpI.step {v : Vl} {m mb lo : Nat} {wS wr w1 wx : World} {u u' : Value} {j : Nat} {L B : List LvE} {S S' : List Kw} (h : DpI v m wS u wr j L S) (hb : LbI wr m (fun b => ∃ x ∈ L, x.P b) mb lo (fun _ => False) (nbs (L.map (fun x => x.l))) u' w1 B S') (hB : ¬ B = []) (hf : Fr (fun b => b = m) wr wx) (hr : RwL wx u' B) (hm : MapKw wx m (S ++ B.map LvE.key)) : DpI v m wS u' wx (j + 1) B (S ++ B.map LvE.key) := by
  have hd := nbs_d (L.map (fun x => x.l)) (by simp; exact h.ne) (fun l hl => by
    obtain ⟨x, hx, rfl⟩ := List.mem_map.1 hl; exact (h.ok x hx).2)
  have hlen : 0 < B.length := List.length_pos_iff.2 hB
  refine ⟨hr, fun x hx => ⟨(hb.ok x hx).1.fr hf, (hb.ok x hx).2.1⟩, hb.apart.imp (fun hxy b h1 h2 => hxy b (.inl h1) (.inl h2)), fun x hx k hk a ha hp => ?_, hm, fun k hk => ?_, ?_, ?_, ?_, hB, h.fr.trans hf⟩
  · rcases List.mem_append.1 hk with hk | hk
    · obtain ⟨y, hy, hyp⟩ := hb.from_ x hx _ (.inl hp)
      exact h.met y hy k hk a ha hyp
    · obtain ⟨y, hy, rfl⟩ := List.mem_map.1 hk
      obtain ⟨_, _, _, g, c, e, _, _, hnp, _⟩ := hb.ok y hy
      have ha : y.A = some a := ha
      rw [e] at ha
      cases ha
      obtain ⟨i1, h1, rfl⟩ := List.getElem_of_mem hx
      obtain ⟨i2, h2, rfl⟩ := List.getElem_of_mem hy
      rcases Nat.lt_trichotomy i1 i2 with hlt | heq | hlt
      · exact List.pairwise_iff_getElem.1 hb.apart i1 i2 h1 h2 hlt _ (.inl hp) (.inr e)
      · subst heq; exact hnp hp
      · exact List.pairwise_iff_getElem.1 hb.apart i2 i1 h2 h1 hlt _ (.inr e) (.inl hp)
  · rcases List.mem_append.1 hk with hk | hk
    · exact (h.lies k hk).fr hf
    · obtain ⟨y, hy, rfl⟩ := List.mem_map.1 hk
      obtain ⟨_, _, _, g, c, e, hg, hgm, _, hh⟩ := hb.ok y hy
      refine LyV.fr (fun x hx => ?_) hf
      have hx : y.A = some x := hx
      rw [e] at hx
      cases hx
      exact ⟨hg, hgm, c, _, hh⟩
  · rw [List.length_append, List.length_map]; have := h.cnt; omega
  · have h1 := h.dep
    rw [hb.lists]; omega
  · have h1 := (nbs_w (L.map (fun x => x.l))).2
    have h2 := h.wgt
    have h3 := hb.len
    rw [List.length_append, List.length_map, hb.lists]; omega
end Go.Proofs.Ytchgeogdiedloaa
/-
  listsBelow of the program: the lists of parts of a level of lists. No statement is proved here.
-/
namespace Go.Proofs.Ytchgeogdiedloaa
open Go.RowKit Go.Sort Go.Deep
set_option maxRecDepth 100000
set_option linter.unusedVariables false
theorem infoLL : (Try.prog.info? 27).map (fun i => (i.zero, i.size, i.bytes)) = some (some (.slice none 0 0), 1, 24) := by kernel_rfl
theorem wp_mapUpdate_kw {w : World} {ops : Array Oper} {rest : List Oper} {o : Oper} {a : Act} {Q : Exit → Act → World → Prop}
    (hg : o.guard = none) (m x v : Operand) (hop : o.op = Op.mapUpdate 50 m x v) (b : Nat) (S : List Kw) (k : Kw)
    (hm : a.eval m = .map (some b)) (hS : MapKw w b S) (hk : LiesKw w k) (hl : ∀ k' ∈ S, LiesKw w k') (hn : ¬ k ∈ S) (hx : a.eval x = k.v) (hv : a.eval v = .bool true)
    (hK : ∀ w', MapKw w' b (S ++ [k]) → w.grownBy w' (some b) → wpList Try.prog ops Q rest (a.put o.dst undef) w') :
    wpList Try.prog ops Q (o :: rest) a w := by
  refine wpList_plain hg fun K' hK' => ?_
  obtain ⟨w', hrun, r1, r2⟩ := hS.put hk hl hn
  unfold Oper.wp
  simp [execOp, hop, hm, hx, hv, hrun, Result.andThen]
  exact hK' _ _ (hK w' r1 r2)
theorem LbI.zero (w : World) (m : Nat) (F Z : Nat → Prop) : LbI w m F w.heap.size (w.heap.size + 1) Z [] (.slice none 0 0) (w.alloc (.map #[] 0)) [] [] :=
  ⟨⟨[], ⟨rfl, .inl ⟨rfl, rfl⟩⟩, fun j h => absurd h (Nat.not_lt_zero _)⟩, MapKw.made w, fun k h => (by cases h), fun y h => (by cases h), fun y h => (by cases h), fun y h => (by cases h), List.Pairwise.nil, rfl, (Below.refl _ _).alloc (Nat.le_refl _) _⟩
set_option maxHeartbeats 8000000 in
theorem lb_any (w : World) (m : Nat) (L : List LvE) (u : Value) (hu : RwL w u L) (hok : ∀ x ∈ L, SfV x.d w m x.P x.A x.l ∧ ¬ x.l = []) (hap : L.Pairwise (fun x y => ∀ b, x.P b → ¬ y.P b)) (hN : wLs (L.map (fun x => x.l)) + 1 ≤ 1048578) :
    Calls Try.prog 19 #[u] w fun e w' => ∃ v B S, e = .returned v ∧ LbI w m (fun b => ∃ x ∈ L, x.P b) w.heap.size (w.heap.size + 1) (fun _ => False) (nbs (L.map (fun x => x.l))) v w' B S := by
  obtain ⟨A, cap, rfl, hrow⟩ := hu
  obtain ⟨i0, hi, hz0, hz1, hz2⟩ := info_parts infoLL
  have HROW := Lib.hid hrow
  have HOK := Lib.hid hok
  have HAP := Lib.hid hap
  have HNN := Lib.hid hN
  have hLl : L.length ≤ 1048578 := by
    have : ∀ M : List LvE, (∀ x ∈ M, ¬ x.l = []) → M.length ≤ wLs (M.map (fun x => x.l)) := by
      intro M
      induction M with
      | nil => intro _; exact Nat.zero_le _
      | cons x M ih =>
        intro h
        have h1 := ih (fun y hy => h y (List.mem_cons_of_mem _ hy))
        have h2 : 0 < x.l.length := List.length_pos_iff.2 (h x (List.mem_cons_self ..))
        have h3 := wVs_sum x.l
        rw [List.map_cons, wLs, List.length_cons]; omega
    have := this L (fun x hx => (hok x hx).2)
    omega
  clear hrow hok hap hN
  have hmm := @run_makeMap Try.prog
  go_enter Try.func19, Try.ntmps19
  go_wp2_with fail
  clear hmm
  go_loopw [4, 13] (fun u i wr => ∃ k : Nat, k ≤ L.length ∧ i = .int .i64 k ∧ ∃ B S, Hid (LbI w m (fun b => ∃ x ∈ L, x.P b) w.heap.size (w.heap.size + 1) (fun b => ∃ j, ∃ h : j < L.length, k ≤ j ∧ L[j].P b) (nbs ((L.take k).map (fun x => x.l))) u wr B S)) (fun _ i _ => L.length - (intOf i).toNat)
  case atStart => exact ⟨0, by omega, rfl, [], [], LbI.zero w m _ _⟩
  case round =>
    obtain ⟨k, hk, rfl, B0, S0, HI0⟩ := hrel
    by_cases hlt : k < L.length
    · obtain ⟨g, rfl, hg, hcell⟩ := HROW.out (by omega)
      have c0 := (HI0.out.below.cell (p := ⟨g, k, none⟩) hg).trans (hcell k hlt)
      obtain ⟨⟨h1, h2, h3⟩, hne⟩ := HOK.out L[k] (List.getElem_mem hlt)
      obtain ⟨gl, off, Q, hA, hgl, hglm, hq, hc⟩ := h3 (List.length_pos_iff.2 hne)
      have HC := Lib.hid hc
      have HQ := Lib.hid hq
      have H2 := Lib.hid h2
      rw [hA] at c0
      have hgr : g < wr.heap.size := Nat.lt_of_lt_of_le hg HI0.out.below.size
      have hglr : gl < wr.heap.size := Nat.lt_of_lt_of_le hgl HI0.out.below.size
      have hkI : (k : Int) < (L.length : Int) := by omega
      have hll : L[k].l.length ≤ 9223372036854775807 := by unfold maxLen at h1; exact h1
      have hmbr : w.heap.size < wr.heap.size := Nat.lt_of_lt_of_le (by rw [World.size_alloc]; omega) (show (w.alloc (.map #[] 0)).heap.size ≤ wr.heap.size by
        obtain ⟨es, cl, hmp, _⟩ := HI0.out.map
        have := heap_lt hmp
        rw [World.size_alloc]; omega)
      clear hcell hc hq h1 h2 h3
      go_wp2_with fail
      go_loopw [4, 19] (fun u i wq => ∃ j : Nat, j ≤ L[k].l.length ∧ i = .int .i64 j ∧ ∃ B S, Hid (LbI w m (fun b => ∃ x ∈ L, x.P b) w.heap.size (w.heap.size + 1) (fun b => (∃ i, ∃ h : i < L.length, k < i ∧ L[i].P b) ∨ ∃ j', j ≤ j' ∧ j' < L[k].l.length ∧ Q j' b) ((nbs ((L.take k).map (fun x => x.l))) ++ nb (L[k].l.take j)) u wq B S)) (fun _ i _ => L[k].l.length - (intOf i).toNat)
      case atStart => exact ⟨0, by omega, rfl, B0, S0, HI0.out.next (fun b hb => by
        rcases hb with ⟨i, hi, h1, h2⟩ | ⟨j', _, h1, h2⟩
        · exact ⟨i, hi, by omega, h2⟩
        · exact ⟨k, hlt, Nat.le_refl _, (HQ.out j' b h1 h2).1⟩) (by rw [List.take_zero, nb, List.append_nil]) (Below.refl _ _) hmbr⟩
      case round =>
        have hwq : ∃ wq, wq = wr := ⟨_, rfl⟩
        obtain ⟨wq, rfl⟩ := hwq
        obtain ⟨j, hj, rfl, B, S, HI⟩ := hrel
        by_cases hlj : j < L[k].l.length
        · obtain ⟨A', cap', e0, e1, e2, e3, e9⟩ := HC.out j hlj
          have hglq : gl < wq.heap.size := Nat.lt_of_lt_of_le hgl HI.out.below.size
          have f0 := (HI.out.below.cell (p := ⟨gl, _, none⟩) hgl).trans e0
          have f1 := (HI.out.below.cell (p := ⟨gl, _, none⟩) hgl).trans e1
          have f2 := (HI.out.below.cell (p := ⟨gl, _, none⟩) hgl).trans e2
          obtain ⟨d', hd, _⟩ := e9.parts
          have H9 := Lib.hid e9
          have H3 := Lib.hid e3
          have hjI : (j : Int) < (L[k].l.length : Int) := by omega
          have HKO : Hid (∀ W', Calls Try.prog 17 #[.slice A' L[k].l[j].kids.length cap'] W' fun e w' => e = .returned (.agg #[.pointer (kA A' L[k].l[j].kids.length), .int .i64 L[k].l[j].kids.length]) ∧ Below W'.heap.size W' w') := fun W' => keyOfV_own H9.out cap' W'
          clear e0 e1 e2 e3 e9
          have hnt : nb (L[k].l.take (j + 1)) = nb (L[k].l.take j) ++ (if L[k].l[j].kids = [] then [] else [L[k].l[j].kids]) := by
            rw [← List.take_append_getElem hlj, nb_app, nb, nb, List.append_nil]
          have HNT := Lib.hid hnt
          have hmbq : w.heap.size < wq.heap.size := by
            obtain ⟨es, cl, hmp, _⟩ := HI.out.map
            exact heap_lt hmp
          clear hnt
          go_upto_region 9 with fail
          obtain ⟨wy, hwy⟩ : ∃ wy, wy = wq.alloc (.cells #[.int .i64 L[k].l[j].ctor, .int .i64 L[k].l[j].n, .slice A' L[k].l[j].kids.length cap'] 29) := ⟨_, rfl⟩
          have hby : Below wq.heap.size wq wy := by rw [hwy]; exact (Below.refl _ _).alloc (Nat.le_refl _) _
          have hy2 : wy.cell? ⟨wq.heap.size, 2, none⟩ = some (.slice A' L[k].l[j].kids.length cap') := by rw [hwy]; simp [go_sem]
          have hsy : wy.heap.size = wq.heap.size + 1 := by rw [hwy]; simp
          rw [← hwy]
          have HWY := Lib.hid hwy
          clear hwy
          go_cut [9] (fun s9 wx => ∃ g9, s9 = .pointer (some ⟨g9, 0, none⟩) ∧ Below wq.heap.size wq wx ∧ wx.cell? ⟨g9, 0, none⟩ = some (.pointer (kA A' L[k].l[j].kids.length)) ∧ wx.cell? ⟨g9, 1, none⟩ = some (.int .i64 L[k].l[j].kids.length) ∧ wx.cell? ⟨wq.heap.size, 2, none⟩ = some (.slice A' L[k].l[j].kids.length cap'))
          case first =>
            go_wp2_with (go_at_call 17; refine (HKO.out _).mono ?_; rintro e1 w1 ⟨rfl, hb1⟩)
            go_meet
            have hs1 := hb1.size
            refine ⟨_, rfl, (below_aft hby hb1 hby.size).alloc (by omega) _, by simp [go_sem], by simp [go_sem], ?_⟩
            exact (World.cell?_alloc_lt _ _ _ (by show wq.heap.size < _; omega)).trans ((hb1.cell (p := ⟨wq.heap.size, 2, none⟩) (by show wq.heap.size < _; omega)).trans hy2)
          obtain ⟨g9, rfl, hbc, r0, r1, r2⟩ := hcut
          have HBC := Lib.hid hbc
          have HIC := Lib.hid (HI.out.next (fun b h => h) rfl hbc hmbq)
          have hsc := hbc.size
          have hqc : wq.heap.size < wc.heap.size := Go.block_lt_of_cell r2
          clear hbc hby hy2 f0 f1 f2
          have HKL : Hid (LiesKw wc (Kw.mk (kA A' L[k].l[j].kids.length) L[k].l[j].kids.length)) := (H9.out.ly (m := m) (fun b hb => H2.out b (HQ.out j b hlj hb).1)).lies (Fr.below HIC.out.below)
          have hlook1 : (Instr.lookup 50 (.map (some w.heap.size)) (.agg #[.pointer (kA A' L[k].l[j].kids.length), .int .i64 L[k].l[j].kids.length]) false).run Try.prog wc = .ok (.bool (decide ((Kw.mk (kA A' L[k].l[j].kids.length) L[k].l[j].kids.length) ∈ S))) wc := HIC.out.map.look HKL.out HIC.out.lies
          by_cases he : L[k].l[j].kids = []
          · have hle : L[k].l[j].kids.length = 0 := by rw [he]; rfl
            have q1 : ¬ (0 : Int) < (L[k].l[j].kids.length : Int) := by omega
            have q2 : ¬ 0 < L[k].l[j].kids.length := by omega
            have HI2 := Lib.hid (HIC.out.next (Z' := fun b => (∃ i, ∃ h : i < L.length, k < i ∧ L[i].P b) ∨ ∃ j', j + 1 ≤ j' ∧ j' < L[k].l.length ∧ Q j' b) (fun b hb => by
              rcases hb with hb | ⟨j', h1, h2, h3⟩
              · exact .inl hb
              · exact .inr ⟨j', by omega, h2, h3⟩) (show (nbs ((L.take k).map (fun x => x.l))) ++ nb (L[k].l.take (j + 1)) = _ by rw [HNT.out, if_pos he, List.append_nil]) (Below.refl _ wc) (by omega))
            generalize decide ((Kw.mk (kA A' L[k].l[j].kids.length) L[k].l[j].kids.length) ∈ S) = bb at hlook1
            clear he hle
            go_wp2_with fail
            go_roundw
            case rel => exact ⟨j + 1, by omega, by go_num, B, S, HI2⟩
            case measure => simp [intOf]; omega
          · have hlp : 0 < L[k].l[j].kids.length := List.length_pos_iff.2 he
            have H91 : Hid (OVc (d' + 1) w (Q j) A' L[k].l[j].kids) := by unfold Hid; rw [← hd]; exact H9.out
            have q1 : (0 : Int) < (L[k].l[j].kids.length : Int) := by omega
            obtain ⟨ga, hga, hgQ, _⟩ := H9.out.addr hlp
            have hnew : ¬ (Kw.mk (kA A' L[k].l[j].kids.length) L[k].l[j].kids.length) ∈ S := by
              have e : kA A' L[k].l[j].kids.length = some ⟨ga, 0, none⟩ := (kA_pos0 hlp).trans hga
              rw [e]
              exact HIC.out.new (.inr ⟨j, Nat.le_refl _, hlj, hgQ⟩)
            rw [decide_eq_false hnew] at hlook1
            have HNW := Lib.hid hnew
            have HNL : Hid (nb (L[k].l.take (j + 1)) = nb (L[k].l.take j) ++ [L[k].l[j].kids]) := by unfold Hid; rw [HNT.out, if_neg he]
            have HE := Lib.hid (LvE.of H91.out (fun b hb => H2.out b (HQ.out j b hlj hb).1) he H3.out)
            have HKA : Hid (kA A' L[k].l[j].kids.length = A') := kA_pos0 hlp
            clear he hga hgQ hnew
            obtain ⟨xs, hown, hxs⟩ := HIC.out.own
            obtain ⟨Au, cu, rfl, hof⟩ := own_form hown
            have HOW := Lib.hid hown
            have HXS := Lib.hid hxs
            have HOF := Lib.hid hof
            have HBL : Hid (B.length ≤ 1048578) := by
              unfold Hid
              have h1 := HIC.out.len
              rw [List.length_append] at h1
              have h2 := (nbs_w ((L.take k).map (fun x => x.l))).1
              have h3 := (nb_w (L[k].l.take j)).1
              have h4 := take_w L k hlt
              have h5 := wVs_sum L[k].l
              have h6 : (L[k].l.take j).length ≤ L[k].l.length := by rw [List.length_take]; omega
              have h7 := HNN.out
              omega
            have HC3 : Hid (B.length + 1 ≤ maxLen) := by unfold Hid maxLen; have := HBL.out; omega
            have HC4 : Hid ((B.length + 1) * 24 ≤ 140737488355328) := by unfold Hid; have := HBL.out; omega
            clear hown hxs hof
            go_wp2_with (first
              | (at_mapUpdate; (with_reducible refine wp_mapUpdate_kw rfl _ _ _ rfl w.heap.size S (Kw.mk (kA A' L[k].l[j].kids.length) L[k].l[j].kids.length) rfl HIC.out.map HKL.out HIC.out.lies HNW.out rfl rfl ?_); intro w5 hm5 hg5;
                  have HM5 := Lib.hid hm5; have HG5 := Lib.hid hg5; have hs5 := hg5.size; clear hm5 hg5;
                  have r2 := (World.cell?_of_block (a := ⟨wq.heap.size, 2, none⟩) (HG5.out.block wq.heap.size (by omega) (by intro e; injection e with e; omega))).trans r2;
                  have HOA5 : Hid ((w5.alloc (.cells #[.slice A' L[k].l[j].kids.length cap'] 27)).ownsRow (w.heap.size + 1) 27 1 (.slice Au B.length cu) B.length xs) := own_at HOW.out (fun b e => by have h1 := HOF.out b e; rw [Below.heap_alloc _ _ _ (by omega), HG5.out.block b (by omega) (by intro e; injection e with e; omega)]);
                  have HC1 := Lib.hid (cell_one_new w5 (.slice A' L[k].l[j].kids.length cap') 27);
                  have HC2 : Hid (∀ q ∈ [Value.slice A' L[k].l[j].kids.length cap'], q.oneCell' = true) := (by intro q hq; simp at hq; rcases hq with rfl; rfl);
                  have HC5 : Hid (w.heap.size + 1 ≤ (w5.alloc (.cells #[.slice A' L[k].l[j].kids.length cap'] 27)).heap.size) := (by unfold Hid; rw [World.size_alloc]; omega))
              | (at_builtin; refine wpList_append_own_at _ rfl _ _ 51 rfl (w.heap.size + 1) 27 i0 _ 1 24 Try.underlying51 hi hz0 hz1 hz2 rfl (by decide) (.slice Au B.length cu) _ xs rfl HOA5.out ⟨w5.heap.size, 0, none⟩ 1 1 [Value.slice A' L[k].l[j].kids.length cap'] rfl rfl HC1.out HC2.out HC3.out HC4.out HC5.out ?_; intro v' w6 hown' hgr' hnn' hat')
              | fail)
            have hs6 := hgr'.size
            rw [World.size_alloc] at hs6
            have hB6 : Below w.heap.size w w6 := by
              refine ⟨?_, ?_, ?_, by have := HIC.out.below.size; omega, fun b hb => ?_⟩
              · exact hgr'.os.trans (HG5.out.os.trans HIC.out.below.os)
              · exact hgr'.tape.trans (HG5.out.tape.trans HIC.out.below.tape)
              · exact hgr'.output.trans (HG5.out.output.trans HIC.out.below.output)
              · have hbc : b < wc.heap.size := Nat.lt_of_lt_of_le hb HIC.out.below.size
                rw [hgr'.block b (by rw [World.size_alloc]; omega) (fun e => by have := HOF.out b e.symm; omega), Below.heap_alloc _ _ _ (by omega), HG5.out.block b hbc (by intro e; injection e with e; omega)]
                exact HIC.out.below.block b hb
            have hm6 : MapKw w6 w.heap.size (S ++ [(Kw.mk (kA A' L[k].l[j].kids.length) L[k].l[j].kids.length)]) := HM5.out.keep ((hgr'.block _ (by rw [World.size_alloc]; omega) (fun e => by have := HOF.out _ e.symm; omega)).trans (Below.heap_alloc _ _ _ (by omega)))
            have HI2 := Lib.hid (HIC.out.push (x := (LvE.mk A' L[k].l[j].kids cap' d' (fun b => Q j b ∧ ∀ a, A' = some a → b ≠ a.block))) (Z' := fun b => (∃ i, ∃ h : i < L.length, k < i ∧ L[i].P b) ∨ ∃ j', j + 1 ≤ j' ∧ j' < L[k].l.length ∧ Q j' b) (fun b hb => by
              rcases hb with hb | ⟨j', h1, h2, h3⟩
              · exact .inl hb
              · exact .inr ⟨j', by omega, h2, h3⟩) HE.out.1 (fun b hb => by
              have hb := HE.out.2 b hb
              have hbP := (HQ.out j b hlj hb)
              refine ⟨.inr ⟨j, Nat.le_refl _, hlj, hb⟩, fun hz => ?_, L[k], List.getElem_mem hlt, hbP.1⟩
              rcases hz with ⟨i, hi, h1, h2⟩ | ⟨j', h1, h2, h3⟩
              · exact List.pairwise_iff_getElem.1 HAP.out k i hlt hi h1 b hbP.1 h2
              · exact hbP.2 j' h2 (by omega) h3) HKA.out (by have := HOW.out.1; omega) HXS.out hown' hm6 hB6)
            clear hown' hgr' hnn' hat' hB6 hm6
            go_roundw
            case rel => exact ⟨j + 1, by omega, by go_num, _, _, by rw [HNL.out, ← List.append_assoc]; exact HI2⟩
            case measure => simp [intOf]; omega
        · have HI2 := Lib.hid (HI.out.next (Z' := fun b => ∃ j, ∃ h : j < L.length, k + 1 ≤ j ∧ L[j].P b) (fun b hb => by
            obtain ⟨i, hi, h1, h2⟩ := hb
            exact .inl ⟨i, hi, by omega, h2⟩) (show nbs ((L.take (k + 1)).map (fun x => x.l)) = (nbs ((L.take k).map (fun x => x.l))) ++ nb (L[k].l.take j) by
            rw [← List.take_append_getElem hlt, List.map_append, nbs_app, show j = L[k].l.length by omega, List.take_length]
            show _ ++ (nb L[k].l ++ []) = _
            rw [List.append_nil]) (Below.refl _ wq) (by
            obtain ⟨es, cl, hmp, _⟩ := HI.out.map
            exact heap_lt hmp))
          go_wp2_with fail
          go_roundw
          case rel => exact ⟨k + 1, by omega, by go_num, B, S, HI2⟩
          case measure => simp [intOf]; omega
    · have HI2 := Lib.hid (HI0.out.next (Z' := fun _ => False) (fun b hb => hb.elim) (show nbs (L.map (fun x => x.l)) = (nbs ((L.take k).map (fun x => x.l))) by rw [List.take_of_length_le (by omega)]) (Below.refl _ wr) (by
        obtain ⟨es, cl, hmp, _⟩ := HI0.out.map
        exact heap_lt hmp))
      go_wp2_with fail
      go_ret
      exact ⟨_, B0, S0, rfl, HI2.out⟩
end Go.Proofs.Ytchgeogdiedloaa
/-
  What the walk of CompareValues of the program needs. No statement is proved here.
-/
namespace Go.Proofs.Ytchgeogdiedloaa
open Go.RowKit Go.Sort Go.Deep
set_option maxRecDepth 100000
set_option linter.unusedVariables false
theorem SfV.single {d m : Nat} {w : World} {P : Nat → Prop} {D : Option Addr} {c L : Nat} {p : Vl} (h : OVc d w P D p.kids) (hc : p.kids.length ≤ c ∧ c ≤ maxLen) (hL : w.heap[L]? = some (.cells #[.int .i64 p.ctor, .int .i64 p.n, .slice D p.kids.length c] 29 (0, 0))) (hP : ∀ b, P b → b < w.heap.size ∧ b ≠ m) (hm : L ≠ m) : SfV d w m P (some ⟨L, 0, none⟩) [p] := by
  refine ⟨by unfold maxLen; simp, hP, fun _ => ⟨L, 0, fun _ => P, rfl, heap_lt hL, hm, fun k b hk hb => ⟨hb, fun j hj hjk => ?_⟩, fun k hk => ?_⟩⟩
  · simp at hk hj; omega
  · have : k = 0 := by simp at hk; omega
    subst this
    exact ⟨D, c, (cell_of_blk hL _).trans rfl, (cell_of_blk hL _).trans rfl, (cell_of_blk hL _).trans rfl, hc, h⟩
theorem heap_newV (w : World) (o : Obj) : (w.alloc o).heap[w.heap.size]? = some o := by show (w.heap.push o)[w.heap.size]? = _; simp
theorem SfV.at_ {d m : Nat} {w : World} {P : Nat → Prop} {A A3 : Option Addr} {l : List Vl} (h : SfV d w m P A l) (hA : A3 = A ∨ l = []) : SfV d w m P A3 l := by
  rcases hA with rfl | rfl
  · exact h
  · exact SfV.empty _ h.2.1
end Go.Proofs.Ytchgeogdiedloaa
/-
  DepthOf of the program. No statement is proved here.
-/
namespace Go.Proofs.Ytchgeogdiedloaa
open Go.RowKit Go.Sort Go.Deep
set_option maxRecDepth 100000
set_option linter.unusedVariables false
set_option maxHeartbeats 16000000 in
theorem dp_impl (D : Option Addr) (v : Vl) (cp d : Nat) (PP : Nat → Prop) (w : World) (hp : OVc d w PP D v.kids) (hPP : ∀ b, PP b → b < w.heap.size) (hcp : v.kids.length ≤ cp ∧ cp ≤ maxLen) (hN : wV v ≤ 1048576) :
    Calls Try.prog 11 #[.agg #[.int .i64 v.ctor, .int .i64 v.n, .slice D v.kids.length cp]] w fun e w' => e = .returned (.int .i64 (dV v)) ∧ Below w.heap.size w w' := by
  generalize hwx : (((w.alloc (.cells #[.int .i64 v.ctor, .int .i64 v.n, .slice D v.kids.length cp] 29)).alloc (.map #[] 0)).alloc (.cells #[.int .i64 v.ctor, .int .i64 v.n, .slice D v.kids.length cp] 29)).alloc (.cells #[.slice (some ⟨w.heap.size + 2, 0, none⟩) 1 1] 27) = wS
  have hbS : Below w.heap.size w wS := by rw [← hwx]; exact ((((Below.refl _ _).alloc (Nat.le_refl _) _).alloc (by simp) _).alloc (by simp; omega) _).alloc (by simp; omega) _
  have HSZ : Hid (wS.heap.size = w.heap.size + 4) := by unfold Hid; rw [← hwx]; simp
  have HMK : MapKw wS (w.heap.size + 1) [] := by
    rw [← hwx]
    refine MapKw.keep (w := (w.alloc (.cells #[.int .i64 v.ctor, .int .i64 v.n, .slice D v.kids.length cp] 29)).alloc (.map #[] 0)) ?_ (by rw [Below.heap_alloc _ _ _ (by simp), Below.heap_alloc _ _ _ (by simp)])
    have := MapKw.made (w.alloc (.cells #[.int .i64 v.ctor, .int .i64 v.n, .slice D v.kids.length cp] 29))
    simpa using this
  have HL1 : wS.heap[w.heap.size + 2]? = some (.cells #[.int .i64 v.ctor, .int .i64 v.n, .slice D v.kids.length cp] 29 (0, 0)) := by rw [← hwx]; exact (Below.heap_alloc _ _ _ (by simp)).trans (by have h := heap_newV ((w.alloc (.cells #[.int .i64 v.ctor, .int .i64 v.n, .slice D v.kids.length cp] 29)).alloc (.map #[] 0)) (.cells #[.int .i64 v.ctor, .int .i64 v.n, .slice D v.kids.length cp] 29); rw [show ((w.alloc (.cells #[.int .i64 v.ctor, .int .i64 v.n, .slice D v.kids.length cp] 29)).alloc (.map #[] 0)).heap.size = w.heap.size + 2 by simp] at h; exact h)
  have HL2 : wS.cell? ⟨w.heap.size + 3, 0, none⟩ = some (.slice (some ⟨w.heap.size + 2, 0, none⟩) 1 1) := by
    have h := heap_newV (((w.alloc (.cells #[.int .i64 v.ctor, .int .i64 v.n, .slice D v.kids.length cp] 29)).alloc (.map #[] 0)).alloc (.cells #[.int .i64 v.ctor, .int .i64 v.n, .slice D v.kids.length cp] 29)) (.cells #[.slice (some ⟨w.heap.size + 2, 0, none⟩) 1 1] 27)
    rw [show (((w.alloc (.cells #[.int .i64 v.ctor, .int .i64 v.n, .slice D v.kids.length cp] 29)).alloc (.map #[] 0)).alloc (.cells #[.int .i64 v.ctor, .int .i64 v.n, .slice D v.kids.length cp] 29)).heap.size = w.heap.size + 3 by simp, hwx] at h
    exact (cell_of_blk h 0).trans rfl
  have HWS := Lib.hid hwx
  clear hwx
  have hpS := hp.fr _ (Fr.below (P := fun _ => False) hbS) (fun _ _ h => h)
  have HI0 : Hid (DpI v (w.heap.size + 1) wS (.slice (some ⟨w.heap.size + 3, 0, none⟩) 1 1) wS 1 [LvE.mk (some ⟨w.heap.size + 2, 0, none⟩) [v] 1 d PP] []) := by
    refine ⟨⟨_, _, rfl, fun _ => ⟨w.heap.size + 3, rfl, by rw [HSZ.out]; omega, fun j hj => ?_⟩⟩, fun x hx => ?_, List.pairwise_singleton _ _, fun _ _ k hk => (by cases hk), HMK, fun k hk => (by cases hk), Nat.le_refl _, ?_, ?_, by simp, Fr.refl _ _⟩
    · have : j = 0 := by simp at hj; omega
      subst this
      exact HL2
    · rw [List.mem_singleton.1 hx]
      exact ⟨SfV.single hpS hcp HL1 (fun b h => by have := hPP b h; have := HSZ.out; omega) (by omega), by simp⟩
    · show dV v + 1 = 1 + max (max (dV v) 0) 0
      omega
    · show 0 + (wVs [v] + 0) ≤ wV v + 1
      rw [wVs, wVs]; omega
  have HNN := Lib.hid hN
  have HBS := Lib.hid hbS
  clear hp hPP hcp hN hbS HMK HL1 HL2 hpS
  have hmm := @run_makeMap Try.prog
  go_enter Try.func11, Try.ntmps11
  go_wp2_with fail
  rw [HWS.out]
  clear hmm
  go_loopw [4, 5] (fun u i wr => ∃ j L S, i = .int .i64 (j : Nat) ∧ Hid (DpI v (w.heap.size + 1) wS u wr j L S)) (fun _ i _ => dV v + 1 - (intOf i).toNat)
  case atStart => exact ⟨1, _, _, rfl, HI0.out⟩
  case round =>
    obtain ⟨j, L, S, rfl, HI⟩ := hrel
    clear HI0
    have hlen := HI.out.map.len
    have hcnt : (j : Int) ≤ (S.length : Int) + 1 := by have := HI.out.cnt; omega
    have hnel : ¬ (L.map (fun x => x.l)) = [] := by simp; exact HI.out.ne
    have hdd := nbs_d _ hnel (fun l hl => by
      obtain ⟨x, hx, rfl⟩ := List.mem_map.1 hl; exact (HI.out.ok x hx).2)
    have HDD := Lib.hid hdd
    have hjd : j ≤ dV v := by have := HI.out.dep; omega
    have hjb : dV v ≤ 1048577 := by have := dV_le v; have := HNN.out; omega
    have hsb : S.length ≤ 1048577 := by have := HI.out.wgt; have := HNN.out; omega
    have HLB := Lib.hid (lb_any wr (w.heap.size + 1) L _ HI.out.row HI.out.ok HI.out.ap (by have := HI.out.wgt; have := HNN.out; omega))
    have hfs := HI.out.fr.size
    clear hnel hdd
    go_upto_region 6 with fail
    go_cut [4] (fun s4 wx => ∃ A1 c1 B S1, s4 = .slice A1 B.length c1 ∧ LbI wr (w.heap.size + 1) (fun b => ∃ x ∈ L, x.P b) wr.heap.size (wr.heap.size + 1) (fun _ => False) (nbs (L.map (fun x => x.l))) (.slice A1 B.length c1) wx B S1)
    case first =>
      go_wp2_with (go_at_call 19; refine HLB.out.mono ?_; rintro e1 w1 ⟨v1, B, S1, rfl, hI⟩)
      go_meet
      obtain ⟨A1, c1, rfl, _⟩ := hI.row
      exact ⟨A1, c1, B, S1, rfl, hI⟩
    obtain ⟨A1, c1, B, S1, rfl, hLI⟩ := hcut
    have HLI := Lib.hid hLI
    have hbw := hLI.below
    have hsw := hbw.size
    clear hLI HLB hlen
    by_cases hB : B = []
    · have HD : Hid (j = dV v) := by
        have h1 := HI.out.dep
        have h2 := HLI.out.lists
        have h3 := HDD.out
        rw [hB] at h2
        rw [← h2] at h3
        have h4 : dLs ([] : List (List Vl)) = 0 := rfl
        have h5 : dLs (List.map (fun y : LvE => y.l) []) = 0 := rfl
        unfold Hid; omega
      have hbl : B.length = 0 := by rw [hB]; rfl
      have u1 : ((B.length : Int) == 0) = true := ieq_t (by omega)
      have HFR := Lib.hid (HI.out.fr.trans (Fr.below hbw))
      clear hB hbl
      go_wp2_with fail
      go_ret
      exact ⟨ret_i64 (by have := HD.out; omega), HBS.out.trans (HFR.out.to (B := w.heap.size) (by have := HSZ.out; omega) (fun b hb e => by omega))⟩
    · have hbl : 0 < B.length := List.length_pos_iff.2 hB
      have u1 : ((B.length : Int) == 0) = false := ieq_f (by omega)
      have HBN := Lib.hid hB
      obtain ⟨A2, c2, hA2, hrw⟩ := HLI.out.row
      injection hA2 with h1 h2 h3
      subst h1 h3
      have hBb : B.length ≤ 1048577 := by
        have h1 := HLI.out.len
        have h2 := (nbs_w (L.map (fun x => x.l))).1
        have h3 := HI.out.wgt
        have h4 := HNN.out
        omega
      obtain ⟨g, rfl, hg, hcell⟩ := hrw hbl
      have HCELL := Lib.hid hcell
      have hgm : ¬ g = w.heap.size + 1 := by
        intro e
        obtain ⟨xs, ho, _⟩ := HLI.out.own
        obtain ⟨_, _, _, hof⟩ := own_form ho
        have := (hof g rfl).1
        have := HSZ.out; have := HI.out.fr.size; omega
      have HF1 : Hid (Fr (fun b => b = w.heap.size + 1) wr wc) := Fr.below hbw
      have hmr : w.heap.size + 1 < wr.heap.size := by have := HSZ.out; omega
      have HMC : Hid (MapKw wc (w.heap.size + 1) S) := HI.out.map.keep (hbw.block _ hmr)
      have hww : ∃ ww, ww = wc := ⟨_, rfl⟩
      obtain ⟨ww, rfl⟩ := hww
      have hwv : ∃ wv, wv = wr := ⟨_, rfl⟩
      obtain ⟨wv, rfl⟩ := hwv
      clear hB hrw hcell hbw
      go_wp2_with fail
      go_loopw [27] (fun i wq => ∃ k : Nat, k ≤ B.length ∧ i = .int .i64 k ∧ Hid (MapKw wq (w.heap.size + 1) (S ++ (B.take k).map LvE.key)) ∧ Hid (Fr (fun b => b = w.heap.size + 1) ww wq)) (fun i _ => B.length - (intOf i).toNat)
      case atStart => exact ⟨0, by omega, rfl, by rw [List.take_zero, List.map_nil, List.append_nil]; exact HMC, Fr.refl _ _⟩
      case round =>
        have hwq : ∃ wq, wq = wr := ⟨_, rfl⟩
        obtain ⟨wq, rfl⟩ := hwq
        obtain ⟨k, hk, rfl, HM, HF⟩ := hrel
        have hwq0 := HF.out.size
        by_cases hlt : k < B.length
        · obtain ⟨hsf, hne, hcap, ge, ce, hAe, hge, hgem, hnpe, hhe⟩ := HLI.out.ok B[k] (List.getElem_mem hlt)
          have c0 := (HF.out.cellV (a := ⟨g, k, none⟩) hg hgm).trans (HCELL.out k hlt)
          rw [hAe] at c0
          have hgq : g < wq.heap.size := by omega
          have hkI : (k : Int) < (B.length : Int) := by omega
          have HKO : Hid (∀ W', Calls Try.prog 17 #[.slice (some ⟨ge, 0, none⟩) B[k].l.length B[k].cap] W' fun e w' => e = .returned (.agg #[.pointer (some ⟨ge, 0, none⟩), .int .i64 B[k].l.length]) ∧ Below W'.heap.size W' w') := fun W' => keyOfV_any ge _ _ W' hsf.1 (List.length_pos_iff.2 hne)
          have HKE : Hid (B[k].key = (Kw.mk (some ⟨ge, 0, none⟩) B[k].l.length)) := by unfold Hid LvE.key; rw [hAe]
          have hnew : ¬ (Kw.mk (some ⟨ge, 0, none⟩) B[k].l.length) ∈ S ++ (B.take k).map LvE.key := by
            rw [← HKE.out]
            exact DpI.keys HLI.out (fun k' hk' a ha hx => by obtain ⟨x, hx, hxp⟩ := hx; exact HI.out.met x hx k' hk' a ha hxp) hlt
          have HNW := Lib.hid hnew
          have HFF : Hid (Fr (fun b => b = w.heap.size + 1) wv wq) := HF1.out.trans HF.out
          have HLK : Hid (∀ k' ∈ S ++ B.map LvE.key, LyV wq (w.heap.size + 1) k'.a) := fun k' hk' => by
            rcases List.mem_append.1 hk' with hk' | hk'
            · exact (HI.out.lies k' hk').fr HFF.out
            · obtain ⟨y, hy, rfl⟩ := List.mem_map.1 hk'
              obtain ⟨_, _, _, g2, c2, e2, hg2, hgm2, _, hh2⟩ := HLI.out.ok y hy
              refine LyV.fr (fun x hx => ?_) HFF.out
              have hx : y.A = some x := hx
              rw [e2] at hx
              cases hx
              exact ⟨hg2, hgm2, c2, _, hh2⟩
          have hmq : w.heap.size + 1 < wq.heap.size := by have := HSZ.out; have := HFF.out.size; omega
          have HTK : Hid (S ++ (B.take (k + 1)).map LvE.key = S ++ (B.take k).map LvE.key ++ [(Kw.mk (some ⟨ge, 0, none⟩) B[k].l.length)]) := by
            unfold Hid
            rw [← List.take_append_getElem hlt, List.map_append, ← List.append_assoc, ← HKE.out]
            rfl
          clear hsf hne hcap hnpe hhe hnew
          go_wp2_with (first
            | (at_mapUpdate; (with_reducible refine wp_mapUpdate_kw rfl _ _ _ rfl (w.heap.size + 1) (S ++ (B.take k).map LvE.key) (Kw.mk (some ⟨ge, 0, none⟩) B[k].l.length) rfl HM2.out HL2.out HA2.out HNW.out rfl rfl ?_); intro w5 hm5 hg5; have HM5 := Lib.hid hm5; have HG5 := Lib.hid hg5; clear hm5 hg5)
            | (go_at_call 17; refine (HKO.out _).mono ?_; rintro e2 w2 ⟨rfl, hb2⟩;
                have HB2 := Lib.hid hb2;
                have HM2 : Hid (MapKw w2 (w.heap.size + 1) (S ++ (B.take k).map LvE.key)) := HM.out.keep (hb2.block _ hmq);
                have HL2 : Hid (LiesKw w2 (Kw.mk (some ⟨ge, 0, none⟩) B[k].l.length)) := (show LyV w2 (w.heap.size + 1) (some ⟨ge, 0, none⟩) from (show LyV wq (w.heap.size + 1) (some ⟨ge, 0, none⟩) by { have h := HLK.out B[k].key (List.mem_append.2 (.inr (List.mem_map.2 ⟨_, List.getElem_mem hlt, rfl⟩))); rw [HKE.out] at h; exact h }).fr (Fr.below hb2)).now;
                have HA2 : Hid (∀ k' ∈ S ++ (B.take k).map LvE.key, LiesKw w2 k') := (fun k' hk' => ((HLK.out k' (by { rcases List.mem_append.1 hk' with h | h; { exact List.mem_append.2 (.inl h) }; { obtain ⟨y, hy, e⟩ := List.mem_map.1 h; exact List.mem_append.2 (.inr (List.mem_map.2 ⟨y, List.mem_of_mem_take hy, e⟩)) } })).fr (Fr.below hb2)).now);
                clear hb2))
          have HF6 : Hid (Fr (fun b => b = w.heap.size + 1) ww w5) := (HF.out.trans (Fr.below HB2.out)).trans (Fr.grown HG5.out (fun b e => by injection e))
          go_roundw
          case rel => exact ⟨k + 1, by omega, by go_num, by rw [HTK.out]; exact HM5, HF6⟩
          case measure => simp [intOf]; omega
        · have hke : k = B.length := by omega
          have HI2 := Lib.hid (HI.out.step HLI.out HBN.out (HF1.out.trans HF.out) ⟨_, _, rfl, fun _ => ⟨g, rfl, by omega, fun j hj => (HF.out.cellV (a := ⟨g, j, none⟩) hg hgm).trans (HCELL.out j hj)⟩⟩ (by have h := HM.out; rw [hke, List.take_length] at h; exact h))
          clear hke
          go_wp2_with fail
          go_roundw
          case rel => exact ⟨j + 1, B, _, by go_num, HI2⟩
          case measure => simp [intOf]; omega
end Go.Proofs.Ytchgeogdiedloaa
/-
  DepthOf of the document. No statement is proved here.
-/
namespace Go.Proofs.Ytchgeogdiedloaa
open Go.RowKit Go.Sort Go.Deep
set_option maxRecDepth 100000
set_option linter.unusedVariables false
theorem dVs_app (a b : List Vl) : dVs (a ++ b) = max (dVs a) (dVs b) := by
  induction a with
  | nil => rw [List.nil_append, dVs]; omega
  | cons x a ih => rw [List.cons_append, dVs, dVs, ih]; omega
theorem dVs_take (l : List Vl) (k : Nat) (h : k < l.length) : dVs (l.take (k + 1)) = max (dVs (l.take k)) (dV l[k]) := by
  rw [← List.take_append_getElem h, dVs_app, dVs, dVs]; omega
def DpD (d : Nat) : Prop := ∀ (A : Option Addr) (v : Vl) (cap : Nat) (w : World), RVs d w w.heap.size A v.kids → wV v ≤ 1048576 → Calls Try.prog 10 #[.agg #[.int .i64 v.ctor, .int .i64 v.n, .slice A v.kids.length cap]] w fun e w' => e = .returned (.int .i64 (dV v)) ∧ Below w.heap.size w w'
set_option maxHeartbeats 6400000 in
theorem dps_of (d : Nat) (ih : ∀ d', d = d' + 1 → DpD d') : DpD d := by
  intro A v cap w hr hw
  have Hr := Lib.hid hr
  have hn := hr.1
  unfold maxLen at hn
  have IH := Lib.hid ih
  have HWV := Lib.hid hw
  clear hr ih hw
  generalize hw0 : w.alloc (.cells #[.int .i64 v.ctor, .int .i64 v.n, .slice A v.kids.length cap] 29) = w0
  have hb0 : Below w.heap.size w w0 := by rw [← hw0]; exact (Below.refl _ _).alloc (Nat.le_refl _) _
  have HXP : Hid (VBx w0 w.heap.size v.ctor v.n (.slice A v.kids.length cap)) := by rw [← hw0]; exact ⟨by simp [go_sem], by simp [go_sem], by simp [go_sem]⟩
  have HW := Lib.hid hw0
  clear hw0
  go_enter Try.func10, Try.ntmps10
  go_wp2_with fail
  (try rw [HW.out])
  go_loopw [3, 4] (fun mo i wr => ∃ k : Nat, k ≤ v.kids.length ∧ i = .int .i64 k ∧ mo = .int .i64 (dVs (v.kids.take k) : Nat) ∧ Below w0.heap.size w0 wr) (fun _ i _ => v.kids.length - (intOf i).toNat)
  case atStart => exact ⟨0, by omega, rfl, rfl, Below.refl _ _⟩
  case round =>
    obtain ⟨k, hk, rfl, rfl, hbr⟩ := hrel
    have hb := below_aft hb0 hbr hb0.size
    obtain ⟨_, _, z2⟩ := HXP.out.at_ hbr
    by_cases hlt : k < v.kids.length
    · obtain ⟨b, off, rfl, hbB, hv⟩ := (Hr.out.below hb (Nat.le_refl _)).2 k hlt
      obtain ⟨d', hd, B1, cp, c0, c1, c2, hm⟩ := hv.parts
      have ha : wV v.kids[k] ≤ 1048576 := by
        have h1 := sum_take_succ wV v.kids k hlt
        have h2 := sum_take_le wV v.kids (k + 1)
        have h3 := wV_kids v
        have h4 := wVs_sum v.kids
        have h5 := HWV.out
        omega
      have HD := Lib.hid (IH.out d' hd B1 v.kids[k] cp wr (hm.keep (fun _ _ => rfl) hb.size) ha)
      have HT := Lib.hid (dVs_take v.kids k hlt)
      have hi : (k : Int) < (v.kids.length : Int) := by omega
      clear hm hv hd
      by_cases hgt : dVs (v.kids.take k) < dV v.kids[k]
      · have q1 : (dVs (v.kids.take k) : Int) < (dV v.kids[k] : Int) := by omega
        have HE : Hid (dV v.kids[k] = dVs (v.kids.take (k + 1))) := by unfold Hid; rw [HT.out]; omega
        clear hgt
        go_wp2_with (go_at_call 10; refine HD.out.mono ?_; rintro e1 w1 ⟨rfl, hb1⟩)
        go_roundw
        case rel => exact ⟨k + 1, by omega, by go_num, by rw [HE.out], below_aft hbr hb1 hbr.size⟩
        case measure => simp [intOf]; omega
      · have q1 : ¬ (dVs (v.kids.take k) : Int) < (dV v.kids[k] : Int) := by omega
        have HE : Hid (dVs (v.kids.take k) = dVs (v.kids.take (k + 1))) := by unfold Hid; rw [HT.out]; omega
        clear hgt
        go_wp2_with (go_at_call 10; refine HD.out.mono ?_; rintro e1 w1 ⟨rfl, hb1⟩)
        go_roundw
        case rel => exact ⟨k + 1, by omega, by go_num, by rw [← HE.out], below_aft hbr hb1 hbr.size⟩
        case measure => simp [intOf]; omega
    · have he : k = v.kids.length := by omega
      have HE : Hid (dV v = dVs (v.kids.take k) + 1) := by unfold Hid; rw [he, List.take_length, dV_kids]; omega
      have hbd : dVs (v.kids.take k) ≤ 1048577 := by have := dV_le v; have := HWV.out; have := HE.out; omega
      clear he
      go_wp2_with fail
      go_ret
      exact ⟨ret_i64 (by have := HE.out; omega), hb⟩
theorem dps_any : ∀ d, DpD d
  | 0 => dps_of 0 (fun _ h => by omega)
  | d + 1 => dps_of (d + 1) (fun d' h => (Nat.succ.inj h) ▸ dps_any d)
end Go.Proofs.Ytchgeogdiedloaa
/-
  The functions that count how much values hold. No statement is proved here.
-/
namespace Go.Proofs.Ytchgeogdiedloaa
open Go.RowKit
set_option maxRecDepth 100000
set_option linter.unusedVariables false
def SzS (d : Nat) : Prop := ∀ (A : Option Addr) (l : List Vl) (cap : Nat) (q : Int) (w : World), RVs d w w.heap.size A l → 0 ≤ q → q ≤ 1048576 →
  Calls Try.prog 12 #[.slice A l.length cap, .int .i64 q] w fun e w' => e = .returned (.int .i64 (left q (wVs l))) ∧ Below w.heap.size w w'
theorem szV_of {d : Nat} (ih : SzS d) (A : Option Addr) (l : List Vl) (cap : Nat) (c n q : Int) (w : World) (hr : RVs d w w.heap.size A l) (h0 : 0 ≤ q) (h1 : q ≤ 1048576) :
    Calls Try.prog 5 #[.agg #[.int .i64 c, .int .i64 n, .slice A l.length cap], .int .i64 q] w fun e w' => e = .returned (.int .i64 (left q (wVs l))) ∧ Below w.heap.size w w' := by
  have Hr := Lib.hid hr
  have IH := Lib.hid ih
  clear hr ih
  by_cases hc2 : (wVs l : Int) ≤ q
  · have H2 := Lib.hid (left_ok hc2)
    go_enter Try.func5, Try.ntmps5
    go_wp2_with (go_at_call 12; refine (IH.out _ _ _ _ _ (by exact Hr.out.keep (fun p hp => World.cell?_alloc_lt _ _ _ hp) (by simp)) h0 h1).mono ?_; rw [H2.out]; rintro e w' ⟨rfl, hb⟩)
    go_ret
    exact ⟨ret_i64 (by rw [H2.out]), ((Below.refl _ _).alloc (Nat.le_refl _) _).trans (hb.mono (by simp))⟩
  · have H2 := Lib.hid (left_no hc2)
    go_enter Try.func5, Try.ntmps5
    go_wp2_with (go_at_call 12; refine (IH.out _ _ _ _ _ (by exact Hr.out.keep (fun p hp => World.cell?_alloc_lt _ _ _ hp) (by simp)) h0 h1).mono ?_; rw [H2.out]; rintro e w' ⟨rfl, hb⟩)
    go_ret
    exact ⟨ret_i64 (by rw [H2.out]), ((Below.refl _ _).alloc (Nat.le_refl _) _).trans (hb.mono (by simp))⟩
set_option maxHeartbeats 400000 in
theorem szS_of (d : Nat) (ih : ∀ d', d = d' + 1 → SzS d') : SzS d := by
  intro A l cap q0 w hr h0 h1
  have hn := hr.1
  unfold maxLen at hn
  have Hr := Lib.hid hr
  have IH := Lib.hid ih
  have HSum := Lib.hid (wVs_sum l)
  clear hr ih
  by_cases hc : (l.length : Int) ≤ q0
  · go_enter Try.func12, Try.ntmps12
    go_wp2_with fail
    go_loopw [1, 5] (fun t i wr => ∃ k : Nat, k ≤ l.length ∧ i = .int .i64 k ∧ ∃ q : Int, 0 ≤ q ∧ q ≤ 1048576 ∧ t = .int .i64 q ∧ Hid (q = q0 - (l.length + ((l.take k).map wV).sum : Nat)) ∧ Below w.heap.size w wr) (fun _ i _ => l.length - (intOf i).toNat)
    case atStart => exact ⟨0, by omega, rfl, _, by omega, by omega, rfl, by unfold Hid; simp, Below.refl _ _⟩
    case round =>
      obtain ⟨k, hk, rfl, q, hq0, hq1, rfl, HQ, hb⟩ := hrel
      by_cases hlt : k < l.length
      · obtain ⟨b, off, rfl, hbB, hv⟩ := (Hr.out.below hb (Nat.le_refl _)).2 k hlt
        obtain ⟨d', hd, A', cp, c0, c1, c2, hm⟩ := hv.parts
        have HS := Lib.hid (sum_take_succ wV l k hlt)
        have HL := Lib.hid (sum_take_le wV l (k + 1))
        have HW := Lib.hid (wV_kids l[k])
        have Hm := Lib.hid (hm.keep (fun _ _ => rfl) hb.size)
        have IHd := Lib.hid (IH.out d' hd)
        clear hm hv hd
        by_cases hc2 : (wVs l[k].kids : Int) ≤ q
        · have H2 := Lib.hid (left_ok hc2)
          go_wp2_with (go_at_call 5; refine (szV_of IHd.out _ _ _ _ _ _ _ Hm.out (by omega) (by omega)).mono ?_; rw [H2.out]; rintro e w' ⟨rfl, hb'⟩)
          have hb2 := hb.trans (hb'.mono hb.size)
          go_roundw
          case rel => exact ⟨k + 1, by omega, by go_num, _, by omega, by omega, rfl, by unfold Hid; rw [HS.out, HW.out, HQ.out]; omega, hb2⟩
          case measure => simp [intOf]; omega
        · have H2 := Lib.hid (left_no hc2)
          have H := Lib.hid (left_no (l := q0) (n := wVs l) (by rw [HSum.out]; rw [HQ.out] at hc2; rw [HS.out, HW.out] at HL; have := HL.out; omega))
          go_wp2_with (go_at_call 5; refine (szV_of IHd.out _ _ _ _ _ _ _ Hm.out (by omega) (by omega)).mono ?_; rw [H2.out]; rintro e w' ⟨rfl, hb'⟩)
          have hb2 := hb.trans (hb'.mono hb.size)
          go_ret
          exact ⟨ret_i64 (by rw [H.out]), hb2⟩
      · go_wp2_with fail
        go_ret
        refine ⟨ret_i64 ?_, hb⟩
        have h2 := HQ.out
        rw [List.take_of_length_le (by omega), ← HSum.out] at h2
        rw [left_ok (by omega)]
        exact h2
  · have H := Lib.hid (left_no (l := q0) (n := wVs l) (by rw [HSum.out]; omega))
    go_enter Try.func12, Try.ntmps12
    go_wp2_with fail
    go_ret
    exact ⟨ret_i64 (by rw [H.out]), Below.refl _ _⟩
theorem szS_any : ∀ d, SzS d
  | 0 => szS_of 0 (fun _ h => by omega)
  | d + 1 => szS_of (d + 1) (fun d' h => (Nat.succ.inj h) ▸ szS_any d)
theorem szV_any (d : Nat) (A : Option Addr) (l : List Vl) (cap : Nat) (c n q : Int) (w : World) (hr : RVs d w w.heap.size A l) (h0 : 0 ≤ q) (h1 : q ≤ 1048576) :
    Calls Try.prog 5 #[.agg #[.int .i64 c, .int .i64 n, .slice A l.length cap], .int .i64 q] w fun e w' => e = .returned (.int .i64 (left q (wVs l))) ∧ Below w.heap.size w w' := szV_of (szS_any d) A l cap c n q w hr h0 h1
end Go.Proofs.Ytchgeogdiedloaa
