/-
  Levels of lists of values, as DepthOf of the program walks through them. No statement is proved here.
-/
import Derived.Test.YteoopmogklpnoaaU44
import Derived.Test.YteoopmogklpnoaaU45
import Derived.Test.YteoopmogklpnoaaU42
namespace Go.Proofs.Yteoopmogklpnoaa
open Go.RowKit Go.Sort Go.Deep
set_option maxRecDepth 100000
set_option linter.unusedVariables false
mutual
/-- The depth of a value. -/
def dV : Vl → Nat | .mk _ _ ks => 1 + dVs ks
def dVs : List Vl → Nat | [] => 0 | v :: vs => max (dV v) (dVs vs)
end
theorem dV_kids (v : Vl) : dV v = 1 + dVs v.kids := by cases v; rw [dV]; rfl
mutual
theorem dV_le : ∀ v : Vl, dV v ≤ wV v + 1
  | .mk _ _ ks => by rw [dV, wV]; have := dVs_le ks; omega
theorem dVs_le : ∀ l : List Vl, dVs l ≤ wVs l
  | [] => Nat.le_refl _
  | v :: vs => by rw [dVs, wVs]; have := dV_le v; have := dVs_le vs; omega
end
def dLs : List (List Vl) → Nat | [] => 0 | l :: ls => max (dVs l) (dLs ls)
theorem dLs_app (a b : List (List Vl)) : dLs (a ++ b) = max (dLs a) (dLs b) := by
  induction a with
  | nil => rw [List.nil_append, dLs]; omega
  | cons x a ih => rw [List.cons_append, dLs, dLs, ih]; omega
/-- The lists of parts of the elements, without the empty ones. -/
def nb : List Vl → List (List Vl) | [] => [] | v :: vs => (if v.kids = [] then [] else [v.kids]) ++ nb vs
theorem nb_d : ∀ l : List Vl, ¬ l = [] → dVs l = 1 + dLs (nb l)
  | [], h => absurd rfl h
  | [v], _ => by
    rw [dVs, dVs, nb, nb, List.append_nil, dV_kids]
    by_cases e : v.kids = []
    · rw [if_pos e, e, dVs, dLs]; rfl
    · rw [if_neg e, dLs, dLs]; omega
  | v :: v2 :: vs, _ => by
    have ih := nb_d (v2 :: vs) (by simp)
    rw [dVs, ih, show nb (v :: v2 :: vs) = (if v.kids = [] then [] else [v.kids]) ++ nb (v2 :: vs) from rfl, dLs_app, dV_kids]
    by_cases e : v.kids = []
    · rw [if_pos e, e, dVs, dLs]; omega
    · rw [if_neg e, dLs, dLs]; omega
def nbs : List (List Vl) → List (List Vl) | [] => [] | l :: ls => nb l ++ nbs ls
theorem nbs_app (a b : List (List Vl)) : nbs (a ++ b) = nbs a ++ nbs b := by
  induction a with
  | nil => rfl
  | cons x a ih => rw [List.cons_append, nbs, nbs, ih, List.append_assoc]
theorem nb_app (a b : List Vl) : nb (a ++ b) = nb a ++ nb b := by
  induction a with
  | nil => rfl
  | cons x a ih => rw [List.cons_append, nb, nb, ih, List.append_assoc]
theorem nbs_d : ∀ ls : List (List Vl), ¬ ls = [] → (∀ l ∈ ls, ¬ l = []) → dLs ls = 1 + dLs (nbs ls)
  | [], h, _ => absurd rfl h
  | [l], _, h => by rw [dLs, dLs, nbs, nbs, List.append_nil, nb_d l (h l (List.mem_singleton.2 rfl))]; omega
  | l :: l2 :: ls, _, h => by
    have ih := nbs_d (l2 :: ls) (by simp) (fun x hx => h x (List.mem_cons_of_mem _ hx))
    rw [dLs, ih, show nbs (l :: l2 :: ls) = nb l ++ nbs (l2 :: ls) from rfl, dLs_app, nb_d l (h l (List.mem_cons_self ..))]; omega
def wLs : List (List Vl) → Nat | [] => 0 | l :: ls => wVs l + wLs ls
theorem wLs_app (a b : List (List Vl)) : wLs (a ++ b) = wLs a + wLs b := by
  induction a with
  | nil => rw [List.nil_append, wLs]; omega
  | cons x a ih => rw [List.cons_append, wLs, wLs, ih]; omega
theorem nb_w : ∀ l : List Vl, (nb l).length ≤ l.length ∧ wLs (nb l) + l.length ≤ wVs l
  | [] => ⟨Nat.le_refl _, by rw [nb, wLs, wVs]; simp⟩
  | v :: vs => by
    obtain ⟨h1, h2⟩ := nb_w vs
    rw [nb, wLs_app, wVs, wV_kids, List.length_append, List.length_cons]
    by_cases e : v.kids = []
    · rw [if_pos e, wLs]; simp; omega
    · rw [if_neg e, wLs, wLs]; simp; omega
theorem nbs_w : ∀ ls : List (List Vl), (nbs ls).length ≤ wLs ls ∧ (nbs ls).length + wLs (nbs ls) ≤ wLs ls
  | [] => ⟨Nat.le_refl _, Nat.le_refl _⟩
  | l :: ls => by
    obtain ⟨h1, h2⟩ := nbs_w ls
    obtain ⟨h3, h4⟩ := nb_w l
    rw [nbs, wLs_app, wLs, List.length_append]
    omega
structure LvE where
  A : Option Addr
  l : List Vl
  cap : Nat
  d : Nat
  P : Nat → Prop
def LvE.FP (x : LvE) (b : Nat) : Prop := x.P b ∨ x.A = some ⟨b, 0, none⟩
def LvE.ok (w : World) (m : Nat) (x : LvE) : Prop := SfV x.d w m x.P x.A x.l ∧ ¬ x.l = [] ∧ (x.l.length ≤ x.cap ∧ x.cap ≤ maxLen) ∧ ∃ g c, x.A = some ⟨g, 0, none⟩ ∧ g < w.heap.size ∧ g ≠ m ∧ ¬ x.P g ∧ w.heap[g]? = some (.cells c 28 (0, 0))
theorem LvE.of {d m : Nat} {w : World} {Q : Nat → Prop} {A : Option Addr} {l : List Vl} {cap : Nat} (h : OVc (d + 1) w Q A l) (hm : ∀ b, Q b → b < w.heap.size ∧ b ≠ m) (hl : ¬ l = []) (hc : l.length ≤ cap ∧ cap ≤ maxLen) : LvE.ok w m ⟨A, l, cap, d, fun b => Q b ∧ ∀ a, A = some a → b ≠ a.block⟩ ∧ ∀ b, LvE.FP ⟨A, l, cap, d, fun b => Q b ∧ ∀ a, A = some a → b ≠ a.block⟩ b → Q b := by
  obtain ⟨g, rfl, hg, c, hh⟩ := h.addr (List.length_pos_iff.2 hl)
  refine ⟨⟨h.sf hm, hl, hc, g, c, rfl, (hm g hg).1, (hm g hg).2, fun h => h.2 _ rfl rfl, hh⟩, fun b hb => ?_⟩
  rcases hb with hb | hb
  · exact hb.1
  · cases hb; exact hg
/-- What listsBelow has made so far; blocks of Z are still to come. -/
structure LbI (w : World) (m : Nat) (F : Nat → Prop) (mb lo : Nat) (Z : Nat → Prop) (R : List (List Vl)) (u : Value) (wr : World) (B : List LvE) (S : List Kw) : Prop where
  own : ∃ xs, wr.ownsRow lo 26 1 u B.length xs ∧ ∀ j (h : j < B.length), xs[j]? = some (.slice B[j].A B[j].l.length B[j].cap)
  map : MapKw wr mb S
  keys : ∀ k ∈ S, ∃ y ∈ B, k.a = y.A
  ok : ∀ y ∈ B, y.ok w m
  away : ∀ y ∈ B, ∀ b, y.FP b → ¬ Z b
  from_ : ∀ y ∈ B, ∀ b, y.FP b → F b
  apart : B.Pairwise (fun x y => ∀ b, x.FP b → ¬ y.FP b)
  lists : B.map (fun y => y.l) = R
  below : Below w.heap.size w wr
theorem LbI.len {w : World} {m mb lo : Nat} {F Z : Nat → Prop} {R : List (List Vl)} {u : Value} {wr : World} {B : List LvE} {S : List Kw} (h : LbI w m F mb lo Z R u wr B S) : B.length = R.length := by rw [← h.lists, List.length_map]
theorem LbI.next {w : World} {m mb lo : Nat} {F Z Z' : Nat → Prop} {R R' : List (List Vl)} {u : Value} {wr wx : World} {B : List LvE} {S : List Kw} (h : LbI w m F mb lo Z R u wr B S) (hZ : ∀ b, Z' b → Z b) (hR : R' = R) (hb : Below wr.heap.size wr wx) (hmb : mb < wr.heap.size) : LbI w m F mb lo Z' R' u wx B S := by
  obtain ⟨xs, ho, hx⟩ := h.own
  refine ⟨⟨xs, own_below ho hb, hx⟩, h.map.keep (hb.block _ hmb), h.keys, h.ok, fun y hy b hb' hz => h.away y hy b hb' (hZ b hz), h.from_, h.apart, hR ▸ h.lists, h.below.trans (hb.mono h.below.size)⟩
theorem LbI.lies {w : World} {m mb lo : Nat} {F Z : Nat → Prop} {R : List (List Vl)} {u : Value} {wr : World} {B : List LvE} {S : List Kw} (h : LbI w m F mb lo Z R u wr B S) : ∀ k ∈ S, LiesKw wr k := fun k hk x hx => by
  obtain ⟨y, hy, e⟩ := h.keys k hk
  obtain ⟨_, _, _, g, c, e2, hg, _, _, hh⟩ := h.ok y hy
  rw [hx, e2] at e
  cases e
  exact ⟨c, _, (h.below.block g hg).trans hh⟩
theorem LbI.new {w : World} {m mb lo : Nat} {F Z : Nat → Prop} {R : List (List Vl)} {u : Value} {wr : World} {B : List LvE} {S : List Kw} (h : LbI w m F mb lo Z R u wr B S) {g n : Nat} (hz : Z g) : ¬ (⟨some ⟨g, 0, none⟩, n⟩ : Kw) ∈ S := fun hk => by
  obtain ⟨y, hy, e⟩ := h.keys _ hk
  exact h.away y hy g (.inr e.symm) hz
/-- One list more. -/
theorem LbI.push {w : World} {m mb lo : Nat} {F Z Z' : Nat → Prop} {R : List (List Vl)} {u v' : Value} {wr w' : World} {B : List LvE} {S : List Kw} {x : LvE} {k : Kw} {xs : List Value} (h : LbI w m F mb lo Z R u wr B S) (hZ : ∀ b, Z' b → Z b) (hx0 : x.ok w m) (hxZ : ∀ b, x.FP b → Z b ∧ ¬ Z' b ∧ F b) (hk : k.a = x.A)
    (hl : xs.length = B.length) (hx : ∀ j (h : j < B.length), xs[j]? = some (.slice B[j].A B[j].l.length B[j].cap)) (ho : w'.ownsRow lo 26 1 v' (B.length + 1) (xs ++ [.slice x.A x.l.length x.cap])) (hm : MapKw w' mb (S ++ [k])) (hb : Below w.heap.size w w') : LbI w m F mb lo Z' (R ++ [x.l]) v' w' (B ++ [x]) (S ++ [k]) := by
  refine ⟨⟨_, by simpa using ho, fun j hj => ?_⟩, hm, fun k' hk' => ?_, fun y hy => ?_, fun y hy b hb' hz => ?_, fun y hy b hb' => ?_, ?_, ?_, hb⟩
  · have hj' : j < B.length + 1 := by simpa using hj
    by_cases e : j < B.length
    · rw [List.getElem_append_left e, List.getElem?_append_left (by omega)]; exact hx j e
    · have e' : j = B.length := by omega
      subst e'
      rw [List.getElem_append_right (Nat.le_refl _)]
      simp only [Nat.sub_self, List.getElem_cons_zero]
      rw [List.getElem?_append_right (by omega), hl, Nat.sub_self]; rfl
  · rcases mem_last hk' with hk' | rfl
    · obtain ⟨y, hy, e⟩ := h.keys k' hk'; exact ⟨y, in_front hy, e⟩
    · exact ⟨x, in_last, hk⟩
  · rcases mem_last hy with hy | rfl
    · exact h.ok y hy
    · exact hx0
  · rcases mem_last hy with hy | rfl
    · exact h.away y hy b hb' (hZ b hz)
    · exact (hxZ b hb').2.1 hz
  · rcases mem_last hy with hy | rfl
    · exact h.from_ y hy b hb'
    · exact (hxZ b hb').2.2
  · exact List.pairwise_append.2 ⟨h.apart, List.pairwise_singleton _ _, fun y hy z hz b hb' hzb => by rw [List.mem_singleton.1 hz] at hzb; exact h.away y hy b hb' (hxZ b hzb).1⟩
  · rw [List.map_append, h.lists]; rfl
theorem take_w (L : List LvE) (k : Nat) (h : k < L.length) : wLs ((L.take k).map (fun x => x.l)) + wVs L[k].l ≤ wLs (L.map (fun x => x.l)) := by
  have e : L = L.take k ++ L[k] :: L.drop (k + 1) := by rw [← List.drop_eq_getElem_cons h, List.take_append_drop]
  have e2 : wLs (L.map (fun x => x.l)) = wLs ((L.take k ++ L[k] :: L.drop (k + 1)).map (fun x => x.l)) := by rw [← e]
  rw [e2, List.map_append, wLs_app, List.map_cons, wLs]
  omega
theorem SfV.fr {d m : Nat} {w w' : World} {P : Nat → Prop} {A : Option Addr} {l : List Vl} (h : SfV d w m P A l) (hf : Fr (fun b => b = m) w w') : SfV d w' m P A l := by
  obtain ⟨h1, h2, h3⟩ := h
  refine ⟨h1, fun b hb => ⟨Nat.lt_of_lt_of_le (h2 b hb).1 hf.size, (h2 b hb).2⟩, fun hl => ?_⟩
  obtain ⟨g, off, Q, e, hg, hgm, hq, hc⟩ := h3 hl
  refine ⟨g, off, Q, e, Nat.lt_of_lt_of_le hg hf.size, hgm, hq, fun k hk => ?_⟩
  obtain ⟨A', cap, e0, e1, e2, e3, e9⟩ := hc k hk
  exact ⟨A', cap, (hf.cellV (a := ⟨g, _, none⟩) hg hgm).trans e0, (hf.cellV (a := ⟨g, _, none⟩) hg hgm).trans e1, (hf.cellV (a := ⟨g, _, none⟩) hg hgm).trans e2, e3, e9.fr _ hf (fun b hb => (h2 b (hq k b hk hb).1).2)⟩
theorem LyV.fr {w w' : World} {m : Nat} {a : Option Addr} (h : LyV w m a) (hf : Fr (fun b => b = m) w w') : LyV w' m a := fun x hx => by
  obtain ⟨h1, h2, c, t, h3⟩ := h x hx
  exact ⟨Nat.lt_of_lt_of_le h1 hf.size, h2, c, t, hf.block h3 h2⟩
theorem LyV.now {w : World} {m : Nat} {a : Option Addr} (h : LyV w m a) : LiesPV w a := fun x hx => by
  obtain ⟨h1, h2, c, t, h3⟩ := h x hx
  exact ⟨c, t, h3⟩
/-- A level in memory. -/
def RwL (w : World) (u : Value) (L : List LvE) : Prop := ∃ A cap, u = .slice A L.length cap ∧ (0 < L.length → ∃ g, A = some ⟨g, 0, none⟩ ∧ g < w.heap.size ∧ ∀ j (h : j < L.length), w.cell? ⟨g, j, none⟩ = some (.slice L[j].A L[j].l.length L[j].cap))
theorem LbI.row {w : World} {m mb lo : Nat} {F Z : Nat → Prop} {R : List (List Vl)} {u : Value} {wr : World} {B : List LvE} {S : List Kw} (h : LbI w m F mb lo Z R u wr B S) : RwL wr u B := by
  obtain ⟨xs, ho, hx⟩ := h.own
  rcases ho.2 with ⟨h', h0⟩ | ⟨g, cap, cur, h', hb, hg, hnc, hcm, hcs, htake⟩
  · exact ⟨none, 0, by rw [h0]; exact h', fun hl => absurd hl (by omega)⟩
  · refine ⟨_, cap, h', fun hl => ⟨g, rfl, heap_lt hg, fun j hj => ?_⟩⟩
    rw [cell_of_blk hg, show cur[j]? = xs[j]? by rw [← htake, List.getElem?_take_of_lt (by omega), Array.getElem?_toList]]
    exact hx j hj
def LvE.key (x : LvE) : Kw := ⟨x.A, x.l.length⟩
/-- What the loop of DepthOf knows: level L is the j-th; S are the lists seen before. -/
structure DpI (v : Vl) (m : Nat) (wS : World) (u : Value) (wr : World) (j : Nat) (L : List LvE) (S : List Kw) : Prop where
  row : RwL wr u L
  ok : ∀ x ∈ L, SfV x.d wr m x.P x.A x.l ∧ ¬ x.l = []
  ap : L.Pairwise (fun x y => ∀ b, x.P b → ¬ y.P b)
  met : ∀ x ∈ L, ∀ k ∈ S, ∀ a, k.a = some a → ¬ x.P a.block
  map : MapKw wr m S
  lies : ∀ k ∈ S, LyV wr m k.a
  cnt : j ≤ S.length + 1
  dep : dV v + 1 = j + dLs (L.map (fun x => x.l))
  wgt : S.length + wLs (L.map (fun x => x.l)) ≤ wV v + 1
  ne : ¬ L = []
  fr : Fr (fun b => b = m) wS wr
theorem DpI.keys {w : World} {m mb lo : Nat} {F Z : Nat → Prop} {R : List (List Vl)} {u : Value} {wr : World} {B : List LvE} {S' : List Kw} (h : LbI w m F mb lo Z R u wr B S') {S : List Kw} (hS : ∀ k ∈ S, ∀ a, k.a = some a → ¬ F a.block) {i : Nat} (hi : i < B.length) : ¬ B[i].key ∈ S ++ (B.take i).map LvE.key := fun hk => by
  obtain ⟨_, _, _, g, c, e, _, _, hnp, _⟩ := h.ok B[i] (List.getElem_mem hi)
  rcases List.mem_append.1 hk with hk | hk
  · exact hS _ hk ⟨g, 0, none⟩ e (h.from_ _ (List.getElem_mem hi) g (.inr e))
  · obtain ⟨y, hy, e2⟩ := List.mem_map.1 hk
    obtain ⟨j, hj, e3⟩ := List.mem_take_iff_getElem.1 hy
    have e4 : y.A = some ⟨g, 0, none⟩ := (congrArg Kw.a e2).trans e
    rw [← e3] at e4
    exact List.pairwise_iff_getElem.1 h.apart j i (by omega) hi (by omega) g (.inr e4) (.inr e)
theorem DpI.step {v : Vl} {m mb lo : Nat} {wS wr w1 wx : World} {u u' : Value} {j : Nat} {L B : List LvE} {S S' : List Kw} (h : DpI v m wS u wr j L S) (hb : LbI wr m (fun b => ∃ x ∈ L, x.P b) mb lo (fun _ => False) (nbs (L.map (fun x => x.l))) u' w1 B S') (hB : ¬ B = []) (hf : Fr (fun b => b = m) wr wx) (hr : RwL wx u' B) (hm : MapKw wx m (S ++ B.map LvE.key)) : DpI v m wS u' wx (j + 1) B (S ++ B.map LvE.key) := by
  have hd := nbs_d (L.map (fun x => x.l)) (by simp; exact h.ne) (fun l hl => by
    obtain ⟨x, hx, rfl⟩ := List.mem_map.1 hl; exact (h.ok x hx).2)
  have hlen : 0 < B.length := List.length_pos_iff.2 hB
  refine ⟨hr, fun x hx => ⟨(hb.ok x hx).1.fr hf, (hb.ok x hx).2.1⟩, hb.apart.imp (fun hxy b h1 h2 => hxy b (.inl h1) (.inl h2)), fun x hx k hk a ha hp => ?_, hm, fun k hk => ?_, ?_, ?_, ?_, hB, h.fr.trans hf⟩
  · rcases List.mem_append.1 hk with hk | hk
    · obtain ⟨y, hy, hyp⟩ := hb.from_ x hx _ (.inl hp)
      exact h.met y hy k hk a ha hyp
    · obtain ⟨y, hy, rfl⟩ := List.mem_map.1 hk
      obtain ⟨_, _, _, g, c, e, _, _, hnp, _⟩ := hb.ok y hy
      have ha : y.A = some a := ha
      rw [e] at ha
      cases ha
      obtain ⟨i1, h1, rfl⟩ := List.getElem_of_mem hx
      obtain ⟨i2, h2, rfl⟩ := List.getElem_of_mem hy
      rcases Nat.lt_trichotomy i1 i2 with hlt | heq | hlt
      · exact List.pairwise_iff_getElem.1 hb.apart i1 i2 h1 h2 hlt _ (.inl hp) (.inr e)
      · subst heq; exact hnp hp
      · exact List.pairwise_iff_getElem.1 hb.apart i2 i1 h2 h1 hlt _ (.inr e) (.inl hp)
  · rcases List.mem_append.1 hk with hk | hk
    · exact (h.lies k hk).fr hf
    · obtain ⟨y, hy, rfl⟩ := List.mem_map.1 hk
      obtain ⟨_, _, _, g, c, e, hg, hgm, _, hh⟩ := hb.ok y hy
      refine LyV.fr (fun x hx => ?_) hf
      have hx : y.A = some x := hx
      rw [e] at hx
      cases hx
      exact ⟨hg, hgm, c, _, hh⟩
  · rw [List.length_append, List.length_map]; have := h.cnt; omega
  · have h1 := h.dep
    rw [hb.lists]; omega
  · have h1 := (nbs_w (L.map (fun x => x.l))).2
    have h2 := h.wgt
    have h3 := hb.len
    rw [List.length_append, List.length_map, hb.lists]; omega
end Go.Proofs.Yteoopmogklpnoaa
/-
  The depth of the value of least depth. Plain mathematics. No statement is proved here.
-/
namespace Go.Proofs.Yteoopmogklpnoaa
open Go.RowKit Go.Sort Go.Deep
set_option maxRecDepth 100000
set_option linter.unusedVariables false
theorem dVs_mem : ∀ (l : List Vl) (v : Vl), v ∈ l → dV v ≤ dVs l
  | [], _, h => by simp at h
  | x :: xs, v, h => by
    rw [dVs]
    rcases List.mem_cons.1 h with e | e
    · subst e; omega
    · have := dVs_mem xs v e; omega
theorem dVs_bound : ∀ (l : List Vl) (b : Nat), (∀ v ∈ l, dV v ≤ b) → dVs l ≤ b
  | [], _, _ => by rw [dVs]; omega
  | x :: xs, b, h => by
    rw [dVs]
    have h1 := h x (List.mem_cons_self ..)
    have h2 := dVs_bound xs b (fun v hv => h v (List.mem_cons_of_mem _ hv))
    omega
theorem dVs_most {f : Ty → Vl} {F : Ty → Int} {L : List Ty} (h : ∀ a ∈ L, (dV (f a) : Int) = F a) : (dVs (L.map f) : Int) = mxT F L L.length := by
  have h1 : mxT F L L.length ≤ (dVs (L.map f) : Int) := mxT_le (by omega) (fun a ha => by
    rw [← h a ha]
    have := dVs_mem (L.map f) (f a) (List.mem_map.2 ⟨a, ha, rfl⟩)
    omega) _ (Nat.le_refl _)
  have h0 : 0 ≤ mxT F L L.length := mxT_nonneg F L _
  have h2 : dVs (L.map f) ≤ (mxT F L L.length).toNat := dVs_bound _ _ (fun v hv => by
    obtain ⟨a, ha, rfl⟩ := List.mem_map.1 hv
    obtain ⟨j, hj, rfl⟩ := List.getElem_of_mem ha
    have h3 := mxT_ge (F := F) (L := L) L.length (Nat.le_refl _) j hj hj
    have h4 := h _ (List.getElem_mem hj)
    omega)
  omega
theorem lvA_dep (l : List Da) : ∀ (n : Nat) (t : Ty), TyOK l t → Inh l t → ldep l t ≤ n → (dV (lvA l n t) : Int) = ldep l t
  | 0, t, _, hi, h => by have := ldep_yes hi; omega
  | n + 1, t, ht, hi, h => by
    by_cases hd : t.data = -1
    · rw [lvA_int hd, ← ldep_int hd, dV, dVs]; rfl
    · obtain ⟨x, hx, hm, he⟩ := fstC_some ht hd hi
      rw [lvA_data hd hx, dV]
      have hp := ldep_yes hi
      have hall := mdp_pos (l := l) (L := agR l t x) (by omega)
      have he2 : mdp l (agR l t x) = mxT (ldep l) (agR l t x) (agR l t x).length + 1 := mdp_yes (fun a ha => (hall a ha).1)
      have hk := dVs_most (f := lvA l n) (F := ldep l) (L := agR l t x) (fun a ha => lvA_dep l n a (agR_ok hm a ha) (hall a ha).1 (by have := (hall a ha).2; omega))
      omega
/-- What holds if there is a least value. -/
theorem lvB_yes {l : List Da} {t : Ty} (h : lvB l t = true) : vvT l t (lvR l t) = true ∧ lbR l t = true ∧ ldR l t = (dV (lvR l t) : Int) := by
  have ho : lvOK l t := by
    by_cases ho : lvOK l t
    · exact ho
    · unfold lvB at h; rw [dec_f ho] at h; cases h
  have hr : lvR l t = lvA l 10 t := by unfold lvR; rw [dec_t ho]; rfl
  rw [hr]
  exact ⟨(vvT_yes (v := lvA l 10 t) ho.1).trans ho.2.2.2, dec_t ⟨ho.1, ho.2.1⟩, (ldR_yes ho.1).trans (lvA_dep l 10 t ho.1 ho.2.1 ho.2.2.1).symm⟩
end Go.Proofs.Yteoopmogklpnoaa
