/-
  operandsOf: a new row of what stands behind the names of each pattern of a list. No statement is proved here.
-/
import Derived.Test.YtbdiahnelnbdnaaW02
import Derived.Test.YtbdiahnelnbdnaaW03
namespace Go.Proofs.Ytbdiahnelnbdnaa
open Go.RowKit Go.Sort Go.Deep
set_option maxRecDepth 100000
set_option linter.unusedVariables false
/-- The node that stands for another one, its parts made. -/
def mkBr (q : Pt) : Pt := .mk q.op q.ctor q.n q.m q.var (barePs q.kids)
/-- The first k nodes of the row. -/
def OpR (d : Nat) (w : World) (l qs : List Pt) (Q : Nat → Nat → Prop) (xs : List Value) (k : Nat) : Prop := qs.length = k ∧ ∀ j (h1 : j < l.length) (h2 : j < qs.length), bareP l[j] = mkBr qs[j] ∧ wPs qs[j].kids ≤ wPs l[j].kids ∧ ∃ (E : Option Addr) (c : Nat), xs[j * 6]? = some (.int .i64 qs[j].op) ∧ xs[j * 6 + 1]? = some (.int .i64 qs[j].ctor) ∧ xs[j * 6 + 2]? = some (.int .i64 qs[j].n) ∧ xs[j * 6 + 3]? = some (.int .i64 qs[j].m) ∧ xs[j * 6 + 4]? = some (.int .i64 qs[j].var) ∧ xs[j * 6 + 5]? = some (.slice E qs[j].kids.length c) ∧ OPs d w (Q j) E qs[j].kids
theorem OpR.fr {d : Nat} {w w' : World} {l qs : List Pt} {Q : Nat → Nat → Prop} {xs : List Value} {k : Nat} {P : Nat → Prop} (h : OpR d w l qs Q xs k) (hf : Fr P w w') (hp : ∀ j b, j < l.length → Q j b → ¬ P b) : OpR d w' l qs Q xs k := ⟨h.1, fun j h1 h2 => by
  obtain ⟨a1, a2, E, c, e0, e1, e2, e3, e4, e5, e6⟩ := h.2 j h1 h2
  exact ⟨a1, a2, E, c, e0, e1, e2, e3, e4, e5, e6.fr d hf (fun b hb => hp j b h1 hb)⟩⟩
theorem OpR.push {d : Nat} {w : World} {l qs : List Pt} {Q : Nat → Nat → Prop} {xs : List Value} {k c2 : Nat} {q : Pt} {E2 : Option Addr} (h : OpR d w l qs Q xs k) (hk : k < l.length) (hx : xs.length = l.length * 6) (hb : bareP l[k] = mkBr q) (hw : wPs q.kids ≤ wPs l[k].kids) (ho : OPs d w (Q k) E2 q.kids) : OpR d w l (qs ++ [q]) Q ((((((xs.set (k * 6) (.int .i64 q.op)).set (k * 6 + 1) (.int .i64 q.ctor)).set (k * 6 + 2) (.int .i64 q.n)).set (k * 6 + 3) (.int .i64 q.m)).set (k * 6 + 4) (.int .i64 q.var)).set (k * 6 + 5) (.slice E2 q.kids.length c2)) (k + 1) := by
  have hq := h.1
  refine ⟨by rw [List.length_append, hq]; rfl, fun j h1 h2 => ?_⟩
  rw [List.length_append] at h2
  by_cases e : j < qs.length
  · obtain ⟨a1, a2, E, c, e0, e1, e2, e3, e4, e5, e6⟩ := h.2 j h1 e
    rw [List.getElem_append_left e]
    exact ⟨a1, a2, E, c, by rw [List.getElem?_set_ne (by omega), List.getElem?_set_ne (by omega), List.getElem?_set_ne (by omega), List.getElem?_set_ne (by omega), List.getElem?_set_ne (by omega), List.getElem?_set_ne (by omega)]; exact e0, by rw [List.getElem?_set_ne (by omega), List.getElem?_set_ne (by omega), List.getElem?_set_ne (by omega), List.getElem?_set_ne (by omega), List.getElem?_set_ne (by omega), List.getElem?_set_ne (by omega)]; exact e1, by rw [List.getElem?_set_ne (by omega), List.getElem?_set_ne (by omega), List.getElem?_set_ne (by omega), List.getElem?_set_ne (by omega), List.getElem?_set_ne (by omega), List.getElem?_set_ne (by omega)]; exact e2, by rw [List.getElem?_set_ne (by omega), List.getElem?_set_ne (by omega), List.getElem?_set_ne (by omega), List.getElem?_set_ne (by omega), List.getElem?_set_ne (by omega), List.getElem?_set_ne (by omega)]; exact e3, by rw [List.getElem?_set_ne (by omega), List.getElem?_set_ne (by omega), List.getElem?_set_ne (by omega), List.getElem?_set_ne (by omega), List.getElem?_set_ne (by omega), List.getElem?_set_ne (by omega)]; exact e4, by rw [List.getElem?_set_ne (by omega), List.getElem?_set_ne (by omega), List.getElem?_set_ne (by omega), List.getElem?_set_ne (by omega), List.getElem?_set_ne (by omega), List.getElem?_set_ne (by omega)]; exact e5, e6⟩
  · have hjk : j = k := by have : j < qs.length + 1 := h2; omega
    subst hjk
    have hg : (qs ++ [q])[j] = q := by rw [List.getElem_append_right (by omega)]; simp
    rw [hg]
    have k := j
    exact ⟨hb, hw, E2, c2, (by rw [List.getElem?_set_ne (by omega), List.getElem?_set_ne (by omega), List.getElem?_set_ne (by omega), List.getElem?_set_ne (by omega), List.getElem?_set_ne (by omega), List.getElem?_set_self (by first | omega | (simp <;> omega))]), (by rw [List.getElem?_set_ne (by omega), List.getElem?_set_ne (by omega), List.getElem?_set_ne (by omega), List.getElem?_set_ne (by omega), List.getElem?_set_self (by first | omega | (simp <;> omega))]), (by rw [List.getElem?_set_ne (by omega), List.getElem?_set_ne (by omega), List.getElem?_set_ne (by omega), List.getElem?_set_self (by first | omega | (simp <;> omega))]), (by rw [List.getElem?_set_ne (by omega), List.getElem?_set_ne (by omega), List.getElem?_set_self (by first | omega | (simp <;> omega))]), (by rw [List.getElem?_set_ne (by omega), List.getElem?_set_self (by first | omega | (simp <;> omega))]), (by rw [List.getElem?_set_self (by first | omega | (simp <;> omega))]), ho⟩
def OpsQ (d : Nat) (P : Nat → Prop) (A : Option Addr) (l : List Pt) (w : World) (e : Ending) (w' : World) : Prop := e = .returned (.slice (some ⟨w.heap.size, 0, none⟩) l.length l.length) ∧ Below w.heap.size w w' ∧ ∃ (qs : List Pt) (Q : Nat → Nat → Prop) (xs : List Value), w'.ownsRow w.heap.size 28 6 (.slice (some ⟨w.heap.size, 0, none⟩) l.length l.length) l.length xs ∧ OpR d w' l qs Q xs l.length ∧ ∀ k b, k < l.length → Q k b → P b ∧ A ≠ some ⟨b, 0, none⟩ ∧ ∀ j, j < l.length → j ≠ k → ¬ Q j b
set_option maxHeartbeats 4000000 in
theorem ops_any (d : Nat) (P : Nat → Prop) (A : Option Addr) (l : List Pt) (cap : Nat) (w : World) (h : OPs (d + 1) w P A l) (hP : ∀ b, P b → b < w.heap.size) (h0 : 0 < l.length) (hl : l.length ≤ 1048576) :
    Calls Try.prog 15 #[.slice A l.length cap] w (OpsQ d P A l w) := by
  obtain ⟨i0, hi, hz0, hz1, hz2⟩ := info_parts infoOP
  obtain ⟨g, cs, Q, rfl, hPg, hgh, hQ, hel⟩ := h.2 h0
  have hgw : g < w.heap.size := heap_lt hgh
  have HG := Lib.hid hgh
  have HQ := Lib.hid hQ
  have HE := Lib.hid hel
  clear h hgh hQ hel
  go_enter Try.func15, Try.ntmps15
  go_wp2_with (at_make; refine wpList_make_full _ rfl _ _ 26 rfl w.heap.size 28 i0 _ 6 Try.underlying26 hi hz0 hz1 _ _ _ _ l.length rfl rfl rfl rfl (by rw [hz2]; omega) (by unfold maxLen; omega) (Nat.le_refl _) ?_; intro w1 hown hgr)
  go_loopw [11] (fun i wr => ∃ k : Nat, k ≤ l.length ∧ i = .int .i64 k ∧ ∃ xs qs, wr.ownsRow w.heap.size 28 6 (.slice (some ⟨w.heap.size, 0, none⟩) l.length l.length) l.length xs ∧ OpR d wr l qs Q xs k ∧ Below w.heap.size w wr) (fun i _ => l.length - (intOf i).toNat)
  case atStart => exact ⟨0, by omega, rfl, _, [], hown, ⟨rfl, fun j h1 h2 => absurd h2 (by simp)⟩, below_of_grown hgr (Nat.le_refl _)⟩
  case round =>
    obtain ⟨k, hk, rfl, xs, qs, hown, hrow, hb⟩ := hrel
    clear hgr hi hz0 hz1 hz2
    by_cases hlt : k < l.length
    · have hkI : (k : Int) < (l.length : Int) := by omega
      obtain ⟨A', cp, e0, e1, e2, e3, e4, e5, e6⟩ := HE.out k hlt
      have hgr : wr.heap[g]? = some (.cells cs 28 (0, 0)) := (hb.block g hgw).trans HG.out
      have c0 := (cell_of_blk hgr (k * 6)).trans e0
      have c1 := (cell_of_blk hgr (k * 6 + 1)).trans e1
      have c2 := (cell_of_blk hgr (k * 6 + 2)).trans e2
      have c3 := (cell_of_blk hgr (k * 6 + 3)).trans e3
      have c4 := (cell_of_blk hgr (k * 6 + 4)).trans e4
      have c5 := (cell_of_blk hgr (k * 6 + 5)).trans e5
      obtain ⟨wb, hwb⟩ : ∃ wb, wb = wr.alloc (.cells #[.int .i64 l[k].op, .int .i64 l[k].ctor, .int .i64 l[k].n, .int .i64 l[k].m, .int .i64 l[k].var, .slice A' l[k].kids.length cp] 28) := ⟨_, rfl⟩
      have hbb : Below wr.heap.size wr wb := by rw [hwb]; exact (Below.refl _ _).alloc (Nat.le_refl _) _
      have HXB : Hid (PBr wb wr.heap.size l[k] (.slice A' l[k].kids.length cp)) := by rw [hwb]; exact ⟨by simp [go_sem], by simp [go_sem], by simp [go_sem], by simp [go_sem], by simp [go_sem], by simp [go_sem]⟩
      have hwl : w.heap.size < wr.heap.size := own_lt hown
      have hbw := hb.trans (hbb.mono hb.size)
      have hQP : ∀ j b, j < l.length → Q j b → b < w.heap.size := fun j b hj hb => hP b (HQ.out j b hj hb).1
      have HQP := Lib.hid hQP
      have HCI := Lib.hid (op_any d (Q k) A' cp l[k] wb (e6.fr d (Fr.below (P := fun _ => False) hbw) (fun _ _ h => h)) (fun b h => Nat.lt_of_lt_of_le (hQP k b hlt h) hbw.size))
      have hownb := own_below hown hbb
      have HROW := Lib.hid hrow
      have HWB := Lib.hid hwb
      obtain ⟨u0, u1, u2, u3, u4, u5⟩ := HXB.out
      clear e0 e1 e2 e3 e4 e5 e6 hrow hwb hQP hgr
      go_wp2_with fail
      rw [← HWB.out]
      refine HCI.out.mono ?_
      rintro e w2 ⟨q, E2, c2', rfl, hbq, hoq, hwq, hb2'⟩
      have hb2 : Below wr.heap.size wr w2 := hbb.trans (hb2'.mono hbb.size)
      have hown2 := own_below hownb hb2'
      have HBQ := Lib.hid hbq
      have HOQ := Lib.hid hoq
      clear hbq hoq
      obtain ⟨v0, f0⟩ := own_cell hown2 (k * 6) (by omega)
      obtain ⟨v1, f1⟩ := own_cell hown2 (k * 6 + 1) (by omega)
      obtain ⟨v2, f2⟩ := own_cell hown2 (k * 6 + 2) (by omega)
      obtain ⟨v3, f3⟩ := own_cell hown2 (k * 6 + 3) (by omega)
      obtain ⟨v4, f4⟩ := own_cell hown2 (k * 6 + 4) (by omega)
      obtain ⟨v5, f5⟩ := own_cell hown2 (k * 6 + 5) (by omega)
      have g0 := hown2.frozenAt (k * 6)
      have g1 := hown2.frozenAt (k * 6 + 1)
      have g2 := hown2.frozenAt (k * 6 + 2)
      have g3 := hown2.frozenAt (k * 6 + 3)
      have g4 := hown2.frozenAt (k * 6 + 4)
      have g5 := hown2.frozenAt (k * 6 + 5)
      have hsb := hbb.size
      clear u0 u1 u2 u3 u4 u5 c0 c1 c2 c3 c4 c5
      go_wp2_with fail
      have hx := hown2.1
      have s0 := (hown2.stored (k * 6) (.int .i64 q.op)).1
      have s1 := (s0.stored (k * 6 + 1) (.int .i64 q.ctor)).1
      have s2 := (s1.stored (k * 6 + 2) (.int .i64 q.n)).1
      have s3 := (s2.stored (k * 6 + 3) (.int .i64 q.m)).1
      have s4 := (s3.stored (k * 6 + 4) (.int .i64 q.var)).1
      have s5 := (s4.stored (k * 6 + 5) (.slice E2 q.kids.length c2')).1
      have hF : Fr (fun b => b = w.heap.size) w2 ((((((w2.setCell ⟨w.heap.size, k * 6, none⟩ (.int .i64 q.op)).setCell ⟨w.heap.size, k * 6 + 1, none⟩ (.int .i64 q.ctor)).setCell ⟨w.heap.size, k * 6 + 2, none⟩ (.int .i64 q.n)).setCell ⟨w.heap.size, k * 6 + 3, none⟩ (.int .i64 q.m)).setCell ⟨w.heap.size, k * 6 + 4, none⟩ (.int .i64 q.var)).setCell ⟨w.heap.size, k * 6 + 5, none⟩ (.slice E2 q.kids.length c2')) := (((((Fr.set (P := fun b => b = w.heap.size) _ _ _ _ rfl).trans (Fr.set (P := fun b => b = w.heap.size) _ _ _ _ rfl)).trans (Fr.set (P := fun b => b = w.heap.size) _ _ _ _ rfl)).trans (Fr.set (P := fun b => b = w.heap.size) _ _ _ _ rfl)).trans (Fr.set (P := fun b => b = w.heap.size) _ _ _ _ rfl)).trans (Fr.set (P := fun b => b = w.heap.size) _ _ _ _ rfl)
      have hrow3 := ((HROW.out.fr (P := fun _ => False) (Fr.below hb2) (fun _ _ _ _ h => h)).push (c2 := c2') hlt hx HBQ.out hwq HOQ.out).fr hF (fun j b hj h e => by have := HQP.out j b hj h; have e : b = w.heap.size := e; omega)
      go_roundw
      case rel => exact ⟨k + 1, by omega, by go_num, _, _, s5, hrow3, ((((((hb.trans (hb2.mono hb.size)).setCell (Nat.le_refl _) _).setCell (Nat.le_refl _) _).setCell (Nat.le_refl _) _).setCell (Nat.le_refl _) _).setCell (Nat.le_refl _) _).setCell (Nat.le_refl _) _⟩
      case measure => simp [intOf]; omega
    · have hkI : ¬ (k : Int) < (l.length : Int) := by omega
      have he : k = l.length := by omega
      go_wp2_with fail
      go_ret
      exact ⟨rfl, hb, qs, Q, xs, hown, he ▸ hrow, fun k b hk h => ⟨(HQ.out k b hk h).1, fun e => (HQ.out k b hk h).2.1 (by cases e; rfl), (HQ.out k b hk h).2.2⟩⟩
end Go.Proofs.Ytbdiahnelnbdnaa
/-
  The lists that wait in BarePattern: when they are done, so is the whole. No statement is proved here.
-/
namespace Go.Proofs.Ytbdiahnelnbdnaa
open Go.RowKit
set_option maxRecDepth 100000
set_option linter.unusedVariables false
/-- A list that waits: its block, its depth, what it was made from. -/
structure It where
  g : Nat
  d : Nat
  l : List Pt
/-- When all lists that wait are done in blocks of their own, the list at g0 is L0. -/
def CompI (D g0 : Nat) (L0 : List Pt) (w : World) (F : Nat → Prop) (V : List It) : Prop := ∀ (W : World) (R : Nat → Nat → Prop), (∀ b, F b → W.heap[b]? = w.heap[b]?) → (∀ x ∈ V, OPs (x.d + 1) W (R x.g) (some ⟨x.g, 0, none⟩) (barePs x.l)) → (∀ x ∈ V, ∀ y ∈ V, x.g ≠ y.g → ∀ b, R x.g b → ¬ R y.g b) → (∀ x ∈ V, ∀ b, R x.g b → ¬ F b) → OPs D W (fun b => F b ∨ ∃ x ∈ V, R x.g b) (some ⟨g0, 0, none⟩) L0
theorem CompI.keep {D g0 : Nat} {L0 : List Pt} {w w' : World} {F : Nat → Prop} {V : List It} (h : CompI D g0 L0 w F V) (hk : ∀ b, F b → w'.heap[b]? = w.heap[b]?) : CompI D g0 L0 w' F V := fun W R h1 h2 h3 h4 => h W R (fun b hb => (h1 b hb).trans (hk b hb)) h2 h3 h4
theorem CompI.start (d g0 : Nat) (l : List Pt) (w : World) : CompI (d + 1) g0 (barePs l) w (fun _ => False) [⟨g0, d, l⟩] := fun W R h1 h2 h3 h4 => (h2 _ (List.mem_singleton.2 rfl)).wide _ (fun b hb => .inr ⟨_, List.mem_singleton.2 rfl, hb⟩)
theorem CompI.done {D g0 : Nat} {L0 : List Pt} {w : World} {F : Nat → Prop} (h : CompI D g0 L0 w F []) : OPs D w F (some ⟨g0, 0, none⟩) L0 := (h w (fun _ _ => False) (fun _ _ => rfl) (fun x hx => by cases hx) (fun x hx => by cases hx) (fun x hx => by cases hx)).wide _ (fun b hb => hb.elim id (fun ⟨x, hx, _⟩ => by cases hx))
/-- One list has its parts' new lists: they wait in its place. -/
theorem CompI.step {D g0 : Nat} {L0 : List Pt} {w : World} {F : Nat → Prop} {V V' : List It} {x : It} {qs : List Pt} {cs : Array Value} {gc : Nat → Nat} (h : CompI D g0 L0 w F (V ++ [x])) (hd : 0 < x.d) (hx0 : 0 < x.l.length) (hml : x.l.length ≤ maxLen) (hqs : qs.length = x.l.length) (hbq : ∀ k (h1 : k < x.l.length) (h2 : k < qs.length), bareP x.l[k] = mkBr qs[k])
    (hg : w.heap[x.g]? = some (.cells cs 28 (0, 0)))
    (hcs : ∀ k (h : k < qs.length), cs[k * 6]? = some (.int .i64 qs[k].op) ∧ cs[k * 6 + 1]? = some (.int .i64 qs[k].ctor) ∧ cs[k * 6 + 2]? = some (.int .i64 qs[k].n) ∧ cs[k * 6 + 3]? = some (.int .i64 qs[k].m) ∧ cs[k * 6 + 4]? = some (.int .i64 qs[k].var) ∧ ∃ A c, cs[k * 6 + 5]? = some (.slice A qs[k].kids.length c) ∧ (0 < qs[k].kids.length → A = some ⟨gc k, 0, none⟩))
    (hsub : ∀ y ∈ V, y ∈ V') (hkid : ∀ k (h : k < qs.length), 0 < qs[k].kids.length → ∃ y ∈ V', y.g = gc k ∧ y.l = qs[k].kids ∧ y.d + 1 = x.d)
    (hinj : ∀ k j (h : k < qs.length) (h' : j < qs.length), 0 < qs[k].kids.length → 0 < qs[j].kids.length → gc k = gc j → k = j) (hV : ∀ y ∈ V, y.g ≠ x.g) (hVk : ∀ y ∈ V, ∀ k (h : k < qs.length), 0 < qs[k].kids.length → y.g ≠ gc k) (hF : ¬ F x.g) :
    CompI D g0 L0 w (fun b => F b ∨ b = x.g) V' := fun W R' h1 h2 h3 h4 => by
  have hkR : ∀ k (hk : k < qs.length), 0 < qs[k].kids.length → (∀ b, R' (gc k) b → ¬ (F b ∨ b = x.g)) ∧ OPs x.d W (R' (gc k)) (some ⟨gc k, 0, none⟩) (barePs qs[k].kids) := fun k hk h0 => by
    obtain ⟨y, hy, e1, e2, e3⟩ := hkid k hk h0
    have ha := h2 y hy
    have hb := h4 y hy
    rw [e1, e2, e3] at ha
    rw [e1] at hb
    exact ⟨hb, ha⟩
  have hkd : ∀ k j (hk : k < qs.length) (hj : j < qs.length), 0 < qs[k].kids.length → 0 < qs[j].kids.length → k ≠ j → ∀ b, R' (gc k) b → ¬ R' (gc j) b := fun k j hk hj h0 h0' hne b hb => by
    obtain ⟨y, hy, e1, _⟩ := hkid k hk h0
    obtain ⟨z, hz, f1, _⟩ := hkid j hj h0'
    have := h3 y hy z hz (fun e => hne (hinj k j hk hj h0 h0' (by rw [← e1, ← f1]; exact e))) b
    rw [e1, f1] at this
    exact this hb
  have hbl : (barePs x.l).length = qs.length := by rw [barePs_map, List.length_map, hqs]
  let R : Nat → Nat → Prop := fun g b => if g = x.g then (b = x.g ∨ ∃ k, ∃ h : k < qs.length, 0 < qs[k].kids.length ∧ R' (gc k) b) else R' g b
  have hRx : ∀ b, R x.g b ↔ (b = x.g ∨ ∃ k, ∃ h : k < qs.length, 0 < qs[k].kids.length ∧ R' (gc k) b) := fun b => by show (if x.g = x.g then _ else _) ↔ _; rw [if_pos rfl]
  have hRy : ∀ y, y ≠ x.g → ∀ b, R y b ↔ R' y b := fun y hy b => by show (if y = x.g then _ else _) ↔ _; rw [if_neg hy]
  have key := h W R (fun b hb => h1 b (.inl hb)) (fun y hy => ?_) (fun y hy z hz hne b hb => ?_) (fun y hy b hb hFb => ?_)
  · refine key.wide _ (fun b hb => ?_)
    rcases hb with hb | ⟨y, hy, hb⟩
    · exact .inl (.inl hb)
    · rcases List.mem_append.1 hy with hy | hy
      · exact .inr ⟨y, hsub y hy, (hRy _ (hV y hy) b).1 hb⟩
      · rw [List.mem_singleton.1 hy] at hb
        rcases (hRx b).1 hb with e | ⟨k, hk, h0, hr⟩
        · exact .inl (.inr e)
        · obtain ⟨z, hz, e1, _⟩ := hkid k hk h0
          exact .inr ⟨z, hz, by rw [e1]; exact hr⟩
  · rcases List.mem_append.1 hy with hy | hy
    · exact (h2 y (hsub y hy)).wide _ (fun b hb => (hRy _ (hV y hy) b).2 hb)
    · rw [List.mem_singleton.1 hy]
      refine OPs.mk (by rw [hbl, hqs]; exact hml) (fun _ => ⟨x.g, cs, fun k b => ∃ h : k < qs.length, 0 < qs[k].kids.length ∧ R' (gc k) b, rfl, (hRx _).2 (.inl rfl), (h1 x.g (.inr rfl)).trans hg, fun k b hk hb => ?_, fun k hk => ?_⟩)
      · obtain ⟨hk', h0, hr⟩ := hb
        exact ⟨(hRx b).2 (.inr ⟨k, hk', h0, hr⟩), fun e => (hkR k hk' h0).1 b hr (.inr e), fun j hj hne ⟨hj', h0', hr'⟩ => hkd k j hk' hj' h0 h0' (fun e => hne e.symm) b hr hr'⟩
      · have hk1 : k < qs.length := by rw [← hbl]; exact hk
        have e : (barePs x.l)[k] = mkBr qs[k] := by rw [← hbq k (by omega) hk1]; simp only [barePs_map, List.getElem_map]
        obtain ⟨c0, c1, c2, c3, c4, A, c, c5, hA⟩ := hcs k hk1
        have hkl : (barePs qs[k].kids).length = qs[k].kids.length := by rw [barePs_map, List.length_map]
        rw [e]
        refine ⟨A, c, c0, c1, c2, c3, c4, by rw [c5]; show _ = some (Value.slice A (barePs qs[k].kids).length c); rw [hkl], ?_⟩
        show OPs x.d W _ A (barePs qs[k].kids)
        by_cases h0 : 0 < qs[k].kids.length
        · rw [hA h0]
          exact (hkR k hk1 h0).2.wide _ (fun b hb => ⟨hk1, h0, hb⟩)
        · have hn : qs[k].kids = [] := List.length_eq_zero_iff.1 (by omega)
          rw [hn]
          obtain ⟨d', hd'⟩ : ∃ d', x.d = d' + 1 := ⟨x.d - 1, by omega⟩
          rw [hd']; exact OPs.nil _ _ _ _
  · rcases List.mem_append.1 hy with hy | hy <;> rcases List.mem_append.1 hz with hz | hz
    · rw [hRy _ (hV z hz)]; rw [hRy _ (hV y hy)] at hb
      exact h3 y (hsub y hy) z (hsub z hz) hne b hb
    · rw [List.mem_singleton.1 hz, hRx]; rw [hRy _ (hV y hy)] at hb
      rintro (e | ⟨k, hk, h0, hr⟩)
      · exact h4 y (hsub y hy) b hb (.inr e)
      · obtain ⟨u, hu, e1, _⟩ := hkid k hk h0
        have := h3 y (hsub y hy) u hu (by rw [e1]; exact hVk y hy k hk h0) b hb
        rw [e1] at this
        exact this hr
    · rw [List.mem_singleton.1 hy, hRx] at hb; rw [hRy _ (hV z hz)]
      rcases hb with e | ⟨k, hk, h0, hr⟩
      · exact fun hr => h4 z (hsub z hz) b hr (.inr e)
      · obtain ⟨u, hu, e1, _⟩ := hkid k hk h0
        have := h3 u hu z (hsub z hz) (by rw [e1]; exact fun e => hVk z hz k hk h0 e.symm) b
        rw [e1] at this
        exact this hr
    · rw [List.mem_singleton.1 hy, List.mem_singleton.1 hz] at hne
      exact absurd rfl hne
  · rcases List.mem_append.1 hy with hy | hy
    · rw [hRy _ (hV y hy)] at hb
      exact h4 y (hsub y hy) b hb (.inl hFb)
    · rw [List.mem_singleton.1 hy, hRx] at hb
      rcases hb with e | ⟨k, hk, h0, hr⟩
      · rw [e] at hFb; exact hF hFb
      · exact (hkR k hk h0).1 b hr (.inl hFb)
end Go.Proofs.Ytbdiahnelnbdnaa
/-
  What holds while BarePattern works: before each list, and before each node of a list. No statement is proved here.
-/
namespace Go.Proofs.Ytbdiahnelnbdnaa
open Go.RowKit
set_option maxRecDepth 100000
set_option linter.unusedVariables false
/-- A list that waits, with its nodes and the old blocks in which their parts lie. -/
structure Jt where
  it : It
  qs : List Pt
  Q : Nat → Nat → Prop
  P : Nat → Prop
def Jt.K (x : Jt) : Nat := (x.qs.map (fun q => wPs q.kids)).sum
def Jt.v (x : Jt) : Value := .slice (some ⟨x.it.g, 0, none⟩) x.it.l.length x.it.l.length
def Jt.In (o : Nat) (wr : World) (x : Jt) : Prop := (∃ xs, wr.ownsRow o 28 6 x.v x.it.l.length xs ∧ OpR x.it.d wr x.it.l x.qs x.Q xs x.it.l.length) ∧ (∀ k b, k < x.it.l.length → x.Q k b → x.P b ∧ ∀ j, j < x.it.l.length → j ≠ k → ¬ x.Q j b) ∧ (∀ b, x.P b → b < o) ∧ 0 < x.it.l.length ∧ x.it.l.length ≤ 1048576 ∧ 0 < x.it.d
theorem Jt.In.keep {o : Nat} {wr w' : World} {x : Jt} {P' : Nat → Prop} (h : x.In o wr) (hf : Fr P' wr w') (hP : ∀ b, P' b → o ≤ b) (hg : ¬ P' x.it.g) : x.In o w' := by
  obtain ⟨⟨xs, h1, h2⟩, h3, h4, h5⟩ := h
  refine ⟨⟨xs, own_at h1 (fun b e => ?_), h2.fr hf (fun j b hj hb hp => ?_)⟩, h3, h4, h5⟩
  · obtain ⟨_, _, ev, hl⟩ := own_form h1
    have hb : x.it.g = b := Option.some.inj e
    exact hf.2.2.2.2 b (by
      have := (hl b e).2
      exact this) (by rw [← hb]; exact hg)
  · have := h4 b (h3 j b hj hb).1
    have := hP b hp
    omega
/-- Before each list is taken. -/
structure BwB (o bm g0 D M : Nat) (p : Pt) (u : Value) (N : Nat) (V : List Jt) (S : List Kv) (F : Nat → Prop) (w0 wr : World) : Prop where
  below : Below o w0 wr
  map : MapKv wr bm S
  keys : ∀ k ∈ S, LiesKv wr k ∧ ∃ g, k.a = some ⟨g, 0, none⟩ ∧ g < o ∧ ∀ x ∈ V, ¬ x.P g
  row : wr.ownsRow o 26 1 u V.length (V.map Jt.v)
  items : ∀ x ∈ V, x.In o wr ∧ o ≤ x.it.g ∧ x.it.g ≠ bm ∧ u.ownBlock ≠ some x.it.g ∧ ¬ F x.it.g
  apart : V.Pairwise (fun x y => x.it.g ≠ y.it.g ∧ ∀ b, x.P b → ¬ y.P b)
  bmi : o ≤ bm ∧ u.ownBlock ≠ some bm ∧ ¬ F bm
  fin : ∀ b, F b → o ≤ b ∧ b < wr.heap.size ∧ u.ownBlock ≠ some b
  comp : CompI D g0 (barePs [p]) wr F (V.map Jt.it)
  weight : N + (V.map Jt.K).sum ≤ M
/-- The row of the list that is worked on: the first k nodes have their new parts' lists. -/
def RowX (wr : World) (x : Jt) (gc : Nat → Nat) (xs : List Value) (k : Nat) : Prop := x.qs.length = x.it.l.length ∧ (∀ j (h1 : j < x.it.l.length) (h2 : j < x.qs.length), bareP x.it.l[j] = mkBr x.qs[j]) ∧ ∀ j (h : j < x.qs.length), xs[j * 6]? = some (.int .i64 x.qs[j].op) ∧ xs[j * 6 + 1]? = some (.int .i64 x.qs[j].ctor) ∧ xs[j * 6 + 2]? = some (.int .i64 x.qs[j].n) ∧ xs[j * 6 + 3]? = some (.int .i64 x.qs[j].m) ∧ xs[j * 6 + 4]? = some (.int .i64 x.qs[j].var) ∧ ∃ A c, xs[j * 6 + 5]? = some (.slice A x.qs[j].kids.length c) ∧ (j < k → 0 < x.qs[j].kids.length → A = some ⟨gc j, 0, none⟩) ∧ (k ≤ j → OPs x.it.d wr (x.Q j) A x.qs[j].kids)
/-- Before each node of a list. -/
structure BwC (o bm g0 D M : Nat) (p : Pt) (u : Value) (N : Nat) (x : Jt) (k : Nat) (V0 V1 : List Jt) (gc : Nat → Nat) (S : List Kv) (F : Nat → Prop) (w0 wr : World) : Prop where
  below : Below o w0 wr
  map : MapKv wr bm S
  keys : ∀ key ∈ S, LiesKv wr key ∧ ∃ g, key.a = some ⟨g, 0, none⟩ ∧ g < o ∧ (∀ y ∈ V0 ++ V1, ¬ y.P g) ∧ ∀ j, k ≤ j → j < x.it.l.length → ¬ x.Q j g
  row : wr.ownsRow o 26 1 u (V0 ++ V1).length ((V0 ++ V1).map Jt.v)
  items : ∀ y ∈ V0 ++ V1, y.In o wr ∧ o ≤ y.it.g ∧ y.it.g ≠ bm ∧ u.ownBlock ≠ some y.it.g ∧ ¬ F y.it.g ∧ y.it.g ≠ x.it.g
  apart : (V0 ++ V1).Pairwise (fun x y => x.it.g ≠ y.it.g ∧ ∀ b, x.P b → ¬ y.P b)
  later : ∀ y ∈ V0 ++ V1, ∀ j, k ≤ j → j < x.it.l.length → ∀ b, y.P b → ¬ x.Q j b
  sets : (∀ k b, k < x.it.l.length → x.Q k b → x.P b ∧ ∀ j, j < x.it.l.length → j ≠ k → ¬ x.Q j b) ∧ (∀ b, x.P b → b < o) ∧ 0 < x.it.l.length ∧ x.it.l.length ≤ 1048576 ∧ 0 < x.it.d
  bmi : o ≤ bm ∧ u.ownBlock ≠ some bm ∧ ¬ F bm
  fin : ∀ b, F b → o ≤ b ∧ b < wr.heap.size ∧ u.ownBlock ≠ some b
  xg : o ≤ x.it.g ∧ x.it.g ≠ bm ∧ u.ownBlock ≠ some x.it.g ∧ ¬ F x.it.g
  comp : CompI D g0 (barePs [p]) wr F ((V0 ++ [x]).map Jt.it)
  xrow : ∃ xs, wr.ownsRow o 28 6 x.v x.it.l.length xs ∧ RowX wr x gc xs k
  kids : ∀ j (h : j < x.qs.length), j < k → 0 < x.qs[j].kids.length → ∃ y ∈ V1, y.it.g = gc j ∧ y.it.l = x.qs[j].kids ∧ y.it.d + 1 = x.it.d
  inj : ∀ i j (h : i < x.qs.length) (h' : j < x.qs.length), i < k → j < k → 0 < x.qs[i].kids.length → 0 < x.qs[j].kids.length → gc i = gc j → i = j
  new : ∀ j (h : j < x.qs.length), j < k → 0 < x.qs[j].kids.length → ∀ y ∈ V0, y.it.g ≠ gc j
  weight : N + (V0.map Jt.K).sum + (V1.map Jt.K).sum + ((x.qs.drop k).map (fun q => wPs q.kids)).sum ≤ M
  small : (V1.map (fun y => 1 + y.K)).sum ≤ ((x.qs.take k).map (fun q => wPs q.kids)).sum
/-- All nodes of the list done. -/
theorem BwC.end_ {o bm g0 D M : Nat} {p : Pt} {u : Value} {N : Nat} {x : Jt} {k : Nat} {V0 V1 : List Jt} {gc : Nat → Nat} {S : List Kv} {F : Nat → Prop} {w0 wr : World} (h : BwC o bm g0 D M p u N x k V0 V1 gc S F w0 wr) (hk : x.it.l.length ≤ k) : BwB o bm g0 D M p u N (V0 ++ V1) S (fun b => F b ∨ b = x.it.g) w0 wr ∧ ((V0 ++ V1).map (fun y => 1 + y.K)).sum < ((V0 ++ [x]).map (fun y => 1 + y.K)).sum := by
  obtain ⟨xs, hown, hql, hbq, hxs⟩ := h.xrow
  have hn := h.sets.2.2.1
  have hml : x.it.l.length ≤ maxLen := by have := h.sets.2.2.2.1; unfold maxLen; omega
  rcases hown.2 with ⟨_, h0⟩ | ⟨g, cap, cur, hv, hgo, hgb, hnc, hcm, hcs, htake⟩
  · omega
  have hg : x.it.g = g := by unfold Jt.v at hv; cases hv; rfl
  subst hg
  have hat : ∀ i, i < x.it.l.length * 6 → cur[i]? = xs[i]? := fun i hi => by rw [← htake, List.getElem?_take_of_lt hi, Array.getElem?_toList]
  have hcomp : CompI D g0 (barePs [p]) wr (fun b => F b ∨ b = x.it.g) ((V0 ++ V1).map Jt.it) := by
    have hc := h.comp
    rw [List.map_append] at hc
    refine hc.step (qs := x.qs) (gc := gc) h.sets.2.2.2.2 hn hml hql hbq hgb (fun j hj => ?_) (fun y hy => ?_) (fun j hj h0 => ?_) (fun i j hi hj h0 h0' e => h.inj i j hi hj (by omega) (by omega) h0 h0' e) (fun y hy => ?_) (fun y hy j hj h0 => ?_) h.xg.2.2.2
    · obtain ⟨e0, e1, e2, e3, e4, A, c, e5, hA, _⟩ := hxs j hj
      exact ⟨(hat _ (by omega)).trans e0, (hat _ (by omega)).trans e1, (hat _ (by omega)).trans e2, (hat _ (by omega)).trans e3, (hat _ (by omega)).trans e4, A, c, (hat _ (by omega)).trans e5, hA (by omega)⟩
    · rw [List.map_append]; exact List.mem_append.2 (.inl hy)
    · obtain ⟨y, hy, e1, e2, e3⟩ := h.kids j hj (by omega) h0
      exact ⟨y.it, List.mem_map.2 ⟨y, List.mem_append.2 (.inr hy), rfl⟩, e1, e2, e3⟩
    · obtain ⟨z, hz, rfl⟩ := List.mem_map.1 hy
      exact (h.items z (List.mem_append.2 (.inl hz))).2.2.2.2.2
    · obtain ⟨z, hz, rfl⟩ := List.mem_map.1 hy
      exact h.new j hj (by omega) h0 z hz
  refine ⟨⟨h.below, h.map, fun key hkey => ?_, h.row, fun y hy => ?_, h.apart, ⟨h.bmi.1, h.bmi.2.1, fun e => e.elim h.bmi.2.2 (fun e => h.xg.2.1 e.symm)⟩, fun b hb => ?_, hcomp, ?_⟩, ?_⟩
  · obtain ⟨a1, g, a2, a3, a4, _⟩ := h.keys key hkey
    exact ⟨a1, g, a2, a3, a4⟩
  · obtain ⟨a1, a2, a3, a4, a5, a6⟩ := h.items y hy
    exact ⟨a1, a2, a3, a4, fun e => e.elim a5 a6⟩
  · rcases hb with hb | hb
    · exact h.fin b hb
    · rw [hb]; exact ⟨h.xg.1, heap_lt hgb, h.xg.2.2.1⟩
  · have := h.weight
    rw [List.map_append, List.sum_append]; omega
  · have hs := h.small
    rw [List.take_of_length_le (by omega)] at hs
    rw [List.map_append, List.sum_append, List.map_append, List.sum_append]
    have : ([x].map (fun y => 1 + y.K)).sum = 1 + x.K := by simp
    rw [this]
    have : x.K = (x.qs.map (fun q => wPs q.kids)).sum := rfl
    omega
/-- The last list taken. -/
theorem BwB.take {o bm g0 D M : Nat} {p : Pt} {u u' : Value} {N : Nat} {x : Jt} {V0 : List Jt} {S : List Kv} {F : Nat → Prop} {w0 wr : World} (h : BwB o bm g0 D M p u N (V0 ++ [x]) S F w0 wr) (hu : u'.ownBlock = u.ownBlock ∨ u'.ownBlock = none) (hrow : wr.ownsRow o 26 1 u' V0.length (V0.map Jt.v)) : BwC o bm g0 D M p u' N x 0 V0 [] (fun _ => 0) S F w0 wr := by
  obtain ⟨hx1, hx2, hx3, hx4, hx5⟩ := h.items x (List.mem_append.2 (.inr (List.mem_singleton.2 rfl)))
  obtain ⟨⟨xs, r1, r2⟩, r3, r4, r5, r6, r7⟩ := hx1
  have hap := List.pairwise_append.1 h.apart
  have hob : ∀ b, u.ownBlock ≠ some b → u'.ownBlock ≠ some b := fun b hb e => by
    rcases hu with hu | hu
    · rw [hu] at e; exact hb e
    · rw [hu] at e; cases e
  have hV : ∀ y ∈ V0, y.it.g ≠ x.it.g ∧ ∀ b, y.P b → ¬ x.P b := fun y hy => hap.2.2 y hy x (List.mem_singleton.2 rfl)
  have hql := r2.1
  refine ⟨h.below, h.map, fun key hk => ?_, by simpa using hrow, fun y hy => ?_, by simpa using hap.1, fun y hy j _ hj b hb hq => ?_, ⟨r3, r4, r5, r6, r7⟩, ⟨h.bmi.1, hob _ h.bmi.2.1, h.bmi.2.2⟩, fun b hb => ⟨(h.fin b hb).1, (h.fin b hb).2.1, hob _ (h.fin b hb).2.2⟩, ⟨hx2, hx3, hob _ hx4, hx5⟩, h.comp, ⟨xs, r1, ⟨hql, fun j h1 h2 => (r2.2 j h1 h2).1, fun j hj => ?_⟩⟩, fun j _ hj => absurd hj (Nat.not_lt_zero _), fun i j _ _ hi => absurd hi (Nat.not_lt_zero _), fun j _ hj => absurd hj (Nat.not_lt_zero _), ?_, by simp⟩
  · obtain ⟨a1, g, a2, a3, a4⟩ := h.keys key hk
    exact ⟨a1, g, a2, a3, fun y hy => a4 y (List.mem_append.2 (.inl (by simpa using hy))), fun j _ hj hq => a4 x (List.mem_append.2 (.inr (List.mem_singleton.2 rfl))) (r3 j g hj hq).1⟩
  · have hy : y ∈ V0 := by simpa using hy
    obtain ⟨a1, a2, a3, a4, a5⟩ := h.items y (List.mem_append.2 (.inl hy))
    exact ⟨a1, a2, a3, hob _ a4, a5, (hV y hy).1⟩
  · exact (hV y (by simpa using hy)).2 b hb (r3 j b hj hq).1
  · obtain ⟨_, _, E, c, e0, e1, e2, e3, e4, e5, e6⟩ := r2.2 j (by omega) hj
    exact ⟨e0, e1, e2, e3, e4, E, c, e5, fun hj => absurd hj (Nat.not_lt_zero _), fun _ => e6⟩
  · have := h.weight
    rw [List.map_append, List.sum_append] at this
    have e : ([x].map Jt.K).sum = (x.qs.map (fun q => wPs q.kids)).sum := by simp [Jt.K]
    rw [e] at this
    simp; omega
end Go.Proofs.Ytbdiahnelnbdnaa
