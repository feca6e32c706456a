/-
  A range over a function whose elements lie in memory that the iterator has made. No statement is proved here.
-/
import Derived.RangeFuncNested
import Derived.RangeFuncBound
import Derived.RangeFuncLeaves
import Derived.Test.YtbdiahnelnbdnaaGreatChecked
import Derived.Test.YtbdiahnelnbdnaaGreatRows
import Derived.WalkKit
import Derived.WalkSpells
import Derived.ProofKit
import Derived.Lib.Hide
import Derived.Laws.BytesString
namespace Go.Proofs.YtbdiahnelnbdnaaGreat
open Go.RowKit
set_option linter.unusedVariables false
/-- What a round that goes on may change: blocks of X, and blocks that are new; no record of a loop from B on. -/
structure KpX (X : World → Nat → Prop) (B : Nat) (W W' : World) : Prop where
  size : W.heap.size ≤ W'.heap.size
  cells : ∀ k o, W.heap[k]? = some o → o.isCells = true → ¬ X W k → W'.heap[k]? = some o
  rest : ∀ k o, B ≤ k → W.heap[k]? = some o → o.isCells = false → W'.heap[k]? = some o
  own : ∀ b, X W' b → X W b ∨ (W.heap.size ≤ b ∧ b < W'.heap.size)
/-- X is read off cells that were there ahead of K. -/
def OwnX (X : World → Nat → Prop) (K : Nat) : Prop := ∀ (W W' : World) (row : Option Nat), K ≤ W.heap.size → W.grownBy W' row → (∀ r, row = some r → K ≤ r ∧ ∃ o : Obj, W.heap[r]? = some o ∧ o.isCells = false) → ∀ b, X W' b → X W b
theorem KpX.trans {X : World → Nat → Prop} {B : Nat} {U V W : World} (h : KpX X B U V) (k : KpX X B V W) : KpX X B U W :=
  ⟨Nat.le_trans h.size k.size, fun i o hi ho hx => k.cells i o (h.cells i o hi ho hx) ho (fun hx' => (h.own i hx').elim hx (fun h' => by have := (Array.getElem?_eq_some_iff.1 hi).1; omega)),
    fun i o hB hi ho => k.rest i o hB (h.rest i o hB hi ho) ho,
    fun b hb => (k.own b hb).elim (fun h1 => (h.own b h1).imp id (fun h2 => ⟨h2.1, by have := k.size; omega⟩)) (fun h1 => .inr ⟨by have := h.size; omega, h1.2⟩)⟩
theorem KpX.mono {X : World → Nat → Prop} {B B' : Nat} {U V : World} (h : KpX X B U V) (hB : B ≤ B') : KpX X B' U V := ⟨h.size, h.cells, fun k o hk => h.rest k o (by omega), h.own⟩
theorem KpX.grown {X : World → Nat → Prop} {K B : Nat} (hX : OwnX X K) {W W' : World} (hK : K ≤ W.heap.size) (hg : W.grownBy W' none) : KpX X B W W' :=
  ⟨hg.size, fun k o hk _ _ => (hg.block k (Array.getElem?_eq_some_iff.1 hk).1 (by simp)).trans hk, fun k o _ hk _ => (hg.block k (Array.getElem?_eq_some_iff.1 hk).1 (by simp)).trans hk, fun b hb => .inl (hX W W' none hK hg (fun _ e => by cases e) b hb)⟩
theorem KpX.put {X : World → Nat → Prop} {K B : Nat} (hX : OwnX X K) {W : World} {l : Nat} {o : Obj} (o' : Obj) (hK : K ≤ W.heap.size) (hl : W.heap[l]? = some o) (ho : o.isCells = false) (h1 : K ≤ l) (h2 : l < B) : KpX X B W (W.putObj l o') :=
  ⟨(grownBy_putObj' W l o').size, fun k p hk hp _ => (World.putObj_heap_other (fun e => by subst e; rw [hl] at hk; cases hk; rw [ho] at hp; cases hp)).trans hk, fun k p hB hk _ => (World.putObj_heap_other (by omega)).trans hk,
    fun b hb => .inl (hX W _ (some l) hK (grownBy_putObj' W l o') (fun r e => by cases e; exact ⟨h1, o, hl, ho⟩) b hb)⟩
theorem KpX.block {X : World → Nat → Prop} {B : Nat} {U V : World} (h : KpX X B U V) {b : Nat} {cs : Array Value} {t : TypeId} {f : Nat × Nat} (hb : U.heap[b]? = some (.cells cs t f)) (hx : ¬ X U b) : V.heap[b]? = some (.cells cs t f) := h.cells b _ hb rfl hx
theorem KpX.cell {X : World → Nat → Prop} {B : Nat} {U V : World} (h : KpX X B U V) {p : Addr} {v : Value} (hp : U.cell? p = some v) (hx : ¬ X U p.block) : V.cell? p = some v := by
  obtain ⟨o, ho, hc⟩ := cells_of_cell hp
  exact (World.cell?_of_block ((h.cells _ _ ho hc hx).trans ho.symm)).trans hp
theorem ownFrom_kpX {β : Type} {X : World → Nat → Prop} {K B B' : Nat} (hX : OwnX X K) {U : World} (hK : K ≤ U.heap.size) (hU : U.heap.size ≤ B') : OwnFrom B' (fun (_ : β) W => KpX X B U W) := fun _ V W row h hg hr =>
  ⟨Nat.le_trans h.size hg.size, fun k o hk hc hx => by
      have h1 := h.cells k o hk hc hx
      exact (hg.block k (Array.getElem?_eq_some_iff.1 h1).1 (fun e => by have := (hr k e.symm).1; have := (Array.getElem?_eq_some_iff.1 hk).1; omega)).trans h1,
    fun k o hB hk hc => by
      have h1 := h.rest k o hB hk hc
      exact (hg.block k (Array.getElem?_eq_some_iff.1 h1).1 (fun e => by have := (hr k e.symm).1; have := (Array.getElem?_eq_some_iff.1 hk).1; omega)).trans h1,
    fun b hb => (h.own b (hX V W row (Nat.le_trans hK h.size) hg (fun r e => ⟨by have := (hr r e).1; omega, (hr r e).2⟩) b hb)).imp id (fun h2 => ⟨h2.1, by have := hg.size; omega⟩)⟩
/-- The iterator's contract: what it hands over is as Gd says. -/
def SeqG {α : Type} (P : Program) (gf : Nat) (lb : Array Value) (encs : α → Array Value) (Gd : List α → α → World → Prop) (X : World → Nat → Prop) (S Sp : List α → Prop) (w : World) : Prop :=
  ∀ (l : Nat) (J Jx : List α → World → Prop) (W : World), Below w.heap.size w W → OwnFrom W.heap.size J → OwnFrom W.heap.size Jx →
    (∀ m pre x W1, J pre W1 → Gd pre x W1 → YieldAt Fence.wide m P l (encs x) W1 fun e W' =>
      (e = .returned (.bool true) ∧ J (pre ++ [x]) W' ∧ KpX X W.heap.size W1 W') ∨ (e = .returned (.bool false) ∧ KeepsFrom W.heap.size W1 W' ∧ Jx (pre ++ [x]) W')) →
    J [] W →
    ∀ m, CallsIn Fence.wide m P gf (#[.func (.yield l) #[] #[]] ++ lb) W fun e W' => (∃ v, e = .returned v) ∧ ((∃ xs, S xs ∧ J xs W') ∨ (∃ pre, Sp pre ∧ Jx pre W'))
/-- How a round may be left. -/
def postG {α : Type} (X : World → Nat → Prop) (B : Nat) (I : List α → World → Prop) (Ix : Code → List α → World → Prop) (xs : List α) (W : World) : Exit → Act → World → Prop
  | .normal, _, W' => KpX X B W W' ∧ I xs W'
  | .ret, _, W' => KeepsFrom B W W' ∧ Ix .ret xs W'
  | .exit id, _, W' => KeepsFrom B W W' ∧ Ix (.exit id) xs W'
  | .goto t, _, W' => KeepsFrom B W W' ∧ Ix (.goto t) xs W'
  | .panic _, _, _ => False
  | .outgrown, _, _ => False
variable {P : Program}
set_option maxHeartbeats 1000000 in
theorem wp_rangeG {α : Type} {g : Operand} {ps : Array Tmp} {assign body : Code} {Q : Exit → Act → World → Prop} {a : Act} {w w0 : World} {gf : Nat} {lb : Array Value} {X : World → Nat → Prop} {K : Nat}
    (hX : OwnX X K) (hK : K ≤ w.heap.size) (hg : a.eval g = .func (.func gf) #[] lb) (eg : ∀ args w, (callFunc gf args).run P w = .ok (.enter gf args) w)
    {encs : α → Array Value} {Gd : List α → α → World → Prop} {S Sp : List α → Prop} (hseq : SeqG P gf lb encs Gd X S Sp w0) (hb0 : Below w0.heap.size w0 w) (hps : ∀ x, (encs x).size = ps.size)
    (hGd : ∀ pre x, OwnFrom w.heap.size (fun (_ : Unit) W => Gd pre x W))
    (I : List α → World → Prop) (Ix : Code → List α → World → Prop) (hI : OwnFrom w.heap.size I) (hIx : ∀ c, OwnFrom w.heap.size (Ix c)) (h0 : I [] w) (a₁ : α → Act)
    (hassign : ∀ (m l : Nat) (x : α) (W : World) (K : Act → World → Prop), K (a₁ x) W →
      assign.wpIn (Fence.wide.inRound l) m P (Exit.then K (fun _ _ _ => False)) { tmps := (ps.zip (encs x)).foldl (fun t (p, v) => t.setIfInBounds p v) a.tmps, defers := [] } W)
    (hbody : ∀ (m l : Nat) (pre : List α) (x : α) (W : World), w.heap.size ≤ W.heap.size → I pre W → Gd pre x W → body.wpIn (Fence.wide.inRound l) m P (postG X w.heap.size I Ix (pre ++ [x]) W) (a₁ x) W)
    (hdone : ∀ (D : Nat) (xs : List α) (W : World), w.heap.size ≤ D → S xs → I xs W → W.heap[D]? = some (.deferred (some [])) → Q .normal { a with defers := { target := .collected D, args := #[] } :: a.defers } W)
    (hstop : ∀ (n D : Nat) (c : Code) (pre : List α) (W : World), w.heap.size ≤ D → Sp pre → Ix c pre W → W.heap[D]? = some (.deferred (some [])) → c.wpIn Fence.wide n P Q { a with defers := { target := .collected D, args := #[] } :: a.defers } W) (n : Nat) :
    (Code.rangeFunc g ps assign body).wpIn Fence.wide n P Q a w := by
  refine wpIn_rangeFunc (fun fn hfn => ?_)
  obtain ⟨R, hR⟩ : ∃ R : LoopState → Option Code → Loop, R = fun st pe => { state := st, pending := pe, fn, tmps := a.tmps, params := ps, assign, body, defers := w.heap.size } := ⟨_, rfl⟩
  obtain ⟨V, hV⟩ : ∃ V, (w.alloc (.deferred (some []))).alloc (.loop (R .ready none)) = V := ⟨_, rfl⟩
  have hVs : V.heap.size = w.heap.size + 2 := by rw [← hV]; simp
  have hL : V.heap[w.heap.size + 1]? = some (.loop (R .ready none)) := by
    have h := World.alloc_heap_new (w.alloc (.deferred (some []))) (.loop (R .ready none))
    rw [World.size_alloc] at h; rw [← hV]; exact h
  have hD : V.heap[w.heap.size]? = some (.deferred (some [])) := by rw [← hV]; exact (Below.heap_alloc _ _ _ (by simp)).trans (World.alloc_heap_new w _)
  have hIV : I [] V := by rw [← hV]; exact hI.alloc _ (hI.alloc _ h0)
  have hbV : Below w0.heap.size w0 V := by rw [← hV]; exact hb0.trans ((((Below.refl _ w).alloc (Nat.le_refl _) _).alloc (by simp) _).mono hb0.size)
  refine ⟨w.heap.size + 1, [{ target := .collected w.heap.size, args := #[] }], V, { target := .fn (.func gf) lb, args := #[.func (.yield (w.heap.size + 1)) #[] #[]] }, V, gf, #[.func (.yield (w.heap.size + 1)) #[] #[]] ++ lb, V, ?_, ?_, fun _ _ => trivial, ?_, fun h => by simp [Fence.wide] at h, ?_⟩
  · rw [← hV, hR]; exact run_enterLoop_outer _ _ _ _ _
  · simp only [resolve, hg]; simp [go_sem]
  · simp [invoke, go_sem, eg]
  have keep : ∀ {A B : World} {row : Option Nat}, A.grownBy B row → (∀ r, row = some r → V.heap.size ≤ r ∧ ∃ o : Obj, A.heap[r]? = some o ∧ o.isCells = false) → ∀ {k o}, k < w.heap.size + 2 → A.heap[k]? = some o → B.heap[k]? = some o := fun hg' hr k o hk h =>
    (hg'.block k (Array.getElem?_eq_some_iff.1 h).1 (fun e => by have := (hr k e.symm).1; omega)).trans h
  have less : ∀ {A : World} {row : Option Nat}, (∀ r, row = some r → V.heap.size ≤ r ∧ ∃ o : Obj, A.heap[r]? = some o ∧ o.isCells = false) → (∀ r, row = some r → w.heap.size ≤ r ∧ ∃ o : Obj, A.heap[r]? = some o ∧ o.isCells = false) := fun hr r e => ⟨by have := (hr r e).1; omega, (hr r e).2⟩
  refine (hseq (w.heap.size + 1)
    (fun pre W => I pre W ∧ W.heap[w.heap.size + 1]? = some (.loop (R .ready none)) ∧ W.heap[w.heap.size]? = some (.deferred (some [])))
    (fun pre W => ∃ c, Ix c pre W ∧ W.heap[w.heap.size + 1]? = some (.loop (R .done (some c))) ∧ W.heap[w.heap.size]? = some (.deferred (some []))) V hbV
    (fun s A B row hs hg' hr => ⟨hI s A B row hs.1 hg' (less hr), keep hg' hr (by omega) hs.2.1, keep hg' hr (by omega) hs.2.2⟩)
    (fun s A B row hs hg' hr => by obtain ⟨c, h1, h2, h3⟩ := hs; exact ⟨c, hIx c s A B row h1 hg' (less hr), keep hg' hr (by omega) h2, keep hg' hr (by omega) h3⟩)
    ?_ ⟨hIV, hL, hD⟩ (n - 1)).mono ?_
  · rintro m pre x W ⟨hi, hl, hk⟩ hx
    have hlt : w.heap.size + 1 < W.heap.size := (Array.getElem?_eq_some_iff.1 hl).1
    have hy := run_yield (P := P) (args := encs x) hl (by rw [hR]; exact hps x)
    rw [hR] at hy
    refine ⟨fn, _, assign, body, hy, roundIn_of_wpIn hfn (hassign _ _ x W _ ⟨_, run_beginRound hl (by rw [hR]), ?_⟩)⟩
    clear hy
    obtain ⟨W2, hW2⟩ : ∃ W2, W.putObj (w.heap.size + 1) (.loop { R .ready none with state := .busy }) = W2 := ⟨_, rfl⟩
    rw [hW2]
    have hl2 : W2.heap[w.heap.size + 1]? = some (.loop { R .ready none with state := .busy }) := by rw [← hW2]; exact World.putObj_heap_same hlt
    have hk2 : W2.heap[w.heap.size]? = some (.deferred (some [])) := by rw [← hW2]; exact (World.putObj_heap_other (by omega)).trans hk
    have hp2 : KpX X V.heap.size W W2 := by rw [← hW2]; exact KpX.put hX _ (by omega) hl rfl (by omega) (by omega)
    have hi2 : I pre W2 := by rw [← hW2]; exact hI.putObj _ hi (by omega) hl rfl
    have hx2 : Gd pre x W2 := by rw [← hW2]; exact (hGd pre x).putObj (s := ()) _ hx (by omega) hl rfl
    refine wpIn_mono (hbody m _ pre x W2 (by have := hp2.size; omega) hi2 hx2) ?_
    have fin : ∀ (jump : Option Code) (W3 : World), KeepsFrom w.heap.size W2 W3 → ∃ W4, W4 = W3.putObj (w.heap.size + 1) (.loop (R (if jump.isNone then .ready else .done) jump)) ∧ (Instr.endRound (w.heap.size + 1) jump).run P W3 = .ok (.bool jump.isNone) W4 ∧
        W3.heap[w.heap.size + 1]? = some (.loop { R .ready none with state := .busy }) ∧ W4.heap[w.heap.size + 1]? = some (.loop (R (if jump.isNone then .ready else .done) jump)) ∧ W4.heap[w.heap.size]? = some (.deferred (some [])) := fun jump W3 hk3 => by
      have hl3 := hk3.same _ _ (by omega) hl2 rfl
      have hr := run_endRound (P := P) jump hl3
      rw [hR] at hr
      refine ⟨_, rfl, by rw [hR]; exact hr, hl3, World.putObj_heap_same (Array.getElem?_eq_some_iff.1 hl3).1, (World.putObj_heap_other (by omega)).trans (hk3.same _ _ (Nat.le_refl _) hk2 rfl)⟩
    rintro e a3 W3 hp
    have stop : ∀ c : Code, KeepsFrom w.heap.size W2 W3 → Ix c (pre ++ [x]) W3 → ∃ v w', (Instr.endRound (w.heap.size + 1) (some c)).run P W3 = .ok v w' ∧ ((Ending.returned v = .returned (.bool true) ∧ (I (pre ++ [x]) w' ∧ w'.heap[w.heap.size + 1]? = some (.loop (R .ready none)) ∧ w'.heap[w.heap.size]? = some (.deferred (some []))) ∧ KpX X V.heap.size W w') ∨ (Ending.returned v = .returned (.bool false) ∧ KeepsFrom V.heap.size W w' ∧ ∃ c, Ix c (pre ++ [x]) w' ∧ w'.heap[w.heap.size + 1]? = some (.loop (R .done (some c))) ∧ w'.heap[w.heap.size]? = some (.deferred (some [])))) := fun c h1 h2 => by
      obtain ⟨W4, e4, hr, hl3, hl4, hk4⟩ := fin (some c) W3 h1
      have hk24 : KeepsFrom V.heap.size W W4 := ⟨by have a1 := hp2.size; have a2 := h1.size; have a3 := (grownBy_putObj' W3 (w.heap.size + 1) (.loop (R (if (some c).isNone then .ready else .done) (some c)))).size; rw [← e4] at a3; omega, fun k o hB hk ho => by
        have h3 := h1.same k o (by omega) (hp2.rest k o hB hk ho) ho
        rw [e4]
        exact (World.putObj_heap_other (by omega)).trans h3⟩
      exact ⟨_, _, hr, .inr ⟨rfl, hk24, c, by rw [e4]; exact (hIx c).putObj _ h2 (by omega) hl3 rfl, hl4, hk4⟩⟩
    cases e with
    | normal =>
      obtain ⟨h1, h2⟩ := hp
      obtain ⟨W4, e4, hr, hl3, hl4, hk4⟩ := fin none W3 ⟨h1.size, h1.rest⟩
      refine ⟨_, _, hr, .inl ⟨rfl, ⟨by rw [e4]; exact hI.putObj _ h2 (by omega) hl3 rfl, hl4, hk4⟩, ?_⟩⟩
      rw [e4]
      exact (hp2.trans (h1.mono (by omega))).trans (KpX.put hX _ (by have := h1.size; have := hp2.size; omega) hl3 rfl (by omega) (by omega))
    | ret => exact stop _ hp.1 hp.2
    | exit id => exact stop _ hp.1 hp.2
    | goto t => exact stop _ hp.1 hp.2
    | panic ch => exact hp.elim
    | outgrown => exact hp.elim
  · rintro e W2 ⟨⟨v, rfl⟩, (⟨xs, hS, hi, hl, hk⟩ | ⟨pre, hSp, c, hi, hl, hk⟩)⟩
    · have hr := run_endLoop (P := P) hl (by rw [hR]; simp)
      rw [hR] at hr
      exact ⟨none, _, hr, hdone _ xs _ (Nat.le_refl _) hS (hI.putObj _ hi (by omega) hl rfl) ((World.putObj_heap_other (by omega)).trans hk)⟩
    · have hr := run_endLoop (P := P) hl (by rw [hR]; simp)
      rw [hR] at hr
      exact ⟨some c, _, hr, hstop _ _ c pre _ (Nat.le_refl _) hSp ((hIx c).putObj _ hi (by omega) hl rfl) ((World.putObj_heap_other (by omega)).trans hk)⟩
end Go.Proofs.YtbdiahnelnbdnaaGreat
/-
  Types, constructors and data types as they lie in memory: slices of structs that hold strings, integers and slices; and how much they hold. No statement is proved here.
-/
namespace Go.Proofs.YtbdiahnelnbdnaaGreat
open Go.RowKit
set_option linter.unusedVariables false
structure Ty where
  data : Int
  index : Int
deriving DecidableEq, Inhabited
structure Ct where
  name : ByteArray
  args : List Ty
  index : Int
deriving Inhabited
structure Da where
  name : ByteArray
  ctors : List Ct
deriving Inhabited
def RTy (w : World) (b o : Nat) (t : Ty) : Prop := w.cell? ⟨b, o, none⟩ = some (.int .i64 t.data) ∧ w.cell? ⟨b, o + 1, none⟩ = some (.int .i64 t.index)
def RTys (w : World) (B : Nat) (A : Option Addr) (l : List Ty) : Prop := l.length ≤ maxLen ∧ ∀ k (h : k < l.length), ∃ b off, A = some ⟨b, off, none⟩ ∧ b < B ∧ RTy w b (off + k * 2) l[k]
def RCt (w : World) (B : Nat) (b o : Nat) (c : Ct) : Prop :=
  ∃ A cap, w.cell? ⟨b, o, none⟩ = some (.string c.name) ∧ w.cell? ⟨b, o + 1, none⟩ = some (.slice A c.args.length cap) ∧ w.cell? ⟨b, o + 2, none⟩ = some (.int .i64 c.index) ∧ c.name.size ≤ maxLen ∧ RTys w B A c.args
def RCts (w : World) (B : Nat) (A : Option Addr) (l : List Ct) : Prop := l.length ≤ maxLen ∧ ∀ k (h : k < l.length), ∃ b off, A = some ⟨b, off, none⟩ ∧ b < B ∧ RCt w B b (off + k * 3) l[k]
def RDa (w : World) (B : Nat) (b o : Nat) (d : Da) : Prop :=
  ∃ A cap, w.cell? ⟨b, o, none⟩ = some (.string d.name) ∧ w.cell? ⟨b, o + 1, none⟩ = some (.slice A d.ctors.length cap) ∧ d.name.size ≤ maxLen ∧ RCts w B A d.ctors
def RDas (w : World) (B : Nat) (A : Option Addr) (l : List Da) : Prop := l.length ≤ maxLen ∧ ∀ k (h : k < l.length), ∃ b off, A = some ⟨b, off, none⟩ ∧ b < B ∧ RDa w B b (off + k * 2) l[k]
section
variable {w w' : World} {B B' : Nat} {A : Option Addr}
theorem RTys.keep {l : List Ty} (h : RTys w B A l) (hk : ∀ p : Addr, p.block < B → w'.cell? p = w.cell? p) (hB : B ≤ B') : RTys w' B' A l :=
  ⟨h.1, fun k hk' => by
    obtain ⟨b, off, e, hb, h1, h2⟩ := h.2 k hk'
    exact ⟨b, off, e, by omega, (hk _ hb).trans h1, (hk _ hb).trans h2⟩⟩
theorem RCts.keep {l : List Ct} (h : RCts w B A l) (hk : ∀ p : Addr, p.block < B → w'.cell? p = w.cell? p) (hB : B ≤ B') : RCts w' B' A l :=
  ⟨h.1, fun k hk' => by
    obtain ⟨b, off, e, hb, A', cap, h1, h2, h3, h4, h5⟩ := h.2 k hk'
    exact ⟨b, off, e, by omega, A', cap, (hk _ hb).trans h1, (hk _ hb).trans h2, (hk _ hb).trans h3, h4, h5.keep hk hB⟩⟩
theorem RDas.keep {l : List Da} (h : RDas w B A l) (hk : ∀ p : Addr, p.block < B → w'.cell? p = w.cell? p) (hB : B ≤ B') : RDas w' B' A l :=
  ⟨h.1, fun k hk' => by
    obtain ⟨b, off, e, hb, A', cap, h1, h2, h3, h4⟩ := h.2 k hk'
    exact ⟨b, off, e, by omega, A', cap, (hk _ hb).trans h1, (hk _ hb).trans h2, h3, h4.keep hk hB⟩⟩
theorem RTys.below {B0 : Nat} {l : List Ty} (h : RTys w B A l) (hb : Below B0 w w') (hB : B ≤ B0) : RTys w' B A l := h.keep (fun _ hp => hb.cell (Nat.lt_of_lt_of_le hp hB)) (Nat.le_refl _)
theorem RCts.below {B0 : Nat} {l : List Ct} (h : RCts w B A l) (hb : Below B0 w w') (hB : B ≤ B0) : RCts w' B A l := h.keep (fun _ hp => hb.cell (Nat.lt_of_lt_of_le hp hB)) (Nat.le_refl _)
theorem RDas.below {B0 : Nat} {l : List Da} (h : RDas w B A l) (hb : Below B0 w w') (hB : B ≤ B0) : RDas w' B A l := h.keep (fun _ hp => hb.cell (Nat.lt_of_lt_of_le hp hB)) (Nat.le_refl _)
end

/-! How much a value holds. -/
def wCt (c : Ct) : Nat := c.name.size + c.args.length
def wCts (l : List Ct) : Nat := l.length + (l.map wCt).sum
def wDa (d : Da) : Nat := d.name.size + wCts d.ctors
def wDas (l : List Da) : Nat := l.length + (l.map wDa).sum
/-- What is left of a number, or -1. -/
def left (l : Int) (n : Nat) : Int := if (n : Int) ≤ l then l - n else -1
theorem left_ok {l : Int} {n : Nat} (h : (n : Int) ≤ l) : left l n = l - n := if_pos h
theorem left_no {l : Int} {n : Nat} (h : ¬ (n : Int) ≤ l) : left l n = -1 := if_neg h
theorem sum_take_succ {α : Type} (f : α → Nat) (l : List α) (k : Nat) (h : k < l.length) : ((l.take (k + 1)).map f).sum = ((l.take k).map f).sum + f l[k] := by
  rw [List.take_succ_eq_append_getElem h]; simp only [List.map_append, List.sum_append, List.map_cons, List.map_nil, List.sum_cons, List.sum_nil]; omega
theorem sum_take_le {α : Type} (f : α → Nat) (l : List α) (k : Nat) : ((l.take k).map f).sum ≤ (l.map f).sum := by
  conv => rhs; rw [← List.take_append_drop k l]
  simp only [List.map_append, List.sum_append]; omega
end Go.Proofs.YtbdiahnelnbdnaaGreat
/-
  The text of a mark. No statement is proved here.
-/
namespace Go.Proofs.YtbdiahnelnbdnaaGreat
open Go.RowKit
set_option maxRecDepth 100000
set_option linter.unusedVariables false
/-- A string of one byte. -/
def one (x : Int) : ByteArray := ByteArray.empty.push (UInt8.ofNat x.toNat)
theorem one_size (x : Int) : (one x).size = 1 := rfl
theorem conv_one (w : World) (x : Int) : (Go.convert 76 9 (.slice (some ⟨w.heap.size, 0, none⟩) 1 1)).run Tryz.prog (w.alloc (.cells #[.int .u8 x] 5)) = .ok (.string (one x)) (w.alloc (.cells #[.int .u8 x] 5)) := by
  rw [run_convert_bytes_string _ 76 9 5 _ 1 1 Tryz.underlying76 Tryz.underlying5 Tryz.underlying9]
  exact run_bytesToString _ ⟨w.heap.size, 0, none⟩ 1 1 [x] (by simp [loadCells, go_sem])
theorem quo_le {m : Int} (h : 0 < m) : 0 ≤ m / 10 ∧ m / 10 + 1 ≤ m := by omega
set_option maxHeartbeats 800000 in
theorem markText_any (k : Int) (w : World) (h0 : 0 < k) (h1 : k ≤ 8388608) :
    Calls Tryz.prog 29 #[.int .i64 k] w fun e w' => ∃ s : ByteArray, e = .returned (.string s) ∧ s.size ≤ 8388609 ∧ Below w.heap.size w w' := by
  go_enter Tryz.func29, Tryz.ntmps29
  go_wp2_with fail
  go_loopw [0, 3] (fun q t wr => ∃ m : Int, 0 ≤ m ∧ m ≤ k ∧ q = .int .i64 m ∧ ∃ s : ByteArray, t = .string s ∧ (s.size : Int) + m ≤ k ∧ Below w.heap.size w wr) (fun q _ _ => (intOf q).toNat)
  case atStart => exact ⟨k, by omega, by omega, rfl, ByteArray.empty, rfl, by simp, Below.refl _ _⟩
  case round =>
    obtain ⟨m, hm0, hm1, rfl, s, rfl, hs, hb⟩ := hrel
    have hlw := hb.size
    by_cases hlt : 0 < m
    · have hq := quo_le hlt
      have hq0 := hq.1
      have hq1 := hq.2
      clear hq
      have hcv := conv_one wr
      have hos := one_size
      go_wp2_with fail
      go_roundw
      case rel => exact ⟨m / 10, by omega, by omega, rfl, _, rfl, by rw [ByteArray.size_append, one_size]; push_cast; omega, hb.alloc hlw _⟩
      case measure => simp [intOf]; omega
    · go_wp2_with fail
      go_ret
      exact ⟨_, rfl, by rw [ByteArray.size_append]; have : (ByteArray.mk #[109]).size = 1 := rfl; omega, hb⟩
end Go.Proofs.YtbdiahnelnbdnaaGreat
/-
  The functions that copy types, constructors and data types into memory of their own. No statement is proved here.
-/
namespace Go.Proofs.YtbdiahnelnbdnaaGreat
open Go.RowKit
set_option maxRecDepth 100000
set_option linter.unusedVariables false
theorem info34 : (Tryz.prog.info? 35).map (fun i => (i.zero, i.size, i.bytes)) = some (some (.agg #[.int .i64 0, .int .i64 0]), 2, 16) := by kernel_rfl
theorem info59 : (Tryz.prog.info? 79).map (fun i => (i.zero, i.size, i.bytes)) = some (some (.agg #[.string ByteArray.empty, .slice none 0 0, .int .i64 0]), 3, 48) := by kernel_rfl
theorem info56 : (Tryz.prog.info? 57).map (fun i => (i.zero, i.size, i.bytes)) = some (some (.agg #[.string ByteArray.empty, .slice none 0 0]), 2, 40) := by kernel_rfl
theorem bcell {W w1 : World} (hb : Below W.heap.size W w1) : (∀ b o, b < W.heap.size → w1.cell? ⟨b, o, none⟩ = W.cell? ⟨b, o, none⟩) ∧ (∀ b o, b < W.heap.size → w1.frozen? ⟨b, o, none⟩ = W.frozen? ⟨b, o, none⟩) :=
  ⟨fun b o h => hb.cell (p := ⟨b, o, none⟩) h, fun b o h => hb.frozen (p := ⟨b, o, none⟩) h⟩
/-- Types in a block of their own. -/
def FTys (w : World) (lo g : Nat) (l : List Ty) : Prop :=
  lo ≤ g ∧ l.length ≤ maxLen ∧ ∃ cs, w.heap[g]? = some (.cells cs 35 (0, 0)) ∧ cs.size = l.length * 2 ∧ ∀ k (h : k < l.length), cs[k * 2]? = some (.int .i64 l[k].data) ∧ cs[k * 2 + 1]? = some (.int .i64 l[k].index)
theorem toType_any (d i : Int) (w : World) :
    Calls Tryz.prog 8 #[.agg #[.int .i64 d, .int .i64 i]] w fun e w' => e = .returned (.agg #[.int .i64 d, .int .i64 i]) ∧ Below w.heap.size w w' := by
  go_enter Tryz.func8, Tryz.ntmps8
  go_wp2
  refine bodyPost_ret (v := .agg #[.int .i64 d, .int .i64 i]) (by simp [results, Tryz.results8, go_sem]) rfl ⟨rfl, ?_⟩
  exact (((Below.refl _ _).alloc (Nat.le_refl _) _).alloc (by simp) _).alloc (by simp; omega) _
theorem below_of_grown {B : Nat} {w w' : World} (h : w.grownBy w' none) (hB : B ≤ w.heap.size) : Below B w w' :=
  (Below.refl B w).grown h hB (fun k e => by cases e)
theorem own_below {w w' : World} {base : Nat} {e : TypeId} {size : Nat} {v : Value} {n : Nat} {xs : List Value} (h : w.ownsRow base e size v n xs) (hb : Below w.heap.size w w') : w'.ownsRow base e size v n xs :=
  h.kept (row := none) ⟨hb.os, hb.tape, hb.output, hb.size, fun k hk _ => hb.block k hk⟩ (by
    rcases h.2 with ⟨rfl, _⟩ | ⟨g, cap, cur, rfl, _⟩
    · exact .inl rfl
    · exact .inr (by simp [Value.ownBlock]))
theorem own_cell {w : World} {base : Nat} {e : TypeId} {size g n cap : Nat} {xs : List Value} (h : w.ownsRow base e size (.slice (some ⟨g, 0, none⟩) n cap) n xs) (j : Nat) (hj : j < n * size) : ∃ v, w.cell? ⟨g, j, none⟩ = some v := by
  have hl : j < xs.length := by have := h.1; omega
  exact ⟨xs[j], by rw [h.cellAt j hj]; exact List.getElem?_eq_getElem hl⟩
theorem own_lt {w : World} {base : Nat} {e : TypeId} {size g n cap : Nat} {xs : List Value} (h : w.ownsRow base e size (.slice (some ⟨g, 0, none⟩) n cap) n xs) : g < w.heap.size := (h.lt g rfl).2
/-- What the first k rounds of a copy of types have left in the row. -/
def TyRow (l : List Ty) (xs : List Value) (k : Nat) : Prop := ∀ j (h : j < l.length), j < k → xs[j * 2]? = some (.int .i64 l[j].data) ∧ xs[j * 2 + 1]? = some (.int .i64 l[j].index)
theorem TyRow.zero (l : List Ty) (xs : List Value) : TyRow l xs 0 := fun j _ h => absurd h (by omega)
theorem TyRow.step {l : List Ty} {xs : List Value} {k : Nat} (h : TyRow l xs k) (hk : k < l.length) (hx : xs.length = l.length * 2) :
    TyRow l ((xs.set (k * 2) (.int .i64 l[k].data)).set (k * 2 + 1) (.int .i64 l[k].index)) (k + 1) := by
  intro j hj hjk
  by_cases e : j = k
  · subst e
    constructor
    · rw [List.getElem?_set_ne (by omega), List.getElem?_set_self (by omega)]
    · rw [List.getElem?_set_self (by simp; omega)]
  · obtain ⟨a, b⟩ := h j hj (by omega)
    constructor
    · rw [List.getElem?_set_ne (by omega), List.getElem?_set_ne (by omega), a]
    · rw [List.getElem?_set_ne (by omega), List.getElem?_set_ne (by omega), b]
theorem FTys.of_row {w : World} {lo g : Nat} {l : List Ty} {xs : List Value} (h : w.ownsRow lo 35 2 (.slice (some ⟨g, 0, none⟩) l.length l.length) l.length xs) (hx : TyRow l xs l.length) (hn : l.length ≤ 1048576) : FTys w lo g l := by
  rcases h.2 with ⟨h', _⟩ | ⟨g', cap', cur, h', hb, hg, hnc, hcm, hcs, htake⟩
  · simp at h'
  · simp only [Value.slice.injEq, Option.some.injEq, Addr.mk.injEq, and_true, true_and] at h'
    obtain ⟨rfl, rfl⟩ := h'
    refine ⟨hb, by unfold maxLen; omega, cur, hg, hcs, fun k hk => ?_⟩
    rw [List.take_of_length_le (by rw [Array.length_toList]; omega)] at htake
    rw [← Array.getElem?_toList, ← Array.getElem?_toList, htake]
    exact hx k hk hk
set_option maxHeartbeats 800000 in
theorem toTypeS_any (A : Option Addr) (l : List Ty) (cap : Nat) (w : World) (hr : RTys w w.heap.size A l) (hn : l.length ≤ 1048576) :
    Calls Tryz.prog 65 #[.slice A l.length cap] w fun e w' => ∃ g, e = .returned (.slice (some ⟨g, 0, none⟩) l.length l.length) ∧ FTys w' w.heap.size g l ∧ Below w.heap.size w w' := by
  obtain ⟨i0, hi, hz0, hz1, hz2⟩ := info_parts info34
  have Hr := Lib.hid hr
  clear hr
  go_enter Tryz.func65, Tryz.ntmps65
  go_wp2_with (at_make; refine wpList_make_full _ rfl _ _ 77 rfl w.heap.size 35 i0 _ 2 Tryz.underlying77 hi hz0 hz1 _ _ _ _ l.length rfl rfl rfl rfl (by rw [hz2]; omega) (by unfold maxLen; omega) (Nat.le_refl _) ?_; intro w1 hown hgr)
  go_loopw [4] (fun i wr => ∃ k : Nat, k ≤ l.length ∧ i = .int .i64 k ∧ ∃ xs, wr.ownsRow w.heap.size 35 2 (.slice (some ⟨w.heap.size, 0, none⟩) l.length l.length) l.length xs ∧ TyRow l xs k ∧ Below w.heap.size w wr) (fun i _ => l.length - (intOf i).toNat)
  case atStart => exact ⟨0, by omega, rfl, _, hown, TyRow.zero _ _, below_of_grown hgr (Nat.le_refl _)⟩
  case round =>
    obtain ⟨k, hk, rfl, xs, hown, hrow, hb⟩ := hrel
    clear hgr hi hz0 hz1 hz2
    by_cases hlt : k < l.length
    · obtain ⟨b, off, rfl, hbB, c0, c1⟩ := (Hr.out.below hb (Nat.le_refl _)).2 k hlt
      go_wp2_with (go_at_call 8; refine (toType_any _ _ _).mono ?_; rintro e w2 ⟨rfl, hb2⟩; have hown2 := own_below hown hb2; obtain ⟨v0, f0⟩ := own_cell hown2 (k * 2) (by omega); obtain ⟨v1, f1⟩ := own_cell hown2 (k * 2 + 1) (by omega); have g0 := hown2.frozenAt (k * 2); have g1 := hown2.frozenAt (k * 2 + 1))
      have hx := hown2.1
      have s1 := (hown2.stored (k * 2) (.int .i64 l[k].data)).1
      have s2 := (s1.stored (k * 2 + 1) (.int .i64 l[k].index)).1
      go_roundw
      case rel => exact ⟨k + 1, by omega, by go_num, _, s2, hrow.step hlt hx, ((hb.trans (hb2.mono hb.size)).setCell (Nat.le_refl _) _).setCell (Nat.le_refl _) _⟩
      case measure => simp [intOf]; omega
    · go_wp2_with fail
      go_ret
      exact ⟨_, rfl, FTys.of_row hown (fun j hj _ => hrow j hj (by omega)) hn, hb⟩
/-- Constructors in blocks of their own. -/
def FCt (w : World) (lo : Nat) (c : Ct) (x0 x1 x2 : Option Value) : Prop :=
  ∃ g, x0 = some (.string c.name) ∧ x1 = some (.slice (some ⟨g, 0, none⟩) c.args.length c.args.length) ∧ x2 = some (.int .i64 c.index) ∧ c.name.size ≤ maxLen ∧ FTys w lo g c.args
def FCts (w : World) (lo g : Nat) (l : List Ct) : Prop :=
  lo ≤ g ∧ l.length ≤ maxLen ∧ ∃ cs, w.heap[g]? = some (.cells cs 79 (0, 0)) ∧ cs.size = l.length * 3 ∧ ∀ k (h : k < l.length), FCt w lo l[k] cs[k * 3]? cs[k * 3 + 1]? cs[k * 3 + 2]?
def FDa (w : World) (lo : Nat) (d : Da) (x0 x1 : Option Value) : Prop :=
  ∃ g, x0 = some (.string d.name) ∧ x1 = some (.slice (some ⟨g, 0, none⟩) d.ctors.length d.ctors.length) ∧ d.name.size ≤ maxLen ∧ FCts w lo g d.ctors
def FDas (w : World) (lo g : Nat) (l : List Da) : Prop :=
  lo ≤ g ∧ l.length ≤ maxLen ∧ ∃ cs, w.heap[g]? = some (.cells cs 57 (0, 0)) ∧ cs.size = l.length * 2 ∧ ∀ k (h : k < l.length), FDa w lo l[k] cs[k * 2]? cs[k * 2 + 1]?
theorem heap_lt {w : World} {g : Nat} {o : Obj} (h : w.heap[g]? = some o) : g < w.heap.size := by
  rcases Nat.lt_or_ge g w.heap.size with hlt | hge
  · exact hlt
  · rw [Array.getElem?_eq_none hge] at h; cases h
/-- Blocks of types stay, whatever else is written. -/
theorem FTys.keep {w w' : World} {lo lo' g : Nat} {l : List Ty} (h : FTys w lo g l) (hl : lo' ≤ lo) (hk : ∀ b cs, lo ≤ b → w.heap[b]? = some (.cells cs 35 (0, 0)) → w'.heap[b]? = w.heap[b]?) : FTys w' lo' g l := by
  obtain ⟨h1, h2, cs, h3, h4, h5⟩ := h
  exact ⟨by omega, h2, cs, (hk g cs h1 h3).trans h3, h4, h5⟩
theorem FCts.keep {w w' : World} {lo lo' g : Nat} {l : List Ct} (h : FCts w lo g l) (hl : lo' ≤ lo) (hk : ∀ b cs t, t = 35 ∨ t = 79 → lo ≤ b → w.heap[b]? = some (.cells cs t (0, 0)) → w'.heap[b]? = w.heap[b]?) : FCts w' lo' g l := by
  obtain ⟨h1, h2, cs, h3, h4, h5⟩ := h
  refine ⟨by omega, h2, cs, (hk g cs 79 (.inr rfl) h1 h3).trans h3, h4, fun k hk' => ?_⟩
  obtain ⟨g', e0, e1, e2, e3, e4⟩ := h5 k hk'
  exact ⟨g', e0, e1, e2, e3, e4.keep hl (fun b cs => hk b cs 35 (.inl rfl))⟩
theorem FDas.keep {w w' : World} {lo lo' g : Nat} {l : List Da} (h : FDas w lo g l) (hl : lo' ≤ lo) (hk : ∀ b o, lo ≤ b → w.heap[b]? = some o → w'.heap[b]? = w.heap[b]?) : FDas w' lo' g l := by
  obtain ⟨h1, h2, cs, h3, h4, h5⟩ := h
  refine ⟨by omega, h2, cs, (hk g _ h1 h3).trans h3, h4, fun k hk' => ?_⟩
  obtain ⟨g', e0, e1, e2, e3⟩ := h5 k hk'
  exact ⟨g', e0, e1, e2, e3.keep hl (fun b cs t _ hb he => hk b _ hb he)⟩
theorem cell_of_blk {w : World} {g : Nat} {cs : Array Value} {t : TypeId} (h : w.heap[g]? = some (.cells cs t (0, 0))) (i : Nat) : w.cell? ⟨g, i, none⟩ = cs[i]? := cell_of_row w g i cs t (0, 0) h
theorem FTys.reads {w : World} {lo g : Nat} {l : List Ty} (h : FTys w lo g l) : RTys w w.heap.size (some ⟨g, 0, none⟩) l := by
  obtain ⟨h1, h2, cs, h3, h4, h5⟩ := h
  refine ⟨h2, fun k hk => ⟨g, 0, rfl, heap_lt h3, ?_, ?_⟩⟩
  · rw [cell_of_blk h3, Nat.zero_add]; exact (h5 k hk).1
  · rw [cell_of_blk h3, Nat.zero_add]; exact (h5 k hk).2
theorem FCts.reads {w : World} {lo g : Nat} {l : List Ct} (h : FCts w lo g l) : RCts w w.heap.size (some ⟨g, 0, none⟩) l := by
  obtain ⟨h1, h2, cs, h3, h4, h5⟩ := h
  refine ⟨h2, fun k hk => ⟨g, 0, rfl, heap_lt h3, ?_⟩⟩
  obtain ⟨g', e0, e1, e2, e3, e4⟩ := h5 k hk
  exact ⟨_, _, by rw [cell_of_blk h3, Nat.zero_add]; exact e0, by rw [cell_of_blk h3, Nat.zero_add]; exact e1, by rw [cell_of_blk h3, Nat.zero_add]; exact e2, e3, e4.reads⟩
theorem FDas.reads {w : World} {lo g : Nat} {l : List Da} (h : FDas w lo g l) : RDas w w.heap.size (some ⟨g, 0, none⟩) l := by
  obtain ⟨h1, h2, cs, h3, h4, h5⟩ := h
  refine ⟨h2, fun k hk => ⟨g, 0, rfl, heap_lt h3, ?_⟩⟩
  obtain ⟨g', e0, e1, e3, e4⟩ := h5 k hk
  exact ⟨_, _, by rw [cell_of_blk h3, Nat.zero_add]; exact e0, by rw [cell_of_blk h3, Nat.zero_add]; exact e1, e3, e4.reads⟩
theorem toCtor_any (nm : ByteArray) (A : Option Addr) (l : List Ty) (cap : Nat) (ix : Int) (w : World) (hr : RTys w w.heap.size A l) (hn : l.length ≤ 1048576) :
    Calls Tryz.prog 48 #[.agg #[.string nm, .slice A l.length cap, .int .i64 ix]] w fun e w' => ∃ g, e = .returned (.agg #[.string nm, .slice (some ⟨g, 0, none⟩) l.length l.length, .int .i64 ix]) ∧ FTys w' w.heap.size g l ∧ Below w.heap.size w w' := by
  have Hr := Lib.hid hr
  clear hr
  go_enter Tryz.func48, Tryz.ntmps48
  go_wp2_with (go_at_call 65; refine (toTypeS_any _ _ _ _ (by exact Hr.out.keep (fun p hp => by rw [World.cell?_alloc_lt _ _ _ (by simp; omega), World.cell?_alloc_lt _ _ _ (by simp; omega), World.cell?_alloc_lt _ _ _ hp]) (by simp; omega)) hn).mono ?_; rintro e w1 ⟨g, rfl, hf, hb⟩; obtain ⟨hc, hfz⟩ := bcell hb; have hz : w.heap.size + 2 < w1.heap.size := by have := hb.size; simp at this; omega)
  refine bodyPost_ret (v := .agg #[.string nm, .slice (some ⟨g, 0, none⟩) l.length l.length, .int .i64 ix]) (by simp [results, Tryz.results48, go_sem, hc]) rfl ⟨g, rfl, ?_, ?_⟩
  · refine hf.keep (by simp; omega) (fun b cs hb' _ => ?_)
    simp only [World.size_alloc] at hb'
    rw [Below.heap_setCell _ _ _ _ (by simp; omega), Below.heap_setCell _ _ _ _ (by simp; omega), Below.heap_setCell _ _ _ _ (by simp; omega), Below.heap_setCell _ _ _ _ (by simp; omega), Below.heap_setCell _ _ _ _ (by simp; omega)]
  · have h3 := ((((Below.refl w.heap.size w).alloc (Nat.le_refl _) (Obj.cells #[Value.string nm, Value.slice A l.length cap, Value.int IntKind.i64 ix] 84)).alloc (by simp) (Obj.cells #[Value.string { data := #[] }, Value.slice none 0 0, Value.int IntKind.i64 0] 79)).alloc (by simp; omega) (Obj.cells #[Value.string nm, Value.slice none 0 0, Value.int IntKind.i64 0] 79)).trans (hb.mono (by simp; omega))
    exact ((((h3.setCell (by simp; omega) _).setCell (by simp; omega) _).setCell (by simp) _).setCell (by simp) _).setCell (by simp) _
/-- What the first k rounds of a copy of constructors have left in the row. -/
def CtRow (w : World) (lo : Nat) (l : List Ct) (xs : List Value) (k : Nat) : Prop := ∀ j (h : j < l.length), j < k → FCt w lo l[j] xs[j * 3]? xs[j * 3 + 1]? xs[j * 3 + 2]?
theorem CtRow.zero (w : World) (lo : Nat) (l : List Ct) (xs : List Value) : CtRow w lo l xs 0 := fun j _ h => absurd h (by omega)
theorem CtRow.keep {w w' : World} {lo : Nat} {l : List Ct} {xs : List Value} {k : Nat} (h : CtRow w lo l xs k) (hk : ∀ b cs, lo ≤ b → w.heap[b]? = some (.cells cs 35 (0, 0)) → w'.heap[b]? = w.heap[b]?) : CtRow w' lo l xs k := by
  intro j hj hjk
  obtain ⟨g, e0, e1, e2, e3, e4⟩ := h j hj hjk
  exact ⟨g, e0, e1, e2, e3, e4.keep (Nat.le_refl _) hk⟩
theorem CtRow.step {w : World} {lo : Nat} {l : List Ct} {xs : List Value} {k g : Nat} (h : CtRow w lo l xs k) (hk : k < l.length) (hx : xs.length = l.length * 3) (hs : l[k].name.size ≤ maxLen) (hf : FTys w lo g l[k].args) :
    CtRow w lo l (((xs.set (k * 3) (.string l[k].name)).set (k * 3 + 1) (.slice (some ⟨g, 0, none⟩) l[k].args.length l[k].args.length)).set (k * 3 + 2) (.int .i64 l[k].index)) (k + 1) := by
  intro j hj hjk
  by_cases e : j = k
  · subst e
    refine ⟨g, ?_, ?_, ?_, hs, hf⟩
    · rw [List.getElem?_set_ne (by omega), List.getElem?_set_ne (by omega), List.getElem?_set_self (by omega)]
    · rw [List.getElem?_set_ne (by omega), List.getElem?_set_self (by simp; omega)]
    · rw [List.getElem?_set_self (by simp; omega)]
  · have := h j hj (by omega)
    rw [List.getElem?_set_ne (by omega), List.getElem?_set_ne (by omega), List.getElem?_set_ne (by omega), List.getElem?_set_ne (by omega), List.getElem?_set_ne (by omega), List.getElem?_set_ne (by omega), List.getElem?_set_ne (by omega), List.getElem?_set_ne (by omega), List.getElem?_set_ne (by omega)]
    exact this
theorem own_heap {w : World} {base : Nat} {e : TypeId} {size g n cap : Nat} {xs : List Value} (h : w.ownsRow base e size (.slice (some ⟨g, 0, none⟩) n cap) n xs) : ∃ cs, w.heap[g]? = some (.cells cs e (0, 0)) := by
  rcases h.2 with ⟨h', _⟩ | ⟨g', cap', cur, h', hb, hg, hnc, hcm, hcs, htake⟩
  · simp at h'
  · simp only [Value.slice.injEq, Option.some.injEq, Addr.mk.injEq, and_true, true_and] at h'
    obtain ⟨rfl, rfl⟩ := h'
    exact ⟨cur, hg⟩
/-- A block of another element type is another block. -/
theorem other_blk {w : World} {g b : Nat} {cs ds : Array Value} {s t : TypeId} (h : w.heap[g]? = some (.cells cs s (0, 0))) (h' : w.heap[b]? = some (.cells ds t (0, 0))) (hne : s ≠ t) : b ≠ g := by
  rintro rfl; rw [h] at h'; injection h' with h'; injection h' with _ ht; exact hne ht
theorem FCts.of_row {w : World} {lo g : Nat} {l : List Ct} {xs : List Value} (h : w.ownsRow lo 79 3 (.slice (some ⟨g, 0, none⟩) l.length l.length) l.length xs) (hx : CtRow w lo l xs l.length) (hn : l.length ≤ 1048576) : FCts w lo g l := by
  rcases h.2 with ⟨h', _⟩ | ⟨g', cap', cur, h', hb, hg, hnc, hcm, hcs, htake⟩
  · simp at h'
  · simp only [Value.slice.injEq, Option.some.injEq, Addr.mk.injEq, and_true, true_and] at h'
    obtain ⟨rfl, rfl⟩ := h'
    refine ⟨hb, by unfold maxLen; omega, cur, hg, hcs, fun k hk => ?_⟩
    rw [List.take_of_length_le (by rw [Array.length_toList]; omega)] at htake
    rw [← Array.getElem?_toList, ← Array.getElem?_toList, ← Array.getElem?_toList, htake]
    exact hx k hk hk
set_option maxHeartbeats 800000 in
theorem toCtorS_any (A : Option Addr) (l : List Ct) (cap : Nat) (w : World) (hr : RCts w w.heap.size A l) (hn : wCts l ≤ 1048576) :
    Calls Tryz.prog 36 #[.slice A l.length cap] w fun e w' => ∃ g, e = .returned (.slice (some ⟨g, 0, none⟩) l.length l.length) ∧ FCts w' w.heap.size g l ∧ Below w.heap.size w w' := by
  obtain ⟨i0, hi, hz0, hz1, hz2⟩ := info_parts info59
  have Hr := Lib.hid hr
  clear hr
  have hl : l.length ≤ 1048576 := by unfold wCts at hn; omega
  go_enter Tryz.func36, Tryz.ntmps36
  go_wp2_with (at_make; refine wpList_make_full _ rfl _ _ 55 rfl w.heap.size 79 i0 _ 3 Tryz.underlying55 hi hz0 hz1 _ _ _ _ l.length rfl rfl rfl rfl (by rw [hz2]; omega) (by unfold maxLen; omega) (Nat.le_refl _) ?_; intro w1 hown hgr)
  go_loopw [4] (fun i wr => ∃ k : Nat, k ≤ l.length ∧ i = .int .i64 k ∧ ∃ xs, wr.ownsRow w.heap.size 79 3 (.slice (some ⟨w.heap.size, 0, none⟩) l.length l.length) l.length xs ∧ CtRow wr w.heap.size l xs k ∧ Below w.heap.size w wr) (fun i _ => l.length - (intOf i).toNat)
  case atStart => exact ⟨0, by omega, rfl, _, hown, CtRow.zero _ _ _ _, below_of_grown hgr (Nat.le_refl _)⟩
  case round =>
    obtain ⟨k, hk, rfl, xs, hown, hrow, hb⟩ := hrel
    clear hgr hi hz0 hz1 hz2
    by_cases hlt : k < l.length
    · obtain ⟨b, off, rfl, hbB, A', cp, c0, c1, c2, hs, hm⟩ := (Hr.out.below hb (Nat.le_refl _)).2 k hlt
      have ha : l[k].args.length ≤ 1048576 := by
        have h1 := sum_take_succ wCt l k hlt
        have h2 := sum_take_le wCt l (k + 1)
        have h3 : wCt l[k] = l[k].name.size + l[k].args.length := rfl
        unfold wCts at hn; omega
      have Hm := Lib.hid (hm.keep (fun _ _ => rfl) hb.size)
      clear hm
      go_wp2_with (go_at_call 48; refine (toCtor_any _ _ _ _ _ _ Hm.out ha).mono ?_; rintro e w2 ⟨g, rfl, hf, hb2⟩; have hown2 := own_below hown hb2; obtain ⟨v0, f0⟩ := own_cell hown2 (k * 3) (by omega); obtain ⟨v1, f1⟩ := own_cell hown2 (k * 3 + 1) (by omega); obtain ⟨v2, f2⟩ := own_cell hown2 (k * 3 + 2) (by omega); have g0 := hown2.frozenAt (k * 3); have g1 := hown2.frozenAt (k * 3 + 1); have g2 := hown2.frozenAt (k * 3 + 2))
      have hx := hown2.1
      have s1 := (hown2.stored (k * 3) (.string l[k].name)).1
      have s2 := (s1.stored (k * 3 + 1) (.slice (some ⟨g, 0, none⟩) l[k].args.length l[k].args.length)).1
      have s3 := (s2.stored (k * 3 + 2) (.int .i64 l[k].index)).1
      obtain ⟨cs0, hcs0⟩ := own_heap hown2
      have hrow2 : CtRow w2 w.heap.size l xs k := hrow.keep (fun b cs _ hh => hb2.block b (heap_lt hh))
      have hf2 : FTys w2 w.heap.size g l[k].args := hf.keep hb.size (fun _ _ _ _ => rfl)
      have hkeep : ∀ b cs, w.heap.size ≤ b → w2.heap[b]? = some (.cells cs 35 (0, 0)) → (((w2.setCell ⟨w.heap.size, k * 3, none⟩ (.string l[k].name)).setCell ⟨w.heap.size, k * 3 + 1, none⟩ (.slice (some ⟨g, 0, none⟩) l[k].args.length l[k].args.length)).setCell ⟨w.heap.size, k * 3 + 2, none⟩ (.int .i64 l[k].index)).heap[b]? = w2.heap[b]? := fun b cs _ hh => by
        have hne : b ≠ w.heap.size := other_blk hcs0 hh (by decide)
        rw [Below.heap_setCell _ _ _ _ hne, Below.heap_setCell _ _ _ _ hne, Below.heap_setCell _ _ _ _ hne]
      have hrow3 := (hrow2.step hlt hx hs hf2).keep hkeep
      go_roundw
      case rel => exact ⟨k + 1, by omega, by go_num, _, s3, hrow3, (((hb.trans (hb2.mono hb.size)).setCell (Nat.le_refl _) _).setCell (Nat.le_refl _) _).setCell (Nat.le_refl _) _⟩
      case measure => simp [intOf]; omega
    · go_wp2_with fail
      go_ret
      exact ⟨_, rfl, FCts.of_row hown (fun j hj _ => hrow j hj (by omega)) hl, hb⟩
theorem toData_any (nm : ByteArray) (A : Option Addr) (l : List Ct) (cap : Nat) (w : World) (hr : RCts w w.heap.size A l) (hn : wCts l ≤ 1048576) :
    Calls Tryz.prog 23 #[.agg #[.string nm, .slice A l.length cap]] w fun e w' => ∃ g, e = .returned (.agg #[.string nm, .slice (some ⟨g, 0, none⟩) l.length l.length]) ∧ FCts w' w.heap.size g l ∧ Below w.heap.size w w' := by
  have Hr := Lib.hid hr
  clear hr
  go_enter Tryz.func23, Tryz.ntmps23
  go_wp2_with (go_at_call 36; refine (toCtorS_any _ _ _ _ (by exact Hr.out.keep (fun p hp => by rw [World.cell?_alloc_lt _ _ _ (by simp; omega), World.cell?_alloc_lt _ _ _ (by simp; omega), World.cell?_alloc_lt _ _ _ hp]) (by simp; omega)) hn).mono ?_; rintro e w1 ⟨g, rfl, hf, hb⟩; obtain ⟨hc, hfz⟩ := bcell hb; have hz : w.heap.size + 2 < w1.heap.size := by have := hb.size; simp at this; omega)
  refine bodyPost_ret (v := .agg #[.string nm, .slice (some ⟨g, 0, none⟩) l.length l.length]) (by simp [results, Tryz.results23, go_sem, hc]) rfl ⟨g, rfl, ?_, ?_⟩
  · refine hf.keep (by simp; omega) (fun b cs t _ hb' _ => ?_)
    simp only [World.size_alloc] at hb'
    rw [Below.heap_setCell _ _ _ _ (by simp; omega), Below.heap_setCell _ _ _ _ (by simp; omega), Below.heap_setCell _ _ _ _ (by simp; omega)]
  · have h3 := ((((Below.refl w.heap.size w).alloc (Nat.le_refl _) (Obj.cells #[Value.string nm, Value.slice A l.length cap] 50)).alloc (by simp) (Obj.cells #[Value.string { data := #[] }, Value.slice none 0 0] 57)).alloc (by simp; omega) (Obj.cells #[Value.string nm, Value.slice none 0 0] 57)).trans (hb.mono (by simp; omega))
    exact ((h3.setCell (by simp; omega) _).setCell (by simp) _).setCell (by simp) _
/-- What the first k rounds of a copy of data types have left in the row. -/
def DaRow (w : World) (lo : Nat) (l : List Da) (xs : List Value) (k : Nat) : Prop := ∀ j (h : j < l.length), j < k → FDa w lo l[j] xs[j * 2]? xs[j * 2 + 1]?
theorem DaRow.zero (w : World) (lo : Nat) (l : List Da) (xs : List Value) : DaRow w lo l xs 0 := fun j _ h => absurd h (by omega)
theorem DaRow.keep {w w' : World} {lo : Nat} {l : List Da} {xs : List Value} {k : Nat} (h : DaRow w lo l xs k) (hk : ∀ b cs t, t = 35 ∨ t = 79 → lo ≤ b → w.heap[b]? = some (.cells cs t (0, 0)) → w'.heap[b]? = w.heap[b]?) : DaRow w' lo l xs k := by
  intro j hj hjk
  obtain ⟨g, e0, e1, e2, e3⟩ := h j hj hjk
  exact ⟨g, e0, e1, e2, e3.keep (Nat.le_refl _) hk⟩
theorem DaRow.step {w : World} {lo : Nat} {l : List Da} {xs : List Value} {k g : Nat} (h : DaRow w lo l xs k) (hk : k < l.length) (hx : xs.length = l.length * 2) (hs : l[k].name.size ≤ maxLen) (hf : FCts w lo g l[k].ctors) :
    DaRow w lo l ((xs.set (k * 2) (.string l[k].name)).set (k * 2 + 1) (.slice (some ⟨g, 0, none⟩) l[k].ctors.length l[k].ctors.length)) (k + 1) := by
  intro j hj hjk
  by_cases e : j = k
  · subst e
    refine ⟨g, ?_, ?_, hs, hf⟩
    · rw [List.getElem?_set_ne (by omega), List.getElem?_set_self (by omega)]
    · rw [List.getElem?_set_self (by simp; omega)]
  · have := h j hj (by omega)
    rw [List.getElem?_set_ne (by omega), List.getElem?_set_ne (by omega), List.getElem?_set_ne (by omega), List.getElem?_set_ne (by omega)]
    exact this
theorem FDas.of_row {w : World} {lo g : Nat} {l : List Da} {xs : List Value} (h : w.ownsRow lo 57 2 (.slice (some ⟨g, 0, none⟩) l.length l.length) l.length xs) (hx : DaRow w lo l xs l.length) (hn : l.length ≤ 1048576) : FDas w lo g l := by
  rcases h.2 with ⟨h', _⟩ | ⟨g', cap', cur, h', hb, hg, hnc, hcm, hcs, htake⟩
  · simp at h'
  · simp only [Value.slice.injEq, Option.some.injEq, Addr.mk.injEq, and_true, true_and] at h'
    obtain ⟨rfl, rfl⟩ := h'
    refine ⟨hb, by unfold maxLen; omega, cur, hg, hcs, fun k hk => ?_⟩
    rw [List.take_of_length_le (by rw [Array.length_toList]; omega)] at htake
    rw [← Array.getElem?_toList, ← Array.getElem?_toList, htake]
    exact hx k hk hk
set_option maxHeartbeats 800000 in
theorem toDataS_any (A : Option Addr) (l : List Da) (cap : Nat) (w : World) (hr : RDas w w.heap.size A l) (hn : wDas l ≤ 1048576) :
    Calls Tryz.prog 7 #[.slice A l.length cap] w fun e w' => ∃ g, e = .returned (.slice (some ⟨g, 0, none⟩) l.length l.length) ∧ FDas w' w.heap.size g l ∧ Below w.heap.size w w' := by
  obtain ⟨i0, hi, hz0, hz1, hz2⟩ := info_parts info56
  have Hr := Lib.hid hr
  clear hr
  have hl : l.length ≤ 1048576 := by unfold wDas at hn; omega
  go_enter Tryz.func7, Tryz.ntmps7
  go_wp2_with (at_make; refine wpList_make_full _ rfl _ _ 33 rfl w.heap.size 57 i0 _ 2 Tryz.underlying33 hi hz0 hz1 _ _ _ _ l.length rfl rfl rfl rfl (by rw [hz2]; omega) (by unfold maxLen; omega) (Nat.le_refl _) ?_; intro w1 hown hgr)
  go_loopw [4] (fun i wr => ∃ k : Nat, k ≤ l.length ∧ i = .int .i64 k ∧ ∃ xs, wr.ownsRow w.heap.size 57 2 (.slice (some ⟨w.heap.size, 0, none⟩) l.length l.length) l.length xs ∧ DaRow wr w.heap.size l xs k ∧ Below w.heap.size w wr) (fun i _ => l.length - (intOf i).toNat)
  case atStart => exact ⟨0, by omega, rfl, _, hown, DaRow.zero _ _ _ _, below_of_grown hgr (Nat.le_refl _)⟩
  case round =>
    obtain ⟨k, hk, rfl, xs, hown, hrow, hb⟩ := hrel
    clear hgr hi hz0 hz1 hz2
    by_cases hlt : k < l.length
    · obtain ⟨b, off, rfl, hbB, A', cp, c0, c1, hs, hm⟩ := (Hr.out.below hb (Nat.le_refl _)).2 k hlt
      have ha : wCts l[k].ctors ≤ 1048576 := by
        have h1 := sum_take_succ wDa l k hlt
        have h2 := sum_take_le wDa l (k + 1)
        have h3 : wDa l[k] = l[k].name.size + wCts l[k].ctors := rfl
        unfold wDas at hn; omega
      have Hm := Lib.hid (hm.keep (fun _ _ => rfl) hb.size)
      clear hm
      go_wp2_with (go_at_call 23; refine (toData_any _ _ _ _ _ Hm.out ha).mono ?_; rintro e w2 ⟨g, rfl, hf, hb2⟩; have hown2 := own_below hown hb2; obtain ⟨v0, f0⟩ := own_cell hown2 (k * 2) (by omega); obtain ⟨v1, f1⟩ := own_cell hown2 (k * 2 + 1) (by omega); have g0 := hown2.frozenAt (k * 2); have g1 := hown2.frozenAt (k * 2 + 1))
      have hx := hown2.1
      have s1 := (hown2.stored (k * 2) (.string l[k].name)).1
      have s2 := (s1.stored (k * 2 + 1) (.slice (some ⟨g, 0, none⟩) l[k].ctors.length l[k].ctors.length)).1
      obtain ⟨cs0, hcs0⟩ := own_heap hown2
      have hrow2 : DaRow w2 w.heap.size l xs k := hrow.keep (fun b cs _ _ _ hh => hb2.block b (heap_lt hh))
      have hf2 : FCts w2 w.heap.size g l[k].ctors := hf.keep hb.size (fun _ _ _ _ _ _ => rfl)
      have hkeep : ∀ b cs t, t = 35 ∨ t = 79 → w.heap.size ≤ b → w2.heap[b]? = some (.cells cs t (0, 0)) → ((w2.setCell ⟨w.heap.size, k * 2, none⟩ (.string l[k].name)).setCell ⟨w.heap.size, k * 2 + 1, none⟩ (.slice (some ⟨g, 0, none⟩) l[k].ctors.length l[k].ctors.length)).heap[b]? = w2.heap[b]? := fun b cs t ht _ hh => by
        have hne : b ≠ w.heap.size := other_blk hcs0 hh (by rcases ht with rfl | rfl <;> decide)
        rw [Below.heap_setCell _ _ _ _ hne, Below.heap_setCell _ _ _ _ hne]
      have hrow3 := (hrow2.step hlt hx hs hf2).keep hkeep
      go_roundw
      case rel => exact ⟨k + 1, by omega, by go_num, _, s2, hrow3, ((hb.trans (hb2.mono hb.size)).setCell (Nat.le_refl _) _).setCell (Nat.le_refl _) _⟩
      case measure => simp [intOf]; omega
    · go_wp2_with fail
      go_ret
      exact ⟨_, rfl, FDas.of_row hown (fun j hj _ => hrow j hj (by omega)) hl, hb⟩
end Go.Proofs.YtbdiahnelnbdnaaGreat
/-
  The functions that count how much types, constructors and data types hold. No statement is proved here.
-/
namespace Go.Proofs.YtbdiahnelnbdnaaGreat
open Go.RowKit
set_option maxRecDepth 100000
set_option linter.unusedVariables false
theorem ret_i64 {a b : Int} (h : a = b) : Ending.returned (.int .i64 a) = .returned (.int .i64 b) := by rw [h]
theorem szTypeS_any (A : Option Addr) (n cap : Nat) (l : Int) (w : World) (hn : n ≤ maxLen) (h0 : 0 ≤ l) (h1 : l ≤ 1048576) :
    Calls Tryz.prog 55 #[.slice A n cap, .int .i64 l] w fun e w' => e = .returned (.int .i64 (left l n)) ∧ w = w' := by
  unfold maxLen at hn
  by_cases hc : (n : Int) ≤ l
  · have H := Lib.hid (left_ok hc)
    go_enter Tryz.func55, Tryz.ntmps55
    go_wp2_with fail
    go_ret
    exact ⟨ret_i64 H.out.symm, rfl⟩
  · have H := Lib.hid (left_no hc)
    go_enter Tryz.func55, Tryz.ntmps55
    go_wp2_with fail
    go_ret
    exact ⟨ret_i64 H.out.symm, rfl⟩
theorem szCtor_any (nm : ByteArray) (A : Option Addr) (m cap : Nat) (ix l : Int) (w : World) (hs : nm.size ≤ maxLen) (hm : m ≤ maxLen) (h0 : 0 ≤ l) (h1 : l ≤ 1048576) :
    Calls Tryz.prog 42 #[.agg #[.string nm, .slice A m cap, .int .i64 ix], .int .i64 l] w fun e w' => e = .returned (.int .i64 (left l (nm.size + m))) ∧ Below w.heap.size w w' := by
  have hm' := hm
  unfold maxLen at hs hm
  by_cases hc : (nm.size : Int) ≤ l
  · by_cases hc2 : (m : Int) ≤ l - nm.size
    · have H := Lib.hid (left_ok (l := l) (n := nm.size + m) (by omega))
      have H2 := Lib.hid (left_ok hc2)
      go_enter Tryz.func42, Tryz.ntmps42
      go_wp2_with (go_at_call 55; refine (szTypeS_any _ _ _ _ _ hm' (by omega) (by omega)).mono ?_; rw [H2.out]; rintro e w' ⟨rfl, rfl⟩)
      go_ret
      exact ⟨ret_i64 (by rw [H.out]; omega), (Below.refl _ _).alloc (Nat.le_refl _) _⟩
    · have H := Lib.hid (left_no (l := l) (n := nm.size + m) (by omega))
      have H2 := Lib.hid (left_no hc2)
      go_enter Tryz.func42, Tryz.ntmps42
      go_wp2_with (go_at_call 55; refine (szTypeS_any _ _ _ _ _ hm' (by omega) (by omega)).mono ?_; rw [H2.out]; rintro e w' ⟨rfl, rfl⟩)
      go_ret
      exact ⟨ret_i64 (by rw [H.out]), (Below.refl _ _).alloc (Nat.le_refl _) _⟩
  · have H := Lib.hid (left_no (l := l) (n := nm.size + m) (by omega))
    go_enter Tryz.func42, Tryz.ntmps42
    go_wp2_with fail
    go_ret
    exact ⟨ret_i64 (by rw [H.out]), (Below.refl _ _).alloc (Nat.le_refl _) _⟩
set_option maxHeartbeats 400000 in
theorem szCtorS_any (A : Option Addr) (cs : List Ct) (cap : Nat) (l : Int) (w : World) (hr : RCts w w.heap.size A cs) (h0 : 0 ≤ l) (h1 : l ≤ 1048576) :
    Calls Tryz.prog 31 #[.slice A cs.length cap, .int .i64 l] w fun e w' => e = .returned (.int .i64 (left l (wCts cs))) ∧ Below w.heap.size w w' := by
  have hn := hr.1
  unfold maxLen at hn
  have Hr := Lib.hid hr
  clear hr
  by_cases hc : (cs.length : Int) ≤ l
  · go_enter Tryz.func31, Tryz.ntmps31
    go_wp2_with fail
    go_loopw [1, 5] (fun t i wr => ∃ k : Nat, k ≤ cs.length ∧ i = .int .i64 k ∧ ∃ q : Int, 0 ≤ q ∧ q ≤ 1048576 ∧ t = .int .i64 q ∧ Hid (q = l - (cs.length + ((cs.take k).map wCt).sum : Nat)) ∧ Below w.heap.size w wr) (fun _ i _ => cs.length - (intOf i).toNat)
    case atStart => exact ⟨0, by omega, rfl, _, by omega, by omega, rfl, by unfold Hid; simp, Below.refl _ _⟩
    case round =>
      obtain ⟨k, hk, rfl, q, hq0, hq1, rfl, HQ, hb⟩ := hrel
      by_cases hlt : k < cs.length
      · obtain ⟨b, off, rfl, hbB, A', cp, c0, c1, c2, hs, hm⟩ := (Hr.out.below hb (Nat.le_refl _)).2 k hlt
        have hm1 := hm.1
        have HS := Lib.hid (sum_take_succ wCt cs k hlt)
        have HL := Lib.hid (sum_take_le wCt cs (k + 1))
        have HW : Hid (wCt cs[k] = cs[k].name.size + cs[k].args.length) := rfl
        have Hm := Lib.hid hm
        clear hm
        by_cases hc2 : ((cs[k].name.size + cs[k].args.length : Nat) : Int) ≤ q
        · have H2 := Lib.hid (left_ok hc2)
          go_wp2_with (go_at_call 42; refine (szCtor_any _ _ _ _ _ _ _ hs hm1 (by omega) (by omega)).mono ?_; rw [H2.out]; rintro e w' ⟨rfl, hb'⟩)
          have hb2 := hb.trans (hb'.mono hb.size)
          go_roundw
          case rel => exact ⟨k + 1, by omega, by go_num, _, by omega, by omega, rfl, by unfold Hid; rw [HS.out, HW.out, HQ.out]; omega, hb2⟩
          case measure => simp [intOf]; omega
        · have H2 := Lib.hid (left_no hc2)
          have H := Lib.hid (left_no (l := l) (n := wCts cs) (by unfold wCts; rw [HQ.out] at hc2; rw [HS.out, HW.out] at HL; have := HL.out; omega))
          go_wp2_with (go_at_call 42; refine (szCtor_any _ _ _ _ _ _ _ hs hm1 (by omega) (by omega)).mono ?_; rw [H2.out]; rintro e w' ⟨rfl, hb'⟩)
          have hb2 := hb.trans (hb'.mono hb.size)
          go_ret
          exact ⟨ret_i64 (by rw [H.out]), hb2⟩
      · go_wp2_with fail
        go_ret
        exact ⟨ret_i64 (by rw [HQ.out, List.take_of_length_le (by omega)]; rw [left_ok]; rfl; rw [List.take_of_length_le (by omega)] at HQ; unfold wCts; have := HQ.out; omega), hb⟩
  · have H := Lib.hid (left_no (l := l) (n := wCts cs) (by unfold wCts; omega))
    go_enter Tryz.func31, Tryz.ntmps31
    go_wp2_with fail
    go_ret
    exact ⟨ret_i64 (by rw [H.out]), Below.refl _ _⟩
theorem szData_any (nm : ByteArray) (A : Option Addr) (cs : List Ct) (cap : Nat) (l : Int) (w : World) (hs : nm.size ≤ maxLen) (hr : RCts w w.heap.size A cs) (h0 : 0 ≤ l) (h1 : l ≤ 1048576) :
    Calls Tryz.prog 18 #[.agg #[.string nm, .slice A cs.length cap], .int .i64 l] w fun e w' => e = .returned (.int .i64 (left l (nm.size + wCts cs))) ∧ Below w.heap.size w w' := by
  unfold maxLen at hs
  have Hr := Lib.hid hr
  clear hr
  by_cases hc : (nm.size : Int) ≤ l
  · by_cases hc2 : (wCts cs : Int) ≤ l - nm.size
    · have H := Lib.hid (left_ok (l := l) (n := nm.size + wCts cs) (by omega))
      have H2 := Lib.hid (left_ok hc2)
      go_enter Tryz.func18, Tryz.ntmps18
      go_wp2_with (go_at_call 31; refine (szCtorS_any _ _ _ _ _ (by exact Hr.out.keep (fun p hp => World.cell?_alloc_lt _ _ _ hp) (by simp)) (by omega) (by omega)).mono ?_; rw [H2.out]; rintro e w' ⟨rfl, hb⟩)
      go_ret
      exact ⟨ret_i64 (by rw [H.out]; omega), ((Below.refl _ _).alloc (Nat.le_refl _) _).trans (hb.mono (by simp))⟩
    · have H := Lib.hid (left_no (l := l) (n := nm.size + wCts cs) (by omega))
      have H2 := Lib.hid (left_no hc2)
      go_enter Tryz.func18, Tryz.ntmps18
      go_wp2_with (go_at_call 31; refine (szCtorS_any _ _ _ _ _ (by exact Hr.out.keep (fun p hp => World.cell?_alloc_lt _ _ _ hp) (by simp)) (by omega) (by omega)).mono ?_; rw [H2.out]; rintro e w' ⟨rfl, hb⟩)
      go_ret
      exact ⟨ret_i64 (by rw [H.out]), ((Below.refl _ _).alloc (Nat.le_refl _) _).trans (hb.mono (by simp))⟩
  · have H := Lib.hid (left_no (l := l) (n := nm.size + wCts cs) (by omega))
    go_enter Tryz.func18, Tryz.ntmps18
    go_wp2_with fail
    go_ret
    exact ⟨ret_i64 (by rw [H.out]), (Below.refl _ _).alloc (Nat.le_refl _) _⟩
set_option maxHeartbeats 400000 in
theorem szDataS_any (A : Option Addr) (ds : List Da) (cap : Nat) (l : Int) (w : World) (hr : RDas w w.heap.size A ds) (h0 : 0 ≤ l) (h1 : l ≤ 1048576) :
    Calls Tryz.prog 4 #[.slice A ds.length cap, .int .i64 l] w fun e w' => e = .returned (.int .i64 (left l (wDas ds))) ∧ Below w.heap.size w w' := by
  have hn := hr.1
  unfold maxLen at hn
  have Hr := Lib.hid hr
  clear hr
  by_cases hc : (ds.length : Int) ≤ l
  · go_enter Tryz.func4, Tryz.ntmps4
    go_wp2_with fail
    go_loopw [1, 5] (fun t i wr => ∃ k : Nat, k ≤ ds.length ∧ i = .int .i64 k ∧ ∃ q : Int, 0 ≤ q ∧ q ≤ 1048576 ∧ t = .int .i64 q ∧ Hid (q = l - (ds.length + ((ds.take k).map wDa).sum : Nat)) ∧ Below w.heap.size w wr) (fun _ i _ => ds.length - (intOf i).toNat)
    case atStart => exact ⟨0, by omega, rfl, _, by omega, by omega, rfl, by unfold Hid; simp, Below.refl _ _⟩
    case round =>
      obtain ⟨k, hk, rfl, q, hq0, hq1, rfl, HQ, hb⟩ := hrel
      by_cases hlt : k < ds.length
      · obtain ⟨b, off, rfl, hbB, A', cp, c0, c1, hs, hm⟩ := (Hr.out.below hb (Nat.le_refl _)).2 k hlt
        have HS := Lib.hid (sum_take_succ wDa ds k hlt)
        have HL := Lib.hid (sum_take_le wDa ds (k + 1))
        have HW : Hid (wDa ds[k] = ds[k].name.size + wCts ds[k].ctors) := rfl
        have Hm := Lib.hid (hm.keep (fun _ _ => rfl) hb.size)
        clear hm
        by_cases hc2 : ((ds[k].name.size + wCts ds[k].ctors : Nat) : Int) ≤ q
        · have H2 := Lib.hid (left_ok hc2)
          go_wp2_with (go_at_call 18; refine (szData_any _ _ _ _ _ _ hs Hm.out (by omega) (by omega)).mono ?_; rw [H2.out]; rintro e w' ⟨rfl, hb'⟩)
          have hb2 := hb.trans (hb'.mono hb.size)
          go_roundw
          case rel => exact ⟨k + 1, by omega, by go_num, _, by omega, by omega, rfl, by unfold Hid; rw [HS.out, HW.out, HQ.out]; omega, hb2⟩
          case measure => simp [intOf]; omega
        · have H2 := Lib.hid (left_no hc2)
          have H := Lib.hid (left_no (l := l) (n := wDas ds) (by unfold wDas; rw [HQ.out] at hc2; rw [HS.out, HW.out] at HL; have := HL.out; omega))
          go_wp2_with (go_at_call 18; refine (szData_any _ _ _ _ _ _ hs Hm.out (by omega) (by omega)).mono ?_; rw [H2.out]; rintro e w' ⟨rfl, hb'⟩)
          have hb2 := hb.trans (hb'.mono hb.size)
          go_ret
          exact ⟨ret_i64 (by rw [H.out]), hb2⟩
      · go_wp2_with fail
        go_ret
        exact ⟨ret_i64 (by rw [HQ.out, List.take_of_length_le (by omega)]; rw [left_ok]; rfl; rw [List.take_of_length_le (by omega)] at HQ; unfold wDas; have := HQ.out; omega), hb⟩
  · have H := Lib.hid (left_no (l := l) (n := wDas ds) (by unfold wDas; omega))
    go_enter Tryz.func4, Tryz.ntmps4
    go_wp2_with fail
    go_ret
    exact ⟨ret_i64 (by rw [H.out]), Below.refl _ _⟩
end Go.Proofs.YtbdiahnelnbdnaaGreat
