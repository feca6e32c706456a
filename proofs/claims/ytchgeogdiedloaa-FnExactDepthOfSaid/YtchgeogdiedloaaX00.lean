/-
  Types, constructors and data types as they lie in memory: slices of structs that hold strings, integers and slices; and how much they hold. No statement is proved here.
-/
import Derived.Test.YtchgeogdiedloaaRows
import Derived.WalkKit
import Derived.WalkSpells
import Derived.ProofKit
import Derived.Lib.Hide
import Derived.LaidEqlPtr
import Derived.MapKept
import Derived.Maps.Own
import Derived.Laws.AppendOwn
import Derived.Laws.OwnMore
import Derived.BigQuiet
import Derived.Deep.QuietTactic
import Derived.Maps.OwnOps
import Derived.Maps.Views
import Derived.Lib.QuietBelow
import Derived.Laws.BytesString
import Derived.Deep.Fields
import Derived.Deep.Slices
import Derived.Deep.RegionWith
import Derived.IntWalk
import Derived.Outline
import Derived.Lib.SmallJoins
import Derived.Maps.AppendAt
namespace Go.Proofs.Ytchgeogdiedloaa
open Go.RowKit
set_option linter.unusedVariables false

/-! How much a value holds. -/
/-- What is left of a number, or -1. -/
def left (l : Int) (n : Nat) : Int := if (n : Int) ≤ l then l - n else -1
theorem left_ok {l : Int} {n : Nat} (h : (n : Int) ≤ l) : left l n = l - n := if_pos h
theorem left_no {l : Int} {n : Nat} (h : ¬ (n : Int) ≤ l) : left l n = -1 := if_neg h
theorem sum_take_succ {α : Type} (f : α → Nat) (l : List α) (k : Nat) (h : k < l.length) : ((l.take (k + 1)).map f).sum = ((l.take k).map f).sum + f l[k] := by
  rw [List.take_succ_eq_append_getElem h]; simp only [List.map_append, List.sum_append, List.map_cons, List.map_nil, List.sum_cons, List.sum_nil]; omega
theorem sum_take_le {α : Type} (f : α → Nat) (l : List α) (k : Nat) : ((l.take k).map f).sum ≤ (l.map f).sum := by
  conv => rhs; rw [← List.take_append_drop k l]
  simp only [List.map_append, List.sum_append]; omega
end Go.Proofs.Ytchgeogdiedloaa
/-
  A map that the call has made, whose keys are the places of two lists, as a list of keys. No statement is proved here.
-/
namespace Go.Proofs.Ytchgeogdiedloaa
open Go Go.RowKit Go.ChangeMaps Go.MapKept
set_option maxRecDepth 100000
set_option linter.unusedVariables false
set_option linter.unusedSimpArgs false
def LiesPV (w : World) (a : Option Addr) : Prop := ∀ x, a = some x → ∃ c t, w.heap[x.block]? = some (.cells c t (0, 0))
theorem eqp_V {tp te : Nat} {j : TypeInfo} (hp : Try.prog.underlying tp = some (.pointer te)) (hte : Try.prog.info? te = some j) (hsz : j.size ≠ 0) (d : Nat) (a b : Option Addr) (w : World) (ha : LiesPV w a) (hb : LiesPV w b)  : (Op.equalIn (d + 1) tp (.pointer a) (.pointer b)).run Try.prog w = .ok (decide (a = b)) w := by
  cases a with
  | none => cases b with
    | none => simp [Op.equalIn, run_underlying hp]
    | some y => simp [Op.equalIn, run_underlying hp]
  | some x => cases b with
    | none => simp [Op.equalIn, run_underlying hp]
    | some y =>
      by_cases e : x = y
      · subst e
        simp [Op.equalIn, run_underlying hp, sizeOf, typeInfo, hte, hsz, run_sameAddr_same]
      · obtain ⟨ca, ta, h1⟩ := ha x rfl
        obtain ⟨cb, tb, h2⟩ := hb y rfl
        simp [Op.equalIn, run_underlying hp, sizeOf, typeInfo, hte, hsz, run_sameAddr_other w e h1 h2, e]
theorem eqi_V {t : Nat} {k : IntKind} (ht : Try.prog.underlying t = some (.int k)) (d : Nat) (n m : Int) (w : World) : (Op.equalIn (d + 1) t (.int .i64 n) (.int .i64 m)).run Try.prog w = .ok (decide (n = m)) w := by
  simp [Op.equalIn, run_underlying ht]
  by_cases e : n = m <;> simp [e]
theorem heldL_V : Try.prog.stoodInHeld 46 = false := by kernel_rfl
theorem isAggQ_V (w : World) : (isAgg 44).run Try.prog w = .ok false w := by kernel_rfl
theorem isAggI_V (w : World) : (isAgg 3).run Try.prog w = .ok false w := by kernel_rfl
theorem infE_V : (Try.prog.info? 29).map (fun j => j.size) = some 3 := by kernel_rfl
theorem infE'_V : ∃ j, Try.prog.info? 29 = some j ∧ j.size ≠ 0 := by
  have h := infE_V
  cases e : Try.prog.info? 29 with
  | none => rw [e] at h; cases h
  | some j => rw [e] at h; injection h with h; exact ⟨j, rfl, by have h : j.size = 3 := h; omega⟩
theorem runProg_V (w : World) : Sem.run Try.prog (Sem.program Sem.pure) w = .ok Try.prog w := by kernel_rfl
theorem part1_V (a : Option Addr) (n : Int) (w : World) : (part 44 #[.pointer a, .int .i64 n] 0).run Try.prog w = .ok (.pointer a) w := by simp [part, isAggQ_V]
theorem part2_V (a : Option Addr) (n : Int) (w : World) : (part 3 #[.pointer a, .int .i64 n] 1).run Try.prog w = .ok (.int .i64 n) w := by simp [part, isAggI_V]
theorem eqk_V (d : Nat) (a b : Option Addr) (n m : Int) (w : World) (ha : LiesPV w a) (hb : LiesPV w b) : (Op.equalIn (d + 2) 46 (.agg #[.pointer a, .int .i64 n]) (.agg #[.pointer b, .int .i64 m])).run Try.prog w = .ok (decide (a = b ∧ n = m)) w := by
  obtain ⟨j, hj, hs⟩ := infE'_V
  have h1 := eqp_V Try.underlying44 hj hs d a b w ha hb
  have h2 := eqi_V Try.underlying3 d n m w
  rw [Bool.decide_and]
  generalize decide (a = b) = p at *
  generalize decide (n = m) = q at *
  unfold Op.equalIn
  cases p <;> cases q <;> simp [run_underlying Try.underlying46, heldL_V, program, runProg_V, part1_V, part2_V, h1, h2]
end Go.Proofs.Ytchgeogdiedloaa
/-
  A map that the call has made, whose keys are the places of single lists of values. No statement is proved here.
-/
namespace Go.Proofs.Ytchgeogdiedloaa
open Go Go.RowKit Go.ChangeMaps Go.MapKept
set_option maxRecDepth 100000
set_option linter.unusedVariables false
set_option linter.unusedSimpArgs false
theorem t1_w (e : Bool) (a : Option Addr) (n : Int) (w : World) : (Instr.checkKey e 10000 46 (.agg #[.pointer a, .int .i64 n])).run Try.prog w = .ok () w := by kernel_rfl
/-- A key of the map: the place of a list. -/
structure Kw where
  a : Option Addr
  n : Nat
deriving DecidableEq
def Kw.v (k : Kw) : Value := .agg #[.pointer k.a, .int .i64 k.n]
def LiesKw (w : World) (k : Kw) : Prop := LiesPV w k.a
theorem eqKw (d : Nat) (k k' : Kw) (w : World) (h : LiesKw w k) (h' : LiesKw w k') : (Op.equalIn (d + 2) 46 k.v k'.v).run Try.prog w = .ok (decide (k = k')) w := by
  have := eqk_V d k.a k'.a k.n k'.n w h h'
  unfold Kw.v
  rw [this]
  congr 1
  refine decide_eq_decide.2 ?_
  cases k; cases k'
  simp only [Kw.mk.injEq]
  constructor
  · rintro ⟨rfl, h1⟩; exact ⟨rfl, by omega⟩
  · rintro ⟨rfl, rfl⟩; exact ⟨rfl, rfl⟩
/-- The entries of the map: each key with true. -/
def EsKw : List Kw → List MapEntry → Prop
  | [], [] => True
  | k :: S, e :: es => (e.key = k.v ∧ e.val = .bool true) ∧ EsKw S es
  | _, _ => False
theorem EsKw.push : ∀ {S : List Kw} {es : List MapEntry} (k : Kw) (e : MapEntry), EsKw S es → e.key = k.v → e.val = .bool true → EsKw (S ++ [k]) (es ++ [e])
  | [], [], k, e, _, h1, h2 => ⟨⟨h1, h2⟩, True.intro⟩
  | k' :: S, e' :: es, k, e, h, h1, h2 => ⟨h.1, EsKw.push k e h.2 h1 h2⟩
  | [], _ :: _, _, _, h, _, _ => h.elim
  | _ :: _, [], _, _, h, _, _ => h.elim
theorem findA_w (k : Kw) (w : World) (h : LiesKw w k) : ∀ (S : List Kw) (es : List MapEntry) (i : Nat), EsKw S es → (∀ k' ∈ S, LiesKw w k') → ∃ r, (Instr.findAsking 46 k.v es i).run Try.prog w = .ok r w ∧ (k ∈ S → ∃ j, r = some (j, .bool true)) ∧ (¬ k ∈ S → r = none)
  | [], [], i, _, _ => ⟨none, by simp [Instr.findAsking], fun h => (by cases h), fun _ => rfl⟩
  | [], _ :: _, _, hE, _ => hE.elim
  | _ :: _, [], _, hE, _ => hE.elim
  | k' :: S, e :: es, i, hE, hl => by
      obtain ⟨h1, h2⟩ := hE
      have hq := eqKw 9998 k k' w h (hl k' (List.mem_cons_self ..))
      by_cases e' : k = k'
      · subst e'
        refine ⟨some (i, .bool true), ?_, fun _ => ⟨i, rfl⟩, fun hn => absurd (List.mem_cons_self ..) hn⟩
        rw [decide_eq_true rfl] at hq
        simp [Instr.findAsking, Op.equal, Op.maxDepth, h1.1, h1.2, hq]
      · rw [decide_eq_false e'] at hq
        obtain ⟨r, hr, ha, hb⟩ := findA_w k w h S es (i + 1) h2 (fun x hx => hl x (List.mem_cons_of_mem _ hx))
        refine ⟨r, ?_, fun hm => ha ((List.mem_cons.1 hm).resolve_left e'), fun hn => hb (fun hm => hn (List.mem_cons_of_mem _ hm))⟩
        simp [Instr.findAsking, Op.equal, Op.maxDepth, h1.1, hq, hr]
def MapKw (w : World) (b : Nat) (S : List Kw) : Prop := ∃ es clock, w.heap[b]? = some (.map es clock) ∧ EsKw S es.toList
theorem MapKw.made (w : World) : MapKw (w.alloc (.map #[] 0)) w.heap.size [] := ⟨#[], 0, by show (w.heap.push (.map #[] 0))[w.heap.size]? = _; simp, True.intro⟩
theorem MapKw.keep {w w' : World} {b : Nat} {S : List Kw} (h : MapKw w b S) (hb : w'.heap[b]? = w.heap[b]?) : MapKw w' b S := by
  obtain ⟨es, c, h1, h2⟩ := h; exact ⟨es, c, hb.trans h1, h2⟩
theorem runFind_w (k : Kw) (w : World) (h : LiesKw w k) (S : List Kw) (es : Array MapEntry) (hE : EsKw S es.toList) (hl : ∀ k' ∈ S, LiesKw w k') : ∃ r, (Instr.findKey 46 k.v es.toList).run Try.prog w = .ok r w ∧ (k ∈ S → ∃ j, r = some (j, .bool true)) ∧ (¬ k ∈ S → r = none) := by
  obtain ⟨r, hr, ha, hb⟩ := findA_w k w h S es.toList 0 hE hl
  refine ⟨r, ?_, ha, hb⟩
  unfold Instr.findKey
  cases hE' : es.toList with
  | nil =>
    rw [hE'] at hr hE
    cases S with
    | cons k' S => exact hE.elim
    | nil =>
    rw [hb (by simp)]
    simp [run_underlying Try.underlying46, Instr.findNow]
  | cons e rest =>
    rw [hE'] at hr hE
    cases S with
    | nil => exact hE.elim
    | cons k' S =>
      obtain ⟨h1, h2⟩ := hE
      simp [run_underlying Try.underlying46, Instr.findNow, Instr.sameNow, h1.1, Kw.v]
      simpa [Kw.v] using hr
theorem MapKw.look {w : World} {b : Nat} {S : List Kw} (h : MapKw w b S) {k : Kw} (hk : LiesKw w k) (hl : ∀ k' ∈ S, LiesKw w k') : (Instr.lookup 50 (.map (some b)) k.v false).run Try.prog w = .ok (.bool (decide (k ∈ S))) w := by
  obtain ⟨es, c, h1, h2⟩ := h
  obtain ⟨r, hr, ha, hb⟩ := runFind_w k w hk S es h2 hl
  have hc := t1_w es.isEmpty k.a k.n w
  have hz : (zeroValue 4).run Try.prog w = .ok (.bool false) w := by kernel_rfl
  by_cases hm : k ∈ S
  · obtain ⟨j, rfl⟩ := ha hm
    rw [decide_eq_true hm]
    simp [Instr.lookup, run_underlying Try.underlying50, MapKept.run_getObj_map h1, Kw.v, hc, Result.andThen] at hr ⊢
    simp [hr]
  · rw [hb hm] at hr
    rw [decide_eq_false hm]
    simp [Instr.lookup, run_underlying Try.underlying50, MapKept.run_getObj_map h1, Kw.v, hc, hz, Result.andThen] at hr ⊢
    simp [hr, hz]
theorem MapKw.put {w : World} {b : Nat} {S : List Kw} (h : MapKw w b S) {k : Kw} (hk : LiesKw w k) (hl : ∀ k' ∈ S, LiesKw w k') (hn : ¬ k ∈ S) : ∃ w', (Instr.mapUpdate 50 (.map (some b)) k.v (.bool true)).run Try.prog w = .ok () w' ∧ MapKw w' b (S ++ [k]) ∧ w.grownBy w' (some b) := by
  obtain ⟨es, c, h1, h2⟩ := h
  obtain ⟨r, hr, ha, hb⟩ := runFind_w k w hk S es h2 hl
  have hc := t1_w false k.a k.n w
  rw [hb hn] at hr
  refine ⟨setBlock w b (.map (es.push { key := k.v, val := .bool true, born := c }) (c + 1)), ?_, ⟨_, _, heap_setBlock_same h1 _, ?_⟩, ⟨rfl, rfl, rfl, by simp [setBlock], fun i _ hi => heap_setBlock_other h1 _ (fun e => hi (by rw [e]))⟩⟩
  · simp [Instr.mapUpdate, run_underlying Try.underlying50, MapKept.run_getObj_map h1, Kw.v, hc, Result.andThen] at hr ⊢
    simp [hr, MapKept.run_setObj_map _ h1, setBlock]
  · rw [Array.toList_push]
    exact EsKw.push k _ h2 rfl rfl
theorem EsKw.length : ∀ {S : List Kw} {es : List MapEntry}, EsKw S es → es.length = S.length
  | [], [], _ => rfl
  | k :: S, e :: es, h => by rw [List.length_cons, List.length_cons, EsKw.length h.2]
  | [], _ :: _, h => h.elim
  | _ :: _, [], h => h.elim
theorem MapKw.len {w : World} {b : Nat} {S : List Kw} (h : MapKw w b S) (ty : TypeId) : (Builtin.len_ #[50] ty #[.map (some b)]).run Try.prog w = .ok (.int .i64 S.length) w := by
  obtain ⟨es, c, h1, h2⟩ := h
  have := h2.length
  simp [Builtin.len_, run_underlying Try.underlying50, MapKept.run_getObj_map h1, goInt, Result.andThen] at this ⊢
  omega
end Go.Proofs.Ytchgeogdiedloaa
/-
  The functions that copy types, constructors and data types into memory of their own. No statement is proved here.
-/
namespace Go.Proofs.Ytchgeogdiedloaa
open Go.RowKit
set_option maxRecDepth 100000
set_option linter.unusedVariables false
theorem bcell {W w1 : World} (hb : Below W.heap.size W w1) : (∀ b o, b < W.heap.size → w1.cell? ⟨b, o, none⟩ = W.cell? ⟨b, o, none⟩) ∧ (∀ b o, b < W.heap.size → w1.frozen? ⟨b, o, none⟩ = W.frozen? ⟨b, o, none⟩) :=
  ⟨fun b o h => hb.cell (p := ⟨b, o, none⟩) h, fun b o h => hb.frozen (p := ⟨b, o, none⟩) h⟩
theorem below_of_grown {B : Nat} {w w' : World} (h : w.grownBy w' none) (hB : B ≤ w.heap.size) : Below B w w' :=
  (Below.refl B w).grown h hB (fun k e => by cases e)
theorem own_below {w w' : World} {base : Nat} {e : TypeId} {size : Nat} {v : Value} {n : Nat} {xs : List Value} (h : w.ownsRow base e size v n xs) (hb : Below w.heap.size w w') : w'.ownsRow base e size v n xs :=
  h.kept (row := none) ⟨hb.os, hb.tape, hb.output, hb.size, fun k hk _ => hb.block k hk⟩ (by
    rcases h.2 with ⟨rfl, _⟩ | ⟨g, cap, cur, rfl, _⟩
    · exact .inl rfl
    · exact .inr (by simp [Value.ownBlock]))
theorem own_cell {w : World} {base : Nat} {e : TypeId} {size g n cap : Nat} {xs : List Value} (h : w.ownsRow base e size (.slice (some ⟨g, 0, none⟩) n cap) n xs) (j : Nat) (hj : j < n * size) : ∃ v, w.cell? ⟨g, j, none⟩ = some v := by
  have hl : j < xs.length := by have := h.1; omega
  exact ⟨xs[j], by rw [h.cellAt j hj]; exact List.getElem?_eq_getElem hl⟩
theorem own_lt {w : World} {base : Nat} {e : TypeId} {size g n cap : Nat} {xs : List Value} (h : w.ownsRow base e size (.slice (some ⟨g, 0, none⟩) n cap) n xs) : g < w.heap.size := (h.lt g rfl).2
theorem heap_lt {w : World} {g : Nat} {o : Obj} (h : w.heap[g]? = some o) : g < w.heap.size := by
  rcases Nat.lt_or_ge g w.heap.size with hlt | hge
  · exact hlt
  · rw [Array.getElem?_eq_none hge] at h; cases h
theorem cell_of_blk {w : World} {g : Nat} {cs : Array Value} {t : TypeId} (h : w.heap[g]? = some (.cells cs t (0, 0))) (i : Nat) : w.cell? ⟨g, i, none⟩ = cs[i]? := cell_of_row w g i cs t (0, 0) h
end Go.Proofs.Ytchgeogdiedloaa
/-
  Values as plain trees, and as they lie in memory. No statement is proved here.
-/
namespace Go.Proofs.Ytchgeogdiedloaa
open Go.RowKit
set_option linter.unusedVariables false
inductive Vl where
  | mk (ctor n : Int) (kids : List Vl)
instance : Inhabited Vl := ⟨.mk 0 0 []⟩
def Vl.ctor : Vl → Int | .mk c _ _ => c
def Vl.n : Vl → Int | .mk _ n _ => n
def Vl.kids : Vl → List Vl | .mk _ _ ks => ks
mutual
/-- How many nodes lie below a node. -/
def wV : Vl → Nat | .mk _ _ ks => wVs ks
def wVs : List Vl → Nat | [] => 0 | v :: vs => 1 + wV v + wVs vs
end
theorem wV_kids (v : Vl) : wV v = wVs v.kids := by cases v; rw [wV]; rfl
theorem wVs_sum : ∀ l : List Vl, wVs l = l.length + (l.map wV).sum
  | [] => by rw [wVs]; rfl
  | v :: vs => by rw [wVs, wVs_sum vs]; simp only [List.length_cons, List.map_cons, List.sum_cons]; omega
/-- A value in three cells, its parts in blocks below B; at most d levels. -/
def RVl : Nat → World → Nat → Nat → Nat → Vl → Prop
  | 0, _, _, _, _, _ => False
  | d + 1, w, B, b, o, v => ∃ A cap, w.cell? ⟨b, o, none⟩ = some (.int .i64 v.ctor) ∧ w.cell? ⟨b, o + 1, none⟩ = some (.int .i64 v.n) ∧ w.cell? ⟨b, o + 2, none⟩ = some (.slice A v.kids.length cap) ∧ v.kids.length ≤ maxLen ∧ ∀ k (h : k < v.kids.length), ∃ b' off, A = some ⟨b', off, none⟩ ∧ b' < B ∧ RVl d w B b' (off + k * 3) v.kids[k]
def RVs (d : Nat) (w : World) (B : Nat) (A : Option Addr) (l : List Vl) : Prop := l.length ≤ maxLen ∧ ∀ k (h : k < l.length), ∃ b off, A = some ⟨b, off, none⟩ ∧ b < B ∧ RVl d w B b (off + k * 3) l[k]
section
variable {w w' : World} {B B' : Nat} {A : Option Addr}
theorem RVl.parts {d b o : Nat} {v : Vl} (h : RVl d w B b o v) : ∃ d', d = d' + 1 ∧ ∃ A cap, w.cell? ⟨b, o, none⟩ = some (.int .i64 v.ctor) ∧ w.cell? ⟨b, o + 1, none⟩ = some (.int .i64 v.n) ∧ w.cell? ⟨b, o + 2, none⟩ = some (.slice A v.kids.length cap) ∧ RVs d' w B A v.kids := by
  cases d with
  | zero => exact h.elim
  | succ d =>
    obtain ⟨A, cap, h1, h2, h3, h4, h5⟩ := h
    exact ⟨d, rfl, A, cap, h1, h2, h3, h4, h5⟩
theorem RVl.keep : ∀ (d : Nat) {b o : Nat} {v : Vl}, RVl d w B b o v → b < B → (∀ p : Addr, p.block < B → w'.cell? p = w.cell? p) → B ≤ B' → RVl d w' B' b o v
  | 0, _, _, _, h, _, _, _ => h.elim
  | d + 1, _, _, _, ⟨A, cap, h1, h2, h3, h4, h5⟩, hb, hk, hB => ⟨A, cap, (hk _ hb).trans h1, (hk _ hb).trans h2, (hk _ hb).trans h3, h4, fun k hk' => by
    obtain ⟨b', off, e, hb', hv⟩ := h5 k hk'
    exact ⟨b', off, e, by omega, RVl.keep d hv hb' hk hB⟩⟩
theorem RVs.keep {d : Nat} {l : List Vl} (h : RVs d w B A l) (hk : ∀ p : Addr, p.block < B → w'.cell? p = w.cell? p) (hB : B ≤ B') : RVs d w' B' A l :=
  ⟨h.1, fun k hk' => by
    obtain ⟨b, off, e, hb, hv⟩ := h.2 k hk'
    exact ⟨b, off, e, by omega, hv.keep d hb hk hB⟩⟩
theorem RVs.below {d B0 : Nat} {l : List Vl} (h : RVs d w B A l) (hb : Below B0 w w') (hB : B ≤ B0) : RVs d w' B A l := h.keep (fun _ hp => hb.cell (Nat.lt_of_lt_of_le hp hB)) (Nat.le_refl _)
theorem RVs.at_ {d : Nat} {l : List Vl} (h : RVs d w w.heap.size A l) (hb : Below w.heap.size w w') : RVs d w' w'.heap.size A l := h.keep (fun _ hp => hb.cell hp) hb.size
theorem RVs.nil {d : Nat} : RVs d w B A [] := ⟨Nat.zero_le _, fun k h => absurd h (Nat.not_lt_zero _)⟩
theorem RVl.up : ∀ (d : Nat) {b o : Nat} {v : Vl}, RVl d w B b o v → RVl (d + 1) w B b o v
  | 0, _, _, _, h => h.elim
  | d + 1, _, _, _, ⟨A, cap, h1, h2, h3, h4, h5⟩ => ⟨A, cap, h1, h2, h3, h4, fun k hk' => by
    obtain ⟨b', off, e, hb', hv⟩ := h5 k hk'
    exact ⟨b', off, e, hb', RVl.up d hv⟩⟩
theorem RVl.more {d d' b o : Nat} {v : Vl} (h : RVl d w B b o v) (hd : d ≤ d') : RVl d' w B b o v := by
  obtain ⟨e, rfl⟩ := Nat.exists_eq_add_of_le hd
  clear hd
  induction e with
  | zero => exact h
  | succ e ih => exact RVl.up _ ih
theorem RVs.more {d d' : Nat} {l : List Vl} (h : RVs d w B A l) (hd : d ≤ d') : RVs d' w B A l :=
  ⟨h.1, fun k hk => by obtain ⟨b, off, e, hb, hv⟩ := h.2 k hk; exact ⟨b, off, e, hb, hv.more hd⟩⟩
end
end Go.Proofs.Ytchgeogdiedloaa
/-
  The constructors that can make values of a type: the program's function and the document's. No statement is proved here.
-/
namespace Go.Proofs.Ytchgeogdiedloaa
open Go.RowKit
set_option maxRecDepth 100000
set_option linter.unusedVariables false
theorem ieq_t {a b : Int} (h : a = b) : (a == b) = true := beq_iff_eq.2 h
theorem ieq_f {a b : Int} (h : ¬ a = b) : (a == b) = false := beq_eq_false_iff_ne.2 h
end Go.Proofs.Ytchgeogdiedloaa
/-
  The functions that compare types, constructors and data types, where both sides read as the same. No statement is proved here.
-/
namespace Go.Proofs.Ytchgeogdiedloaa
open Go.RowKit Go.Sort
set_option maxRecDepth 100000
set_option linter.unusedVariables false
theorem below_two {w w' : World} {o o' : Obj} (h : Below ((w.alloc o).alloc o').heap.size ((w.alloc o).alloc o') w') : Below w.heap.size w w' :=
  (((Below.refl _ _).alloc (Nat.le_refl _) _).alloc (by simp) _).trans (h.mono (by simp; omega))
theorem keep_two {w : World} (o o' : Obj) : ∀ p : Addr, p.block < w.heap.size → ((w.alloc o).alloc o').cell? p = w.cell? p := fun p hp => by
  rw [World.cell?_alloc_lt _ _ _ (by simp; omega), World.cell?_alloc_lt _ _ _ hp]
end Go.Proofs.Ytchgeogdiedloaa
/-
  The functions that count how much types, constructors and data types hold. No statement is proved here.
-/
namespace Go.Proofs.Ytchgeogdiedloaa
open Go.RowKit
set_option maxRecDepth 100000
set_option linter.unusedVariables false
theorem ret_i64 {a b : Int} (h : a = b) : Ending.returned (.int .i64 a) = .returned (.int .i64 b) := by rw [h]
end Go.Proofs.Ytchgeogdiedloaa
/-
  Types, constructors and data types that are marked where they lie. No statement is proved here.
-/
namespace Go.Proofs.Ytchgeogdiedloaa
open Go.RowKit
set_option maxRecDepth 100000
set_option linter.unusedVariables false
/-- Two values of one kind: two integers, two strings, or one value. -/
def Alike (v v' : Value) : Prop := v = v' ∨ (∃ x y, v = .int .i64 x ∧ v' = .int .i64 y) ∨ (∃ s s', v = .string s ∧ v' = .string s')
theorem Alike.trans {a b c : Value} (h : Alike a b) (h' : Alike b c) : Alike a c := by
  rcases h with rfl | ⟨x, y, rfl, rfl⟩ | ⟨s, t, rfl, rfl⟩
  · exact h'
  · rcases h' with rfl | ⟨x', y', e, rfl⟩ | ⟨s, t, e, _⟩
    · exact .inr (.inl ⟨_, _, rfl, rfl⟩)
    · exact .inr (.inl ⟨_, _, rfl, rfl⟩)
    · cases e
  · rcases h' with rfl | ⟨x', y', e, _⟩ | ⟨s', t', e, rfl⟩
    · exact .inr (.inr ⟨_, _, rfl, rfl⟩)
    · cases e
    · exact .inr (.inr ⟨_, _, rfl, rfl⟩)
/-- Nothing below lo and nothing from hi on has turned; the cells of other blocks are of the kinds that they were. -/
def Kept (lo hi : Nat) (w w' : World) : Prop := Below lo w w' ∧ (∀ b, hi ≤ b → b < w.heap.size → w'.heap[b]? = w.heap[b]?) ∧ ∀ (g : Nat) (cs : Array Value) (t : TypeId), w.heap[g]? = some (.cells cs t (0, 0)) → ∃ cs' : Array Value, w'.heap[g]? = some (.cells cs' t (0, 0)) ∧ cs'.size = cs.size ∧ ∀ (i : Nat) (v : Value), cs[i]? = some v → ∃ v', cs'[i]? = some v' ∧ Alike v v'
theorem Kept.refl (lo hi : Nat) (w : World) : Kept lo hi w w := ⟨Below.refl _ _, fun _ _ _ => rfl, fun g cs t h => ⟨cs, h, rfl, fun i v hv => ⟨v, hv, .inl rfl⟩⟩⟩
theorem Kept.trans {lo hi : Nat} {a b c : World} (h : Kept lo hi a b) (h' : Kept lo hi b c) : Kept lo hi a c :=
  ⟨h.1.trans h'.1, fun x hx hl => (h'.2.1 x hx (Nat.lt_of_lt_of_le hl h.1.size)).trans (h.2.1 x hx hl), fun g cs t hg => by
    obtain ⟨cs1, e1, s1, q1⟩ := h.2.2 g cs t hg
    obtain ⟨cs2, e2, s2, q2⟩ := h'.2.2 g cs1 t e1
    refine ⟨cs2, e2, by omega, fun i v hv => ?_⟩
    obtain ⟨v1, f1, a1⟩ := q1 i v hv
    obtain ⟨v2, f2, a2⟩ := q2 i v1 f1
    exact ⟨v2, f2, a1.trans a2⟩⟩
theorem Kept.below {lo hi : Nat} {w w' : World} (h : Below w.heap.size w w') (hlo : lo ≤ w.heap.size) : Kept lo hi w w' :=
  ⟨h.mono hlo, fun x _ hl => h.block x hl, fun g cs t hg => ⟨cs, (h.block g (heap_lt hg)).trans hg, rfl, fun i v hv => ⟨v, hv, .inl rfl⟩⟩⟩
theorem Kept.set {lo hi g i : Nat} {w : World} {cs : Array Value} {t : TypeId} {v u : Value} (hg : w.heap[g]? = some (.cells cs t (0, 0))) (hlo : lo ≤ g ∧ g < hi) (hv : cs[i]? = some v) (ha : Alike v u) : Kept lo hi w (w.setCell ⟨g, i, none⟩ u) := by
  refine ⟨(Below.refl _ _).setCell hlo.1 _, fun x hx _ => Below.heap_setCell w ⟨g, i, none⟩ u x (by have := hlo.2; simp; omega), fun b ds s hb => ?_⟩
  by_cases e : b = g
  · subst e
    rw [hg] at hb
    injection hb with hb
    injection hb with e1 e2
    subst e1 e2
    refine ⟨cs.setIfInBounds i u, heap_setCell_same w b i cs t u hg, by simp, fun j x hx => ?_⟩
    have hjl : j < cs.size := (Array.getElem?_eq_some_iff.1 hx).1
    by_cases e : j = i
    · subst e
      rw [hv] at hx
      cases hx
      exact ⟨u, by simp [hjl], ha⟩
    · exact ⟨x, by rw [Array.getElem?_setIfInBounds_ne (by omega)]; exact hx, .inl rfl⟩
  · exact ⟨ds, (Below.heap_setCell w ⟨g, i, none⟩ u b e).trans hb, rfl, fun j x hx => ⟨x, hx, .inl rfl⟩⟩
end Go.Proofs.Ytchgeogdiedloaa
/-
  Lists of integers compared, marked and looked at again. No statement is proved here.
-/
namespace Go.Proofs.Ytchgeogdiedloaa
open Go.RowKit Go.Sort
set_option maxRecDepth 100000
set_option linter.unusedVariables false
/-- The marks from a number on. -/
def mk (k : Int) : Nat → List Int
  | 0 => []
  | n + 1 => mk k n ++ [k + n]
end Go.Proofs.Ytchgeogdiedloaa
/-
  What an argument of the laws reads as: lists of types, of constructors, of data types. No statement is proved here.
-/
namespace Go.Proofs.Ytchgeogdiedloaa
set_option maxRecDepth 100000
open Go.RowKit Go.Deep
open Go.ChangeShapes Go.WideShapes
set_option linter.unusedVariables false
section
variable {H : Type} {enc : TypeId × Value → H} {w : World} {spare : Nat → Bool} {held : Bool}
theorem spot_of {w : World} {a : Addr} {v : Value} (h : w.cell? a = some v) : a.spot = none := by
  unfold World.cell? at h
  split at h
  · split at h
    · cases h
    · simpa using ‹¬ a.spot.isSome = true›
  · cases h
end
end Go.Proofs.Ytchgeogdiedloaa
/-
  The function FnExactWorldValid returns true for every list of data types, and the list reads behind the call as it read before. No condition.
-/
namespace Go.Proofs.Ytchgeogdiedloaa
open Go.RowKit Go.Deep
open Go.ChangeShapes Go.WideShapes Go.ChangeAt
set_option maxRecDepth 100000
set_option linter.unusedVariables false
theorem wvOwn : ownKnob Try.prog.godebug = none := by kernel_rfl
theorem wvLaid : laidOutB Try.prog = true := by kernel_rfl
end Go.Proofs.Ytchgeogdiedloaa
/-
  When a tree is a value of a type: the document's function. No statement is proved here.
-/
namespace Go.Proofs.Ytchgeogdiedloaa
open Go.RowKit Go.Sort Go.Deep
set_option maxRecDepth 100000
set_option linter.unusedVariables false
/-- A value in a block of its own. -/
def VBx (w : World) (b : Nat) (c n : Int) (s : Value) : Prop := w.cell? ⟨b, 0, none⟩ = some (.int .i64 c) ∧ w.cell? ⟨b, 1, none⟩ = some (.int .i64 n) ∧ w.cell? ⟨b, 2, none⟩ = some s
theorem VBx.at_ {w w' : World} {b : Nat} {c n : Int} {s : Value} (h : VBx w b c n s) (hb : Below w.heap.size w w') : VBx w' b c n s :=
  ⟨(hb.cell (p := ⟨b, 0, none⟩) (Go.block_lt_of_cell h.1)).trans h.1, (hb.cell (p := ⟨b, 1, none⟩) (Go.block_lt_of_cell h.2.1)).trans h.2.1, (hb.cell (p := ⟨b, 2, none⟩) (Go.block_lt_of_cell h.2.2)).trans h.2.2⟩
theorem below_aft {w wr w' : World} {B : Nat} (h : Below B w wr) (hb : Below wr.heap.size wr w') (hB : B ≤ wr.heap.size) : Below B w w' := h.trans (hb.mono hB)
end Go.Proofs.Ytchgeogdiedloaa
/-
  The place of a list in memory: the program's keyOf. No statement is proved here.
-/
namespace Go.Proofs.Ytchgeogdiedloaa
open Go.RowKit Go.Sort Go.Deep
set_option maxRecDepth 100000
set_option linter.unusedVariables false
def kA (A : Option Addr) (n : Nat) : Option Addr := if n = 0 then none else A
set_option maxHeartbeats 1600000 in
theorem keyOfV_any (g n cap : Nat) (w : World) (hn : n ≤ maxLen) (h0 : 0 < n) :
    Calls Try.prog 17 #[.slice (some ⟨g, 0, none⟩) n cap] w fun e w' => e = .returned (.agg #[.pointer (some ⟨g, 0, none⟩), .int .i64 n]) ∧ Below w.heap.size w w' := by
  unfold maxLen at hn
  have q0 : ((n : Int) == 0) = false := ieq_f (by omega)
  have q1 : (0 : Int) < (n : Int) := by omega
  go_enter Try.func17, Try.ntmps17
  go_wp2_with fail
  refine bodyPost_ret (v := .agg #[.pointer (some ⟨g, 0, none⟩), .int .i64 n]) (by simp [results, Try.results17, go_sem]) rfl ⟨rfl, ?_⟩
  repeat (first | exact Below.refl _ _ | refine Below.setCell ?_ (by simp <;> omega) _ | refine Below.alloc ?_ (by simp <;> omega) _)
theorem keyOfV_nil (A : Option Addr) (cap : Nat) (w : World) :
    Calls Try.prog 17 #[.slice A 0 cap] w fun e w' => e = .returned (.agg #[.pointer none, .int .i64 0]) ∧ Below w.heap.size w w' := by
  go_enter Try.func17, Try.ntmps17
  go_wp2_with fail
  refine bodyPost_ret (v := .agg #[.pointer none, .int .i64 0]) (by simp [results, Try.results17, go_sem]) rfl ⟨rfl, ?_⟩
  repeat (first | exact Below.refl _ _ | refine Below.setCell ?_ (by simp <;> omega) _ | refine Below.alloc ?_ (by simp <;> omega) _)
end Go.Proofs.Ytchgeogdiedloaa
/-
  Worlds that differ only in some blocks. No statement is proved here.
-/
namespace Go.Proofs.Ytchgeogdiedloaa
open Go.RowKit
set_option maxRecDepth 100000
set_option linter.unusedVariables false
/-- Only blocks of P have turned, and blocks that are new. -/
def Fr (P : Nat → Prop) (w w' : World) : Prop := w'.os = w.os ∧ w'.tape = w.tape ∧ w'.output = w.output ∧ w.heap.size ≤ w'.heap.size ∧ ∀ b, b < w.heap.size → ¬ P b → w'.heap[b]? = w.heap[b]?
theorem Fr.refl (P : Nat → Prop) (w : World) : Fr P w w := ⟨rfl, rfl, rfl, Nat.le_refl _, fun _ _ _ => rfl⟩
theorem Fr.size {P : Nat → Prop} {w w' : World} (h : Fr P w w') : w.heap.size ≤ w'.heap.size := h.2.2.2.1
theorem Fr.trans {P : Nat → Prop} {a b c : World} (h : Fr P a b) (h' : Fr P b c) : Fr P a c :=
  ⟨h'.1.trans h.1, h'.2.1.trans h.2.1, h'.2.2.1.trans h.2.2.1, Nat.le_trans h.size h'.size, fun x hx hp => (h'.2.2.2.2 x (Nat.lt_of_lt_of_le hx h.size) hp).trans (h.2.2.2.2 x hx hp)⟩
theorem Fr.wide {P P' : Nat → Prop} {w w' : World} (h : Fr P w w') (hp : ∀ b, P b → P' b) : Fr P' w w' :=
  ⟨h.1, h.2.1, h.2.2.1, h.size, fun x hx hq => h.2.2.2.2 x hx (fun h' => hq (hp x h'))⟩
theorem Fr.block {P : Nat → Prop} {w w' : World} (h : Fr P w w') {b : Nat} {o : Obj} (hb : w.heap[b]? = some o) (hp : ¬ P b) : w'.heap[b]? = some o := (h.2.2.2.2 b (heap_lt hb) hp).trans hb
theorem Fr.below {P : Nat → Prop} {w w' : World} (h : Below w.heap.size w w') : Fr P w w' := ⟨h.os, h.tape, h.output, h.size, fun b hb _ => h.block b hb⟩
theorem Fr.to {P : Nat → Prop} {w w' : World} {B : Nat} (h : Fr P w w') (hB : B ≤ w.heap.size) (hp : ∀ b, b < B → ¬ P b) : Below B w w' :=
  ⟨h.1, h.2.1, h.2.2.1, h.size, fun b hb => h.2.2.2.2 b (Nat.lt_of_lt_of_le hb hB) (hp b hb)⟩
theorem Fr.set {P : Nat → Prop} (w : World) (g i : Nat) (u : Value) (hp : P g) : Fr P w (w.setCell ⟨g, i, none⟩ u) := by
  have h := (Below.refl 0 w).setCell (p := ⟨g, i, none⟩) (Nat.zero_le _) u
  exact ⟨h.os, h.tape, h.output, h.size, fun b _ hb => Below.heap_setCell w ⟨g, i, none⟩ u b (fun e => hb (e ▸ hp))⟩
theorem Fr.grown {P : Nat → Prop} {w w' : World} {row : Option Nat} (h : w.grownBy w' row) (hp : ∀ b, some b = row → P b) : Fr P w w' :=
  ⟨h.os, h.tape, h.output, h.size, fun b hb hq => h.block b hb (fun e => hq (hp b e))⟩
theorem Fr.kept {lo hi : Nat} {w w' : World} (h : Kept lo hi w w') : Fr (fun b => lo ≤ b ∧ b < hi) w w' := by
  refine ⟨h.1.os, h.1.tape, h.1.output, h.1.size, fun b hb hq => ?_⟩
  by_cases e : b < lo
  · exact h.1.block b e
  · exact h.2.1 b (by have : ¬ b < hi := fun h' => hq ⟨by omega, h'⟩; omega) hb
/-- The blocks that are new between two worlds. -/
def Nw (w w' : World) : Nat → Prop := fun b => w.heap.size ≤ b ∧ b < w'.heap.size
end Go.Proofs.Ytchgeogdiedloaa
/-
  Vl trees in blocks of their own: no part has a block of another part. No statement is proved here.
-/
namespace Go.Proofs.Ytchgeogdiedloaa
open Go.RowKit
set_option maxRecDepth 100000
set_option linter.unusedVariables false
/-- Trees in blocks of P; no part has a block of another part. -/
def OVc : Nat → World → (Nat → Prop) → Option Addr → List Vl → Prop
  | 0, _, _, _, _ => False
  | d + 1, w, P, A, l => l.length ≤ maxLen ∧ (0 < l.length → ∃ (g : Nat) (cs : Array Value) (Q : Nat → Nat → Prop), A = some ⟨g, 0, none⟩ ∧ P g ∧ w.heap[g]? = some (.cells cs 29 (0, 0)) ∧ (∀ k b, k < l.length → Q k b → P b ∧ b ≠ g ∧ ∀ j, j < l.length → j ≠ k → ¬ Q j b) ∧ ∀ k (h : k < l.length), ∃ A' cap, cs[k * 3]? = some (.int .i64 l[k].ctor) ∧ cs[k * 3 + 1]? = some (.int .i64 l[k].n) ∧ (cs[k * 3 + 2]? = some (.slice A' l[k].kids.length cap) ∧ l[k].kids.length ≤ cap ∧ cap ≤ maxLen) ∧ OVc d w (Q k) A' l[k].kids)
def OVpc (d : Nat) (w : World) (P : Nat → Prop) (g : Nat) (cs : Array Value) (Q : Nat → Nat → Prop) (l : List Vl) : Prop := P g ∧ w.heap[g]? = some (.cells cs 29 (0, 0)) ∧ (∀ k b, k < l.length → Q k b → P b ∧ b ≠ g ∧ ∀ j, j < l.length → j ≠ k → ¬ Q j b) ∧ ∀ k (h : k < l.length), ∃ A' cap, cs[k * 3]? = some (.int .i64 l[k].ctor) ∧ cs[k * 3 + 1]? = some (.int .i64 l[k].n) ∧ (cs[k * 3 + 2]? = some (.slice A' l[k].kids.length cap) ∧ l[k].kids.length ≤ cap ∧ cap ≤ maxLen) ∧ OVc d w (Q k) A' l[k].kids
theorem OVc.parts {d : Nat} {w : World} {P : Nat → Prop} {A : Option Addr} {l : List Vl} (h : OVc d w P A l) : ∃ d', d = d' + 1 ∧ l.length ≤ maxLen ∧ (0 < l.length → ∃ g cs Q, A = some ⟨g, 0, none⟩ ∧ OVpc d' w P g cs Q l) := by
  cases d with
  | zero => exact h.elim
  | succ d => exact ⟨d, rfl, h⟩
theorem OVc.mk {d : Nat} {w : World} {P : Nat → Prop} {A : Option Addr} {l : List Vl} (hl : l.length ≤ maxLen) (h : 0 < l.length → ∃ g cs Q, A = some ⟨g, 0, none⟩ ∧ OVpc d w P g cs Q l) : OVc (d + 1) w P A l := ⟨hl, h⟩
theorem OVc.nil (d : Nat) (w : World) (P : Nat → Prop) (A : Option Addr) : OVc (d + 1) w P A [] := ⟨Nat.zero_le _, fun h => absurd h (Nat.not_lt_zero _)⟩
theorem OVc.wide : ∀ (d : Nat) {w : World} {P P' : Nat → Prop} {A : Option Addr} {l : List Vl}, OVc d w P A l → (∀ b, P b → P' b) → OVc d w P' A l
  | 0, _, _, _, _, _, h, _ => h.elim
  | d + 1, _, _, _, _, _, ⟨h1, h2⟩, hp => ⟨h1, fun hl => by
    obtain ⟨g, cs, Q, e, hg, hh, hq, hc⟩ := h2 hl
    exact ⟨g, cs, Q, e, hp g hg, hh, fun k b hk hb => ⟨hp b (hq k b hk hb).1, (hq k b hk hb).2⟩, hc⟩⟩
theorem OVc.fr : ∀ (d : Nat) {w w' : World} {P P' : Nat → Prop} {A : Option Addr} {l : List Vl}, OVc d w P A l → Fr P' w w' → (∀ b, P b → ¬ P' b) → OVc d w' P A l
  | 0, _, _, _, _, _, _, h, _, _ => h.elim
  | d + 1, _, _, _, _, _, _, ⟨h1, h2⟩, hf, hp => ⟨h1, fun hl => by
    obtain ⟨g, cs, Q, e, hg, hh, hq, hc⟩ := h2 hl
    refine ⟨g, cs, Q, e, hg, hf.block hh (hp g hg), hq, fun k hk => ?_⟩
    obtain ⟨A', cap, e0, e1, e8, e9⟩ := hc k hk
    exact ⟨A', cap, e0, e1, e8, OVc.fr d e9 hf (fun b hb => hp b (hq k b hk hb).1)⟩⟩
theorem OVc.up : ∀ (d : Nat) {w : World} {P : Nat → Prop} {A : Option Addr} {l : List Vl}, OVc d w P A l → OVc (d + 1) w P A l
  | 0, _, _, _, _, h => h.elim
  | d + 1, _, _, _, _, ⟨h1, h2⟩ => ⟨h1, fun hl => by
    obtain ⟨g, cs, Q, e, hg, hh, hq, hc⟩ := h2 hl
    refine ⟨g, cs, Q, e, hg, hh, hq, fun k hk => ?_⟩
    obtain ⟨A', cap, e0, e1, e8, e9⟩ := hc k hk
    exact ⟨A', cap, e0, e1, e8, OVc.up d e9⟩⟩
theorem OVc.more {d d' : Nat} {w : World} {P : Nat → Prop} {A : Option Addr} {l : List Vl} (h : OVc d w P A l) (hd : d ≤ d') : OVc d' w P A l := by
  obtain ⟨e, rfl⟩ := Nat.exists_eq_add_of_le hd
  clear hd
  induction e with
  | zero => exact h
  | succ e ih => exact OVc.up _ ih
theorem OVc.reads : ∀ (d : Nat) {w : World} {P : Nat → Prop} {A : Option Addr} {l : List Vl}, OVc (d + 1) w P A l → RVs d w w.heap.size A l
  | d, w, P, A, l, ⟨h1, h2⟩ => ⟨h1, fun k hk => by
    obtain ⟨g, cs, Q, e, hg, hh, hq, hc⟩ := h2 (by omega)
    obtain ⟨A', cap, e0, e1, e8, e9⟩ := hc k hk
    refine ⟨g, 0, e, heap_lt hh, ?_⟩
    cases d with
    | zero => exact e9.elim
    | succ d =>
      obtain ⟨q1, q2⟩ := OVc.reads d e9
      exact ⟨A', cap, by rw [cell_of_blk hh, Nat.zero_add]; exact e0, by rw [cell_of_blk hh, Nat.zero_add]; exact e1, by rw [cell_of_blk hh, Nat.zero_add]; exact e8.1, q1, q2⟩⟩
/-- The row of a list while it is made: k parts are there, each with blocks of its own, from lo on. -/
def RowVc (d : Nat) (w : World) (lo : Nat) (og : Option Nat) (Q : Nat → Nat → Prop) (l : List Vl) (xs : List Value) (k : Nat) : Prop := ∀ j (h : j < l.length), j < k → (∀ b, Q j b → lo ≤ b ∧ b < w.heap.size ∧ some b ≠ og ∧ ∀ i, i < k → i ≠ j → ¬ Q i b) ∧ ∃ A' cap, xs[j * 3]? = some (.int .i64 l[j].ctor) ∧ xs[j * 3 + 1]? = some (.int .i64 l[j].n) ∧ (xs[j * 3 + 2]? = some (.slice A' l[j].kids.length cap) ∧ l[j].kids.length ≤ cap ∧ cap ≤ maxLen) ∧ OVc d w (Q j) A' l[j].kids
theorem RowVc.zero (d : Nat) (w : World) (lo : Nat) (og : Option Nat) (Q : Nat → Nat → Prop) (l : List Vl) (xs : List Value) : RowVc d w lo og Q l xs 0 := fun j _ h => absurd h (by omega)
theorem RowVc.fr {d : Nat} {w w' : World} {lo : Nat} {og : Option Nat} {Q : Nat → Nat → Prop} {l : List Vl} {xs : List Value} {k : Nat} {P' : Nat → Prop} (h : RowVc d w lo og Q l xs k) (hf : Fr P' w w') (hp : ∀ b, lo ≤ b → some b ≠ og → b < w.heap.size → ¬ P' b) : RowVc d w' lo og Q l xs k := fun j hj hjk => by
  obtain ⟨h1, A', cap, e0, e1, e8, e9⟩ := h j hj hjk
  refine ⟨fun b hb => ?_, A', cap, e0, e1, e8, e9.fr d hf (fun b hb => ?_)⟩
  · obtain ⟨a1, a2, a3, a4⟩ := h1 b hb
    exact ⟨a1, Nat.lt_of_lt_of_le a2 hf.size, a3, a4⟩
  · obtain ⟨a1, a2, a3, a4⟩ := h1 b hb
    exact hp b a1 a3 a2
/-- One part more: its blocks are new. -/
theorem RowVc.more {d : Nat} {w w' : World} {lo : Nat} {og : Option Nat} {Q : Nat → Nat → Prop} {l : List Vl} {xs xs' : List Value} {k cap : Nat} {A' : Option Addr} (h : RowVc d w lo og Q l xs k) (hb : Below w.heap.size w w') (hk : k < l.length) (hlo : lo ≤ w.heap.size) (hog : ∀ g, og = some g → g < w.heap.size)
    (ho : OVc d w' (Nw w w') A' l[k].kids) (hx : ∀ j c, j < k → c < 3 → xs'[j * 3 + c]? = xs[j * 3 + c]?) (e0 : xs'[k * 3]? = some (.int .i64 l[k].ctor)) (e1 : xs'[k * 3 + 1]? = some (.int .i64 l[k].n)) (e8 : xs'[k * 3 + 2]? = some (.slice A' l[k].kids.length cap) ∧ l[k].kids.length ≤ cap ∧ cap ≤ maxLen) :
    RowVc d w' lo og (fun i => if i = k then Nw w w' else Q i) l xs' (k + 1) := by
  have h' := h.fr (P' := fun _ => False) (Fr.below hb) (fun _ _ _ _ h => h)
  intro j hj hjk
  by_cases e : j = k
  · subst e
    refine ⟨fun b hq => ?_, A', cap, e0, e1, e8, ?_⟩
    · replace hq : (if j = j then Nw w w' else Q j) b := hq
      rw [if_pos rfl] at hq
      refine ⟨Nat.le_trans hlo hq.1, hq.2, fun e => ?_, fun i hi hij hqi => ?_⟩
      · have := hog b e.symm; have := hq.1; omega
      · replace hqi : (if i = j then Nw w w' else Q i) b := hqi
        rw [if_neg hij] at hqi
        have := ((h i (by omega) (by omega)).1 b hqi).2.1
        have := hq.1
        omega
    · show OVc d w' (if j = j then Nw w w' else Q j) A' l[j].kids
      rw [if_pos rfl]; exact ho
  · obtain ⟨h1, A2, c2, f0, f1, f8, f9⟩ := h' j hj (by omega)
    refine ⟨fun b hq => ?_, A2, c2, (hx j 0 (by omega) (by omega)).trans f0, (hx j 1 (by omega) (by omega)).trans f1, ⟨(hx j 2 (by omega) (by omega)).trans f8.1, f8.2⟩, ?_⟩
    · replace hq : (if j = k then Nw w w' else Q j) b := hq
      rw [if_neg e] at hq
      obtain ⟨a1, a2, a3, a4⟩ := h1 b hq
      refine ⟨a1, a2, a3, fun i hi hij hqi => ?_⟩
      replace hqi : (if i = k then Nw w w' else Q i) b := hqi
      by_cases e2 : i = k
      · rw [if_pos e2] at hqi
        have := ((h j hj (by omega)).1 b hq).2.1
        have := hqi.1
        omega
      · rw [if_neg e2] at hqi
        exact a4 i (by omega) hij hqi
    · show OVc d w' (if j = k then Nw w w' else Q j) A2 l[j].kids
      rw [if_neg e]; exact f9
theorem OVc.of_row {d : Nat} {w : World} {lo : Nat} {v : Value} {l : List Vl} {xs : List Value} {Q : Nat → Nat → Prop} (h : w.ownsRow lo 29 3 v l.length xs) (hx : RowVc d w lo v.ownBlock Q l xs l.length) (hn : l.length ≤ 1048576) : ∃ A cap, v = .slice A l.length cap ∧ OVc (d + 1) w (fun b => lo ≤ b ∧ b < w.heap.size) A l := by
  rcases h.2 with ⟨h', h0⟩ | ⟨g, cap, cur, h', hb, hg, hnc, hcm, hcs, htake⟩
  · refine ⟨none, 0, by rw [h0]; exact h', by unfold maxLen; omega, fun hl => absurd hl (by omega)⟩
  · subst h'
    refine ⟨_, cap, rfl, by unfold maxLen; omega, fun _ => ⟨g, cur, Q, rfl, ⟨hb, heap_lt hg⟩, hg, fun k b hk hq => ?_, fun k hk => ?_⟩⟩
    · obtain ⟨a1, a2, a3, a4⟩ := (hx k hk hk).1 b hq
      exact ⟨⟨a1, a2⟩, fun e => a3 (by rw [e]; rfl), a4⟩
    · obtain ⟨_, A', c', e0, e1, e8, e9⟩ := hx k hk hk
      have hat : ∀ i, i < l.length * 3 → cur[i]? = xs[i]? := fun i hi => by
        rw [← htake, List.getElem?_take_of_lt hi, Array.getElem?_toList]
      exact ⟨A', c', (hat _ (by omega)).trans e0, (hat _ (by omega)).trans e1, ⟨(hat _ (by omega)).trans e8.1, e8.2⟩, e9⟩
end Go.Proofs.Ytchgeogdiedloaa
/-
  Vl trees copied into blocks of their own: no part has a block of another part. No statement is proved here.
-/
namespace Go.Proofs.Ytchgeogdiedloaa
open Go.RowKit
set_option maxRecDepth 100000
set_option linter.unusedVariables false
theorem infoOVc : (Try.prog.info? 29).map (fun i => (i.zero, i.size, i.bytes)) = some (some (.agg #[.int .i64 0, .int .i64 0, .slice none 0 0]), 3, 40) := by kernel_rfl
def ToVOc (d : Nat) : Prop := ∀ (A : Option Addr) (l : List Vl) (cap : Nat) (w : World), RVs d w w.heap.size A l → wVs l ≤ 1048576 →
  Calls Try.prog 14 #[.slice A l.length cap] w fun e w' => ∃ A2, e = .returned (.slice A2 l.length l.length) ∧ OVc (d + 1) w' (Nw w w') A2 l ∧ Below w.heap.size w w'
theorem toVOc_of {d : Nat} (ih : ToVOc d) (A : Option Addr) (l : List Vl) (cap : Nat) (x0 x1 : Int) (w : World) (hr : RVs d w w.heap.size A l) (hn : wVs l ≤ 1048576) :
    Calls Try.prog 7 #[.agg #[.int .i64 x0, .int .i64 x1, .slice A l.length cap]] w fun e w' => ∃ A2, e = .returned (.agg #[.int .i64 x0, .int .i64 x1, .slice A2 l.length l.length]) ∧ OVc (d + 1) w' (Nw w w') A2 l ∧ Below w.heap.size w w' := by
  have Hr := Lib.hid hr
  have IH := Lib.hid ih
  clear hr ih
  go_enter Try.func7, Try.ntmps7
  go_wp2_with (go_at_call 14; refine (IH.out _ _ _ _ (by exact Hr.out.keep (fun p hp => by rw [World.cell?_alloc_lt _ _ _ (by simp <;> omega), World.cell?_alloc_lt _ _ _ (by simp <;> omega), World.cell?_alloc_lt _ _ _ hp]) (by simp <;> omega)) hn).mono ?_; rintro e w1 ⟨A2, rfl, hf, hb⟩; obtain ⟨hc, hfz⟩ := bcell hb; have hz : w.heap.size + 2 < w1.heap.size := by have := hb.size; simp at this; omega)
  refine bodyPost_ret (v := .agg #[.int .i64 x0, .int .i64 x1, .slice A2 l.length l.length]) (by simp [results, Try.results7, go_sem, hc]) rfl ⟨A2, rfl, ?_, ?_⟩
  · refine (hf.fr _ (P' := fun b => b < w.heap.size + 3) ?_ (fun b hq => by have := hq.1; simp only [World.size_alloc] at this; omega)).wide _ (fun b hq => ⟨by have := hq.1; simp only [World.size_alloc] at this; omega, by have h2 := hq.2; simpa [World.setCell] using h2⟩)
    refine Fr.trans ?_ (Fr.set _ _ _ _ (by simp <;> omega))
    refine Fr.trans ?_ (Fr.set _ _ _ _ (by simp <;> omega))
    refine Fr.trans ?_ (Fr.set _ _ _ _ (by simp <;> omega))
    refine Fr.trans ?_ (Fr.set _ _ _ _ (by simp <;> omega))
    exact Fr.refl _ _
  · skip
    refine Below.setCell ?_ (by simp <;> omega) _
    refine Below.setCell ?_ (by simp <;> omega) _
    refine Below.setCell ?_ (by simp <;> omega) _
    refine Below.setCell ?_ (by simp <;> omega) _
    refine Below.trans ?_ (hb.mono (by simp <;> omega))
    refine Below.alloc (Below.alloc (Below.alloc (Below.refl _ _) ?_ _) ?_ _) ?_ _ <;> simp <;> omega
set_option maxHeartbeats 1600000 in
theorem toVOcs_of (d : Nat) (ih : ∀ d', d = d' + 1 → ToVOc d') : ToVOc d := by
  intro A l cap w hr hn
  obtain ⟨i0, hi, hz0, hz1, hz2⟩ := info_parts infoOVc
  have Hr := Lib.hid hr
  have IH := Lib.hid ih
  have HSum := Lib.hid (wVs_sum l)
  have hl : l.length ≤ 1048576 := by have := wVs_sum l; omega
  clear hr ih
  go_enter Try.func14, Try.ntmps14
  go_wp2_with (at_make; refine wpList_make_full _ rfl _ _ 27 rfl w.heap.size 29 i0 _ 3 Try.underlying27 hi hz0 hz1 _ _ _ _ l.length rfl rfl rfl rfl (by rw [hz2]; omega) (by unfold maxLen; omega) (Nat.le_refl _) ?_; intro w1 hown hgr)
  go_loopw [4] (fun i wr => ∃ k : Nat, k ≤ l.length ∧ i = .int .i64 k ∧ ∃ xs Q, wr.ownsRow w.heap.size 29 3 (.slice (some ⟨w.heap.size, 0, none⟩) l.length l.length) l.length xs ∧ RowVc d wr w.heap.size (some w.heap.size) Q l xs k ∧ Below w.heap.size w wr) (fun i _ => l.length - (intOf i).toNat)
  case atStart => exact ⟨0, by omega, rfl, _, fun _ _ => False, hown, RowVc.zero _ _ _ _ _ _ _, below_of_grown hgr (Nat.le_refl _)⟩
  case round =>
    obtain ⟨k, hk, rfl, xs, Q, hown, hrow, hb⟩ := hrel
    clear hgr hi hz0 hz1 hz2
    by_cases hlt : k < l.length
    · obtain ⟨b, off, rfl, hbB, hv⟩ := (Hr.out.below hb (Nat.le_refl _)).2 k hlt
      obtain ⟨d', hd, A', cp, c0, c1, c2, hm⟩ := hv.parts
      have ha : wVs l[k].kids ≤ 1048576 := by
        have h1 := sum_take_succ wV l k hlt
        have h2 := sum_take_le wV l (k + 1)
        have h3 := wV_kids l[k]
        have h4 := HSum.out
        omega
      have IHd := Lib.hid (IH.out d' hd)
      have Hm := Lib.hid (hm.keep (fun _ _ => rfl) hb.size)
      have HD := Lib.hid hd
      have hwl : w.heap.size < wr.heap.size := own_lt hown
      have HROW := Lib.hid hrow
      clear hm hv hd hrow
      go_wp2_with (go_at_call 7; refine (toVOc_of IHd.out _ _ _ _ _ _ Hm.out ha).mono ?_; rintro e w2 ⟨A2, rfl, hf, hb2⟩; have hown2 := own_below hown hb2; obtain ⟨v0, f0⟩ := own_cell hown2 (k * 3) (by omega); obtain ⟨v1, f1⟩ := own_cell hown2 (k * 3 + 1) (by omega); obtain ⟨v2, f2⟩ := own_cell hown2 (k * 3 + 2) (by omega); have g0 := hown2.frozenAt (k * 3); have g1 := hown2.frozenAt (k * 3 + 1); have g2 := hown2.frozenAt (k * 3 + 2); skip)
      have hx := hown2.1
      have s1 := (hown2.stored (k * 3) (.int .i64 l[k].ctor)).1
      have s2 := (s1.stored (k * 3 + 1) (.int .i64 l[k].n)).1
      have s3 := (s2.stored (k * 3 + 2) (.slice A2 l[k].kids.length l[k].kids.length)).1
      have hf2 : OVc d w2 (Nw wr w2) A2 l[k].kids := by rw [HD.out]; exact hf
      have hrow2 := HROW.out.more (xs' := (((xs.set (k * 3) (.int .i64 l[k].ctor)).set (k * 3 + 1) (.int .i64 l[k].n)).set (k * 3 + 2) (.slice A2 l[k].kids.length l[k].kids.length))) hb2 hlt (by omega) (fun g e => by injection e with e; omega) hf2 (fun j c hj hc => by rw [List.getElem?_set_ne (by omega), List.getElem?_set_ne (by omega), List.getElem?_set_ne (by omega)]) (by rw [List.getElem?_set_ne (by omega), List.getElem?_set_ne (by omega), List.getElem?_set_self (by first | omega | (simp <;> omega))]) (by rw [List.getElem?_set_ne (by omega), List.getElem?_set_self (by first | omega | (simp <;> omega))]) ⟨by rw [List.getElem?_set_self (by first | omega | (simp <;> omega))], Nat.le_refl _, by unfold maxLen; have := wVs_sum l[k].kids; omega⟩
      have hrow3 := hrow2.fr (w' := (((w2.setCell ⟨w.heap.size, k * 3, none⟩ (.int .i64 l[k].ctor)).setCell ⟨w.heap.size, k * 3 + 1, none⟩ (.int .i64 l[k].n)).setCell ⟨w.heap.size, k * 3 + 2, none⟩ (.slice A2 l[k].kids.length l[k].kids.length))) (P' := fun b => b = w.heap.size) (((Fr.set (P := fun b => b = w.heap.size) _ _ _ _ rfl).trans (Fr.set (P := fun b => b = w.heap.size) _ _ _ _ rfl)).trans (Fr.set (P := fun b => b = w.heap.size) _ _ _ _ rfl)) (fun b _ hb' _ e => hb' (by rw [e]))
      go_roundw
      case rel => exact ⟨k + 1, by omega, by go_num, _, _, s3, hrow3, (((hb.trans (hb2.mono hb.size)).setCell (Nat.le_refl _) _).setCell (Nat.le_refl _) _).setCell (Nat.le_refl _) _⟩
      case measure => simp [intOf]; omega
    · go_wp2_with fail
      go_ret
      have he : k = l.length := by omega
      obtain ⟨A2, c2, e2, ho⟩ := OVc.of_row hown (he ▸ hrow) hl
      injection e2 with e3 e4 e5
      subst e3
      exact ⟨_, rfl, ho, hb⟩
theorem toVOcs_any : ∀ d, ToVOc d
  | 0 => toVOcs_of 0 (fun _ h => by omega)
  | d + 1 => toVOcs_of (d + 1) (fun d' h => (Nat.succ.inj h) ▸ toVOcs_any d)
theorem toVOc_any (d : Nat) (A : Option Addr) (l : List Vl) (cap : Nat) (x0 x1 : Int) (w : World) (hr : RVs d w w.heap.size A l) (hn : wVs l ≤ 1048576) :
    Calls Try.prog 7 #[.agg #[.int .i64 x0, .int .i64 x1, .slice A l.length cap]] w fun e w' => ∃ A2, e = .returned (.agg #[.int .i64 x0, .int .i64 x1, .slice A2 l.length l.length]) ∧ OVc (d + 1) w' (Nw w w') A2 l ∧ Below w.heap.size w w' := toVOc_of (toVOcs_any d) A l cap x0 x1 w hr hn
end Go.Proofs.Ytchgeogdiedloaa
/-
  An append to a row of the call's own, as one operation of a region. No statement is proved here.
-/
namespace Go.Proofs.Ytchgeogdiedloaa
open Go.RowKit
set_option maxRecDepth 100000
set_option linter.unusedVariables false
theorem own_at {w w' : World} {base : Nat} {e : TypeId} {size n : Nat} {v : Value} {xs : List Value} (h : w.ownsRow base e size v n xs) (hk : ∀ b, v.ownBlock = some b → w'.heap[b]? = w.heap[b]?) : w'.ownsRow base e size v n xs := by
  refine ⟨h.1, ?_⟩
  rcases h.2 with h0 | ⟨g, cap, cur, a1, a2, a3, a4⟩
  · exact .inl h0
  · exact .inr ⟨g, cap, cur, a1, a2, (hk g (by rw [a1]; rfl)).trans a3, a4⟩
theorem own_form {w : World} {base : Nat} {e : TypeId} {size n : Nat} {v : Value} {xs : List Value} (h : w.ownsRow base e size v n xs) : ∃ A c, v = .slice A n c ∧ ∀ b, v.ownBlock = some b → base ≤ b ∧ b < w.heap.size := by
  rcases h.2 with ⟨rfl, rfl⟩ | ⟨g, cap, cur, rfl, a2, a3, a4⟩
  · exact ⟨none, 0, rfl, fun b e => by cases e⟩
  · exact ⟨_, _, rfl, fun b e => by injection e with e; subst e; exact ⟨a2, heap_lt a3⟩⟩
end Go.Proofs.Ytchgeogdiedloaa
/-
  The worklist of pairs of lists of the program's CompareValues: what holds of it, as far as equality goes. No statement is proved here.
-/
namespace Go.Proofs.Ytchgeogdiedloaa
open Go.RowKit Go.Sort Go.Deep
set_option maxRecDepth 100000
set_option linter.unusedVariables false
theorem OVc.addr {d : Nat} {w : World} {P : Nat → Prop} {A : Option Addr} {l : List Vl} (h : OVc d w P A l) (hl : 0 < l.length) : ∃ g, A = some ⟨g, 0, none⟩ ∧ P g ∧ ∃ c, w.heap[g]? = some (.cells c 29 (0, 0)) := by
  obtain ⟨d', rfl, _, hp⟩ := h.parts
  obtain ⟨g, cs, Q, e, hg, hh, _⟩ := hp hl
  exact ⟨g, e, hg, cs, hh⟩
def LyV (w : World) (m : Nat) (a : Option Addr) : Prop := ∀ x, a = some x → x.block < w.heap.size ∧ x.block ≠ m ∧ ∃ c t, w.heap[x.block]? = some (.cells c t (0, 0))
theorem LyV.lies {w w' : World} {m : Nat} {a : Option Addr} (h : LyV w m a) (hf : Fr (fun b => b = m) w w') : LiesPV w' a := fun x hx => by
  obtain ⟨h1, h2, c, t, h3⟩ := h x hx
  exact ⟨c, t, hf.block h3 h2⟩
theorem kA_nil0 (A : Option Addr) : kA A 0 = none := rfl
theorem kA_pos0 {A : Option Addr} {n : Nat} (h : 0 < n) : kA A n = A := if_neg (by omega)
theorem OVc.ly {d : Nat} {w : World} {P : Nat → Prop} {A : Option Addr} {l : List Vl} {m : Nat} (h : OVc d w P A l) (hm : ∀ b, P b → b < w.heap.size ∧ b ≠ m) : LyV w m (kA A l.length) := fun x hx => by
  by_cases h0 : l.length = 0
  · rw [h0, kA_nil0] at hx; cases hx
  · obtain ⟨g, rfl, hg, c, hh⟩ := h.addr (by omega)
    rw [kA_pos0 (by omega)] at hx
    cases hx
    exact ⟨(hm g hg).1, (hm g hg).2, c, _, hh⟩
/-- The rest of a list, from some place of its row on; the parts of its elements in blocks of P, each in its own. -/
def SfV (d : Nat) (w : World) (m : Nat) (P : Nat → Prop) (A : Option Addr) (l : List Vl) : Prop := l.length ≤ maxLen ∧ (∀ b, P b → b < w.heap.size ∧ b ≠ m) ∧ (0 < l.length → ∃ (g off : Nat) (Q : Nat → Nat → Prop), A = some ⟨g, off, none⟩ ∧ g < w.heap.size ∧ g ≠ m ∧ (∀ k b, k < l.length → Q k b → P b ∧ ∀ j, j < l.length → j ≠ k → ¬ Q j b) ∧ ∀ k (h : k < l.length), ∃ A' cap, w.cell? ⟨g, off + k * 3, none⟩ = some (.int .i64 l[k].ctor) ∧ w.cell? ⟨g, off + k * 3 + 1, none⟩ = some (.int .i64 l[k].n) ∧ w.cell? ⟨g, off + k * 3 + 2, none⟩ = some (.slice A' l[k].kids.length cap) ∧ (l[k].kids.length ≤ cap ∧ cap ≤ maxLen) ∧ OVc d w (Q k) A' l[k].kids)
theorem OVc.sf {d m : Nat} {w : World} {P : Nat → Prop} {A : Option Addr} {l : List Vl} (h : OVc (d + 1) w P A l) (hm : ∀ b, P b → b < w.heap.size ∧ b ≠ m) : SfV d w m (fun b => P b ∧ ∀ a, A = some a → b ≠ a.block) A l := by
  obtain ⟨h1, h2⟩ := h
  refine ⟨h1, fun b hb => hm b hb.1, fun hl => ?_⟩
  obtain ⟨g, cs, Q, rfl, hg, hh, hq, hc⟩ := h2 hl
  refine ⟨g, 0, Q, rfl, (hm g hg).1, (hm g hg).2, fun k b hk hb => ⟨⟨(hq k b hk hb).1, fun a ha => by cases ha; exact (hq k b hk hb).2.1⟩, (hq k b hk hb).2.2⟩, fun k hk => ?_⟩
  obtain ⟨A', cap, e0, e1, e2, e9⟩ := hc k hk
  exact ⟨A', cap, by rw [Nat.zero_add]; exact (cell_of_blk hh _).trans e0, by rw [Nat.zero_add]; exact (cell_of_blk hh _).trans e1, by rw [Nat.zero_add]; exact (cell_of_blk hh _).trans e2.1, e2.2, e9⟩
theorem SfV.empty {d m : Nat} {w : World} {P : Nat → Prop} (A : Option Addr) (h : ∀ b, P b → b < w.heap.size ∧ b ≠ m) : SfV d w m P A [] := ⟨Nat.zero_le _, h, fun h => absurd h (Nat.lt_irrefl 0)⟩
theorem mem_last {α : Type} {l : List α} {x y : α} (hy : y ∈ l ++ [x]) : y ∈ l ∨ y = x := (List.mem_append.1 hy).imp id List.mem_singleton.1
theorem in_last {α : Type} {l : List α} {x : α} : x ∈ l ++ [x] := List.mem_append.2 (.inr (List.mem_singleton.2 rfl))
theorem in_front {α : Type} {l : List α} {x y : α} (h : y ∈ l) : y ∈ l ++ [x] := List.mem_append.2 (.inl h)
theorem Fr.cellV {P : Nat → Prop} {w w' : World} (h : Fr P w w') {a : Addr} (hb : a.block < w.heap.size) (hp : ¬ P a.block) : w'.cell? a = w.cell? a := World.cell?_of_block (h.2.2.2.2 a.block hb hp)
theorem keyOfV_own {d : Nat} {w0 : World} {P : Nat → Prop} {A : Option Addr} {l : List Vl} (h : OVc d w0 P A l) (cap : Nat) (w : World) :
    Calls Try.prog 17 #[.slice A l.length cap] w fun e w' => e = .returned (.agg #[.pointer (kA A l.length), .int .i64 l.length]) ∧ Below w.heap.size w w' := by
  by_cases h0 : 0 < l.length
  · obtain ⟨g, rfl, _, _⟩ := h.addr h0
    rw [kA_pos0 h0]
    obtain ⟨d', rfl, hl, _⟩ := h.parts
    exact keyOfV_any g l.length cap w hl h0
  · have e : l.length = 0 := by omega
    rw [e]
    exact keyOfV_nil A cap w
end Go.Proofs.Ytchgeogdiedloaa
