/-
  Types, constructors and data types as they lie in memory: slices of structs that hold strings, integers and slices; and how much they hold. No statement is proved here.
-/
import Derived.Test.YtbdiahnelnbdnaaRows
import Derived.WalkKit
import Derived.WalkSpells
import Derived.ProofKit
import Derived.Lib.Hide
import Derived.LaidEqlPtr
import Derived.MapKept
import Derived.Maps.Own
import Derived.Laws.AppendOwn
import Derived.Laws.OwnMore
import Derived.BigQuiet
import Derived.Deep.QuietTactic
import Derived.Maps.OwnOps
import Derived.Maps.Views
import Derived.Lib.QuietBelow
import Derived.Laws.BytesString
import Derived.Deep.Fields
import Derived.Deep.Slices
import Derived.Deep.RegionWith
import Derived.IntWalk
import Derived.Outline
import Derived.Lib.SmallJoins
namespace Go.Proofs.Ytbdiahnelnbdnaa
open Go.RowKit
set_option linter.unusedVariables false

/-! How much a value holds. -/
/-- What is left of a number, or -1. -/
def left (l : Int) (n : Nat) : Int := if (n : Int) ≤ l then l - n else -1
theorem left_ok {l : Int} {n : Nat} (h : (n : Int) ≤ l) : left l n = l - n := if_pos h
theorem left_no {l : Int} {n : Nat} (h : ¬ (n : Int) ≤ l) : left l n = -1 := if_neg h
theorem sum_take_succ {α : Type} (f : α → Nat) (l : List α) (k : Nat) (h : k < l.length) : ((l.take (k + 1)).map f).sum = ((l.take k).map f).sum + f l[k] := by
  rw [List.take_succ_eq_append_getElem h]; simp only [List.map_append, List.sum_append, List.map_cons, List.map_nil, List.sum_cons, List.sum_nil]; omega
theorem sum_take_le {α : Type} (f : α → Nat) (l : List α) (k : Nat) : ((l.take k).map f).sum ≤ (l.map f).sum := by
  conv => rhs; rw [← List.take_append_drop k l]
  simp only [List.map_append, List.sum_append]; omega
end Go.Proofs.Ytbdiahnelnbdnaa
/-
  A map that the call has made, whose keys are the places of two lists, as a list of keys. No statement is proved here.
-/
namespace Go.Proofs.Ytbdiahnelnbdnaa
open Go Go.RowKit Go.ChangeMaps Go.MapKept
set_option maxRecDepth 100000
set_option linter.unusedVariables false
set_option linter.unusedSimpArgs false
def LiesPP (w : World) (a : Option Addr) : Prop := ∀ x, a = some x → ∃ c t, w.heap[x.block]? = some (.cells c t (0, 0))
theorem eqp_P {tp te : Nat} {j : TypeInfo} (hp : Try.prog.underlying tp = some (.pointer te)) (hte : Try.prog.info? te = some j) (hsz : j.size ≠ 0) (d : Nat) (a b : Option Addr) (w : World) (ha : LiesPP w a) (hb : LiesPP w b)  : (Op.equalIn (d + 1) tp (.pointer a) (.pointer b)).run Try.prog w = .ok (decide (a = b)) w := by
  cases a with
  | none => cases b with
    | none => simp [Op.equalIn, run_underlying hp]
    | some y => simp [Op.equalIn, run_underlying hp]
  | some x => cases b with
    | none => simp [Op.equalIn, run_underlying hp]
    | some y =>
      by_cases e : x = y
      · subst e
        simp [Op.equalIn, run_underlying hp, sizeOf, typeInfo, hte, hsz, run_sameAddr_same]
      · obtain ⟨ca, ta, h1⟩ := ha x rfl
        obtain ⟨cb, tb, h2⟩ := hb y rfl
        simp [Op.equalIn, run_underlying hp, sizeOf, typeInfo, hte, hsz, run_sameAddr_other w e h1 h2, e]
theorem eqi_P {t : Nat} {k : IntKind} (ht : Try.prog.underlying t = some (.int k)) (d : Nat) (n m : Int) (w : World) : (Op.equalIn (d + 1) t (.int .i64 n) (.int .i64 m)).run Try.prog w = .ok (decide (n = m)) w := by
  simp [Op.equalIn, run_underlying ht]
  by_cases e : n = m <;> simp [e]
theorem heldL_P : Try.prog.stoodInHeld 40 = false := by kernel_rfl
theorem isAggQ_P (w : World) : (isAgg 38).run Try.prog w = .ok false w := by kernel_rfl
theorem isAggI_P (w : World) : (isAgg 3).run Try.prog w = .ok false w := by kernel_rfl
theorem infE_P : (Try.prog.info? 28).map (fun j => j.size) = some 6 := by kernel_rfl
theorem infE'_P : ∃ j, Try.prog.info? 28 = some j ∧ j.size ≠ 0 := by
  have h := infE_P
  cases e : Try.prog.info? 28 with
  | none => rw [e] at h; cases h
  | some j => rw [e] at h; injection h with h; exact ⟨j, rfl, by have h : j.size = 6 := h; omega⟩
theorem runProg_P (w : World) : Sem.run Try.prog (Sem.program Sem.pure) w = .ok Try.prog w := by kernel_rfl
theorem part1_P (a : Option Addr) (n : Int) (w : World) : (part 38 #[.pointer a, .int .i64 n] 0).run Try.prog w = .ok (.pointer a) w := by simp [part, isAggQ_P]
theorem part2_P (a : Option Addr) (n : Int) (w : World) : (part 3 #[.pointer a, .int .i64 n] 1).run Try.prog w = .ok (.int .i64 n) w := by simp [part, isAggI_P]
theorem eqk_P (d : Nat) (a b : Option Addr) (n m : Int) (w : World) (ha : LiesPP w a) (hb : LiesPP w b) : (Op.equalIn (d + 2) 40 (.agg #[.pointer a, .int .i64 n]) (.agg #[.pointer b, .int .i64 m])).run Try.prog w = .ok (decide (a = b ∧ n = m)) w := by
  obtain ⟨j, hj, hs⟩ := infE'_P
  have h1 := eqp_P Try.underlying38 hj hs d a b w ha hb
  have h2 := eqi_P Try.underlying3 d n m w
  rw [Bool.decide_and]
  generalize decide (a = b) = p at *
  generalize decide (n = m) = q at *
  unfold Op.equalIn
  cases p <;> cases q <;> simp [run_underlying Try.underlying40, heldL_P, program, runProg_P, part1_P, part2_P, h1, h2]
end Go.Proofs.Ytbdiahnelnbdnaa
/-
  A map that the call has made, whose keys are the places of single lists of patterns; only the keys are said. No statement is proved here.
-/
namespace Go.Proofs.Ytbdiahnelnbdnaa
open Go Go.RowKit Go.ChangeMaps Go.MapKept
set_option maxRecDepth 100000
set_option linter.unusedVariables false
set_option linter.unusedSimpArgs false
theorem t1_v (e : Bool) (a : Option Addr) (n : Int) (w : World) : (Instr.checkKey e 10000 40 (.agg #[.pointer a, .int .i64 n])).run Try.prog w = .ok () w := by kernel_rfl
/-- A key of the map: the place of a list. -/
structure Kv where
  a : Option Addr
  n : Nat
deriving DecidableEq
def Kv.v (k : Kv) : Value := .agg #[.pointer k.a, .int .i64 k.n]
def LiesKv (w : World) (k : Kv) : Prop := LiesPP w k.a
theorem eqKv (d : Nat) (k k' : Kv) (w : World) (h : LiesKv w k) (h' : LiesKv w k') : (Op.equalIn (d + 2) 40 k.v k'.v).run Try.prog w = .ok (decide (k = k')) w := by
  have := eqk_P d k.a k'.a k.n k'.n w h h'
  unfold Kv.v
  rw [this]
  congr 1
  refine decide_eq_decide.2 ?_
  cases k; cases k'
  simp only [Kv.mk.injEq]
  constructor
  · rintro ⟨rfl, h1⟩; exact ⟨rfl, by omega⟩
  · rintro ⟨rfl, rfl⟩; exact ⟨rfl, rfl⟩
/-- The entries of the map: each key. -/
def EsKv : List Kv → List MapEntry → Prop
  | [], [] => True
  | k :: S, e :: es => e.key = k.v ∧ EsKv S es
  | _, _ => False
theorem EsKv.push : ∀ {S : List Kv} {es : List MapEntry} (k : Kv) (e : MapEntry), EsKv S es → e.key = k.v → EsKv (S ++ [k]) (es ++ [e])
  | [], [], k, e, _, h1 => ⟨h1, True.intro⟩
  | k' :: S, e' :: es, k, e, h, h1 => ⟨h.1, EsKv.push k e h.2 h1⟩
  | [], _ :: _, _, _, h, _ => h.elim
  | _ :: _, [], _, _, h, _ => h.elim
theorem findA_v (k : Kv) (w : World) (h : LiesKv w k) : ∀ (S : List Kv) (es : List MapEntry) (i : Nat), EsKv S es → (∀ k' ∈ S, LiesKv w k') → ∃ r, (Instr.findAsking 40 k.v es i).run Try.prog w = .ok r w ∧ (¬ k ∈ S → r = none)
  | [], [], i, _, _ => ⟨none, by simp [Instr.findAsking], fun _ => rfl⟩
  | [], _ :: _, _, hE, _ => hE.elim
  | _ :: _, [], _, hE, _ => hE.elim
  | k' :: S, e :: es, i, hE, hl => by
      obtain ⟨h1, h2⟩ := hE
      have hq := eqKv 9998 k k' w h (hl k' (List.mem_cons_self ..))
      by_cases e' : k = k'
      · subst e'
        refine ⟨some (i, e.val), ?_, fun hn => absurd (List.mem_cons_self ..) hn⟩
        rw [decide_eq_true rfl] at hq
        simp [Instr.findAsking, Op.equal, Op.maxDepth, h1, hq]
      · rw [decide_eq_false e'] at hq
        obtain ⟨r, hr, hb⟩ := findA_v k w h S es (i + 1) h2 (fun x hx => hl x (List.mem_cons_of_mem _ hx))
        refine ⟨r, ?_, fun hn => hb (fun hm => hn (List.mem_cons_of_mem _ hm))⟩
        simp [Instr.findAsking, Op.equal, Op.maxDepth, h1, hq, hr]
def MapKv (w : World) (b : Nat) (S : List Kv) : Prop := ∃ es clock, w.heap[b]? = some (.map es clock) ∧ EsKv S es.toList
theorem MapKv.made (w : World) : MapKv (w.alloc (.map #[] 0)) w.heap.size [] := ⟨#[], 0, by show (w.heap.push (.map #[] 0))[w.heap.size]? = _; simp, True.intro⟩
theorem MapKv.keep {w w' : World} {b : Nat} {S : List Kv} (h : MapKv w b S) (hb : w'.heap[b]? = w.heap[b]?) : MapKv w' b S := by
  obtain ⟨es, c, h1, h2⟩ := h; exact ⟨es, c, hb.trans h1, h2⟩
theorem runFind_v (k : Kv) (w : World) (h : LiesKv w k) (S : List Kv) (es : Array MapEntry) (hE : EsKv S es.toList) (hl : ∀ k' ∈ S, LiesKv w k') : ∃ r, (Instr.findKey 40 k.v es.toList).run Try.prog w = .ok r w ∧ (¬ k ∈ S → r = none) := by
  obtain ⟨r, hr, hb⟩ := findA_v k w h S es.toList 0 hE hl
  refine ⟨r, ?_, hb⟩
  unfold Instr.findKey
  cases hE' : es.toList with
  | nil =>
    rw [hE'] at hr hE
    cases S with
    | cons k' S => exact hE.elim
    | nil =>
    rw [hb (by simp)]
    simp [run_underlying Try.underlying40, Instr.findNow]
  | cons e rest =>
    rw [hE'] at hr hE
    cases S with
    | nil => exact hE.elim
    | cons k' S =>
      obtain ⟨h1, h2⟩ := hE
      simp [run_underlying Try.underlying40, Instr.findNow, Instr.sameNow, h1, Kv.v]
      simpa [Kv.v] using hr
theorem MapKv.lookB {w : World} {b : Nat} {S : List Kv} (h : MapKv w b S) {k : Kv} (hk : LiesKv w k) (hl : ∀ k' ∈ S, LiesKv w k') (hn : ¬ k ∈ S) : (Instr.lookup 46 (.map (some b)) k.v false).run Try.prog w = .ok (.bool false) w := by
  obtain ⟨es, c, h1, h2⟩ := h
  obtain ⟨r, hr, hb⟩ := runFind_v k w hk S es h2 hl
  have hc := t1_v es.isEmpty k.a k.n w
  have hz : (zeroValue 4).run Try.prog w = .ok (.bool false) w := by kernel_rfl
  rw [hb hn] at hr
  simp [Instr.lookup, run_underlying Try.underlying46, MapKept.run_getObj_map h1, Kv.v, hc, hz, Result.andThen] at hr ⊢
  simp [hr, hz]
theorem MapKv.putB {w : World} {b : Nat} {S : List Kv} (h : MapKv w b S) {k : Kv} (hk : LiesKv w k) (hl : ∀ k' ∈ S, LiesKv w k') (hn : ¬ k ∈ S) (x : Value) : ∃ w', (Instr.mapUpdate 46 (.map (some b)) k.v x).run Try.prog w = .ok () w' ∧ MapKv w' b (S ++ [k]) ∧ w.grownBy w' (some b) := by
  obtain ⟨es, c, h1, h2⟩ := h
  obtain ⟨r, hr, hb⟩ := runFind_v k w hk S es h2 hl
  have hc := t1_v false k.a k.n w
  rw [hb hn] at hr
  refine ⟨setBlock w b (.map (es.push { key := k.v, val := x, born := c }) (c + 1)), ?_, ⟨_, _, heap_setBlock_same h1 _, ?_⟩, ⟨rfl, rfl, rfl, by simp [setBlock], fun i _ hi => heap_setBlock_other h1 _ (fun e => hi (by rw [e]))⟩⟩
  · simp [Instr.mapUpdate, run_underlying Try.underlying46, MapKept.run_getObj_map h1, Kv.v, hc, Result.andThen] at hr ⊢
    simp [hr, MapKept.run_setObj_map _ h1, setBlock]
  · rw [Array.toList_push]
    exact EsKv.push k _ h2 rfl
theorem MapKv.lookL {w : World} {b : Nat} {S : List Kv} (h : MapKv w b S) {k : Kv} (hk : LiesKv w k) (hl : ∀ k' ∈ S, LiesKv w k') (hn : ¬ k ∈ S) : (Instr.lookup 36 (.map (some b)) k.v true).run Try.prog w = .ok (.tuple #[.slice none 0 0, .bool false]) w := by
  obtain ⟨es, c, h1, h2⟩ := h
  obtain ⟨r, hr, hb⟩ := runFind_v k w hk S es h2 hl
  have hc := t1_v es.isEmpty k.a k.n w
  have hz : (zeroValue 26).run Try.prog w = .ok (.slice none 0 0) w := by kernel_rfl
  rw [hb hn] at hr
  simp [Instr.lookup, run_underlying Try.underlying36, MapKept.run_getObj_map h1, Kv.v, hc, hz, Result.andThen] at hr ⊢
  simp [hr, hz]
theorem MapKv.putL {w : World} {b : Nat} {S : List Kv} (h : MapKv w b S) {k : Kv} (hk : LiesKv w k) (hl : ∀ k' ∈ S, LiesKv w k') (hn : ¬ k ∈ S) (x : Value) : ∃ w', (Instr.mapUpdate 36 (.map (some b)) k.v x).run Try.prog w = .ok () w' ∧ MapKv w' b (S ++ [k]) ∧ w.grownBy w' (some b) := by
  obtain ⟨es, c, h1, h2⟩ := h
  obtain ⟨r, hr, hb⟩ := runFind_v k w hk S es h2 hl
  have hc := t1_v false k.a k.n w
  rw [hb hn] at hr
  refine ⟨setBlock w b (.map (es.push { key := k.v, val := x, born := c }) (c + 1)), ?_, ⟨_, _, heap_setBlock_same h1 _, ?_⟩, ⟨rfl, rfl, rfl, by simp [setBlock], fun i _ hi => heap_setBlock_other h1 _ (fun e => hi (by rw [e]))⟩⟩
  · simp [Instr.mapUpdate, run_underlying Try.underlying36, MapKept.run_getObj_map h1, Kv.v, hc, Result.andThen] at hr ⊢
    simp [hr, MapKept.run_setObj_map _ h1, setBlock]
  · rw [Array.toList_push]
    exact EsKv.push k _ h2 rfl
end Go.Proofs.Ytbdiahnelnbdnaa
/-
  The functions that copy types, constructors and data types into memory of their own. No statement is proved here.
-/
namespace Go.Proofs.Ytbdiahnelnbdnaa
open Go.RowKit
set_option maxRecDepth 100000
set_option linter.unusedVariables false
theorem bcell {W w1 : World} (hb : Below W.heap.size W w1) : (∀ b o, b < W.heap.size → w1.cell? ⟨b, o, none⟩ = W.cell? ⟨b, o, none⟩) ∧ (∀ b o, b < W.heap.size → w1.frozen? ⟨b, o, none⟩ = W.frozen? ⟨b, o, none⟩) :=
  ⟨fun b o h => hb.cell (p := ⟨b, o, none⟩) h, fun b o h => hb.frozen (p := ⟨b, o, none⟩) h⟩
theorem below_of_grown {B : Nat} {w w' : World} (h : w.grownBy w' none) (hB : B ≤ w.heap.size) : Below B w w' :=
  (Below.refl B w).grown h hB (fun k e => by cases e)
theorem own_below {w w' : World} {base : Nat} {e : TypeId} {size : Nat} {v : Value} {n : Nat} {xs : List Value} (h : w.ownsRow base e size v n xs) (hb : Below w.heap.size w w') : w'.ownsRow base e size v n xs :=
  h.kept (row := none) ⟨hb.os, hb.tape, hb.output, hb.size, fun k hk _ => hb.block k hk⟩ (by
    rcases h.2 with ⟨rfl, _⟩ | ⟨g, cap, cur, rfl, _⟩
    · exact .inl rfl
    · exact .inr (by simp [Value.ownBlock]))
theorem own_cell {w : World} {base : Nat} {e : TypeId} {size g n cap : Nat} {xs : List Value} (h : w.ownsRow base e size (.slice (some ⟨g, 0, none⟩) n cap) n xs) (j : Nat) (hj : j < n * size) : ∃ v, w.cell? ⟨g, j, none⟩ = some v := by
  have hl : j < xs.length := by have := h.1; omega
  exact ⟨xs[j], by rw [h.cellAt j hj]; exact List.getElem?_eq_getElem hl⟩
theorem own_lt {w : World} {base : Nat} {e : TypeId} {size g n cap : Nat} {xs : List Value} (h : w.ownsRow base e size (.slice (some ⟨g, 0, none⟩) n cap) n xs) : g < w.heap.size := (h.lt g rfl).2
theorem heap_lt {w : World} {g : Nat} {o : Obj} (h : w.heap[g]? = some o) : g < w.heap.size := by
  rcases Nat.lt_or_ge g w.heap.size with hlt | hge
  · exact hlt
  · rw [Array.getElem?_eq_none hge] at h; cases h
theorem cell_of_blk {w : World} {g : Nat} {cs : Array Value} {t : TypeId} (h : w.heap[g]? = some (.cells cs t (0, 0))) (i : Nat) : w.cell? ⟨g, i, none⟩ = cs[i]? := cell_of_row w g i cs t (0, 0) h
end Go.Proofs.Ytbdiahnelnbdnaa
/-
  The constructors that can make values of a type: the program's function and the document's. No statement is proved here.
-/
namespace Go.Proofs.Ytbdiahnelnbdnaa
open Go.RowKit
set_option maxRecDepth 100000
set_option linter.unusedVariables false
theorem ieq_t {a b : Int} (h : a = b) : (a == b) = true := beq_iff_eq.2 h
theorem ieq_f {a b : Int} (h : ¬ a = b) : (a == b) = false := beq_eq_false_iff_ne.2 h
end Go.Proofs.Ytbdiahnelnbdnaa
/-
  The functions that compare types, constructors and data types, where both sides read as the same. No statement is proved here.
-/
namespace Go.Proofs.Ytbdiahnelnbdnaa
open Go.RowKit Go.Sort
set_option maxRecDepth 100000
set_option linter.unusedVariables false
theorem below_two {w w' : World} {o o' : Obj} (h : Below ((w.alloc o).alloc o').heap.size ((w.alloc o).alloc o') w') : Below w.heap.size w w' :=
  (((Below.refl _ _).alloc (Nat.le_refl _) _).alloc (by simp) _).trans (h.mono (by simp; omega))
theorem keep_two {w : World} (o o' : Obj) : ∀ p : Addr, p.block < w.heap.size → ((w.alloc o).alloc o').cell? p = w.cell? p := fun p hp => by
  rw [World.cell?_alloc_lt _ _ _ (by simp; omega), World.cell?_alloc_lt _ _ _ hp]
end Go.Proofs.Ytbdiahnelnbdnaa
/-
  The functions that count how much types, constructors and data types hold. No statement is proved here.
-/
namespace Go.Proofs.Ytbdiahnelnbdnaa
open Go.RowKit
set_option maxRecDepth 100000
set_option linter.unusedVariables false
theorem ret_i64 {a b : Int} (h : a = b) : Ending.returned (.int .i64 a) = .returned (.int .i64 b) := by rw [h]
end Go.Proofs.Ytbdiahnelnbdnaa
/-
  Types, constructors and data types that are marked where they lie. No statement is proved here.
-/
namespace Go.Proofs.Ytbdiahnelnbdnaa
open Go.RowKit
set_option maxRecDepth 100000
set_option linter.unusedVariables false
/-- Two values of one kind: two integers, two strings, or one value. -/
def Alike (v v' : Value) : Prop := v = v' ∨ (∃ x y, v = .int .i64 x ∧ v' = .int .i64 y) ∨ (∃ s s', v = .string s ∧ v' = .string s')
theorem Alike.trans {a b c : Value} (h : Alike a b) (h' : Alike b c) : Alike a c := by
  rcases h with rfl | ⟨x, y, rfl, rfl⟩ | ⟨s, t, rfl, rfl⟩
  · exact h'
  · rcases h' with rfl | ⟨x', y', e, rfl⟩ | ⟨s, t, e, _⟩
    · exact .inr (.inl ⟨_, _, rfl, rfl⟩)
    · exact .inr (.inl ⟨_, _, rfl, rfl⟩)
    · cases e
  · rcases h' with rfl | ⟨x', y', e, _⟩ | ⟨s', t', e, rfl⟩
    · exact .inr (.inr ⟨_, _, rfl, rfl⟩)
    · cases e
    · exact .inr (.inr ⟨_, _, rfl, rfl⟩)
/-- Nothing below lo and nothing from hi on has turned; the cells of other blocks are of the kinds that they were. -/
def Kept (lo hi : Nat) (w w' : World) : Prop := Below lo w w' ∧ (∀ b, hi ≤ b → b < w.heap.size → w'.heap[b]? = w.heap[b]?) ∧ ∀ (g : Nat) (cs : Array Value) (t : TypeId), w.heap[g]? = some (.cells cs t (0, 0)) → ∃ cs' : Array Value, w'.heap[g]? = some (.cells cs' t (0, 0)) ∧ cs'.size = cs.size ∧ ∀ (i : Nat) (v : Value), cs[i]? = some v → ∃ v', cs'[i]? = some v' ∧ Alike v v'
theorem Kept.refl (lo hi : Nat) (w : World) : Kept lo hi w w := ⟨Below.refl _ _, fun _ _ _ => rfl, fun g cs t h => ⟨cs, h, rfl, fun i v hv => ⟨v, hv, .inl rfl⟩⟩⟩
theorem Kept.trans {lo hi : Nat} {a b c : World} (h : Kept lo hi a b) (h' : Kept lo hi b c) : Kept lo hi a c :=
  ⟨h.1.trans h'.1, fun x hx hl => (h'.2.1 x hx (Nat.lt_of_lt_of_le hl h.1.size)).trans (h.2.1 x hx hl), fun g cs t hg => by
    obtain ⟨cs1, e1, s1, q1⟩ := h.2.2 g cs t hg
    obtain ⟨cs2, e2, s2, q2⟩ := h'.2.2 g cs1 t e1
    refine ⟨cs2, e2, by omega, fun i v hv => ?_⟩
    obtain ⟨v1, f1, a1⟩ := q1 i v hv
    obtain ⟨v2, f2, a2⟩ := q2 i v1 f1
    exact ⟨v2, f2, a1.trans a2⟩⟩
theorem Kept.below {lo hi : Nat} {w w' : World} (h : Below w.heap.size w w') (hlo : lo ≤ w.heap.size) : Kept lo hi w w' :=
  ⟨h.mono hlo, fun x _ hl => h.block x hl, fun g cs t hg => ⟨cs, (h.block g (heap_lt hg)).trans hg, rfl, fun i v hv => ⟨v, hv, .inl rfl⟩⟩⟩
theorem Kept.set {lo hi g i : Nat} {w : World} {cs : Array Value} {t : TypeId} {v u : Value} (hg : w.heap[g]? = some (.cells cs t (0, 0))) (hlo : lo ≤ g ∧ g < hi) (hv : cs[i]? = some v) (ha : Alike v u) : Kept lo hi w (w.setCell ⟨g, i, none⟩ u) := by
  refine ⟨(Below.refl _ _).setCell hlo.1 _, fun x hx _ => Below.heap_setCell w ⟨g, i, none⟩ u x (by have := hlo.2; simp; omega), fun b ds s hb => ?_⟩
  by_cases e : b = g
  · subst e
    rw [hg] at hb
    injection hb with hb
    injection hb with e1 e2
    subst e1 e2
    refine ⟨cs.setIfInBounds i u, heap_setCell_same w b i cs t u hg, by simp, fun j x hx => ?_⟩
    have hjl : j < cs.size := (Array.getElem?_eq_some_iff.1 hx).1
    by_cases e : j = i
    · subst e
      rw [hv] at hx
      cases hx
      exact ⟨u, by simp [hjl], ha⟩
    · exact ⟨x, by rw [Array.getElem?_setIfInBounds_ne (by omega)]; exact hx, .inl rfl⟩
  · exact ⟨ds, (Below.heap_setCell w ⟨g, i, none⟩ u b e).trans hb, rfl, fun j x hx => ⟨x, hx, .inl rfl⟩⟩
end Go.Proofs.Ytbdiahnelnbdnaa
/-
  Lists of integers compared, marked and looked at again. No statement is proved here.
-/
namespace Go.Proofs.Ytbdiahnelnbdnaa
open Go.RowKit Go.Sort
set_option maxRecDepth 100000
set_option linter.unusedVariables false
/-- The marks from a number on. -/
def mk (k : Int) : Nat → List Int
  | 0 => []
  | n + 1 => mk k n ++ [k + n]
end Go.Proofs.Ytbdiahnelnbdnaa
/-
  What an argument of the laws reads as: lists of types, of constructors, of data types. No statement is proved here.
-/
namespace Go.Proofs.Ytbdiahnelnbdnaa
set_option maxRecDepth 100000
open Go.RowKit Go.Deep
open Go.ChangeShapes Go.WideShapes
set_option linter.unusedVariables false
section
variable {H : Type} {enc : TypeId × Value → H} {w : World} {spare : Nat → Bool} {held : Bool}
theorem spot_of {w : World} {a : Addr} {v : Value} (h : w.cell? a = some v) : a.spot = none := by
  unfold World.cell? at h
  split at h
  · split at h
    · cases h
    · simpa using ‹¬ a.spot.isSome = true›
  · cases h
end
end Go.Proofs.Ytbdiahnelnbdnaa
/-
  The function FnExactWorldValid returns true for every list of data types, and the list reads behind the call as it read before. No condition.
-/
namespace Go.Proofs.Ytbdiahnelnbdnaa
open Go.RowKit Go.Deep
open Go.ChangeShapes Go.WideShapes Go.ChangeAt
set_option maxRecDepth 100000
set_option linter.unusedVariables false
theorem wvOwn : ownKnob Try.prog.godebug = none := by kernel_rfl
theorem wvLaid : laidOutB Try.prog = true := by kernel_rfl
end Go.Proofs.Ytbdiahnelnbdnaa
/-
  When a tree is a value of a type: the document's function. No statement is proved here.
-/
namespace Go.Proofs.Ytbdiahnelnbdnaa
open Go.RowKit Go.Sort Go.Deep
set_option maxRecDepth 100000
set_option linter.unusedVariables false
theorem below_aft {w wr w' : World} {B : Nat} (h : Below B w wr) (hb : Below wr.heap.size wr w') (hB : B ≤ wr.heap.size) : Below B w w' := h.trans (hb.mono hB)
end Go.Proofs.Ytbdiahnelnbdnaa
/-
  The place of a list in memory: the program's keyOf. No statement is proved here.
-/
namespace Go.Proofs.Ytbdiahnelnbdnaa
open Go.RowKit Go.Sort Go.Deep
set_option maxRecDepth 100000
set_option linter.unusedVariables false
set_option maxHeartbeats 1600000 in
theorem keyOfP_any (g n cap : Nat) (w : World) (hn : n ≤ maxLen) (h0 : 0 < n) :
    Calls Try.prog 14 #[.slice (some ⟨g, 0, none⟩) n cap] w fun e w' => e = .returned (.agg #[.pointer (some ⟨g, 0, none⟩), .int .i64 n]) ∧ Below w.heap.size w w' := by
  unfold maxLen at hn
  have q0 : ((n : Int) == 0) = false := ieq_f (by omega)
  have q1 : (0 : Int) < (n : Int) := by omega
  go_enter Try.func14, Try.ntmps14
  go_wp2_with fail
  refine bodyPost_ret (v := .agg #[.pointer (some ⟨g, 0, none⟩), .int .i64 n]) (by simp [results, Try.results14, go_sem]) rfl ⟨rfl, ?_⟩
  repeat (first | exact Below.refl _ _ | refine Below.setCell ?_ (by simp <;> omega) _ | refine Below.alloc ?_ (by simp <;> omega) _)
theorem keyOfP_nil (A : Option Addr) (cap : Nat) (w : World) :
    Calls Try.prog 14 #[.slice A 0 cap] w fun e w' => e = .returned (.agg #[.pointer none, .int .i64 0]) ∧ Below w.heap.size w w' := by
  go_enter Try.func14, Try.ntmps14
  go_wp2_with fail
  refine bodyPost_ret (v := .agg #[.pointer none, .int .i64 0]) (by simp [results, Try.results14, go_sem]) rfl ⟨rfl, ?_⟩
  repeat (first | exact Below.refl _ _ | refine Below.setCell ?_ (by simp <;> omega) _ | refine Below.alloc ?_ (by simp <;> omega) _)
end Go.Proofs.Ytbdiahnelnbdnaa
/-
  Worlds that differ only in some blocks. No statement is proved here.
-/
namespace Go.Proofs.Ytbdiahnelnbdnaa
open Go.RowKit
set_option maxRecDepth 100000
set_option linter.unusedVariables false
/-- Only blocks of P have turned, and blocks that are new. -/
def Fr (P : Nat → Prop) (w w' : World) : Prop := w'.os = w.os ∧ w'.tape = w.tape ∧ w'.output = w.output ∧ w.heap.size ≤ w'.heap.size ∧ ∀ b, b < w.heap.size → ¬ P b → w'.heap[b]? = w.heap[b]?
theorem Fr.refl (P : Nat → Prop) (w : World) : Fr P w w := ⟨rfl, rfl, rfl, Nat.le_refl _, fun _ _ _ => rfl⟩
theorem Fr.size {P : Nat → Prop} {w w' : World} (h : Fr P w w') : w.heap.size ≤ w'.heap.size := h.2.2.2.1
theorem Fr.trans {P : Nat → Prop} {a b c : World} (h : Fr P a b) (h' : Fr P b c) : Fr P a c :=
  ⟨h'.1.trans h.1, h'.2.1.trans h.2.1, h'.2.2.1.trans h.2.2.1, Nat.le_trans h.size h'.size, fun x hx hp => (h'.2.2.2.2 x (Nat.lt_of_lt_of_le hx h.size) hp).trans (h.2.2.2.2 x hx hp)⟩
theorem Fr.wide {P P' : Nat → Prop} {w w' : World} (h : Fr P w w') (hp : ∀ b, P b → P' b) : Fr P' w w' :=
  ⟨h.1, h.2.1, h.2.2.1, h.size, fun x hx hq => h.2.2.2.2 x hx (fun h' => hq (hp x h'))⟩
theorem Fr.block {P : Nat → Prop} {w w' : World} (h : Fr P w w') {b : Nat} {o : Obj} (hb : w.heap[b]? = some o) (hp : ¬ P b) : w'.heap[b]? = some o := (h.2.2.2.2 b (heap_lt hb) hp).trans hb
theorem Fr.below {P : Nat → Prop} {w w' : World} (h : Below w.heap.size w w') : Fr P w w' := ⟨h.os, h.tape, h.output, h.size, fun b hb _ => h.block b hb⟩
theorem Fr.to {P : Nat → Prop} {w w' : World} {B : Nat} (h : Fr P w w') (hB : B ≤ w.heap.size) (hp : ∀ b, b < B → ¬ P b) : Below B w w' :=
  ⟨h.1, h.2.1, h.2.2.1, h.size, fun b hb => h.2.2.2.2 b (Nat.lt_of_lt_of_le hb hB) (hp b hb)⟩
theorem Fr.set {P : Nat → Prop} (w : World) (g i : Nat) (u : Value) (hp : P g) : Fr P w (w.setCell ⟨g, i, none⟩ u) := by
  have h := (Below.refl 0 w).setCell (p := ⟨g, i, none⟩) (Nat.zero_le _) u
  exact ⟨h.os, h.tape, h.output, h.size, fun b _ hb => Below.heap_setCell w ⟨g, i, none⟩ u b (fun e => hb (e ▸ hp))⟩
theorem Fr.grown {P : Nat → Prop} {w w' : World} {row : Option Nat} (h : w.grownBy w' row) (hp : ∀ b, some b = row → P b) : Fr P w w' :=
  ⟨h.os, h.tape, h.output, h.size, fun b hb hq => h.block b hb (fun e => hq (hp b e))⟩
theorem Fr.kept {lo hi : Nat} {w w' : World} (h : Kept lo hi w w') : Fr (fun b => lo ≤ b ∧ b < hi) w w' := by
  refine ⟨h.1.os, h.1.tape, h.1.output, h.1.size, fun b hb hq => ?_⟩
  by_cases e : b < lo
  · exact h.1.block b e
  · exact h.2.1 b (by have : ¬ b < hi := fun h' => hq ⟨by omega, h'⟩; omega) hb
/-- The blocks that are new between two worlds. -/
def Nw (w w' : World) : Nat → Prop := fun b => w.heap.size ≤ b ∧ b < w'.heap.size
end Go.Proofs.Ytbdiahnelnbdnaa
/-
  Patterns as plain trees, and as they lie in memory. No statement is proved here.
-/
namespace Go.Proofs.Ytbdiahnelnbdnaa
open Go.RowKit
set_option linter.unusedVariables false
inductive Pt where
  | mk (op ctor n m var : Int) (kids : List Pt)
instance : Inhabited Pt := ⟨.mk 0 0 0 0 0 []⟩
def Pt.op : Pt → Int | .mk x _ _ _ _ _ => x
def Pt.ctor : Pt → Int | .mk _ x _ _ _ _ => x
def Pt.n : Pt → Int | .mk _ _ x _ _ _ => x
def Pt.m : Pt → Int | .mk _ _ _ x _ _ => x
def Pt.var : Pt → Int | .mk _ _ _ _ x _ => x
def Pt.kids : Pt → List Pt | .mk _ _ _ _ _ ks => ks
mutual
/-- How many nodes lie below a node. -/
def wP : Pt → Nat | .mk _ _ _ _ _ ks => wPs ks
def wPs : List Pt → Nat | [] => 0 | v :: vs => 1 + wP v + wPs vs
end
theorem wP_kids (v : Pt) : wP v = wPs v.kids := by cases v; rw [wP]; rfl
theorem wPs_sum : ∀ l : List Pt, wPs l = l.length + (l.map wP).sum
  | [] => by rw [wPs]; rfl
  | v :: vs => by rw [wPs, wPs_sum vs]; simp only [List.length_cons, List.map_cons, List.sum_cons]; omega
/-- A tree in 6 cells, its parts in blocks below B; at most d levels. -/
def RPl : Nat → World → Nat → Nat → Nat → Pt → Prop
  | 0, _, _, _, _, _ => False
  | d + 1, w, B, b, o, v => ∃ A cap, w.cell? ⟨b, o, none⟩ = some (.int .i64 v.op) ∧ w.cell? ⟨b, o + 1, none⟩ = some (.int .i64 v.ctor) ∧ w.cell? ⟨b, o + 2, none⟩ = some (.int .i64 v.n) ∧ w.cell? ⟨b, o + 3, none⟩ = some (.int .i64 v.m) ∧ w.cell? ⟨b, o + 4, none⟩ = some (.int .i64 v.var) ∧ w.cell? ⟨b, o + 5, none⟩ = some (.slice A v.kids.length cap) ∧ v.kids.length ≤ maxLen ∧ ∀ k (h : k < v.kids.length), ∃ b' off, A = some ⟨b', off, none⟩ ∧ b' < B ∧ RPl d w B b' (off + k * 6) v.kids[k]
def RPs (d : Nat) (w : World) (B : Nat) (A : Option Addr) (l : List Pt) : Prop := l.length ≤ maxLen ∧ ∀ k (h : k < l.length), ∃ b off, A = some ⟨b, off, none⟩ ∧ b < B ∧ RPl d w B b (off + k * 6) l[k]
section
variable {w w' : World} {B B' : Nat} {A : Option Addr}
theorem RPl.parts {d b o : Nat} {v : Pt} (h : RPl d w B b o v) : ∃ d', d = d' + 1 ∧ ∃ A cap, w.cell? ⟨b, o, none⟩ = some (.int .i64 v.op) ∧ w.cell? ⟨b, o + 1, none⟩ = some (.int .i64 v.ctor) ∧ w.cell? ⟨b, o + 2, none⟩ = some (.int .i64 v.n) ∧ w.cell? ⟨b, o + 3, none⟩ = some (.int .i64 v.m) ∧ w.cell? ⟨b, o + 4, none⟩ = some (.int .i64 v.var) ∧ w.cell? ⟨b, o + 5, none⟩ = some (.slice A v.kids.length cap) ∧ RPs d' w B A v.kids := by
  cases d with
  | zero => exact h.elim
  | succ d =>
    obtain ⟨A, cap, h0, h1, h2, h3, h4, h5, h8, h9⟩ := h
    exact ⟨d, rfl, A, cap, h0, h1, h2, h3, h4, h5, h8, h9⟩
theorem RPl.keep : ∀ (d : Nat) {b o : Nat} {v : Pt}, RPl d w B b o v → b < B → (∀ p : Addr, p.block < B → w'.cell? p = w.cell? p) → B ≤ B' → RPl d w' B' b o v
  | 0, _, _, _, h, _, _, _ => h.elim
  | d + 1, _, _, _, ⟨A, cap, h0, h1, h2, h3, h4, h5, h8, h9⟩, hb, hk, hB => ⟨A, cap, (hk _ hb).trans h0, (hk _ hb).trans h1, (hk _ hb).trans h2, (hk _ hb).trans h3, (hk _ hb).trans h4, (hk _ hb).trans h5, h8, fun k hk' => by
    obtain ⟨b', off, e, hb', hv⟩ := h9 k hk'
    exact ⟨b', off, e, by omega, RPl.keep d hv hb' hk hB⟩⟩
theorem RPs.keep {d : Nat} {l : List Pt} (h : RPs d w B A l) (hk : ∀ p : Addr, p.block < B → w'.cell? p = w.cell? p) (hB : B ≤ B') : RPs d w' B' A l :=
  ⟨h.1, fun k hk' => by
    obtain ⟨b, off, e, hb, hv⟩ := h.2 k hk'
    exact ⟨b, off, e, by omega, hv.keep d hb hk hB⟩⟩
theorem RPs.below {d B0 : Nat} {l : List Pt} (h : RPs d w B A l) (hb : Below B0 w w') (hB : B ≤ B0) : RPs d w' B A l := h.keep (fun _ hp => hb.cell (Nat.lt_of_lt_of_le hp hB)) (Nat.le_refl _)
theorem RPs.at_ {d : Nat} {l : List Pt} (h : RPs d w w.heap.size A l) (hb : Below w.heap.size w w') : RPs d w' w'.heap.size A l := h.keep (fun _ hp => hb.cell hp) hb.size
theorem RPs.nil {d : Nat} : RPs d w B A [] := ⟨Nat.zero_le _, fun k h => absurd h (Nat.not_lt_zero _)⟩
theorem RPl.up : ∀ (d : Nat) {b o : Nat} {v : Pt}, RPl d w B b o v → RPl (d + 1) w B b o v
  | 0, _, _, _, h => h.elim
  | d + 1, _, _, _, ⟨A, cap, h0, h1, h2, h3, h4, h5, h8, h9⟩ => ⟨A, cap, h0, h1, h2, h3, h4, h5, h8, fun k hk' => by
    obtain ⟨b', off, e, hb', hv⟩ := h9 k hk'
    exact ⟨b', off, e, hb', RPl.up d hv⟩⟩
theorem RPl.more {d d' b o : Nat} {v : Pt} (h : RPl d w B b o v) (hd : d ≤ d') : RPl d' w B b o v := by
  obtain ⟨e, rfl⟩ := Nat.exists_eq_add_of_le hd
  clear hd
  induction e with
  | zero => exact h
  | succ e ih => exact RPl.up _ ih
theorem RPs.more {d d' : Nat} {l : List Pt} (h : RPs d w B A l) (hd : d ≤ d') : RPs d' w B A l :=
  ⟨h.1, fun k hk => by obtain ⟨b, off, e, hb, hv⟩ := h.2 k hk; exact ⟨b, off, e, hb, hv.more hd⟩⟩
end
end Go.Proofs.Ytbdiahnelnbdnaa
