/-
  A map that the call has made, whose keys are the places of two lists, as a list of keys. No statement is proved here.
-/
import Derived.Test.YteoopmogklpnoaaU00
import Derived.Test.YteoopmogklpnoaaU19
import Derived.LaidEqlPtr
import Derived.MapKept
import Derived.Maps.Own
namespace Go.Proofs.Yteoopmogklpnoaa
open Go Go.RowKit Go.ChangeMaps Go.MapKept
set_option maxRecDepth 100000
set_option linter.unusedVariables false
set_option linter.unusedSimpArgs false
theorem t1_V (e : Bool) (a b : Option Addr) (n m : Int) (w : World) : (Instr.checkKey e 10000 95 (.agg #[.pointer a, .int .i64 n, .pointer b, .int .i64 m])).run Try.prog w = .ok () w := by kernel_rfl
def LiesPV (w : World) (a : Option Addr) : Prop := ∀ x, a = some x → ∃ c t, w.heap[x.block]? = some (.cells c t (0, 0))
theorem eqp_V {tp te : Nat} {j : TypeInfo} (hp : Try.prog.underlying tp = some (.pointer te)) (hte : Try.prog.info? te = some j) (hsz : j.size ≠ 0) (d : Nat) (a b : Option Addr) (w : World) (ha : LiesPV w a) (hb : LiesPV w b)  : (Op.equalIn (d + 1) tp (.pointer a) (.pointer b)).run Try.prog w = .ok (decide (a = b)) w := by
  cases a with
  | none => cases b with
    | none => simp [Op.equalIn, run_underlying hp]
    | some y => simp [Op.equalIn, run_underlying hp]
  | some x => cases b with
    | none => simp [Op.equalIn, run_underlying hp]
    | some y =>
      by_cases e : x = y
      · subst e
        simp [Op.equalIn, run_underlying hp, sizeOf, typeInfo, hte, hsz, run_sameAddr_same]
      · obtain ⟨ca, ta, h1⟩ := ha x rfl
        obtain ⟨cb, tb, h2⟩ := hb y rfl
        simp [Op.equalIn, run_underlying hp, sizeOf, typeInfo, hte, hsz, run_sameAddr_other w e h1 h2, e]
theorem eqi_V {t : Nat} {k : IntKind} (ht : Try.prog.underlying t = some (.int k)) (d : Nat) (n m : Int) (w : World) : (Op.equalIn (d + 1) t (.int .i64 n) (.int .i64 m)).run Try.prog w = .ok (decide (n = m)) w := by
  simp [Op.equalIn, run_underlying ht]
  by_cases e : n = m <;> simp [e]
theorem heldL_V : Try.prog.stoodInHeld 86 = false := by kernel_rfl
theorem isAggQ_V (w : World) : (isAgg 84).run Try.prog w = .ok false w := by kernel_rfl
theorem isAggI_V (w : World) : (isAgg 3).run Try.prog w = .ok false w := by kernel_rfl
theorem isAggL_V (w : World) : (isAgg 86).run Try.prog w = .ok true w := by kernel_rfl
theorem szL_V (w : World) : (sizeOf 86).run Try.prog w = .ok 2 w := by kernel_rfl
theorem infE_V : (Try.prog.info? 28).map (fun j => j.size) = some 3 := by kernel_rfl
theorem infE'_V : ∃ j, Try.prog.info? 28 = some j ∧ j.size ≠ 0 := by
  have h := infE_V
  cases e : Try.prog.info? 28 with
  | none => rw [e] at h; cases h
  | some j => rw [e] at h; injection h with h; exact ⟨j, rfl, by have h : j.size = 3 := h; omega⟩
theorem runProg_V (w : World) : Sem.run Try.prog (Sem.program Sem.pure) w = .ok Try.prog w := by kernel_rfl
theorem part1_V (a : Option Addr) (n : Int) (w : World) : (part 84 #[.pointer a, .int .i64 n] 0).run Try.prog w = .ok (.pointer a) w := by simp [part, isAggQ_V]
theorem part2_V (a : Option Addr) (n : Int) (w : World) : (part 3 #[.pointer a, .int .i64 n] 1).run Try.prog w = .ok (.int .i64 n) w := by simp [part, isAggI_V]
theorem eqk_V (d : Nat) (a b : Option Addr) (n m : Int) (w : World) (ha : LiesPV w a) (hb : LiesPV w b) : (Op.equalIn (d + 2) 86 (.agg #[.pointer a, .int .i64 n]) (.agg #[.pointer b, .int .i64 m])).run Try.prog w = .ok (decide (a = b ∧ n = m)) w := by
  obtain ⟨j, hj, hs⟩ := infE'_V
  have h1 := eqp_V Try.underlying84 hj hs d a b w ha hb
  have h2 := eqi_V Try.underlying3 d n m w
  rw [Bool.decide_and]
  generalize decide (a = b) = p at *
  generalize decide (n = m) = q at *
  unfold Op.equalIn
  cases p <;> cases q <;> simp [run_underlying Try.underlying86, heldL_V, program, runProg_V, part1_V, part2_V, h1, h2]
theorem partA_V (a b : Option Addr) (n m : Int) (w : World) : (part 86 #[.pointer a, .int .i64 n, .pointer b, .int .i64 m] 0).run Try.prog w = .ok (.agg #[.pointer a, .int .i64 n]) w := by simp [part, isAggL_V, szL_V]
theorem partB_V (a b : Option Addr) (n m : Int) (w : World) : (part 86 #[.pointer a, .int .i64 n, .pointer b, .int .i64 m] 2).run Try.prog w = .ok (.agg #[.pointer b, .int .i64 m]) w := by simp [part, isAggL_V, szL_V]
theorem eqK_V (d : Nat) (a b a' b' : Option Addr) (n m n' m' : Int) (w : World) (ha : LiesPV w a) (hb : LiesPV w b) (ha' : LiesPV w a') (hb' : LiesPV w b') : (Op.equalIn (d + 3) 95 (.agg #[.pointer a, .int .i64 n, .pointer b, .int .i64 m]) (.agg #[.pointer a', .int .i64 n', .pointer b', .int .i64 m'])).run Try.prog w = .ok (decide ((a = a' ∧ n = n') ∧ b = b' ∧ m = m')) w := by
  have h1 := eqk_V d a a' n n' w ha ha'
  have h2 := eqk_V d b b' m m' w hb hb'
  rw [Bool.decide_and]
  generalize decide (a = a' ∧ n = n') = p at *
  generalize decide (b = b' ∧ m = m') = q at *
  unfold Op.equalIn
  cases p <;> cases q <;> simp [run_underlying Try.underlying95, szL_V, partA_V, partB_V, h1, h2, Std.Legacy.Range.forIn_eq_forIn_range', Std.Legacy.Range.size, List.range']
/-- A key of the map: the places of two lists. -/
structure KyV where
  a : Option Addr
  n : Nat
  b : Option Addr
  m : Nat
deriving DecidableEq
def KyV.v (k : KyV) : Value := .agg #[.pointer k.a, .int .i64 k.n, .pointer k.b, .int .i64 k.m]
def LiesKV (w : World) (k : KyV) : Prop := LiesPV w k.a ∧ LiesPV w k.b
theorem eqKy_V (d : Nat) (k k' : KyV) (w : World) (h : LiesKV w k) (h' : LiesKV w k') : (Op.equalIn (d + 3) 95 k.v k'.v).run Try.prog w = .ok (decide (k = k')) w := by
  have := eqK_V d k.a k.b k'.a k'.b k.n k.m k'.n k'.m w h.1 h.2 h'.1 h'.2
  unfold KyV.v
  rw [this]
  congr 1
  refine decide_eq_decide.2 ?_
  cases k; cases k'
  simp only [KyV.mk.injEq]
  constructor
  · rintro ⟨⟨rfl, h1⟩, rfl, h2⟩; exact ⟨rfl, by omega, rfl, by omega⟩
  · rintro ⟨rfl, rfl, rfl, rfl⟩; exact ⟨⟨rfl, rfl⟩, rfl, rfl⟩
/-- The entries of the map: each key with true. -/
def EsKV : List KyV → List MapEntry → Prop
  | [], [] => True
  | k :: S, e :: es => (e.key = k.v ∧ e.val = .bool true) ∧ EsKV S es
  | _, _ => False
theorem EsKV.push : ∀ {S : List KyV} {es : List MapEntry} (k : KyV) (e : MapEntry), EsKV S es → e.key = k.v → e.val = .bool true → EsKV (S ++ [k]) (es ++ [e])
  | [], [], k, e, _, h1, h2 => ⟨⟨h1, h2⟩, True.intro⟩
  | k' :: S, e' :: es, k, e, h, h1, h2 => ⟨h.1, EsKV.push k e h.2 h1 h2⟩
  | [], _ :: _, _, _, h, _, _ => h.elim
  | _ :: _, [], _, _, h, _, _ => h.elim
theorem findA_V (k : KyV) (w : World) (h : LiesKV w k) : ∀ (S : List KyV) (es : List MapEntry) (i : Nat), EsKV S es → (∀ k' ∈ S, LiesKV w k') → ∃ r, (Instr.findAsking 95 k.v es i).run Try.prog w = .ok r w ∧ (k ∈ S → ∃ j, r = some (j, .bool true)) ∧ (¬ k ∈ S → r = none)
  | [], [], i, _, _ => ⟨none, by simp [Instr.findAsking], fun h => (by cases h), fun _ => rfl⟩
  | [], _ :: _, _, hE, _ => hE.elim
  | _ :: _, [], _, hE, _ => hE.elim
  | k' :: S, e :: es, i, hE, hl => by
      obtain ⟨h1, h2⟩ := hE
      have hq := eqKy_V 9997 k k' w h (hl k' (List.mem_cons_self ..))
      by_cases e' : k = k'
      · subst e'
        refine ⟨some (i, .bool true), ?_, fun _ => ⟨i, rfl⟩, fun hn => absurd (List.mem_cons_self ..) hn⟩
        rw [decide_eq_true rfl] at hq
        simp [Instr.findAsking, Op.equal, Op.maxDepth, h1.1, h1.2, hq]
      · rw [decide_eq_false e'] at hq
        obtain ⟨r, hr, ha, hb⟩ := findA_V k w h S es (i + 1) h2 (fun x hx => hl x (List.mem_cons_of_mem _ hx))
        refine ⟨r, ?_, fun hm => ha ((List.mem_cons.1 hm).resolve_left e'), fun hn => hb (fun hm => hn (List.mem_cons_of_mem _ hm))⟩
        simp [Instr.findAsking, Op.equal, Op.maxDepth, h1.1, hq, hr]
def MapKyV (w : World) (b : Nat) (S : List KyV) : Prop := ∃ es clock, w.heap[b]? = some (.map es clock) ∧ EsKV S es.toList
theorem MapKyV.made (w : World) : MapKyV (w.alloc (.map #[] 0)) w.heap.size [] := ⟨#[], 0, by show (w.heap.push (.map #[] 0))[w.heap.size]? = _; simp, True.intro⟩
theorem MapKyV.keep {w w' : World} {b : Nat} {S : List KyV} (h : MapKyV w b S) (hb : w'.heap[b]? = w.heap[b]?) : MapKyV w' b S := by
  obtain ⟨es, c, h1, h2⟩ := h; exact ⟨es, c, hb.trans h1, h2⟩
theorem runFind_V (k : KyV) (w : World) (h : LiesKV w k) (S : List KyV) (es : Array MapEntry) (hE : EsKV S es.toList) (hl : ∀ k' ∈ S, LiesKV w k') : ∃ r, (Instr.findKey 95 k.v es.toList).run Try.prog w = .ok r w ∧ (k ∈ S → ∃ j, r = some (j, .bool true)) ∧ (¬ k ∈ S → r = none) := by
  obtain ⟨r, hr, ha, hb⟩ := findA_V k w h S es.toList 0 hE hl
  refine ⟨r, ?_, ha, hb⟩
  unfold Instr.findKey
  cases hE' : es.toList with
  | nil =>
    rw [hE'] at hr hE
    cases S with
    | cons k' S => exact hE.elim
    | nil =>
    rw [hb (by simp)]
    simp [run_underlying Try.underlying95, Instr.findNow]
  | cons e rest =>
    rw [hE'] at hr hE
    cases S with
    | nil => exact hE.elim
    | cons k' S =>
      obtain ⟨h1, h2⟩ := hE
      simp [run_underlying Try.underlying95, Instr.findNow, Instr.sameNow, h1.1, KyV.v]
      simpa [KyV.v] using hr
theorem MapKyV.look {w : World} {b : Nat} {S : List KyV} (h : MapKyV w b S) {k : KyV} (hk : LiesKV w k) (hl : ∀ k' ∈ S, LiesKV w k') : (Instr.lookup 88 (.map (some b)) k.v false).run Try.prog w = .ok (.bool (decide (k ∈ S))) w := by
  obtain ⟨es, c, h1, h2⟩ := h
  obtain ⟨r, hr, ha, hb⟩ := runFind_V k w hk S es h2 hl
  have hc := t1_V es.isEmpty k.a k.b k.n k.m w
  have hz : (zeroValue 4).run Try.prog w = .ok (.bool false) w := by kernel_rfl
  by_cases hm : k ∈ S
  · obtain ⟨j, rfl⟩ := ha hm
    rw [decide_eq_true hm]
    simp [Instr.lookup, run_underlying Try.underlying88, MapKept.run_getObj_map h1, KyV.v, hc, Result.andThen] at hr ⊢
    simp [hr]
  · rw [hb hm] at hr
    rw [decide_eq_false hm]
    simp [Instr.lookup, run_underlying Try.underlying88, MapKept.run_getObj_map h1, KyV.v, hc, hz, Result.andThen] at hr ⊢
    simp [hr, hz]
theorem MapKyV.put {w : World} {b : Nat} {S : List KyV} (h : MapKyV w b S) {k : KyV} (hk : LiesKV w k) (hl : ∀ k' ∈ S, LiesKV w k') (hn : ¬ k ∈ S) : ∃ w', (Instr.mapUpdate 88 (.map (some b)) k.v (.bool true)).run Try.prog w = .ok () w' ∧ MapKyV w' b (S ++ [k]) ∧ w.grownBy w' (some b) := by
  obtain ⟨es, c, h1, h2⟩ := h
  obtain ⟨r, hr, ha, hb⟩ := runFind_V k w hk S es h2 hl
  have hc := t1_V false k.a k.b k.n k.m w
  rw [hb hn] at hr
  refine ⟨setBlock w b (.map (es.push { key := k.v, val := .bool true, born := c }) (c + 1)), ?_, ⟨_, _, heap_setBlock_same h1 _, ?_⟩, ⟨rfl, rfl, rfl, by simp [setBlock], fun i _ hi => heap_setBlock_other h1 _ (fun e => hi (by rw [e]))⟩⟩
  · simp [Instr.mapUpdate, run_underlying Try.underlying88, MapKept.run_getObj_map h1, KyV.v, hc, Result.andThen] at hr ⊢
    simp [hr, MapKept.run_setObj_map _ h1, setBlock]
  · rw [Array.toList_push]
    exact EsKV.push k _ h2 rfl rfl
end Go.Proofs.Yteoopmogklpnoaa
/-
  A map that the call has made, whose keys are the places of single lists of values. No statement is proved here.
-/
namespace Go.Proofs.Yteoopmogklpnoaa
open Go Go.RowKit Go.ChangeMaps Go.MapKept
set_option maxRecDepth 100000
set_option linter.unusedVariables false
set_option linter.unusedSimpArgs false
theorem t1_w (e : Bool) (a : Option Addr) (n : Int) (w : World) : (Instr.checkKey e 10000 86 (.agg #[.pointer a, .int .i64 n])).run Try.prog w = .ok () w := by kernel_rfl
/-- A key of the map: the place of a list. -/
structure Kw where
  a : Option Addr
  n : Nat
deriving DecidableEq
def Kw.v (k : Kw) : Value := .agg #[.pointer k.a, .int .i64 k.n]
def LiesKw (w : World) (k : Kw) : Prop := LiesPV w k.a
theorem eqKw (d : Nat) (k k' : Kw) (w : World) (h : LiesKw w k) (h' : LiesKw w k') : (Op.equalIn (d + 2) 86 k.v k'.v).run Try.prog w = .ok (decide (k = k')) w := by
  have := eqk_V d k.a k'.a k.n k'.n w h h'
  unfold Kw.v
  rw [this]
  congr 1
  refine decide_eq_decide.2 ?_
  cases k; cases k'
  simp only [Kw.mk.injEq]
  constructor
  · rintro ⟨rfl, h1⟩; exact ⟨rfl, by omega⟩
  · rintro ⟨rfl, rfl⟩; exact ⟨rfl, rfl⟩
/-- The entries of the map: each key with true. -/
def EsKw : List Kw → List MapEntry → Prop
  | [], [] => True
  | k :: S, e :: es => (e.key = k.v ∧ e.val = .bool true) ∧ EsKw S es
  | _, _ => False
theorem EsKw.push : ∀ {S : List Kw} {es : List MapEntry} (k : Kw) (e : MapEntry), EsKw S es → e.key = k.v → e.val = .bool true → EsKw (S ++ [k]) (es ++ [e])
  | [], [], k, e, _, h1, h2 => ⟨⟨h1, h2⟩, True.intro⟩
  | k' :: S, e' :: es, k, e, h, h1, h2 => ⟨h.1, EsKw.push k e h.2 h1 h2⟩
  | [], _ :: _, _, _, h, _, _ => h.elim
  | _ :: _, [], _, _, h, _, _ => h.elim
theorem findA_w (k : Kw) (w : World) (h : LiesKw w k) : ∀ (S : List Kw) (es : List MapEntry) (i : Nat), EsKw S es → (∀ k' ∈ S, LiesKw w k') → ∃ r, (Instr.findAsking 86 k.v es i).run Try.prog w = .ok r w ∧ (k ∈ S → ∃ j, r = some (j, .bool true)) ∧ (¬ k ∈ S → r = none)
  | [], [], i, _, _ => ⟨none, by simp [Instr.findAsking], fun h => (by cases h), fun _ => rfl⟩
  | [], _ :: _, _, hE, _ => hE.elim
  | _ :: _, [], _, hE, _ => hE.elim
  | k' :: S, e :: es, i, hE, hl => by
      obtain ⟨h1, h2⟩ := hE
      have hq := eqKw 9998 k k' w h (hl k' (List.mem_cons_self ..))
      by_cases e' : k = k'
      · subst e'
        refine ⟨some (i, .bool true), ?_, fun _ => ⟨i, rfl⟩, fun hn => absurd (List.mem_cons_self ..) hn⟩
        rw [decide_eq_true rfl] at hq
        simp [Instr.findAsking, Op.equal, Op.maxDepth, h1.1, h1.2, hq]
      · rw [decide_eq_false e'] at hq
        obtain ⟨r, hr, ha, hb⟩ := findA_w k w h S es (i + 1) h2 (fun x hx => hl x (List.mem_cons_of_mem _ hx))
        refine ⟨r, ?_, fun hm => ha ((List.mem_cons.1 hm).resolve_left e'), fun hn => hb (fun hm => hn (List.mem_cons_of_mem _ hm))⟩
        simp [Instr.findAsking, Op.equal, Op.maxDepth, h1.1, hq, hr]
def MapKw (w : World) (b : Nat) (S : List Kw) : Prop := ∃ es clock, w.heap[b]? = some (.map es clock) ∧ EsKw S es.toList
theorem MapKw.made (w : World) : MapKw (w.alloc (.map #[] 0)) w.heap.size [] := ⟨#[], 0, by show (w.heap.push (.map #[] 0))[w.heap.size]? = _; simp, True.intro⟩
theorem MapKw.keep {w w' : World} {b : Nat} {S : List Kw} (h : MapKw w b S) (hb : w'.heap[b]? = w.heap[b]?) : MapKw w' b S := by
  obtain ⟨es, c, h1, h2⟩ := h; exact ⟨es, c, hb.trans h1, h2⟩
theorem runFind_w (k : Kw) (w : World) (h : LiesKw w k) (S : List Kw) (es : Array MapEntry) (hE : EsKw S es.toList) (hl : ∀ k' ∈ S, LiesKw w k') : ∃ r, (Instr.findKey 86 k.v es.toList).run Try.prog w = .ok r w ∧ (k ∈ S → ∃ j, r = some (j, .bool true)) ∧ (¬ k ∈ S → r = none) := by
  obtain ⟨r, hr, ha, hb⟩ := findA_w k w h S es.toList 0 hE hl
  refine ⟨r, ?_, ha, hb⟩
  unfold Instr.findKey
  cases hE' : es.toList with
  | nil =>
    rw [hE'] at hr hE
    cases S with
    | cons k' S => exact hE.elim
    | nil =>
    rw [hb (by simp)]
    simp [run_underlying Try.underlying86, Instr.findNow]
  | cons e rest =>
    rw [hE'] at hr hE
    cases S with
    | nil => exact hE.elim
    | cons k' S =>
      obtain ⟨h1, h2⟩ := hE
      simp [run_underlying Try.underlying86, Instr.findNow, Instr.sameNow, h1.1, Kw.v]
      simpa [Kw.v] using hr
theorem MapKw.look {w : World} {b : Nat} {S : List Kw} (h : MapKw w b S) {k : Kw} (hk : LiesKw w k) (hl : ∀ k' ∈ S, LiesKw w k') : (Instr.lookup 81 (.map (some b)) k.v false).run Try.prog w = .ok (.bool (decide (k ∈ S))) w := by
  obtain ⟨es, c, h1, h2⟩ := h
  obtain ⟨r, hr, ha, hb⟩ := runFind_w k w hk S es h2 hl
  have hc := t1_w es.isEmpty k.a k.n w
  have hz : (zeroValue 4).run Try.prog w = .ok (.bool false) w := by kernel_rfl
  by_cases hm : k ∈ S
  · obtain ⟨j, rfl⟩ := ha hm
    rw [decide_eq_true hm]
    simp [Instr.lookup, run_underlying Try.underlying81, MapKept.run_getObj_map h1, Kw.v, hc, Result.andThen] at hr ⊢
    simp [hr]
  · rw [hb hm] at hr
    rw [decide_eq_false hm]
    simp [Instr.lookup, run_underlying Try.underlying81, MapKept.run_getObj_map h1, Kw.v, hc, hz, Result.andThen] at hr ⊢
    simp [hr, hz]
theorem MapKw.put {w : World} {b : Nat} {S : List Kw} (h : MapKw w b S) {k : Kw} (hk : LiesKw w k) (hl : ∀ k' ∈ S, LiesKw w k') (hn : ¬ k ∈ S) : ∃ w', (Instr.mapUpdate 81 (.map (some b)) k.v (.bool true)).run Try.prog w = .ok () w' ∧ MapKw w' b (S ++ [k]) ∧ w.grownBy w' (some b) := by
  obtain ⟨es, c, h1, h2⟩ := h
  obtain ⟨r, hr, ha, hb⟩ := runFind_w k w hk S es h2 hl
  have hc := t1_w false k.a k.n w
  rw [hb hn] at hr
  refine ⟨setBlock w b (.map (es.push { key := k.v, val := .bool true, born := c }) (c + 1)), ?_, ⟨_, _, heap_setBlock_same h1 _, ?_⟩, ⟨rfl, rfl, rfl, by simp [setBlock], fun i _ hi => heap_setBlock_other h1 _ (fun e => hi (by rw [e]))⟩⟩
  · simp [Instr.mapUpdate, run_underlying Try.underlying81, MapKept.run_getObj_map h1, Kw.v, hc, Result.andThen] at hr ⊢
    simp [hr, MapKept.run_setObj_map _ h1, setBlock]
  · rw [Array.toList_push]
    exact EsKw.push k _ h2 rfl rfl
theorem EsKw.length : ∀ {S : List Kw} {es : List MapEntry}, EsKw S es → es.length = S.length
  | [], [], _ => rfl
  | k :: S, e :: es, h => by rw [List.length_cons, List.length_cons, EsKw.length h.2]
  | [], _ :: _, h => h.elim
  | _ :: _, [], h => h.elim
theorem MapKw.len {w : World} {b : Nat} {S : List Kw} (h : MapKw w b S) (ty : TypeId) : (Builtin.len_ #[81] ty #[.map (some b)]).run Try.prog w = .ok (.int .i64 S.length) w := by
  obtain ⟨es, c, h1, h2⟩ := h
  have := h2.length
  simp [Builtin.len_, run_underlying Try.underlying81, MapKept.run_getObj_map h1, goInt, Result.andThen] at this ⊢
  omega
end Go.Proofs.Yteoopmogklpnoaa
/-
  The place of a list in memory: the program's keyOf. No statement is proved here.
-/
namespace Go.Proofs.Yteoopmogklpnoaa
open Go.RowKit Go.Sort Go.Deep
set_option maxRecDepth 100000
set_option linter.unusedVariables false
def kA (A : Option Addr) (n : Nat) : Option Addr := if n = 0 then none else A
set_option maxHeartbeats 1600000 in
theorem keyOfV_any (g n cap : Nat) (w : World) (hn : n ≤ maxLen) (h0 : 0 < n) :
    Calls Try.prog 53 #[.slice (some ⟨g, 0, none⟩) n cap] w fun e w' => e = .returned (.agg #[.pointer (some ⟨g, 0, none⟩), .int .i64 n]) ∧ Below w.heap.size w w' := by
  unfold maxLen at hn
  have q0 : ((n : Int) == 0) = false := ieq_f (by omega)
  have q1 : (0 : Int) < (n : Int) := by omega
  go_enter Try.func53, Try.ntmps53
  go_wp2_with fail
  refine bodyPost_ret (v := .agg #[.pointer (some ⟨g, 0, none⟩), .int .i64 n]) (by simp [results, Try.results53, go_sem]) rfl ⟨rfl, ?_⟩
  repeat (first | exact Below.refl _ _ | refine Below.setCell ?_ (by simp <;> omega) _ | refine Below.alloc ?_ (by simp <;> omega) _)
theorem keyOfV_nil (A : Option Addr) (cap : Nat) (w : World) :
    Calls Try.prog 53 #[.slice A 0 cap] w fun e w' => e = .returned (.agg #[.pointer none, .int .i64 0]) ∧ Below w.heap.size w w' := by
  go_enter Try.func53, Try.ntmps53
  go_wp2_with fail
  refine bodyPost_ret (v := .agg #[.pointer none, .int .i64 0]) (by simp [results, Try.results53, go_sem]) rfl ⟨rfl, ?_⟩
  repeat (first | exact Below.refl _ _ | refine Below.setCell ?_ (by simp <;> omega) _ | refine Below.alloc ?_ (by simp <;> omega) _)
end Go.Proofs.Yteoopmogklpnoaa
