/-
  A map that the call has made, whose keys are the places of two lists, as a list of keys. No statement is proved here.
-/
import Derived.Test.YtbeejeialjfdnaaW00
import Derived.Test.YtbeejeialjfdnaaW07
import Derived.Test.YtbeejeialjfdnaaW17
import Derived.LaidEqlPtr
import Derived.MapKept
import Derived.Maps.Own
namespace Go.Proofs.Ytbeejeialjfdnaa
open Go Go.RowKit Go.ChangeMaps Go.MapKept
set_option maxRecDepth 100000
set_option linter.unusedVariables false
set_option linter.unusedSimpArgs false
theorem t1_P (e : Bool) (a b : Option Addr) (n m : Int) (w : World) : (Instr.checkKey e 10000 120 (.agg #[.pointer a, .int .i64 n, .pointer b, .int .i64 m])).run Try.prog w = .ok () w := by kernel_rfl
def LiesPP (w : World) (a : Option Addr) : Prop := ∀ x, a = some x → ∃ c t, w.heap[x.block]? = some (.cells c t (0, 0))
theorem eqp_P {tp te : Nat} {j : TypeInfo} (hp : Try.prog.underlying tp = some (.pointer te)) (hte : Try.prog.info? te = some j) (hsz : j.size ≠ 0) (d : Nat) (a b : Option Addr) (w : World) (ha : LiesPP w a) (hb : LiesPP w b)  : (Op.equalIn (d + 1) tp (.pointer a) (.pointer b)).run Try.prog w = .ok (decide (a = b)) w := by
  cases a with
  | none => cases b with
    | none => simp [Op.equalIn, run_underlying hp]
    | some y => simp [Op.equalIn, run_underlying hp]
  | some x => cases b with
    | none => simp [Op.equalIn, run_underlying hp]
    | some y =>
      by_cases e : x = y
      · subst e
        simp [Op.equalIn, run_underlying hp, sizeOf, typeInfo, hte, hsz, run_sameAddr_same]
      · obtain ⟨ca, ta, h1⟩ := ha x rfl
        obtain ⟨cb, tb, h2⟩ := hb y rfl
        simp [Op.equalIn, run_underlying hp, sizeOf, typeInfo, hte, hsz, run_sameAddr_other w e h1 h2, e]
theorem eqi_P {t : Nat} {k : IntKind} (ht : Try.prog.underlying t = some (.int k)) (d : Nat) (n m : Int) (w : World) : (Op.equalIn (d + 1) t (.int .i64 n) (.int .i64 m)).run Try.prog w = .ok (decide (n = m)) w := by
  simp [Op.equalIn, run_underlying ht]
  by_cases e : n = m <;> simp [e]
theorem heldL_P : Try.prog.stoodInHeld 118 = false := by kernel_rfl
theorem isAggQ_P (w : World) : (isAgg 116).run Try.prog w = .ok false w := by kernel_rfl
theorem isAggI_P (w : World) : (isAgg 3).run Try.prog w = .ok false w := by kernel_rfl
theorem isAggL_P (w : World) : (isAgg 118).run Try.prog w = .ok true w := by kernel_rfl
theorem szL_P (w : World) : (sizeOf 118).run Try.prog w = .ok 2 w := by kernel_rfl
theorem infE_P : (Try.prog.info? 50).map (fun j => j.size) = some 6 := by kernel_rfl
theorem infE'_P : ∃ j, Try.prog.info? 50 = some j ∧ j.size ≠ 0 := by
  have h := infE_P
  cases e : Try.prog.info? 50 with
  | none => rw [e] at h; cases h
  | some j => rw [e] at h; injection h with h; exact ⟨j, rfl, by have h : j.size = 6 := h; omega⟩
theorem runProg_P (w : World) : Sem.run Try.prog (Sem.program Sem.pure) w = .ok Try.prog w := by kernel_rfl
theorem part1_P (a : Option Addr) (n : Int) (w : World) : (part 116 #[.pointer a, .int .i64 n] 0).run Try.prog w = .ok (.pointer a) w := by simp [part, isAggQ_P]
theorem part2_P (a : Option Addr) (n : Int) (w : World) : (part 3 #[.pointer a, .int .i64 n] 1).run Try.prog w = .ok (.int .i64 n) w := by simp [part, isAggI_P]
theorem eqk_P (d : Nat) (a b : Option Addr) (n m : Int) (w : World) (ha : LiesPP w a) (hb : LiesPP w b) : (Op.equalIn (d + 2) 118 (.agg #[.pointer a, .int .i64 n]) (.agg #[.pointer b, .int .i64 m])).run Try.prog w = .ok (decide (a = b ∧ n = m)) w := by
  obtain ⟨j, hj, hs⟩ := infE'_P
  have h1 := eqp_P Try.underlying116 hj hs d a b w ha hb
  have h2 := eqi_P Try.underlying3 d n m w
  rw [Bool.decide_and]
  generalize decide (a = b) = p at *
  generalize decide (n = m) = q at *
  unfold Op.equalIn
  cases p <;> cases q <;> simp [run_underlying Try.underlying118, heldL_P, program, runProg_P, part1_P, part2_P, h1, h2]
theorem partA_P (a b : Option Addr) (n m : Int) (w : World) : (part 118 #[.pointer a, .int .i64 n, .pointer b, .int .i64 m] 0).run Try.prog w = .ok (.agg #[.pointer a, .int .i64 n]) w := by simp [part, isAggL_P, szL_P]
theorem partB_P (a b : Option Addr) (n m : Int) (w : World) : (part 118 #[.pointer a, .int .i64 n, .pointer b, .int .i64 m] 2).run Try.prog w = .ok (.agg #[.pointer b, .int .i64 m]) w := by simp [part, isAggL_P, szL_P]
theorem eqK_P (d : Nat) (a b a' b' : Option Addr) (n m n' m' : Int) (w : World) (ha : LiesPP w a) (hb : LiesPP w b) (ha' : LiesPP w a') (hb' : LiesPP w b') : (Op.equalIn (d + 3) 120 (.agg #[.pointer a, .int .i64 n, .pointer b, .int .i64 m]) (.agg #[.pointer a', .int .i64 n', .pointer b', .int .i64 m'])).run Try.prog w = .ok (decide ((a = a' ∧ n = n') ∧ b = b' ∧ m = m')) w := by
  have h1 := eqk_P d a a' n n' w ha ha'
  have h2 := eqk_P d b b' m m' w hb hb'
  rw [Bool.decide_and]
  generalize decide (a = a' ∧ n = n') = p at *
  generalize decide (b = b' ∧ m = m') = q at *
  unfold Op.equalIn
  cases p <;> cases q <;> simp [run_underlying Try.underlying120, szL_P, partA_P, partB_P, h1, h2, Std.Legacy.Range.forIn_eq_forIn_range', Std.Legacy.Range.size, List.range']
/-- A key of the map: the places of two lists. -/
structure KyP where
  a : Option Addr
  n : Nat
  b : Option Addr
  m : Nat
deriving DecidableEq
def KyP.v (k : KyP) : Value := .agg #[.pointer k.a, .int .i64 k.n, .pointer k.b, .int .i64 k.m]
def LiesKP (w : World) (k : KyP) : Prop := LiesPP w k.a ∧ LiesPP w k.b
theorem eqKy_P (d : Nat) (k k' : KyP) (w : World) (h : LiesKP w k) (h' : LiesKP w k') : (Op.equalIn (d + 3) 120 k.v k'.v).run Try.prog w = .ok (decide (k = k')) w := by
  have := eqK_P d k.a k.b k'.a k'.b k.n k.m k'.n k'.m w h.1 h.2 h'.1 h'.2
  unfold KyP.v
  rw [this]
  congr 1
  refine decide_eq_decide.2 ?_
  cases k; cases k'
  simp only [KyP.mk.injEq]
  constructor
  · rintro ⟨⟨rfl, h1⟩, rfl, h2⟩; exact ⟨rfl, by omega, rfl, by omega⟩
  · rintro ⟨rfl, rfl, rfl, rfl⟩; exact ⟨⟨rfl, rfl⟩, rfl, rfl⟩
/-- The entries of the map: each key with true. -/
def EsKP : List KyP → List MapEntry → Prop
  | [], [] => True
  | k :: S, e :: es => (e.key = k.v ∧ e.val = .bool true) ∧ EsKP S es
  | _, _ => False
theorem EsKP.push : ∀ {S : List KyP} {es : List MapEntry} (k : KyP) (e : MapEntry), EsKP S es → e.key = k.v → e.val = .bool true → EsKP (S ++ [k]) (es ++ [e])
  | [], [], k, e, _, h1, h2 => ⟨⟨h1, h2⟩, True.intro⟩
  | k' :: S, e' :: es, k, e, h, h1, h2 => ⟨h.1, EsKP.push k e h.2 h1 h2⟩
  | [], _ :: _, _, _, h, _, _ => h.elim
  | _ :: _, [], _, _, h, _, _ => h.elim
theorem findA_P (k : KyP) (w : World) (h : LiesKP w k) : ∀ (S : List KyP) (es : List MapEntry) (i : Nat), EsKP S es → (∀ k' ∈ S, LiesKP w k') → ∃ r, (Instr.findAsking 120 k.v es i).run Try.prog w = .ok r w ∧ (k ∈ S → ∃ j, r = some (j, .bool true)) ∧ (¬ k ∈ S → r = none)
  | [], [], i, _, _ => ⟨none, by simp [Instr.findAsking], fun h => (by cases h), fun _ => rfl⟩
  | [], _ :: _, _, hE, _ => hE.elim
  | _ :: _, [], _, hE, _ => hE.elim
  | k' :: S, e :: es, i, hE, hl => by
      obtain ⟨h1, h2⟩ := hE
      have hq := eqKy_P 9997 k k' w h (hl k' (List.mem_cons_self ..))
      by_cases e' : k = k'
      · subst e'
        refine ⟨some (i, .bool true), ?_, fun _ => ⟨i, rfl⟩, fun hn => absurd (List.mem_cons_self ..) hn⟩
        rw [decide_eq_true rfl] at hq
        simp [Instr.findAsking, Op.equal, Op.maxDepth, h1.1, h1.2, hq]
      · rw [decide_eq_false e'] at hq
        obtain ⟨r, hr, ha, hb⟩ := findA_P k w h S es (i + 1) h2 (fun x hx => hl x (List.mem_cons_of_mem _ hx))
        refine ⟨r, ?_, fun hm => ha ((List.mem_cons.1 hm).resolve_left e'), fun hn => hb (fun hm => hn (List.mem_cons_of_mem _ hm))⟩
        simp [Instr.findAsking, Op.equal, Op.maxDepth, h1.1, hq, hr]
def MapKyP (w : World) (b : Nat) (S : List KyP) : Prop := ∃ es clock, w.heap[b]? = some (.map es clock) ∧ EsKP S es.toList
theorem MapKyP.made (w : World) : MapKyP (w.alloc (.map #[] 0)) w.heap.size [] := ⟨#[], 0, by show (w.heap.push (.map #[] 0))[w.heap.size]? = _; simp, True.intro⟩
theorem MapKyP.keep {w w' : World} {b : Nat} {S : List KyP} (h : MapKyP w b S) (hb : w'.heap[b]? = w.heap[b]?) : MapKyP w' b S := by
  obtain ⟨es, c, h1, h2⟩ := h; exact ⟨es, c, hb.trans h1, h2⟩
theorem runFind_P (k : KyP) (w : World) (h : LiesKP w k) (S : List KyP) (es : Array MapEntry) (hE : EsKP S es.toList) (hl : ∀ k' ∈ S, LiesKP w k') : ∃ r, (Instr.findKey 120 k.v es.toList).run Try.prog w = .ok r w ∧ (k ∈ S → ∃ j, r = some (j, .bool true)) ∧ (¬ k ∈ S → r = none) := by
  obtain ⟨r, hr, ha, hb⟩ := findA_P k w h S es.toList 0 hE hl
  refine ⟨r, ?_, ha, hb⟩
  unfold Instr.findKey
  cases hE' : es.toList with
  | nil =>
    rw [hE'] at hr hE
    cases S with
    | cons k' S => exact hE.elim
    | nil =>
    rw [hb (by simp)]
    simp [run_underlying Try.underlying120, Instr.findNow]
  | cons e rest =>
    rw [hE'] at hr hE
    cases S with
    | nil => exact hE.elim
    | cons k' S =>
      obtain ⟨h1, h2⟩ := hE
      simp [run_underlying Try.underlying120, Instr.findNow, Instr.sameNow, h1.1, KyP.v]
      simpa [KyP.v] using hr
theorem MapKyP.look {w : World} {b : Nat} {S : List KyP} (h : MapKyP w b S) {k : KyP} (hk : LiesKP w k) (hl : ∀ k' ∈ S, LiesKP w k') : (Instr.lookup 111 (.map (some b)) k.v false).run Try.prog w = .ok (.bool (decide (k ∈ S))) w := by
  obtain ⟨es, c, h1, h2⟩ := h
  obtain ⟨r, hr, ha, hb⟩ := runFind_P k w hk S es h2 hl
  have hc := t1_P es.isEmpty k.a k.b k.n k.m w
  have hz : (zeroValue 4).run Try.prog w = .ok (.bool false) w := by kernel_rfl
  by_cases hm : k ∈ S
  · obtain ⟨j, rfl⟩ := ha hm
    rw [decide_eq_true hm]
    simp [Instr.lookup, run_underlying Try.underlying111, MapKept.run_getObj_map h1, KyP.v, hc, Result.andThen] at hr ⊢
    simp [hr]
  · rw [hb hm] at hr
    rw [decide_eq_false hm]
    simp [Instr.lookup, run_underlying Try.underlying111, MapKept.run_getObj_map h1, KyP.v, hc, hz, Result.andThen] at hr ⊢
    simp [hr, hz]
theorem MapKyP.put {w : World} {b : Nat} {S : List KyP} (h : MapKyP w b S) {k : KyP} (hk : LiesKP w k) (hl : ∀ k' ∈ S, LiesKP w k') (hn : ¬ k ∈ S) : ∃ w', (Instr.mapUpdate 111 (.map (some b)) k.v (.bool true)).run Try.prog w = .ok () w' ∧ MapKyP w' b (S ++ [k]) ∧ w.grownBy w' (some b) := by
  obtain ⟨es, c, h1, h2⟩ := h
  obtain ⟨r, hr, ha, hb⟩ := runFind_P k w hk S es h2 hl
  have hc := t1_P false k.a k.b k.n k.m w
  rw [hb hn] at hr
  refine ⟨setBlock w b (.map (es.push { key := k.v, val := .bool true, born := c }) (c + 1)), ?_, ⟨_, _, heap_setBlock_same h1 _, ?_⟩, ⟨rfl, rfl, rfl, by simp [setBlock], fun i _ hi => heap_setBlock_other h1 _ (fun e => hi (by rw [e]))⟩⟩
  · simp [Instr.mapUpdate, run_underlying Try.underlying111, MapKept.run_getObj_map h1, KyP.v, hc, Result.andThen] at hr ⊢
    simp [hr, MapKept.run_setObj_map _ h1, setBlock]
  · rw [Array.toList_push]
    exact EsKP.push k _ h2 rfl rfl
end Go.Proofs.Ytbeejeialjfdnaa
/-
  The place of a list in memory: the program's keyOf. No statement is proved here.
-/
namespace Go.Proofs.Ytbeejeialjfdnaa
open Go.RowKit Go.Sort Go.Deep
set_option maxRecDepth 100000
set_option linter.unusedVariables false
def kA (A : Option Addr) (n : Nat) : Option Addr := if n = 0 then none else A
set_option maxHeartbeats 1600000 in
theorem keyOfP_any (g n cap : Nat) (w : World) (hn : n ≤ maxLen) (h0 : 0 < n) :
    Calls Try.prog 74 #[.slice (some ⟨g, 0, none⟩) n cap] w fun e w' => e = .returned (.agg #[.pointer (some ⟨g, 0, none⟩), .int .i64 n]) ∧ Below w.heap.size w w' := by
  unfold maxLen at hn
  have q0 : ((n : Int) == 0) = false := ieq_f (by omega)
  have q1 : (0 : Int) < (n : Int) := by omega
  go_enter Try.func74, Try.ntmps74
  go_wp2_with fail
  refine bodyPost_ret (v := .agg #[.pointer (some ⟨g, 0, none⟩), .int .i64 n]) (by simp [results, Try.results74, go_sem]) rfl ⟨rfl, ?_⟩
  repeat (first | exact Below.refl _ _ | refine Below.setCell ?_ (by simp <;> omega) _ | refine Below.alloc ?_ (by simp <;> omega) _)
theorem keyOfP_nil (A : Option Addr) (cap : Nat) (w : World) :
    Calls Try.prog 74 #[.slice A 0 cap] w fun e w' => e = .returned (.agg #[.pointer none, .int .i64 0]) ∧ Below w.heap.size w w' := by
  go_enter Try.func74, Try.ntmps74
  go_wp2_with fail
  refine bodyPost_ret (v := .agg #[.pointer none, .int .i64 0]) (by simp [results, Try.results74, go_sem]) rfl ⟨rfl, ?_⟩
  repeat (first | exact Below.refl _ _ | refine Below.setCell ?_ (by simp <;> omega) _ | refine Below.alloc ?_ (by simp <;> omega) _)
end Go.Proofs.Ytbeejeialjfdnaa
/-
  The worklist of pairs of lists of the program's PatternSame: what holds of it. No statement is proved here.
-/
namespace Go.Proofs.Ytbeejeialjfdnaa
open Go.RowKit Go.Sort Go.Deep
set_option maxRecDepth 100000
set_option linter.unusedVariables false
/-- The least number that has a property. -/
noncomputable def lst (P : Nat → Prop) : Nat := @dite _ (∃ n, P n ∧ ∀ m, P m → n ≤ m) (Classical.propDecidable _) (fun h => Classical.choose h) (fun _ => 0)
theorem least_ex (P : Nat → Prop) : ∀ n, P n → ∃ n, P n ∧ ∀ m, P m → n ≤ m := by
  intro n
  induction n using Nat.strongRecOn with
  | ind n ih =>
    intro h
    by_cases e : ∃ m, m < n ∧ P m
    · obtain ⟨m, hm, hp⟩ := e; exact ih m hm hp
    · exact ⟨n, h, fun m hm => by
        by_cases hl : m < n
        · exact absurd ⟨m, hl, hm⟩ e
        · omega⟩
theorem lst_spec {P : Nat → Prop} {n : Nat} (h : P n) : P (lst P) ∧ ∀ m, P m → lst P ≤ m := by
  have hx := least_ex P n h
  unfold lst
  rw [dif_pos hx]
  exact Classical.choose_spec hx
/-- A pair of lists that waits: where the first one lies (in blocks of P), where the second one lies (in blocks of Q). -/
structure EnP where
  A : Option Addr
  la : List Pt
  ca : Nat
  B : Option Addr
  lb : List Pt
  cb : Nat
  d : Nat
  P : Nat → Prop
  e : Nat
  Q : Nat → Prop
def EnP.S (x : EnP) (b : Nat) : Prop := x.P b ∧ ∀ a, x.A = some a → b ≠ a.block
def EnP.ok (w : World) (m : Nat) (x : EnP) : Prop := OPs x.d w x.P x.A x.la ∧ OPs x.e w x.Q x.B x.lb ∧ (∀ b, x.P b → b < w.heap.size ∧ b ≠ m) ∧ ∀ b, x.Q b → b < w.heap.size ∧ b ≠ m
def kyP (A : Option Addr) (n : Nat) (B : Option Addr) (m : Nat) : KyP := ⟨kA A n, n, kA B m, m⟩
def LyP (w : World) (m : Nat) (a : Option Addr) : Prop := ∀ x, a = some x → x.block < w.heap.size ∧ x.block ≠ m ∧ ∃ c t, w.heap[x.block]? = some (.cells c t (0, 0))
theorem LyP.lies {w w' : World} {m : Nat} {a : Option Addr} (h : LyP w m a) (hf : Fr (fun b => b = m) w w') : LiesPP w' a := fun x hx => by
  obtain ⟨h1, h2, c, t, h3⟩ := h x hx
  exact ⟨c, t, hf.block h3 h2⟩
theorem kA_nil (A : Option Addr) : kA A 0 = none := rfl
theorem kA_pos {A : Option Addr} {n : Nat} (h : 0 < n) : kA A n = A := if_neg (by omega)
theorem OPs.addr {d : Nat} {w : World} {P : Nat → Prop} {A : Option Addr} {l : List Pt} (h : OPs d w P A l) (hl : 0 < l.length) : ∃ g, A = some ⟨g, 0, none⟩ ∧ P g ∧ ∃ c, w.heap[g]? = some (.cells c 50 (0, 0)) := by
  obtain ⟨d', rfl, _, hp⟩ := h.parts
  obtain ⟨g, cs, Q, e, hg, hh, _⟩ := hp hl
  exact ⟨g, e, hg, cs, hh⟩
theorem OPs.ly {d : Nat} {w : World} {P : Nat → Prop} {A : Option Addr} {l : List Pt} {m : Nat} (h : OPs d w P A l) (hm : ∀ b, P b → b < w.heap.size ∧ b ≠ m) : LyP w m (kA A l.length) := fun x hx => by
  by_cases h0 : l.length = 0
  · rw [h0, kA_nil] at hx; cases hx
  · obtain ⟨g, rfl, hg, c, hh⟩ := h.addr (by omega)
    rw [kA_pos (by omega)] at hx
    cases hx
    exact ⟨(hm g hg).1, (hm g hg).2, c, _, hh⟩
structure InvP (p q : Pt) (w : World) (m : Nat) (W : List EnP) (S : List KyP) : Prop where
  goal : p = q ↔ ∀ x ∈ W, x.la = x.lb
  ok : ∀ x ∈ W, x.ok w m
  apart : W.Pairwise (fun x y => ∀ b, x.S b → ¬ y.S b)
  met : ∀ x ∈ W, ∀ k ∈ S, ∀ a, k.a = some a → ¬ x.S a.block
  one : ∀ k ∈ S, k.a = none → k.b = none ∨ ∃ x ∈ W, x.la = [] ∧ ¬ x.lb = []
  lies : ∀ k ∈ S, LyP w m k.a ∧ LyP w m k.b
structure InvI (p q : Pt) (w : World) (m : Nat) (W : List EnP) (S : List KyP) (la lb : List Pt) (Q : Nat → Nat → Prop) (k : Nat) : Prop where
  goal : p = q ↔ (∀ x ∈ W, x.la = x.lb) ∧ ∀ j (h : j < la.length) (h' : j < lb.length), k ≤ j → la[j].kids = lb[j].kids
  ok : ∀ x ∈ W, x.ok w m
  apart : W.Pairwise (fun x y => ∀ b, x.S b → ¬ y.S b)
  met : ∀ x ∈ W, ∀ k ∈ S, ∀ a, k.a = some a → ¬ x.S a.block
  one : ∀ k ∈ S, k.a = none → k.b = none ∨ ∃ x ∈ W, x.la = [] ∧ ¬ x.lb = []
  lies : ∀ k ∈ S, LyP w m k.a ∧ LyP w m k.b
  pend : ∀ j, k ≤ j → j < la.length → (∀ x ∈ W, ∀ b, Q j b → ¬ x.S b) ∧ ∀ ky ∈ S, ∀ a, ky.a = some a → ¬ Q j a.block
theorem same_kids {a b : List Pt} (hl : a.length = b.length) (hq : AllQ a b a.length) : a = b ↔ ∀ j (h : j < a.length) (h' : j < b.length), 0 ≤ j → a[j].kids = b[j].kids := by
  constructor
  · rintro rfl j h h' _; rfl
  · intro h
    refine List.ext_getElem hl (fun i h1 h2 => ?_)
    have h3 := hq i h1 h2 h1
    have h4 := h i h1 h2 (Nat.zero_le _)
    obtain ⟨e0, e1, e2, e3, e4⟩ := h3
    exact same_of e0 e1 e2 e3 e4 (by rw [h4]) (fun j hj hj' _ => by simp only [h4])
theorem InvP.pop {p q : Pt} {w : World} {m : Nat} {W : List EnP} {x : EnP} {S : List KyP} (h : InvP p q w m (W ++ [x]) S) (hl : x.la.length = x.lb.length) (hq : AllQ x.la x.lb x.la.length) {Q : Nat → Nat → Prop} (hQ : ∀ j b, j < x.la.length → Q j b → x.S b) : InvI p q w m W S x.la x.lb Q 0 := by
  have hxm : x ∈ W ++ [x] := List.mem_append.2 (.inr (List.mem_singleton.2 rfl))
  have hw : ∀ y ∈ W, y ∈ W ++ [x] := fun y hy => List.mem_append.2 (.inl hy)
  refine ⟨?_, fun y hy => h.ok y (hw y hy), (List.pairwise_append.1 h.apart).1, fun y hy => h.met y (hw y hy), fun k hk ha => ?_, h.lies, fun j _ hj => ⟨fun y hy b hb => ?_, fun ky hk a ha hb => ?_⟩⟩
  · rw [h.goal, ← same_kids hl hq]
    constructor
    · exact fun hh => ⟨fun y hy => hh y (hw y hy), hh x hxm⟩
    · rintro ⟨h1, h2⟩ y hy
      rcases List.mem_append.1 hy with hy | hy
      · exact h1 y hy
      · rw [List.mem_singleton.1 hy]; exact h2
  · rcases h.one k hk ha with hb | ⟨y, hy, h1, h2⟩
    · exact .inl hb
    · rcases List.mem_append.1 hy with hy | hy
      · exact .inr ⟨y, hy, h1, h2⟩
      · rw [List.mem_singleton.1 hy] at h1 h2
        rw [h1] at hl
        exact absurd (List.eq_nil_of_length_eq_zero hl.symm) h2
  · exact fun hys => (List.pairwise_append.1 h.apart).2.2 y hy x (List.mem_singleton.2 rfl) b hys (hQ j b hj hb)
  · exact h.met x hxm ky hk a ha (hQ j _ hj hb)
theorem InvI.done {p q : Pt} {w : World} {m : Nat} {W : List EnP} {S : List KyP} {la lb : List Pt} {Q : Nat → Nat → Prop} {k : Nat} (h : InvI p q w m W S la lb Q k) (hk : la.length ≤ k) : InvP p q w m W S :=
  ⟨by rw [h.goal]; exact ⟨fun hh => hh.1, fun hh => ⟨hh, fun j hj _ hkj => by omega⟩⟩, h.ok, h.apart, h.met, h.one, h.lies⟩
/-- The next pair was met before. -/
theorem InvI.skip {p q : Pt} {w : World} {m d e : Nat} {W : List EnP} {S : List KyP} {la lb : List Pt} {Q QB : Nat → Nat → Prop} {k : Nat} {A B : Option Addr} (h : InvI p q w m W S la lb Q k) (hk : k < la.length) (hk' : k < lb.length)
    (ha : OPs d w (Q k) A la[k].kids) (hb : OPs e w (QB k) B lb[k].kids) (hm : kyP A la[k].kids.length B lb[k].kids.length ∈ S) : InvI p q w m W S la lb Q (k + 1) := by
  refine ⟨?_, h.ok, h.apart, h.met, h.one, h.lies, fun j hj hjl => h.pend j (by omega) hjl⟩
  have ha0 : la[k].kids = [] := by
    by_cases e0 : 0 < la[k].kids.length
    · obtain ⟨g, rfl, hg, _⟩ := ha.addr e0
      exact absurd hg ((h.pend k (Nat.le_refl _) hk).2 _ hm ⟨g, 0, none⟩ (kA_pos e0))
    · exact List.eq_nil_of_length_eq_zero (by omega)
  rw [h.goal]
  rcases h.one _ hm (by show kA A la[k].kids.length = none; rw [ha0]; rfl) with hbn | ⟨y, hy, h1, h2⟩
  · have hb0 : lb[k].kids = [] := by
      by_cases e0 : 0 < lb[k].kids.length
      · obtain ⟨g, rfl, hg, _⟩ := hb.addr e0
        have hbn' : kA (some ⟨g, 0, none⟩) lb[k].kids.length = none := hbn
        rw [kA_pos e0] at hbn'; cases hbn'
      · exact List.eq_nil_of_length_eq_zero (by omega)
    refine ⟨fun hh => ⟨hh.1, fun j hj hj' hkj => hh.2 j hj hj' (by omega)⟩, fun hh => ⟨hh.1, fun j hj hj' hkj => ?_⟩⟩
    by_cases e0 : j = k
    · subst e0; rw [ha0, hb0]
    · exact hh.2 j hj hj' (by omega)
  · exact ⟨fun hh => absurd ((hh.1 y hy).symm.trans h1) h2, fun hh => absurd ((hh.1 y hy).symm.trans h1) h2⟩
/-- The next pair is new: it waits. -/
theorem InvI.push {p q : Pt} {w : World} {m d e : Nat} {W : List EnP} {S : List KyP} {la lb : List Pt} {Q QB : Nat → Nat → Prop} {k ca cb : Nat} {A B : Option Addr} (h : InvI p q w m W S la lb Q k) (hk : k < la.length) (hk' : k < lb.length)
    (ha : OPs d w (Q k) A la[k].kids) (hb : OPs e w (QB k) B lb[k].kids) (hQ : ∀ j b, j < la.length → Q j b → (b < w.heap.size ∧ b ≠ m) ∧ ∀ i, i < la.length → i ≠ j → ¬ Q i b) (hQB : ∀ b, QB k b → b < w.heap.size ∧ b ≠ m) :
    InvI p q w m (W ++ [⟨A, la[k].kids, ca, B, lb[k].kids, cb, d, Q k, e, QB k⟩]) (S ++ [kyP A la[k].kids.length B lb[k].kids.length]) la lb Q (k + 1) := by
  have hmem : ∀ {α : Type} {l : List α} {x y : α}, y ∈ l ++ [x] → y ∈ l ∨ y = x := fun hy => (List.mem_append.1 hy).imp id List.mem_singleton.1
  have hka : ∀ a, (kyP A la[k].kids.length B lb[k].kids.length).a = some a → A = some a ∧ Q k a.block := fun a h1 => by
    have h1 : kA A la[k].kids.length = some a := h1
    by_cases e0 : 0 < la[k].kids.length
    · obtain ⟨g, rfl, hg, _⟩ := ha.addr e0
      rw [kA_pos e0] at h1
      cases h1
      exact ⟨rfl, hg⟩
    · rw [show la[k].kids.length = 0 by omega, kA_nil] at h1; cases h1
  refine ⟨?_, fun y hy => ?_, ?_, fun y hy ky hky a h1 => ?_, fun ky hky h1 => ?_, fun ky hky => ?_, fun j hj hjl => ⟨fun y hy b hb' => ?_, fun ky hky a h1 h2 => ?_⟩⟩
  · rw [h.goal]
    constructor
    · rintro ⟨h1, h2⟩
      refine ⟨fun y hy => ?_, fun j hj hj' hkj => h2 j hj hj' (by omega)⟩
      rcases hmem hy with hy | rfl
      · exact h1 y hy
      · exact h2 k hk hk' (Nat.le_refl _)
    · rintro ⟨h1, h2⟩
      refine ⟨fun y hy => h1 y (List.mem_append.2 (.inl hy)), fun j hj hj' hkj => ?_⟩
      by_cases e0 : j = k
      · subst e0; exact h1 _ (List.mem_append.2 (.inr (List.mem_singleton.2 rfl)))
      · exact h2 j hj hj' (by omega)
  · rcases hmem hy with hy | rfl
    · exact h.ok y hy
    · exact ⟨ha, hb, fun b hb' => (hQ k b hk hb').1, hQB⟩
  · refine List.pairwise_append.2 ⟨h.apart, List.pairwise_singleton _ _, fun y hy z hz b h1 h2 => ?_⟩
    rw [List.mem_singleton.1 hz] at h2
    exact (h.pend k (Nat.le_refl _) hk).1 y hy b h2.1 h1
  · rcases hmem hy with hy | rfl
    · rcases hmem hky with hky | rfl
      · exact h.met y hy ky hky a h1
      · exact (h.pend k (Nat.le_refl _) hk).1 y hy _ (hka a h1).2
    · rcases hmem hky with hky | rfl
      · exact fun h2 => (h.pend k (Nat.le_refl _) hk).2 ky hky a h1 h2.1
      · exact fun h2 => h2.2 a (hka a h1).1 rfl
  · rcases hmem hky with hky | rfl
    · rcases h.one ky hky h1 with h2 | ⟨y, hy, h2, h3⟩
      · exact .inl h2
      · exact .inr ⟨y, List.mem_append.2 (.inl hy), h2, h3⟩
    · by_cases e0 : lb[k].kids = []
      · exact .inl (by show kA B lb[k].kids.length = none; rw [e0]; rfl)
      · refine .inr ⟨_, List.mem_append.2 (.inr (List.mem_singleton.2 rfl)), ?_, e0⟩
        show la[k].kids = []
        have h1 : kA A la[k].kids.length = none := h1
        by_cases e1 : 0 < la[k].kids.length
        · obtain ⟨g, rfl, hg, _⟩ := ha.addr e1
          rw [kA_pos e1] at h1; cases h1
        · exact List.eq_nil_of_length_eq_zero (by omega)
  · rcases hmem hky with hky | rfl
    · exact h.lies ky hky
    · exact ⟨ha.ly (fun b hb' => (hQ k b hk hb').1), hb.ly hQB⟩
  · rcases hmem hy with hy | rfl
    · exact (h.pend j (by omega) hjl).1 y hy b hb'
    · exact fun h2 => (hQ k b hk h2.1).2 j hjl (by omega) hb'
  · rcases hmem hky with hky | rfl
    · exact (h.pend j (by omega) hjl).2 ky hky a h1 h2
    · exact (hQ k _ hk (hka a h1).2).2 j hjl (by omega) h2
def muP (W : List EnP) : Nat := (W.map (fun x => 1 + wPs x.la)).sum
theorem muP_app (W : List EnP) (x : EnP) : muP (W ++ [x]) = muP W + (1 + wPs x.la) := by unfold muP; simp
theorem muP_len (W : List EnP) : W.length ≤ muP W := by
  induction W with
  | nil => exact Nat.zero_le _
  | cons x W ih => unfold muP at ih ⊢; rw [List.map_cons, List.sum_cons, List.length_cons]; omega
/-- The worklist in memory: a row of the call's own. -/
def OpnP (w : World) (lo : Nat) (u : Value) (W : List EnP) : Prop := ∃ xs, w.ownsRow lo 113 2 u W.length xs ∧ ∀ j (h : j < W.length), xs[j * 2]? = some (.slice W[j].A W[j].la.length W[j].ca) ∧ xs[j * 2 + 1]? = some (.slice W[j].B W[j].lb.length W[j].cb)
theorem OpnP.top {w : World} {lo : Nat} {u : Value} {W : List EnP} {x : EnP} (h : OpnP w lo u (W ++ [x])) : ∃ g cap, u = .slice (some ⟨g, 0, none⟩) (W.length + 1) cap ∧ lo ≤ g ∧ g < w.heap.size ∧ W.length + 1 ≤ cap ∧ cap ≤ maxLen ∧ w.cell? ⟨g, W.length * 2, none⟩ = some (.slice x.A x.la.length x.ca) ∧ w.cell? ⟨g, W.length * 2 + 1, none⟩ = some (.slice x.B x.lb.length x.cb) ∧ OpnP w lo (.slice (some ⟨g, 0, none⟩) W.length cap) W := by
  obtain ⟨xs, ho, hx⟩ := h
  have hl : (W ++ [x]).length = W.length + 1 := by simp
  have h1 := hx W.length (by omega)
  rw [List.getElem_append_right (Nat.le_refl _)] at h1
  simp only [Nat.sub_self, List.getElem_cons_zero] at h1
  rcases ho.2 with ⟨_, h0⟩ | ⟨g, cap, cur, rfl, hg, hh, hn, hcm, hcs, htake⟩
  · rw [hl] at h0; cases h0
  · have hat : ∀ i, i < (W.length + 1) * 2 → cur[i]? = xs[i]? := fun i hi => by
      rw [← htake, List.getElem?_take_of_lt (by rw [hl]; exact hi), Array.getElem?_toList]
    rw [hl] at hn htake
    refine ⟨g, cap, by rw [hl], hg, heap_lt hh, by omega, hcm, ?_, ?_, xs.take (W.length * 2), ⟨by rw [List.length_take, ho.1, hl]; omega, .inr ⟨g, cap, cur, rfl, hg, hh, by omega, hcm, hcs, ?_⟩⟩, fun j hj => ?_⟩
    · rw [cell_of_blk hh, hat _ (by omega)]; exact h1.1
    · rw [cell_of_blk hh, hat _ (by omega)]; exact h1.2
    · rw [← htake, List.take_take, Nat.min_eq_left (by omega)]
    · have h2 := hx j (by omega)
      rw [List.getElem_append_left hj] at h2
      exact ⟨by rw [List.getElem?_take_of_lt (by omega)]; exact h2.1, by rw [List.getElem?_take_of_lt (by omega)]; exact h2.2⟩
theorem OpnP.keep {w w' : World} {lo : Nat} {u : Value} {W : List EnP} (h : OpnP w lo u W) (hk : ∀ b, lo ≤ b → b < w.heap.size → w'.heap[b]? = w.heap[b]?) : OpnP w' lo u W := by
  obtain ⟨xs, ho, hx⟩ := h
  exact ⟨xs, own_at ho (fun b e => hk b (by obtain ⟨_, _, _, h⟩ := own_form ho; exact (h b e).1) (by obtain ⟨_, _, _, h⟩ := own_form ho; exact (h b e).2)), hx⟩
theorem OpnP.below {w w' : World} {lo : Nat} {u : Value} {W : List EnP} (h : OpnP w lo u W) (hb : Below w.heap.size w w') : OpnP w' lo u W := h.keep (fun b _ hb' => hb.block b hb')
theorem OpnP.push {w' : World} {lo : Nat} {v' : Value} {W : List EnP} {x : EnP} {xs : List Value} (hl : xs.length = W.length * 2) (hx : ∀ j (h : j < W.length), xs[j * 2]? = some (.slice W[j].A W[j].la.length W[j].ca) ∧ xs[j * 2 + 1]? = some (.slice W[j].B W[j].lb.length W[j].cb)) (ho : w'.ownsRow lo 113 2 v' (W.length + 1) (xs ++ [.slice x.A x.la.length x.ca, .slice x.B x.lb.length x.cb])) : OpnP w' lo v' (W ++ [x]) := by
  refine ⟨_, by simpa using ho, fun j hj => ?_⟩
  have hj' : j < W.length + 1 := by simpa using hj
  by_cases e : j < W.length
  · rw [List.getElem_append_left e]
    exact ⟨by rw [List.getElem?_append_left (by omega)]; exact (hx j e).1, by rw [List.getElem?_append_left (by omega)]; exact (hx j e).2⟩
  · have e' : j = W.length := by omega
    subst e'
    rw [List.getElem_append_right (Nat.le_refl _)]
    simp only [Nat.sub_self, List.getElem_cons_zero]
    exact ⟨by rw [List.getElem?_append_right (by omega), hl, Nat.sub_self]; rfl, by rw [List.getElem?_append_right (by omega), hl, Nat.add_sub_cancel_left]; rfl⟩
theorem Fr.row {m : Nat} {w wr w' : World} {row : Option Nat} (h : Fr (fun b => b = m) w wr) (hg : wr.grownBy w' row) (hlo : ∀ b, row = some b → w.heap.size ≤ b) : Fr (fun b => b = m) w w' :=
  ⟨hg.os.trans h.1, hg.tape.trans h.2.1, hg.output.trans h.2.2.1, Nat.le_trans h.size hg.size, fun b hb hn => (hg.block b (Nat.lt_of_lt_of_le hb h.size) (by intro e; have := hlo b e.symm; omega)).trans (h.2.2.2.2 b hb hn)⟩
theorem Fr.next {m : Nat} {w wr w' : World} (h : Fr (fun b => b = m) w wr) (hb : Below wr.heap.size wr w') : Fr (fun b => b = m) w w' := h.trans (Fr.below hb)
theorem last_or {α : Type} (l : List α) : l = [] ∨ ∃ L b, l = L ++ [b] := by
  rcases List.eq_nil_or_concat l with h | ⟨L, b, h⟩
  · exact .inl h
  · exact .inr ⟨L, b, by rw [h]; simp⟩
theorem Fr.cell {P : Nat → Prop} {w w' : World} (h : Fr P w w') {a : Addr} (hb : a.block < w.heap.size) (hp : ¬ P a.block) : w'.cell? a = w.cell? a := World.cell?_of_block (h.2.2.2.2 a.block hb hp)
theorem OpnP.nil_form {w : World} {lo : Nat} {u : Value} (h : OpnP w lo u []) : ∃ A c, u = .slice A 0 c := by
  obtain ⟨xs, ho, _⟩ := h
  obtain ⟨A, c, e, _⟩ := own_form ho
  exact ⟨A, c, e⟩
theorem OPs.kidsQ {d : Nat} {w : World} {P : Nat → Prop} {A : Option Addr} {l : List Pt} (h : OPs (d + 1) w P A l) : ∃ Q : Nat → Nat → Prop, (∀ j b, j < l.length → Q j b → P b ∧ (∀ a, A = some a → b ≠ a.block) ∧ ∀ i, i < l.length → i ≠ j → ¬ Q i b) ∧
    ∀ k (hk : k < l.length), ∃ g A' cap, A = some ⟨g, 0, none⟩ ∧ P g ∧ g < w.heap.size ∧ w.cell? ⟨g, k * 6, none⟩ = some (.int .i64 l[k].op) ∧ w.cell? ⟨g, k * 6 + 1, none⟩ = some (.int .i64 l[k].ctor) ∧ w.cell? ⟨g, k * 6 + 2, none⟩ = some (.int .i64 l[k].n) ∧ w.cell? ⟨g, k * 6 + 3, none⟩ = some (.int .i64 l[k].m) ∧ w.cell? ⟨g, k * 6 + 4, none⟩ = some (.int .i64 l[k].var) ∧ w.cell? ⟨g, k * 6 + 5, none⟩ = some (.slice A' l[k].kids.length cap) ∧ OPs d w (Q k) A' l[k].kids := by
  obtain ⟨h1, h2⟩ := h
  by_cases h0 : 0 < l.length
  · obtain ⟨g, cs, Q, e, hg, hh, hq, hc⟩ := h2 h0
    refine ⟨Q, fun j b hj hb => ⟨(hq j b hj hb).1, fun a ha => ?_, (hq j b hj hb).2.2⟩, fun k hk => ?_⟩
    · rw [e] at ha; cases ha; exact (hq j b hj hb).2.1
    · obtain ⟨A', cap, e0, e1, e2, e3, e4, e8, e9⟩ := hc k hk
      exact ⟨g, A', cap, e, hg, heap_lt hh, (cell_of_blk hh _).trans e0, (cell_of_blk hh _).trans e1, (cell_of_blk hh _).trans e2, (cell_of_blk hh _).trans e3, (cell_of_blk hh _).trans e4, (cell_of_blk hh _).trans e8, e9⟩
  · exact ⟨fun _ _ => False, fun j b hj _ => by omega, fun k hk => by omega⟩
theorem keyOfP_own {d : Nat} {w0 : World} {P : Nat → Prop} {A : Option Addr} {l : List Pt} (h : OPs d w0 P A l) (cap : Nat) (w : World) :
    Calls Try.prog 74 #[.slice A l.length cap] w fun e w' => e = .returned (.agg #[.pointer (kA A l.length), .int .i64 l.length]) ∧ Below w.heap.size w w' := by
  by_cases h0 : 0 < l.length
  · obtain ⟨g, rfl, _, _⟩ := h.addr h0
    rw [kA_pos h0]
    obtain ⟨d', rfl, hl, _⟩ := h.parts
    exact keyOfP_any g l.length cap w hl h0
  · have e : l.length = 0 := by omega
    rw [e]
    exact keyOfP_nil A cap w
end Go.Proofs.Ytbeejeialjfdnaa
