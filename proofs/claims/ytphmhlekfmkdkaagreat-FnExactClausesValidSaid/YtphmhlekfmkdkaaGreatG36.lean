/-
  The program's walk over a pattern: what holds at every round. No statement is proved here.
-/
import Derived.Test.YtphmhlekfmkdkaaGreatG35
namespace Go.Proofs.YtphmhlekfmkdkaaGreat
open Go.RowKit Go.Sort Go.Deep
set_option maxRecDepth 100000
set_option linter.unusedVariables false

theorem catV_mem {f : Nat → List Vt} {x : Vt} : ∀ {k}, x ∈ catV f k → ∃ i, i < k ∧ x ∈ f i
  | 0, h => by cases h
  | k + 1, h => by
    rcases List.mem_append.1 (show x ∈ catV f k ++ f k from h) with h | h
    · obtain ⟨i, hi, h⟩ := catV_mem h; exact ⟨i, by omega, h⟩
    · exact ⟨k, by omega, h⟩
theorem vrP_vars {l : List Da} : ∀ {d : Nat} {t : Ty} {p : Pt}, shP l d t p = true → ∀ x ∈ vrP l d t p, 0 ≤ x.var ∧ x.var ≤ 5
  | 0, t, p, h => by rw [shP_zero] at h; cases h
  | d + 1, t, p, h => fun x hx => by
    obtain ⟨h1, h2, h3⟩ := shP_parts h
    rw [vrP_go] at hx
    rcases List.mem_append.1 hx with hx | hx
    · by_cases hn : p.op = 2 ∨ p.op = 6
      · rw [hdV_yes hn] at hx
        rw [List.mem_singleton.1 hx]
        exact h1.1 hn
      · rw [hdV_no hn] at hx; cases hx
    · obtain ⟨i, hi, hx⟩ := catV_mem hx
      have hil : i < (tysP l t p).length := Nat.lt_of_lt_of_le hi (limV_le l t p)
      rw [kidR_at hil (by omega)] at hx
      exact vrP_vars (h3 i hil (by omega)) x hx
theorem KidsOK.sh {l : List Da} {d : Nat} {t : Ty} {p : Pt} {n : Nat} (h : KidsOK l d t p n (tysP l t p).length) (ho : OwnOK l t p) (hl : p.kids.length = (tysP l t p).length) : shP l (d + 1) t p = true := by
  rw [shP_go ho hl]
  exact upto_all (fun i hi => by rw [kidP_at hi (by omega)]; exact (h.2 i hi (by omega) hi).1)
theorem KidsOK.or2 {l : List Da} {d : Nat} {t : Ty} {p : Pt} {n : Nat} (h : KidsOK l d t p n (tysP l t p).length) (ho : OwnOK l t p) (hl : p.kids.length = (tysP l t p).length) (h5 : p.op = 5) :
    okP l (d + 1) t p n = sameB (kidR l d (tysP l t p) p.kids 0) (kidR l d (tysP l t p) p.kids 1) ∧ vrP l (d + 1) t p = kidR l d (tysP l t p) p.kids 0 := by
  have ht : tysP l t p = [t, t] := by rw [tysP_other (by omega), h5]; rfl
  have h0 : 0 < p.kids.length := by rw [hl, ht]; simp
  have h1 : 1 < p.kids.length := by rw [hl, ht]; simp
  have hh := h.or_ ho hl h5 h0 h1
  have e0 : kidR l d (tysP l t p) p.kids 0 = vrP l d t p.kids[0] := by rw [kidR_at (by omega) h0]; simp only [ht, List.getElem_cons_zero]
  have e1 : kidR l d (tysP l t p) p.kids 1 = vrP l d t p.kids[1] := by rw [kidR_at (by omega) h1]; simp only [ht, List.getElem_cons_succ, List.getElem_cons_zero]
  rw [e0, e1]; exact hh

theorem vo_at {w w1 w2 w3 : World} {lo g n2 c2 : Nat} {A2 : Option Addr} {t : Ty} {p : Pt} {v : Value} {ats : List Ty} (hlow1 : Below lo w w1) (hb2 : Below w1.heap.size w1 w2) (hgr : w2.grownBy w3 none) (hx1 : Bx w1 w.heap.size t) (hp1 : PBx w1 (w.heap.size + 1) p v) (hs1 : w.heap.size + 2 ≤ w1.heap.size) (hg : lo ≤ g) (hgw : g < w.heap.size) (hty : OTys w2 w1.heap.size (.slice A2 n2 c2) ats ats.length) (h3 : ats.length ≤ 3) :
    ∀ wr, Fr (fun b => b = g ∨ b = w2.heap.size) w3 wr → Below lo w wr ∧ Bx wr w.heap.size t ∧ PBx wr (w.heap.size + 1) p v ∧ RTys wr wr.heap.size A2 ats := by
  intro wr hf
  have z1 := hlow1.size
  have z2 := hb2.size
  have z3 := hgr.size
  have z4 := hf.size
  have hk : ∀ i, i < w2.heap.size → i ≠ g → wr.heap[i]? = w2.heap[i]? := fun i hi hne => (hf.2.2.2.2 i (by omega) (fun e => by rcases e with e | e <;> omega)).trans (hgr.block i hi (fun e => by cases e))
  refine ⟨⟨hf.1.trans (hgr.os.trans (hb2.os.trans hlow1.os)), hf.2.1.trans (hgr.tape.trans (hb2.tape.trans hlow1.tape)), hf.2.2.1.trans (hgr.output.trans (hb2.output.trans hlow1.output)), by omega, fun i hi => (hk i (by omega) (by omega)).trans ((hb2.block i (by omega)).trans (hlow1.block i hi))⟩, ?_, hp1.keep ((hk _ (by omega) (by omega)).trans (hb2.block _ (by omega))), ?_⟩
  · have e : wr.heap[w.heap.size]? = w1.heap[w.heap.size]? := (hk _ (by omega) (by omega)).trans (hb2.block _ (by omega))
    exact ⟨(World.cell?_of_block (a := ⟨w.heap.size, 0, none⟩) e).trans hx1.1, (World.cell?_of_block (a := ⟨w.heap.size, 1, none⟩) e).trans hx1.2⟩
  · exact (hty.kept2 (fun b e => hk b (hty.own b e).2 (by have := (hty.own b e).1; omega))).reads (by unfold maxLen; omega)

theorem OVt.one {w : World} {lo : Nat} {v : Value} {L : List Vt} (h : OVt w lo v L) : v.oneCell' = true := by
  obtain ⟨xs, ho, _⟩ := h
  rcases ho.2 with ⟨rfl, _⟩ | ⟨g, cap, cur, rfl, _⟩ <;> rfl
theorem KRow.one {w : World} {lo : Nat} {F : Nat → List Vt} {xs : List Value} {k : Nat} (h : KRow w lo F xs k) (hk : xs.length = k) : ∀ u ∈ xs, u.oneCell' = true := fun u hu => by
  obtain ⟨i, hi, rfl⟩ := List.mem_iff_getElem.1 hu
  obtain ⟨v, e, ho⟩ := h i (by omega)
  rw [List.getElem?_eq_getElem hi] at e
  injection e with e; rw [e]; exact ho.one
theorem insert_any (base g b m : Nat) (A : Option Addr) (n c : Nat) (xs : List Value) (w : World) (hm : m = 0 ∨ m = 1) (ho : w.ownsRow base 125 1 (.slice (some ⟨g, 0, none⟩) m m) m xs) (hbase : base ≤ w.heap.size) (hx : w.cell? ⟨b, 0, none⟩ = some (.slice A n c)) (h1 : ∀ u ∈ xs, u.oneCell' = true) :
    Calls Tryz.prog 154 #[.slice (some ⟨g, 0, none⟩) m m, .int .i64 0, .slice (some ⟨b, 0, none⟩) 1 1] w fun e w' => ∃ v, e = .returned v ∧ w'.ownsRow base 125 1 v (m + 1) (.slice A n c :: xs) ∧ w.grownBy w' (some g) := by
  have hl := ho.1
  rcases hm with rfl | rfl
  · obtain rfl : xs = [] := List.eq_nil_of_length_eq_zero (by omega)
    exact insert_0 base g b A n c w ho hbase hx
  · match xs, hl with
    | [y], _ => exact insert_1 base g b A n c y w ho hbase hx (h1 y (by simp))
theorem OVt.lit (w : World) (lo : Nat) (x : Vt) (h : lo ≤ w.heap.size) : OVt (w.alloc (.cells #[.int .i64 x.var, .int .i64 x.ty.data, .int .i64 x.ty.index] 173)) lo (.slice (some ⟨w.heap.size, 0, none⟩) 1 1) [x] := by
  refine ⟨[.int .i64 x.var, .int .i64 x.ty.data, .int .i64 x.ty.index], ?_, fun j hj => ?_⟩
  · exact World.ownsRow_lit w #[.int .i64 x.var, .int .i64 x.ty.data, .int .i64 x.ty.index] 1 h (by unfold maxLen; omega) rfl
  · match j, hj with
    | 0, _ => exact ⟨rfl, rfl, rfl⟩
end Go.Proofs.YtphmhlekfmkdkaaGreat
