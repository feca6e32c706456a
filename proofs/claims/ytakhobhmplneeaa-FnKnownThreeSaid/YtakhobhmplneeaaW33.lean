/-
  Paths compared, found in a list and made longer: the functions of both sides. No statement is proved here.
-/
import Derived.Test.YtakhobhmplneeaaW32
import Derived.Test.YtakhobhmplneeaaW09
import Derived.Test.YtakhobhmplneeaaW02
import Derived.Test.YtakhobhmplneeaaW21
import Derived.Test.YtakhobhmplneeaaW24
import Derived.Deep.DeepCutAuto
import Derived.Lib.SliceRun
import Derived.Deep.RegionHeld3
namespace Go.Proofs.Ytakhobhmplneeaa
open Go.RowKit Go.Sort Go.Deep
set_option maxRecDepth 100000
set_option linter.unusedVariables false
theorem ret_bool' {a b : Bool} (h : a = b) : Ending.returned (.bool a) = .returned (.bool b) := by rw [h]
theorem eq_upto {p q : List Int} (hl : p.length = q.length) (h : ∀ j (h : j < p.length) (h' : j < q.length), p[j] = q[j]) : p = q := List.ext_getElem hl h
set_option maxHeartbeats 800000 in
theorem samI_any (A A' : Option Addr) (p q : List Int) (cap cap' : Nat) (w : World) (hr : RIs w w.heap.size A p) (hr' : RIs w w.heap.size A' q) :
    Calls Try.prog 64 #[.slice A p.length cap, .slice A' q.length cap'] w fun e w' => e = .returned (.bool (dec (p = q))) ∧ Below w.heap.size w w' := by
  have hn := hr.1
  have hn' := hr'.1
  unfold maxLen at hn hn'
  have Hr := Lib.hid hr
  have Hr' := Lib.hid hr'
  clear hr hr'
  by_cases hl : p.length = q.length
  case neg =>
    have q0 : ((p.length : Int) != (q.length : Int)) = true := by simp; omega
    have HF : Hid (dec (p = q) = false) := dec_f (fun e => hl (by rw [e]))
    clear hl
    go_enter Try.func64, Try.ntmps64
    go_wp2_with fail
    go_ret
    exact ⟨ret_bool' HF.out.symm, Below.refl _ _⟩
  have q0 : ((p.length : Int) != (q.length : Int)) = false := by simp [hl]
  have HL := Lib.hid hl
  clear hl
  go_enter Try.func64, Try.ntmps64
  go_wp2_with fail
  go_loopw [13] (fun i wr => ∃ k : Nat, k ≤ p.length ∧ i = .int .i64 k ∧ Hid (∀ j (h : j < p.length) (h' : j < q.length), j < k → p[j] = q[j]) ∧ Below w.heap.size w wr) (fun i _ => p.length - (intOf i).toNat)
  case atStart => exact ⟨0, by omega, rfl, fun j _ _ h => absurd h (by omega), Below.refl _ _⟩
  case round =>
    obtain ⟨k, hk, rfl, HE, hb⟩ := hrel
    by_cases hlt : k < p.length
    · have hlq : k < q.length := by rw [← HL.out]; exact hlt
      obtain ⟨b, off, rfl, hbB, c0⟩ := (Hr.out.below hb (Nat.le_refl _)).2 k hlt
      obtain ⟨b', off', rfl, hbB', c0'⟩ := (Hr'.out.below hb (Nat.le_refl _)).2 k hlq
      have hi : (k : Int) < (p.length : Int) := by omega
      have hi2 : (k : Int) < (q.length : Int) := by omega
      have HB2 : Hid (∀ n, Below w.heap.size w (wr.drewN n)) := fun n => ⟨hb.os, hb.tape, hb.output, hb.size, hb.block⟩
      by_cases he : p[k] = q[k]
      · have q1 : (p[k] != q[k]) = false := by simp [he]
        have HEk : Hid (∀ j (h : j < p.length) (h' : j < q.length), j < k + 1 → p[j] = q[j]) := fun j h h' hj => by
          by_cases e : j = k
          · subst e; exact he
          · exact HE.out j h h' (by omega)
        clear he
        go_wp2_with fail
        go_quiet (fail)
        go_wp2_with fail
        go_roundw
        case rel => exact ⟨k + 1, by omega, by go_num, HEk, HB2.out _⟩
        case measure => simp [intOf]; omega
      · have q1 : (p[k] != q[k]) = true := by simpa using he
        have HF : Hid (dec (p = q) = false) := dec_f (fun e => he (by subst e; rfl))
        clear he
        go_wp2_with fail
        go_quiet (fail)
        go_wp2_with fail
        go_ret
        exact ⟨ret_bool' HF.out.symm, HB2.out _⟩
    · have hi : (p.length : Int) ≤ (k : Int) := by omega
      have HT : Hid (dec (p = q) = true) := dec_t (eq_upto HL.out (fun j h h' => HE.out j h h' (by omega)))
      go_wp2_with fail
      go_ret
      exact ⟨ret_bool' HT.out.symm, hb⟩
set_option maxHeartbeats 800000 in
theorem has1_any (A' D : Option Addr) (q p : List Int) (c cp pw : Nat) (w : World) (hq : RIs w w.heap.size A' q) (hp : RIs w w.heap.size D p) (hc : w.cell? ⟨pw, 0, none⟩ = some (.slice D p.length cp)) :
    Calls Try.prog 63 #[.slice A' q.length c, .pointer (some ⟨pw, 0, none⟩)] w fun e w' => e = .returned (.bool (dec (q = p))) ∧ Below w.heap.size w w' := by
  have HQ := Lib.hid hq
  have HP := Lib.hid hp
  clear hq hp
  go_enter Try.func63, Try.ntmps63
  go_wp2_with (go_at_call 64; refine (samI_any _ _ _ _ _ _ _ HQ.out HP.out).mono ?_; rintro e1 w1 ⟨rfl, hb1⟩)
  go_ret
  exact ⟨rfl, hb1⟩
set_option maxHeartbeats 800000 in
theorem idxP_any (A D : Option Addr) (ps : List (List Int)) (p : List Int) (cap cp pw : Nat) (w : World) (hr : RIss w w.heap.size A ps) (hp : RIs w w.heap.size D p) (hc : w.cell? ⟨pw, 0, none⟩ = some (.slice D p.length cp)) (hpw : pw < w.heap.size) :
    Calls Try.prog 83 #[.slice A ps.length cap, .func (.func 63) #[] #[.pointer (some ⟨pw, 0, none⟩)]] w fun e w' => ∃ r : Int, e = .returned (.int .i64 r) ∧ decide (0 ≤ r) = dec (p ∈ ps) ∧ Below w.heap.size w w' := by
  have hn := hr.1
  unfold maxLen at hn
  have Hr := Lib.hid hr
  have HP := Lib.hid hp
  have HC := Lib.hid hc
  clear hr hp hc
  go_enter Try.func83, Try.ntmps83
  go_wp2_with fail
  go_loopw [8] (fun i wr => ∃ k : Nat, k ≤ ps.length ∧ i = .int .i64 k ∧ Hid (∀ j (h : j < ps.length), j < k → ¬ ps[j] = p) ∧ Below w.heap.size w wr) (fun i _ => ps.length - (intOf i).toNat)
  case atStart => exact ⟨0, by omega, rfl, fun j _ h => absurd h (by omega), Below.refl _ _⟩
  case round =>
    obtain ⟨k, hk, rfl, HE, hb⟩ := hrel
    by_cases hlt : k < ps.length
    · obtain ⟨b, off, A', c, rfl, hbB, c0, hm⟩ := (Hr.out.below hb (Nat.le_refl _)).2 k hlt
      have Hm : Hid (RIs wr wr.heap.size A' ps[k]) := hm.keep (fun _ _ => rfl) hb.size
      have Hp : Hid (RIs wr wr.heap.size D p) := HP.out.at_ hb
      have Hc : Hid (wr.cell? ⟨pw, 0, none⟩ = some (.slice D p.length cp)) := (hb.cell (p := ⟨pw, 0, none⟩) hpw).trans HC.out
      have hi : (k : Int) < (ps.length : Int) := by omega
      clear hm
      by_cases he : ps[k] = p
      · have HF := Lib.hid (dec_t he)
        have HT : Hid (decide (0 ≤ (k : Int)) = dec (p ∈ ps)) := by unfold Hid; rw [dec_t (by rw [← he]; exact List.getElem_mem hlt)]; simp
        clear he
        go_wp2_with (go_at_call 63; refine (has1_any _ _ _ _ _ _ _ _ Hm.out Hp.out Hc.out).mono ?_; rw [HF.out]; rintro e1 w1 ⟨rfl, hb1⟩; have hb1w := hb.trans (hb1.mono hb.size))
        go_ret
        exact ⟨_, rfl, HT.out, hb1w⟩
      · have HF := Lib.hid (dec_f he)
        have HEk : Hid (∀ j (h : j < ps.length), j < k + 1 → ¬ ps[j] = p) := fun j h hj => by
          by_cases e : j = k
          · subst e; exact he
          · exact HE.out j h (by omega)
        clear he
        go_wp2_with (go_at_call 63; refine (has1_any _ _ _ _ _ _ _ _ Hm.out Hp.out Hc.out).mono ?_; rw [HF.out]; rintro e1 w1 ⟨rfl, hb1⟩; have hb1w := hb.trans (hb1.mono hb.size))
        go_roundw
        case rel => exact ⟨k + 1, by omega, by go_num, HEk, hb1w⟩
        case measure => simp [intOf]; omega
    · have hi : (ps.length : Int) ≤ (k : Int) := by omega
      have HT : Hid (decide (0 ≤ (-1 : Int)) = dec (p ∈ ps)) := by
        unfold Hid
        rw [dec_f (fun h => by
          obtain ⟨j, hj, e⟩ := List.getElem_of_mem h
          exact HE.out j hj (by omega) e)]
        rfl
      go_wp2_with fail
      go_ret
      exact ⟨_, rfl, HT.out, hb⟩
theorem conP_any (A D : Option Addr) (ps : List (List Int)) (p : List Int) (cap cp pw : Nat) (w : World) (hr : RIss w w.heap.size A ps) (hp : RIs w w.heap.size D p) (hc : w.cell? ⟨pw, 0, none⟩ = some (.slice D p.length cp)) (hpw : pw < w.heap.size) :
    Calls Try.prog 62 #[.slice A ps.length cap, .func (.func 63) #[] #[.pointer (some ⟨pw, 0, none⟩)]] w fun e w' => e = .returned (.bool (dec (p ∈ ps))) ∧ Below w.heap.size w w' := by
  have Hr := Lib.hid hr
  have HP := Lib.hid hp
  have HC := Lib.hid hc
  clear hr hp hc
  go_enter Try.func62, Try.ntmps62
  go_wp2_with (go_at_call 83; refine (idxP_any _ _ _ _ _ _ _ _ Hr.out HP.out HC.out hpw).mono ?_; rintro e1 w1 ⟨r, rfl, hd, hb1⟩; have HD := Lib.hid hd; clear hd)
  go_ret
  exact ⟨ret_bool' HD.out, hb1⟩
theorem hasP_impl (A D : Option Addr) (ps : List (List Int)) (p : List Int) (cap cp : Nat) (w : World) (hr : RIss w w.heap.size A ps) (hp : RIs w w.heap.size D p) :
    Calls Try.prog 42 #[.slice A ps.length cap, .slice D p.length cp] w fun e w' => e = .returned (.bool (dec (p ∈ ps))) ∧ Below w.heap.size w w' := by
  have Hr := Lib.hid hr
  have HP := Lib.hid hp
  clear hr hp
  generalize hw0 : w.alloc (.cells #[.slice D p.length cp] 37) = w0
  have hb0 : Below w.heap.size w w0 := by rw [← hw0]; exact (Below.refl _ _).alloc (Nat.le_refl _) _
  have HC : Hid (w0.cell? ⟨w.heap.size, 0, none⟩ = some (.slice D p.length cp)) := by unfold Hid; rw [← hw0]; simp [go_sem]
  have hs : w.heap.size < w0.heap.size := by rw [← hw0]; simp
  have HW := Lib.hid hw0
  clear hw0
  go_enter Try.func42, Try.ntmps42
  go_wp2_with (go_at_call 62; rw [HW.out]; refine (conP_any _ _ _ _ _ _ _ _ (Hr.out.at_ hb0) (HP.out.at_ hb0) HC.out hs).mono ?_; rintro e1 w1 ⟨rfl, hb1⟩; have hb1w := hb0.trans (hb1.mono hb0.size))
  go_ret
  exact ⟨rfl, hb1w⟩

/-! Paths made longer. -/
theorem cell_one_at (w : World) (x : Value) (t : TypeId) : ∀ j u, [x][j]? = some u → (w.alloc (.cells #[x] t)).cell? ((⟨w.heap.size, 0, none⟩ : Addr).add j) = some u := by
  intro j u hj
  have h0 : j = 0 := by
    rcases j with _ | j
    · rfl
    · simp at hj
  subst h0
  simp at hj
  subst hj
  simp [go_sem, Addr.add]
theorem RIs.news {w : World} {B : Nat} {A : Option Addr} {l : List Int} (h : RIs w B A l) : 0 < l.length → ∃ ad, A = some ad ∧ ∀ j u, (l.map (Value.int .i64))[j]? = some u → w.cell? (ad.add j) = some u := fun h0 => by
  obtain ⟨b, off, rfl, _, _⟩ := h.2 0 h0
  refine ⟨_, rfl, fun j u hj => ?_⟩
  rw [List.getElem?_map] at hj
  have hjl : j < l.length := by
    rcases Nat.lt_or_ge j l.length with h1 | h1
    · exact h1
    · rw [List.getElem?_eq_none h1] at hj; cases hj
  rw [List.getElem?_eq_getElem hjl] at hj
  obtain ⟨b', off', e, _, c0⟩ := h.2 j hjl
  injection e with e
  injection e with e1 e2
  subst e1 e2
  simp at hj
  subst hj
  by_cases hj0 : j = 0
  · subst hj0; simpa [Addr.add] using c0
  · simpa [Addr.add, hj0] using c0
theorem ints_one {l : List Int} : ∀ u ∈ l.map (Value.int .i64), u.oneCell' = true := fun u hu => by
  obtain ⟨x, _, rfl⟩ := List.mem_map.1 hu; rfl
/-- A row of numbers of the call's own. -/
theorem ris_of_row {w : World} {lo : Nat} {v : Value} {l : List Int} {n : Nat} (h : w.ownsRow lo 3 1 v n (l.map (Value.int .i64))) (hn : n = l.length) (hx : l.length ≤ maxLen) : ∃ A cap, v = .slice A n cap ∧ RIs w w.heap.size A l := by
  subst hn
  rcases h.2 with ⟨rfl, h0⟩ | ⟨g, cap, cur, rfl, hb, hg, hnc, hcm, hcs, htake⟩
  · exact ⟨none, 0, by rw [h0], hx, fun k hk => absurd hk (by omega)⟩
  · refine ⟨_, cap, rfl, hx, fun k hk => ⟨g, 0, rfl, (h.lt g rfl).2, ?_⟩⟩
    rw [Nat.zero_add, h.cellAt k (by omega), List.getElem?_map, List.getElem?_eq_getElem hk]; rfl
theorem own_lit0 (w : World) : (w.alloc (.cells #[] 3)).ownsRow w.heap.size 3 1 (.slice (some ⟨w.heap.size, 0, none⟩) 0 0) 0 [] := by
  have h := World.ownsRow_lit (base := w.heap.size) (e := 3) (size := 1) w #[] 0 (by simp) (by simp) rfl
  simpa using h
set_option maxHeartbeats 800000 in
theorem clone_any (A : Option Addr) (p : List Int) (cap : Nat) (w : World) (hr : RIs w w.heap.size A p) (hp : p.length ≤ 4000000) :
    Calls Try.prog 43 #[.slice A p.length cap] w fun e w' => ∃ A' c', e = .returned (.slice A' p.length c') ∧ w'.ownsRow w.heap.size 3 1 (.slice A' p.length c') p.length (p.map (Value.int .i64)) ∧ Below w.heap.size w w' := by
  obtain ⟨i0, hi0, hz0, hz1, hz2⟩ := info_parts infoIi
  rcases A with _ | ad
  · have hp0 : p = [] := List.eq_nil_of_length_eq_zero (Nat.eq_zero_of_not_pos fun h => by obtain ⟨b, off, e, _⟩ := hr.2 0 h; cases e)
    subst hp0
    clear hr
    have hq : ∀ W : World, (binOp .eql 37 (.slice none 0 cap) (.slice none 0 0)).run Try.prog W = .ok (.bool true) W := fun W => Lib.run_eql_slice_nil W 37 3 none 0 cap 0 0 Try.underlying37
    go_enter Try.func43, Try.ntmps43
    go_wp2_with fail
    go_ret
    refine ⟨none, 0, rfl, ?_, Below.refl _ _⟩
    exact ⟨by simp, Or.inl ⟨rfl, by simp⟩⟩
  have hq : ∀ W : World, (binOp .eql 37 (.slice (some ad) p.length cap) (.slice none 0 0)).run Try.prog W = .ok (.bool false) W := fun W => Lib.run_eql_slice_nil W 37 3 (some ad) p.length cap 0 0 Try.underlying37
  have Hr := Lib.hid hr
  clear hr
  generalize hwa : w.alloc (.cells #[] 3) = wa
  have hba : Below w.heap.size w wa := by rw [← hwa]; exact (Below.refl _ _).alloc (Nat.le_refl _) _
  have HO : Hid (wa.ownsRow w.heap.size 3 1 (.slice (some ⟨w.heap.size, 0, none⟩) 0 0) 0 []) := by unfold Hid; rw [← hwa]; exact own_lit0 w
  have HN := Lib.hid ((Hr.out.at_ hba).news)
  have HL : Hid ((p.map (Value.int .i64)).length = p.length * 1) := by unfold Hid; simp
  have H1 := Lib.hid (ints_one (l := p))
  have HC3 : Hid (0 + p.length ≤ maxLen) := by unfold Hid maxLen; omega
  have HC4 : Hid ((0 + p.length) * 8 ≤ 140737488355328) := by unfold Hid; omega
  have HC5 := Lib.hid hba.size
  have HWA := Lib.hid hwa
  have HB := Lib.hid hba
  clear hwa hba
  go_enter Try.func43, Try.ntmps43
  go_wp2_with (at_builtin; rw [HWA.out]; refine wpList_append_own_any rfl _ _ 37 rfl w.heap.size 3 i0 (.int .i64 0) 1 8 Try.underlying37 hi0 hz0 hz1 hz2 rfl (by decide) (.slice (some ⟨w.heap.size, 0, none⟩) 0 0) 0 [] rfl HO.out (some ad) p.length cap (p.map (Value.int .i64)) rfl HL.out HN.out H1.out HC3.out HC4.out HC5.out ?_)
  intro v2 w2 hown hgr hat
  obtain ⟨A2, c2, rfl, hnb⟩ := own_form hown
  have hb2 : Below w.heap.size w w2 := (HB.out).grown hgr HB.out.size (fun k e => by have e2 : w.heap.size = k := (by simpa [Value.ownBlock] using e); omega)
  have HO2 : Hid (w2.ownsRow w.heap.size 3 1 (.slice A2 p.length c2) p.length (p.map (Value.int .i64))) := hown
  clear hown hgr hat hnb
  go_wp2_with fail
  go_ret
  exact ⟨A2, c2, rfl, HO2.out, hb2⟩
end Go.Proofs.Ytakhobhmplneeaa
/-
  A value of which only some parts are kept: plain mathematics, and the document's function. No statement is proved here.
-/
namespace Go.Proofs.Ytakhobhmplneeaa
open Go.RowKit Go.Sort Go.Deep
set_option maxRecDepth 100000
set_option linter.unusedVariables false
noncomputable def msV : Nat → List (List Int) → List Int → Vl → Vl
  | 0, _, _, _ => .mk (-2) 0 []
  | d + 1, ps, p, v => if p ∈ ps then .mk v.ctor v.n ((List.range v.kids.length).map (fun (i : Nat) => msV d ps (p ++ [(i : Int)]) (v.kids.getD i default))) else .mk (-2) 0 []
section
variable {d : Nat} {ps : List (List Int)} {p : List Int} {v : Vl}
theorem ms_no (h : ¬ p ∈ ps) : msV (d + 1) ps p v = .mk (-2) 0 [] := if_neg h
theorem ms_yes (h : p ∈ ps) : (msV (d + 1) ps p v).ctor = v.ctor ∧ (msV (d + 1) ps p v).n = v.n ∧ (msV (d + 1) ps p v).kids.length = v.kids.length ∧ ∀ k (h' : k < v.kids.length) (h : k < (msV (d + 1) ps p v).kids.length), (msV (d + 1) ps p v).kids[k] = msV d ps (p ++ [(k : Int)]) v.kids[k] := by
  have e : msV (d + 1) ps p v = .mk v.ctor v.n ((List.range v.kids.length).map (fun (i : Nat) => msV d ps (p ++ [(i : Int)]) (v.kids.getD i default))) := if_pos h
  have hk : (msV (d + 1) ps p v).kids = (List.range v.kids.length).map (fun (i : Nat) => msV d ps (p ++ [(i : Int)]) (v.kids.getD i default)) := by rw [e]; rfl
  refine ⟨by rw [e]; rfl, by rw [e]; rfl, by rw [hk]; simp, fun k h' h2 => ?_⟩
  simp only [hk, List.getElem_map, List.getElem_range]
  rw [List.getD_eq_getElem?_getD, List.getElem?_eq_getElem h']; rfl
theorem ms_w : ∀ (d : Nat) (ps : List (List Int)) (p : List Int) (v : Vl), wV (msV d ps p v) ≤ wV v
  | 0, _, _, v => by show wV (.mk (-2) 0 []) ≤ _; rw [wV, wVs]; omega
  | d + 1, ps, p, v => by
    by_cases h : p ∈ ps
    · obtain ⟨_, _, h3, h4⟩ := ms_yes (d := d) (v := v) h
      rw [wV_kids, wV_kids v, wVs_sum, wVs_sum, h3]
      have key : ∀ n, n ≤ v.kids.length → (((msV (d + 1) ps p v).kids.take n).map wV).sum ≤ ((v.kids.take n).map wV).sum := fun n => by
        induction n with
        | zero => intro _; simp
        | succ n ih =>
          intro hn
          rw [sum_take_succ wV _ n (by omega), sum_take_succ wV _ n (by omega), h4 n (by omega) (by omega)]
          have := ih (by omega)
          have := ms_w d ps (p ++ [(n : Int)]) (v.kids[n])
          omega
      have := key v.kids.length (Nat.le_refl _)
      rw [List.take_length, ← h3, List.take_length] at this
      omega
    · rw [ms_no h]; show wV (.mk (-2) 0 []) ≤ _; rw [wV, wVs]; omega
end
/-- What is returned: a value in blocks of its own. -/
def MkQ (d : Nat) (v : Vl) (w : World) (e : Ending) (w' : World) : Prop := ∃ B c, e = .returned (.agg #[.int .i64 v.ctor, .int .i64 v.n, .slice B v.kids.length c]) ∧ OVs (d + 1) w' (Nw w w') B v.kids ∧ Below w.heap.size w w'
theorem cell_three_nm (w : World) (x y z : Value) (t : TypeId) : ∀ j u, [x, y, z][j]? = some u → (w.alloc (.cells #[x, y, z] t)).cell? ((⟨w.heap.size, 0, none⟩ : Addr).add j) = some u := by
  intro j u hj
  rcases j with _ | _ | _ | j
  · simp at hj; subst hj; simp [go_sem, Addr.add]
  · simp at hj; subst hj; simp [go_sem, Addr.add]
  · simp at hj; subst hj; simp [go_sem, Addr.add]
  · simp at hj
end Go.Proofs.Ytakhobhmplneeaa
