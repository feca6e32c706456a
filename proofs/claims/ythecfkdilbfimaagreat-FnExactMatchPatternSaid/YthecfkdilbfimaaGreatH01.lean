/-
  The table of depths: the document's function. No statement is proved here.
-/
import Derived.Test.YthecfkdilbfimaaGreatH00
import Derived.Lib.QuietBelow
import Derived.Deep.QuietTactic
import Derived.Outline
import Derived.Deep.RegionHeld3
namespace Go.Proofs.YthecfkdilbfimaaGreat
open Go.RowKit Go.Sort
set_option maxRecDepth 100000
set_option linter.unusedVariables false

theorem most_t (A0 A : Option Addr) (l : List Da) (T : List Int) (cap0 cap N : Nat) (t : Ty) (x : Int) (hNT : T.length = N) (hx : x ∈ ctR l t) (w : World) (hr0 : RDas w w.heap.size A0 l) (hr : RInts w A T) (hn : T.length = l.length * 4) (hT : ∀ x ∈ T, 0 ≤ x ∧ x ≤ 5000) (hix : 0 ≤ t.index ∧ t.index ≤ 3) :
    Calls Tryz.prog 122 #[.slice A0 l.length cap0, .slice A N cap, .agg #[.int .i64 t.data, .int .i64 t.index], .int .i64 x] w fun e w' => e = .returned (.int .i64 (mostL T (agR l t x))) ∧ Below w.heap.size w w' := by
  subst hNT
  obtain ⟨ht, d, m, hd, h1, rfl, hm⟩ := mem_ctR hx
  obtain ⟨td, ti⟩ := t
  simp only at h1 hix
  subst h1
  rw [agR_yes hx hd hm]
  exact most_any A0 A l T cap0 cap d m ti hd hm (args_three ht.1 hd hm) w hr0 hr hn ht.1.1 hT (args_in ht.1 hd hm hix.1 hix.2)

/-- A table of integers in the block B. -/
def Tab (w : World) (B N : Nat) (T : List Int) : Prop := w.ownsRow B 3 1 (.slice (some ⟨B, 0, none⟩) N N) N (T.map (Value.int .i64))
theorem Tab.cell_ {w : World} {B N : Nat} {T : List Int} (h : Tab w B N T) {s : Nat} (hs : s < N) (hl : s < T.length) : w.cell? ⟨B, s, none⟩ = some (.int .i64 T[s]) := by
  have h' : w.ownsRow B 3 1 (.slice (some ⟨B, 0, none⟩) N N) N (T.map (Value.int .i64)) := h
  rw [h'.cellAt s (by omega), List.getElem?_map, List.getElem?_eq_getElem hl]; rfl
theorem Tab.reads {w : World} {B N : Nat} {T : List Int} (h : Tab w B N T) (hl : T.length = N) (hm : N ≤ 100) : RInts w (some ⟨B, 0, none⟩) T :=
  ⟨by unfold maxLen; omega, fun k hk => ⟨B, 0, rfl, own_lt h, by rw [Nat.zero_add]; exact h.cell_ (by omega) hk⟩⟩
theorem Tab.below {w w' : World} {B N : Nat} {T : List Int} (h : Tab w B N T) (hb : Below w.heap.size w w') : Tab w' B N T := own_below h hb
theorem Tab.set {w : World} {B N s : Nat} {T : List Int} (h : Tab w B N T) (v : Int) : Tab (w.setCell ⟨B, s, none⟩ (.int .i64 v)) B N (T.set s v) := by
  have h2 := (World.ownsRow.stored h s (.int .i64 v)).1
  unfold Tab
  rw [List.map_set]
  exact h2
theorem OInts.form2 {w : World} {lo : Nat} {v : Value} {xs : List Int} (h : OInts w lo v xs) (hx : xs.length ≤ 4) : ∃ A cap, v = .slice A xs.length cap ∧ RInts w A xs ∧ ∀ b off, A = some ⟨b, off, none⟩ → lo ≤ b := by
  have hm : xs.length ≤ maxLen := by unfold maxLen; omega
  obtain ⟨A, cap, rfl, hr⟩ := h.form hm
  have h' : w.ownsRow lo 3 1 (.slice A xs.length cap) xs.length (xs.map (Value.int .i64)) := h
  refine ⟨A, cap, rfl, hr, fun b off e => ?_⟩
  rcases h'.2 with ⟨e1, _⟩ | ⟨g, cap', cur, e1, hb, _⟩
  · rw [e] at e1; simp at e1
  · rw [e] at e1; cases e1; exact hb

theorem ctor_of {l : List Da} {s : Nat} {x : Int} (h : x ∈ ctR l (tyAt s)) : ∃ (d : Nat) (hd : d < l.length) (m : Nat) (hm : m < l[d].ctors.length), (tyAt s).data = d ∧ x = m ∧ fitsB l[d].ctors[m].index (tyAt s).index = true ∧ agR l (tyAt s) x = argT l[d].ctors[m] (tyAt s).index := by
  obtain ⟨ht, d, m, hd, h1, h2, hm⟩ := mem_ctR h
  have e : tyAt s = ⟨(d : Int), (tyAt s).index⟩ := by rw [← h1]
  have h' := h
  have ht' := ht
  rw [e] at h' ht'
  rw [ctR_data ht' hd] at h'
  obtain ⟨m', hm', h3, h4⟩ := fits_of_mem _ (Nat.le_refl _) h'
  refine ⟨d, hd, m', hm', h1, h3, h4, ?_⟩
  rw [h3] at h ⊢
  rw [e] at h ⊢
  exact agR_yes h hd hm'
theorem St.step2 {l : List Da} {T T' : List Int} {n s i : Nat} {x : Int} (h : St l T n s i) (hw : WorldOK l) (hs : s < l.length * 4) (hn : n ≤ 16) (hi : i ≤ 4) (hx : (ctR l (tyAt s))[i]? = some x)
    (hT : (T' = T ∧ (mostL T (agR l (tyAt s) x) = 0 ∨ (¬ dep T (tyAt s) = 0 ∧ dep T (tyAt s) ≤ mostL T (agR l (tyAt s) x)))) ∨
      (T' = T.set s (mostL T (agR l (tyAt s) x)) ∧ 0 < mostL T (agR l (tyAt s) x) ∧ (dep T (tyAt s) = 0 ∨ mostL T (agR l (tyAt s) x) < dep T (tyAt s)))) : St l T' n s (i + 1) := by
  obtain ⟨d, hd, m, hm, h1, h2, h3, h4⟩ := ctor_of (List.mem_of_getElem? hx)
  rw [h4] at hT
  rw [h2] at hx
  exact h.step hw hs hn hi hd hm h1 hx h3 hT
theorem dep_at {T : List Int} {s : Nat} (hs : s < T.length) : dep T (tyAt s) = T[s] := by
  have e := dep_data (T := T) (tyAt_data s) (by rw [tyAt_slot]; exact hs)
  rw [e]; congr 1; exact tyAt_slot s
theorem most_nonneg {T : List Int} (hT : ∀ x ∈ T, 0 ≤ x ∧ x ≤ 5000) (L : List Ty) : 0 ≤ mostL T L := by
  have := maxTo_bd hT L L.length
  unfold mostL
  split <;> omega

theorem cell_far {w : World} {p a : Addr} {v : Value} (h : ¬ p.block = a.block) : (w.setCell p v).cell? a = w.cell? a :=
  World.cell?_setCell_other _ _ _ _ (fun e => h (by rw [e]))
theorem most_v (A0 A : Option Addr) (l : List Da) (T : List Int) (cap0 cap N : Nat) (t : Ty) (x V : Int) (hV : mostL T (agR l t x) = V) (hNT : T.length = N) (hx : x ∈ ctR l t) (w : World) (hr0 : RDas w w.heap.size A0 l) (hr : RInts w A T) (hn : T.length = l.length * 4) (hT : ∀ x ∈ T, 0 ≤ x ∧ x ≤ 5000) (hix : 0 ≤ t.index ∧ t.index ≤ 3) :
    Calls Tryz.prog 122 #[.slice A0 l.length cap0, .slice A N cap, .agg #[.int .i64 t.data, .int .i64 t.index], .int .i64 x] w fun e w' => e = .returned (.int .i64 V) ∧ Below w.heap.size w w' := by
  subst hV; exact most_t A0 A l T cap0 cap N t x hNT hx w hr0 hr hn hT hix

set_option maxHeartbeats 4000000 in
theorem table_any (A : Option Addr) (l : List Da) (cap : Nat) (w : World) (hr : RDas w w.heap.size A l) (hw : WorldOK l) :
    Calls Tryz.prog 66 #[.slice A l.length cap] w fun e w' => ∃ T, e = .returned (.slice (some ⟨w.heap.size, 0, none⟩) (l.length * 4) (l.length * 4)) ∧ Tab w' w.heap.size (l.length * 4) T ∧ St l T (l.length * 4 + 1) 0 0 ∧ Below w.heap.size w w' := by
  obtain ⟨i0, hi, hz0, hz1, hz2⟩ := info_parts info3
  have hl4 := hw.1
  have HW := Lib.hid hw
  have Hr := Lib.hid hr
  clear hr hw
  have eL : ((l.length * 4 : Nat) : Int) = (l.length : Int) * 4 := by push_cast; rfl
  go_enter Tryz.func66, Tryz.ntmps66
  go_wp2_with (at_make; refine wpList_make_full _ rfl _ _ 105 rfl w.heap.size 3 i0 _ 1 Tryz.underlying105 hi hz0 hz1 _ _ _ _ (l.length * 4) rfl rfl (by push_cast; rfl) (by push_cast; rfl) (by rw [hz2]; omega) (by unfold maxLen; omega) (Nat.le_refl _) ?_; intro w1 hown hgr)
  have hone : (madeCells (Value.int .i64 0).cells (l.length * 4 * 1)).toList = (List.replicate (l.length * 4) (0 : Int)).map (Value.int .i64) := by
    rw [Nat.mul_one, List.map_replicate]; exact toList_madeCells_one _ _
  have hT0 : Tab w1 w.heap.size (l.length * 4) (List.replicate (l.length * 4) 0) := by unfold Tab; rw [← hone]; exact hown
  have hb1 := below_of_grown hgr (Nat.le_refl w.heap.size)
  have hS0 : St l (List.replicate (l.length * 4) 0) 0 0 0 := St.start l _ (by simp) (fun x hx => (List.mem_replicate.1 hx).2)
  clear hown hgr hone hi hz0 hz1 hz2 eL
  go_loopw [4] (fun i wr => ∃ n : Nat, n ≤ l.length * 4 + 1 ∧ i = .int .i64 n ∧ ∃ T, Tab wr w.heap.size (l.length * 4) T ∧ St l T n 0 0 ∧ Below w.heap.size w wr) (fun i _ => l.length * 4 + 1 - (intOf i).toNat)
  case atStart => exact ⟨0, by omega, rfl, _, hT0, hS0, hb1⟩
  case round =>
    clear hT0 hS0 hb1
    obtain ⟨n, hn, rfl, T, hT, hS, hb⟩ := hrel
    by_cases hlt : n < l.length * 4 + 1
    · have hnI : (n : Int) ≤ (l.length : Int) * 4 := by omega
      go_wp2_with fail
      go_loopw [5] (fun i wr => ∃ s : Nat, s ≤ l.length * 4 ∧ i = .int .i64 s ∧ ∃ T, Tab wr w.heap.size (l.length * 4) T ∧ St l T n s 0 ∧ Below w.heap.size w wr) (fun i _ => l.length * 4 - (intOf i).toNat)
      case atStart => exact ⟨0, by omega, rfl, _, hT, hS, hb⟩
      case round =>
        clear hT hS hb
        obtain ⟨s, hs, rfl, T, hT, hS, hb⟩ := hrel
        have hlw := hb.size
        by_cases hst : s < l.length * 4
        · have hsI : (s : Int) < (l.length : Int) * 4 := by omega
          have hok := tyAt_ok HW.out hst
          have hRl := ctR_len l (tyAt s)
          have HT := Lib.hid hT
          have HS := Lib.hid hS
          clear hT hS
          go_wp2_with fail
          refine (l1Ctors_all _ l _ (tyAt s) _ (Hr.out.keep (fun p hp => (keep_one _ p (by omega)).trans (hb.cell hp)) (by simp; omega)) hok).mono ?_
          rintro e w2 ⟨v, rfl, ho, hb2⟩
          obtain ⟨A1, cap1, rfl, hr1, hA1⟩ := ho.form2 hRl
          have hb3 := hb.trans ((below_one hb2).mono hlw)
          have HT2 := Lib.hid (HT.out.below (below_one hb2))
          have HX2 := Lib.hid (⟨(hb2.cell (p := ⟨wr.heap.size, 0, none⟩) (by simp)).trans (by simp [go_sem]), (hb2.cell (p := ⟨wr.heap.size, 1, none⟩) (by simp)).trans (by simp [go_sem])⟩ : w2.cell? ⟨wr.heap.size, 0, none⟩ = some (.int .i64 ((s : Int) / 4)) ∧ w2.cell? ⟨wr.heap.size, 1, none⟩ = some (.int .i64 ((s : Int) % 4)))
          have HR2 := Lib.hid hr1
          have HA1 := Lib.hid hA1
          have hbx : w.heap.size < wr.heap.size := own_lt HT.out
          clear ho hr1 hA1 hb2 HT hb
          obtain ⟨wo, rfl⟩ : ∃ wo : World, wo = wr := ⟨_, rfl⟩
          go_wp2_with fail
          go_loopw [8] (fun i wi => ∃ j : Nat, j ≤ (ctR l (tyAt s)).length ∧ i = .int .i64 j ∧ ∃ T, Tab wi w.heap.size (l.length * 4) T ∧ St l T n s j ∧ RInts wi A1 (ctR l (tyAt s)) ∧ (wi.cell? ⟨wo.heap.size, 0, none⟩ = some (.int .i64 ((s : Int) / 4)) ∧ wi.cell? ⟨wo.heap.size, 1, none⟩ = some (.int .i64 ((s : Int) % 4))) ∧ Below w.heap.size w wi) (fun i _ => (ctR l (tyAt s)).length - (intOf i).toNat)
          case atStart => exact ⟨0, by omega, rfl, _, HT2.out, HS.out, HR2.out, HX2.out, hb3⟩
          case round =>
            clear HT2 HS HR2 HX2 hb3
            obtain ⟨j, hj, rfl, T, hT, hS, hR, ⟨q0, q1⟩, hb⟩ := hrel
            have hlw2 := hb.size
            by_cases hjt : j < (ctR l (tyAt s)).length
            · have hjI : (j : Int) < ((ctR l (tyAt s)).length : Int) := by omega
              have hx : (ctR l (tyAt s))[j]? = some (ctR l (tyAt s))[j] := List.getElem?_eq_getElem hjt
              have hxm : (ctR l (tyAt s))[j] ∈ ctR l (tyAt s) := List.getElem_mem hjt
              obtain ⟨bR, offR, hA1e, hbR, r0⟩ := hR.2 j hjt
              generalize (ctR l (tyAt s))[j] = x at hx hxm r0
              subst hA1e
              have hsT : s < T.length := by rw [hS.len]; exact hst
              have hTb : ∀ x ∈ T, 0 ≤ x ∧ x ≤ 5000 := fun x hx => by have := hS.bd x hx; omega
              have y0 := cell_regrown q0
              have y1 := cell_regrown q1
              have s0 := cell_regrown r0
              have hc := hT.cell_ hst hsT
              have hnn := most_nonneg hTb (agR l (tyAt s) x)
              have HS := Lib.hid hS
              have HL := Lib.hid hS.len
              have HTb := Lib.hid hTb
              have HT := Lib.hid hT
              have HRI := Lib.hid hR
              have HB := Lib.hid hb
              have HXM := Lib.hid hxm
              have HQ := Lib.hid (⟨q0, q1⟩ : wr.cell? ⟨wo.heap.size, 0, none⟩ = some (.int .i64 ((s : Int) / 4)) ∧ wr.cell? ⟨wo.heap.size, 1, none⟩ = some (.int .i64 ((s : Int) % 4)))
              have HK1 : Hid (∀ d os, RDas (grow (redrawn wr d) os) (grow (redrawn wr d) os).heap.size A l) := fun d os => Hr.out.keep (fun p hp => ((below_regrown wr d os).cell (by omega)).trans (hb.cell hp)) (by have := (below_regrown wr d os).size; omega)
              have HK2 : Hid (∀ d os, RInts (grow (redrawn wr d) os) (some ⟨w.heap.size, 0, none⟩) T) := fun d os => (hT.reads hS.len (by omega)).at_ (below_regrown wr d os)
              clear q0 q1 r0 hS hT hR hb hTb hxm
              generalize hV : mostL T (agR l (tyAt s) x) = V at hnn
              have HST : Hid (∀ T', (T' = T ∧ (V = 0 ∨ (¬ T[s] = 0 ∧ T[s] ≤ V))) ∨ (T' = T.set s V ∧ 0 < V ∧ (T[s] = 0 ∨ V < T[s])) → St l T' n s (j + 1)) := fun T' h => HS.out.step2 HW.out hst (by omega) (by omega) hx (by rw [dep_at hsT, hV]; exact h)
              have HV := Lib.hid hV
              clear hx hV HS
              go_wp2_with fail
              refine wp_region_quiet_below (by kernel_rfl) (by kernel_rfl) ?_
              repeat (quiet_step (exact Calls.regrown_of (most_v _ _ l T _ _ _ (tyAt s) x V HV.out HL.out HXM.out _ (HK1.out _ _) (HK2.out _ _) HL.out HTb.out (by unfold tyAt; simp only; omega))))
              refine wpQuiet_nil ?_
              intro w3 hw'
              have hb2 : Below wr.heap.size wr w3 := by obtain ⟨⟨dq, osq⟩, h⟩ := hw'; subst h; exact below_regrown wr dq osq
              clear hw' y0 y1 s0 HK1 HK2
              have HT3 := Lib.hid (HT.out.below hb2)
              have HR3 := Lib.hid (HRI.out.at_ hb2)
              have HQ3 := Lib.hid (⟨(hb2.cell (p := ⟨wo.heap.size, 0, none⟩) (block_lt_of_cell HQ.out.1)).trans HQ.out.1, (hb2.cell (p := ⟨wo.heap.size, 1, none⟩) (block_lt_of_cell HQ.out.2)).trans HQ.out.2⟩ : w3.cell? ⟨wo.heap.size, 0, none⟩ = some (.int .i64 ((s : Int) / 4)) ∧ w3.cell? ⟨wo.heap.size, 1, none⟩ = some (.int .i64 ((s : Int) % 4)))
              have HB3 := Lib.hid (HB.out.trans (hb2.mono HB.out.size))
              have hc3 : w3.cell? ⟨w.heap.size, s, none⟩ = some (.int .i64 T[s]) := HT3.out.cell_ hst hsT
              clear HT HRI HQ HB hc
              have hfz : w3.frozen? ⟨w.heap.size, s, none⟩ = false := World.ownsRow.frozenAt (show w3.ownsRow w.heap.size 3 1 (.slice (some ⟨w.heap.size, 0, none⟩) (l.length * 4) (l.length * 4)) (l.length * 4) (T.map (Value.int .i64)) from HT3.out) s
              have hbA : w.heap.size < bR := by have := HA1.out bR offR rfl; simp at this; omega
              by_cases hV0 : V = 0
              · have hV1 : ¬ 0 < V := by omega
                have HS' := Lib.hid (HST.out T (.inl ⟨rfl, .inl hV0⟩))
                clear HST
                go_wp2_with fail
                go_roundw
                case rel => exact ⟨j + 1, by omega, by go_num, T, HT3.out, HS'.out, HR3.out, HQ3.out, HB3.out⟩
                case measure => simp [intOf]; omega
              · have hV1 : 0 < V := by omega
                have HR4 : Hid (RInts (w3.setCell ⟨w.heap.size, s, none⟩ (.int .i64 V)) (some ⟨bR, offR, none⟩) (ctR l (tyAt s))) := ⟨HR3.out.1, fun k hk => by
                  obtain ⟨b', o', e, h1, h2⟩ := HR3.out.2 k hk
                  refine ⟨b', o', e, by simpa using h1, ?_⟩
                  cases e
                  exact (cell_far (by simp only; omega)).trans h2⟩
                have HQ4 : Hid ((w3.setCell ⟨w.heap.size, s, none⟩ (.int .i64 V)).cell? ⟨wo.heap.size, 0, none⟩ = some (.int .i64 ((s : Int) / 4)) ∧ (w3.setCell ⟨w.heap.size, s, none⟩ (.int .i64 V)).cell? ⟨wo.heap.size, 1, none⟩ = some (.int .i64 ((s : Int) % 4))) := ⟨(cell_far (by simp only; omega)).trans HQ3.out.1, (cell_far (by simp only; omega)).trans HQ3.out.2⟩
                have HB4 := Lib.hid (HB3.out.setCell (p := ⟨w.heap.size, s, none⟩) (Nat.le_refl _) (.int .i64 V))
                by_cases hz : T[s] = 0
                · have HS' := Lib.hid (HST.out (T.set s V) (.inr ⟨rfl, hV1, .inl hz⟩))
                  have q := ieq_t hz
                  clear HST
                  go_wp2_with fail
                  go_roundw
                  case rel => exact ⟨j + 1, by omega, by go_num, T.set s V, HT3.out.set V, HS'.out, HR4.out, HQ4.out, HB4.out⟩
                  case measure => simp [intOf]; omega
                · have q := ieq_f hz
                  by_cases hlt3 : V < T[s]
                  · have HS' := Lib.hid (HST.out (T.set s V) (.inr ⟨rfl, hV1, .inr hlt3⟩))
                    clear HST
                    go_wp2_with fail
                    go_roundw
                    case rel => exact ⟨j + 1, by omega, by go_num, T.set s V, HT3.out.set V, HS'.out, HR4.out, HQ4.out, HB4.out⟩
                    case measure => simp [intOf]; omega
                  · have HS' := Lib.hid (HST.out T (.inl ⟨rfl, .inr ⟨hz, by omega⟩⟩))
                    clear HST
                    go_wp2_with fail
                    go_roundw
                    case rel => exact ⟨j + 1, by omega, by go_num, T, HT3.out, HS'.out, HR3.out, HQ3.out, HB3.out⟩
                    case measure => simp [intOf]; omega
            · have hje : (ctR l (tyAt s)).length ≤ j := by omega
              have HS' := Lib.hid (hS.place HW.out hst hje (by omega))
              have hjI : ((ctR l (tyAt s)).length : Int) ≤ (j : Int) := by omega
              clear hS hje
              go_wp2_with fail
              go_roundw
              case rel => exact ⟨s + 1, by omega, by go_num, T, hT, HS'.out, hb⟩
              case measure => simp [intOf]; omega
        · have hse : s = l.length * 4 := by omega
          have HS' := Lib.hid (hS.pass hl4 hse)
          have hsI : (l.length : Int) * 4 ≤ (s : Int) := by omega
          clear hS hse
          go_wp2_with fail
          go_roundw
          case rel => exact ⟨n + 1, by omega, by go_num, T, hT, HS'.out, hb⟩
          case measure => simp [intOf]; omega
    · have he : n = l.length * 4 + 1 := by omega
      have HS : Hid (St l T (l.length * 4 + 1) 0 0) := by rw [← he]; exact hS
      have hnI : (l.length : Int) * 4 < (n : Int) := by omega
      clear he hS
      go_wp2_with fail
      go_ret
      exact ⟨T, rfl, hT, HS.out, hb⟩
end Go.Proofs.YthecfkdilbfimaaGreat
/-
  Whether a type has a value with arguments of known types: the program's closure, the library's functions over it, the program's function. No statement is proved here.
-/
namespace Go.Proofs.YthecfkdilbfimaaGreat
open Go.RowKit Go.Deep
set_option maxRecDepth 100000
set_option linter.unusedVariables false

theorem mxT_nonneg (F : Ty → Int) (L : List Ty) : ∀ k, 0 ≤ mxT F L k
  | 0 => Int.le_refl _
  | k + 1 => by
    have := mxT_nonneg F L k
    show 0 ≤ max (mxT F L k) _
    omega
theorem dpR_pos (F : Ty → Int) (S : Ty → Prop) (L : List Ty) : decide (0 < dpR F S L) = dec (∀ a ∈ L, S a) := by
  by_cases h : ∀ a ∈ L, S a
  · rw [dec_t h, dpR_yes h]
    have := mxT_nonneg F L L.length
    exact decide_eq_true (by omega)
  · rw [dec_f h, dpR_no h]; rfl

/-- The world, the type and the map, behind three pointers. -/
structure M3 (w : World) (pw pt pm : Nat) (A : Option Addr) (l : List Da) (cap : Nat) (t : Ty) (mb n : Nat) (F : Ty → Int) (S : Ty → Prop) : Prop where
  wp : w.cell? ⟨pw, 0, none⟩ = some (.slice A l.length cap)
  t0 : w.cell? ⟨pt, 0, none⟩ = some (.int .i64 t.data)
  t1 : w.cell? ⟨pt, 1, none⟩ = some (.int .i64 t.index)
  mp : w.cell? ⟨pm, 0, none⟩ = some (.map (some mb))
  map : MapTy w mb n F S
  rd : RDas w w.heap.size A l
theorem M3.at_ {w w' : World} {pw pt pm : Nat} {A : Option Addr} {l : List Da} {cap : Nat} {t : Ty} {mb n : Nat} {F : Ty → Int} {S : Ty → Prop} (h : M3 w pw pt pm A l cap t mb n F S) (hb : Below w.heap.size w w') : M3 w' pw pt pm A l cap t mb n F S :=
  ⟨(hb.cell (p := ⟨pw, 0, none⟩) (Go.block_lt_of_cell h.wp)).trans h.wp, (hb.cell (p := ⟨pt, 0, none⟩) (Go.block_lt_of_cell h.t0)).trans h.t0, (hb.cell (p := ⟨pt, 1, none⟩) (Go.block_lt_of_cell h.t1)).trans h.t1, (hb.cell (p := ⟨pm, 0, none⟩) (Go.block_lt_of_cell h.mp)).trans h.mp, h.map.at_ hb, h.rd.keep (fun p hp => hb.cell hp) hb.size⟩
theorem M3.cells {w : World} {pw pt pm : Nat} {A : Option Addr} {l : List Da} {cap : Nat} {t : Ty} {mb n : Nat} {F : Ty → Int} {S : Ty → Prop} (h : M3 w pw pt pm A l cap t mb n F S) :
    w.cell? ⟨pw, 0, none⟩ = some (.slice A l.length cap) ∧ w.cell? ⟨pt, 0, none⟩ = some (.int .i64 t.data) ∧ w.cell? ⟨pt, 1, none⟩ = some (.int .i64 t.index) ∧ w.cell? ⟨pm, 0, none⟩ = some (.map (some mb)) := ⟨h.wp, h.t0, h.t1, h.mp⟩
theorem agR_max (l : List Da) (t : Ty) (x : Int) : (agR l t x).length ≤ maxLen := by have := agR_len l t x; unfold maxLen; omega

set_option maxHeartbeats 1600000 in
theorem isMade_any (pw pt pm : Nat) (A : Option Addr) (l : List Da) (cap : Nat) (t : Ty) (x : Int) (mb n : Nat) (F : Ty → Int) (S : Ty → Prop) (w : World) (h : M3 w pw pt pm A l cap t mb n F S) (hx : x ∈ ctR l t) (hx4 : ∀ a ∈ agR l t x, a ∈ tysN 4) (hpos : ∀ t ∈ tysN 4, S t → 0 < F t ∧ F t ≤ 5000) :
    Calls Tryz.prog 245 #[.int .i64 x, .pointer (some ⟨pw, 0, none⟩), .pointer (some ⟨pt, 0, none⟩), .pointer (some ⟨pm, 0, none⟩)] w fun e w' => e = .returned (.bool (dec (∀ a ∈ agR l t x, S a))) ∧ Below w.heap.size w w' := by
  have H := Lib.hid h
  have HX := Lib.hid hx
  have HX4 := Lib.hid hx4
  have HP := Lib.hid hpos
  have HD := Lib.hid (dpR_pos F S (agR l t x))
  have hS : w.cell? ⟨pw, 0, none⟩ = some (.slice A l.length cap) ∧ w.cell? ⟨pt, 0, none⟩ = some (.int .i64 t.data) ∧ w.cell? ⟨pt, 1, none⟩ = some (.int .i64 t.index) ∧ w.cell? ⟨pm, 0, none⟩ = some (.map (some mb)) := ⟨h.wp, h.t0, h.t1, h.mp⟩
  have HSC := Lib.hid hS
  have HBD : Hid (Below w.heap.size w w.drew) := (fun h => ⟨h.os, h.tape, h.output, h.size, h.block⟩) (Below.refl w.heap.size w)
  clear h hx hx4 hpos hS
  go_enter Tryz.func245, Tryz.ntmps245
  obtain ⟨s0, s1, s2, s3⟩ := HSC.out
  go_wp2_with fail
  go_region_held3 (fun w' => w'.cell? ⟨pw, 0, none⟩ = some (.slice A l.length cap) ∧ w'.cell? ⟨pt, 0, none⟩ = some (.int .i64 t.data) ∧ w'.cell? ⟨pt, 1, none⟩ = some (.int .i64 t.index) ∧ w'.cell? ⟨pm, 0, none⟩ = some (.map (some mb))) (first | exact HSC.out | exact S1.out | exact S2.out | go_keep) (first | (go_at_call 124; refine (argTypes_all _ l _ t x _ (H.out.at_ HBD.out).rd HX.out).mono ?_; rintro e w2 ⟨v, rfl, ho, hb2⟩; obtain ⟨A2, cap2, rfl, hr2⟩ := ho.form (agR_max l t x); have hbw := HBD.out.trans hb2; have M2 := Lib.hid (H.out.at_ hbw); have S1 := Lib.hid (M2.out.cells); have R2 := Lib.hid hr2; clear ho hr2 hb2) | (go_at_call 224; refine (depA_any _ _ _ _ n F S _ R2.out HX4.out M2.out.map HP.out).mono ?_; rintro e w3 ⟨rfl, hb3⟩; have hbz := hbw.trans (hb3.mono hbw.size); have S2 := Lib.hid ((H.out.at_ hbz).cells); clear hb3))
  go_wp2_with fail
  go_ret
  exact ⟨ret_bool HD.out, hbz⟩

def NoneTo (l : List Da) (t : Ty) (S : Ty → Prop) (j : Nat) : Prop := ∀ i (h : i < (ctR l t).length), i < j → ¬ ∀ a ∈ agR l t (ctR l t)[i], S a
theorem NoneTo.zero (l : List Da) (t : Ty) (S : Ty → Prop) : NoneTo l t S 0 := fun j _ h => absurd h (by omega)
theorem NoneTo.step {l : List Da} {t : Ty} {S : Ty → Prop} {k : Nat} (h : NoneTo l t S k) (hk : k < (ctR l t).length) (e : ¬ ∀ a ∈ agR l t (ctR l t)[k], S a) : NoneTo l t S (k + 1) := by
  intro j hj hjk
  by_cases e' : j = k
  · subst e'; exact e
  · exact h j hj (by omega)
theorem NoneTo.all {l : List Da} {t : Ty} {S : Ty → Prop} {k : Nat} (h : NoneTo l t S k) (hk : (ctR l t).length ≤ k) : ¬ ∃ x ∈ ctR l t, ∀ a ∈ agR l t x, S a := fun ⟨x, hx, ha⟩ => by
  obtain ⟨j, hj, rfl⟩ := List.getElem_of_mem hx
  exact h j hj (by omega) ha

set_option maxHeartbeats 1600000 in
theorem indexM_any (A1 : Option Addr) (cap1 pw pt pm : Nat) (A : Option Addr) (l : List Da) (cap : Nat) (t : Ty) (mb n : Nat) (F : Ty → Int) (S : Ty → Prop) (w : World) (hr : RInts w A1 (ctR l t)) (h : M3 w pw pt pm A l cap t mb n F S) (hx4 : ∀ x ∈ ctR l t, ∀ a ∈ agR l t x, a ∈ tysN 4) (hpos : ∀ t ∈ tysN 4, S t → 0 < F t ∧ F t ≤ 5000) :
    Calls Tryz.prog 225 #[.slice A1 (ctR l t).length cap1, .func (.func 245) #[] #[.pointer (some ⟨pw, 0, none⟩), .pointer (some ⟨pt, 0, none⟩), .pointer (some ⟨pm, 0, none⟩)]] w fun e w' => ∃ r : Int, e = .returned (.int .i64 r) ∧ decide (0 ≤ r) = dec (∃ x ∈ ctR l t, ∀ a ∈ agR l t x, S a) ∧ Below w.heap.size w w' := by
  have hRl := ctR_len l t
  have Hr := Lib.hid hr
  have H := Lib.hid h
  have HX4 := Lib.hid hx4
  have HP := Lib.hid hpos
  clear hr h hx4 hpos
  go_enter Tryz.func225, Tryz.ntmps225
  go_wp2_with fail
  go_loopw [8] (fun i wr => ∃ k : Nat, k ≤ (ctR l t).length ∧ i = .int .i64 k ∧ NoneTo l t S k ∧ Below w.heap.size w wr) (fun i _ => (ctR l t).length - (intOf i).toNat)
  case atStart => exact ⟨0, by omega, rfl, NoneTo.zero _ _ _, Below.refl _ _⟩
  case round =>
    obtain ⟨k, hk, rfl, hno, hb⟩ := hrel
    by_cases hlt : k < (ctR l t).length
    · obtain ⟨b, off, rfl, hbB, c0⟩ := (Hr.out.at_ hb).2 k hlt
      have hkI : (k : Int) < ((ctR l t).length : Int) := by omega
      have HXM : Hid ((ctR l t)[k] ∈ ctR l t) := List.getElem_mem hlt
      have HM := Lib.hid (H.out.at_ hb)
      have HST := Lib.hid (hno.step hlt)
      generalize (ctR l t)[k] = x at HXM c0 HST
      have HIS := Lib.hid (isMade_any pw pt pm A l cap t x mb n F S wr HM.out HXM.out (HX4.out x HXM.out) HP.out)
      by_cases hs : ∀ a ∈ agR l t x, S a
      · have HC := Lib.hid (dec_t hs)
        have HT : Hid (decide (0 ≤ (k : Int)) = dec (∃ x ∈ ctR l t, ∀ a ∈ agR l t x, S a)) := by unfold Hid; rw [dec_t ⟨x, HXM.out, hs⟩]; exact decide_eq_true (by omega)
        clear hs
        go_wp2_with fail
        refine HIS.out.mono ?_
        rw [HC.out]
        rintro e w1 ⟨rfl, hb1⟩
        have hb2 := hb.trans (hb1.mono hb.size)
        go_wp2_with fail
        go_ret
        exact ⟨_, rfl, HT.out, hb2⟩
      · have HC := Lib.hid (dec_f hs)
        have HN := Lib.hid (HST.out hs)
        clear hs
        go_wp2_with fail
        refine HIS.out.mono ?_
        rw [HC.out]
        rintro e w1 ⟨rfl, hb1⟩
        have hb2 := hb.trans (hb1.mono hb.size)
        go_wp2_with fail
        go_roundw
        case rel => exact ⟨k + 1, by omega, by go_num, HN.out, hb2⟩
        case measure => simp [intOf]; omega
    · have HT : Hid (decide (0 ≤ (-1 : Int)) = dec (∃ x ∈ ctR l t, ∀ a ∈ agR l t x, S a)) := by unfold Hid; rw [dec_f (hno.all (by omega))]; rfl
      go_wp2_with fail
      go_ret
      exact ⟨_, rfl, HT.out, hb⟩

theorem containsM_any (A1 : Option Addr) (cap1 pw pt pm : Nat) (A : Option Addr) (l : List Da) (cap : Nat) (t : Ty) (mb n : Nat) (F : Ty → Int) (S : Ty → Prop) (w : World) (hr : RInts w A1 (ctR l t)) (h : M3 w pw pt pm A l cap t mb n F S) (hx4 : ∀ x ∈ ctR l t, ∀ a ∈ agR l t x, a ∈ tysN 4) (hpos : ∀ t ∈ tysN 4, S t → 0 < F t ∧ F t ≤ 5000) :
    Calls Tryz.prog 246 #[.slice A1 (ctR l t).length cap1, .func (.func 245) #[] #[.pointer (some ⟨pw, 0, none⟩), .pointer (some ⟨pt, 0, none⟩), .pointer (some ⟨pm, 0, none⟩)]] w fun e w' => e = .returned (.bool (dec (∃ x ∈ ctR l t, ∀ a ∈ agR l t x, S a))) ∧ Below w.heap.size w w' := by
  have HI := Lib.hid (indexM_any A1 cap1 pw pt pm A l cap t mb n F S w hr h hx4 hpos)
  clear hr h hx4 hpos
  go_enter Tryz.func246, Tryz.ntmps246
  go_wp2_with fail
  refine HI.out.mono ?_
  rintro e w1 ⟨r, rfl, hd, hb⟩
  have HD := Lib.hid hd
  clear hd
  go_wp2_with fail
  go_ret
  exact ⟨ret_bool HD.out, hb⟩
end Go.Proofs.YthecfkdilbfimaaGreat
/-
  Whether a type has a value with arguments of known types: the program's function. No statement is proved here.
-/
namespace Go.Proofs.YthecfkdilbfimaaGreat
open Go.RowKit Go.Deep
set_option maxRecDepth 100000
set_option linter.unusedVariables false

theorem ctor_at {l : List Da} {t : Ty} {x : Int} (h : x ∈ ctR l t) : ∃ (d : Nat) (hd : d < l.length) (m : Nat) (hm : m < l[d].ctors.length), t.data = d ∧ x = m ∧ fitsB l[d].ctors[m].index t.index = true ∧ agR l t x = argT l[d].ctors[m] t.index := by
  obtain ⟨ht, d, m, hd, h1, h2, hm⟩ := mem_ctR h
  obtain ⟨td, ti⟩ := t
  simp only at h1
  subst h1
  have h' := h
  rw [ctR_data ht hd] at h'
  obtain ⟨m', hm', h3, h4⟩ := fits_of_mem _ (Nat.le_refl _) h'
  subst h3
  exact ⟨d, hd, m', hm', rfl, rfl, h4, agR_yes h hd hm'⟩
theorem mkF_iff {l : List Da} {S : Ty → Prop} {t : Ty} (hok : TyOK l t) (hd : ¬ t.data = -1) : mkF l S t ↔ ∃ x ∈ ctR l t, ∀ a ∈ agR l t x, S a := by
  constructor
  · rintro (h0 | ⟨d, hdl, m, hm, h1, h2, h3⟩)
    · exact absurd h0 hd
    · obtain ⟨td, ti⟩ := t
      simp only at h1
      subst h1
      have hx : (m : Int) ∈ ctR l ⟨d, ti⟩ := by rw [ctR_data hok hdl]; exact mem_of_fits hm h2 _ hm (Nat.le_refl _)
      exact ⟨m, hx, by rw [agR_yes hx hdl hm]; exact h3⟩
  · rintro ⟨x, hx, h⟩
    obtain ⟨d, hdl, m, hm, h1, h2, h3, h4⟩ := ctor_at hx
    rw [h4] at h
    exact .inr ⟨d, hdl, m, hm, h1, h3, h⟩
theorem tys_mono {n m : Nat} (h : n ≤ m) {t : Ty} (ht : t ∈ tysN n) : t ∈ tysN m := by
  rcases mem_tys.1 ht with h1 | h1
  · exact mem_tys.2 (.inl h1)
  · exact mem_tys.2 (.inr (by omega))
theorem args_tys4 {l : List Da} {t : Ty} (hw : WorldOK l) (ht : t ∈ tysN l.length) : ∀ x ∈ ctR l t, ∀ a ∈ agR l t x, a ∈ tysN 4 := fun x hx a ha => by
  obtain ⟨d, hdl, m, hm, h1, h2, h3, h4⟩ := ctor_at hx
  rw [h4] at ha
  exact tys_mono hw.1 (args_tys hw hdl hm (tys_ix ht).1 (tys_ix ht).2 a ha)


theorem below_after {w wr w' : World} {B : Nat} (h : Below B w wr) (hb : Below wr.heap.size wr w') (hB : B ≤ wr.heap.size) : Below B w w' := h.trans (hb.mono hB)
theorem below_three {w w' : World} {o1 o2 o3 : Obj} (h : Below (((w.alloc o1).alloc o2).alloc o3).heap.size (((w.alloc o1).alloc o2).alloc o3) w') : Below w.heap.size w w' := by
  have h0 : Below w.heap.size w (((w.alloc o1).alloc o2).alloc o3) := (((Below.refl _ _).alloc (Nat.le_refl _) o1).alloc (by simp) o2).alloc (by simp; omega) o3
  exact h0.trans (h.mono h0.size)

theorem hasMade_int (A : Option Addr) (l : List Da) (cap : Nat) (ix : Int) (mb : Nat) (S : Ty → Prop) (w : World) :
    Calls Tryz.prog 220 #[.slice A l.length cap, .agg #[.int .i64 (-1), .int .i64 ix], .map (some mb)] w fun e w' => e = .returned (.bool (dec (mkF l S ⟨-1, ix⟩))) ∧ Below w.heap.size w w' := by
  have HT : Hid (true = dec (mkF l S ⟨-1, ix⟩)) := (dec_t (.inl rfl)).symm
  have HB : Hid (∀ o1 o2 o3 : Obj, Below w.heap.size w (((w.alloc o1).alloc o2).alloc o3)) := fun o1 o2 o3 => below_three (Below.refl _ _)
  go_enter Tryz.func220, Tryz.ntmps220
  go_wp2_with fail
  go_ret
  exact ⟨ret_bool HT.out, HB.out _ _ _⟩

set_option maxHeartbeats 1600000 in
theorem hasMade_data (A : Option Addr) (l : List Da) (cap : Nat) (t : Ty) (mb n : Nat) (F : Ty → Int) (S : Ty → Prop) (w : World) (hr : RDas w w.heap.size A l) (ht : t ∈ tysN l.length) (hw : WorldOK l) (hd : ¬ t.data = -1) (hm : MapTy w mb n F S) (hpos : ∀ t ∈ tysN 4, S t → 0 < F t ∧ F t ≤ 5000) :
    Calls Tryz.prog 220 #[.slice A l.length cap, .agg #[.int .i64 t.data, .int .i64 t.index], .map (some mb)] w fun e w' => e = .returned (.bool (dec (mkF l S t))) ∧ Below w.heap.size w w' := by
  have hok := tys_ok hw ht
  have HK := Lib.hid hok
  have HF : Hid (dec (∃ x ∈ ctR l t, ∀ a ∈ agR l t x, S a) = dec (mkF l S t)) := by unfold Hid; congr 1; exact (propext (mkF_iff (S := S) hok hd)).symm
  have q := ieq_f hd
  have HA := Lib.hid (args_tys4 hw ht)
  have HP := Lib.hid hpos
  have HM := Lib.hid hm
  have HR := Lib.hid hr
  have hRl := ctR_len l t
  have hW : Below w.heap.size w (((w.alloc (.cells #[.slice A l.length cap] 29)).alloc (.cells #[.int .i64 t.data, .int .i64 t.index] 31)).alloc (.cells #[.map (some mb)] 108)) := below_three (Below.refl _ _)
  have HW : Hid (M3 (((w.alloc (.cells #[.slice A l.length cap] 29)).alloc (.cells #[.int .i64 t.data, .int .i64 t.index] 31)).alloc (.cells #[.map (some mb)] 108)) w.heap.size (w.heap.size + 1) (w.heap.size + 2) A l cap t mb n F S) :=
    ⟨by simp [go_sem], by simp [go_sem], by simp [go_sem], by simp [go_sem], hm.at_ hW, hr.keep (fun p hp => hW.cell hp) hW.size⟩
  have HB := Lib.hid hW
  clear hr hm hpos hd hw ht hok hW
  go_enter Tryz.func220, Tryz.ntmps220
  go_wp2_with fail
  refine (ctorsOf_all _ l _ t _ HW.out.rd HK.out).mono ?_
  rintro e w1 ⟨v, rfl, ho, hb'⟩
  obtain ⟨A1, cap1, rfl, hr1, _⟩ := ho.form2 hRl
  have HC := Lib.hid (containsM_any A1 cap1 _ _ _ A l cap t mb n F S w1 hr1 (HW.out.at_ hb') HA.out HP.out)
  have HB1 := Lib.hid (HB.out.trans (hb'.mono HB.out.size))
  clear ho hb' hr1
  go_wp2_with fail
  refine HC.out.mono ?_
  rintro e w2 ⟨rfl, hb2⟩
  have HB2 := Lib.hid (HB1.out.trans (hb2.mono HB1.out.size))
  clear hb2
  go_wp2_with fail
  go_ret
  exact ⟨ret_bool HF.out, HB2.out⟩

theorem hasMade_any (A : Option Addr) (l : List Da) (cap : Nat) (t : Ty) (mb n : Nat) (F : Ty → Int) (S : Ty → Prop) (w : World) (hr : RDas w w.heap.size A l) (ht : t ∈ tysN l.length) (hw : WorldOK l) (hm : MapTy w mb n F S) (hpos : ∀ t ∈ tysN 4, S t → 0 < F t ∧ F t ≤ 5000) :
    Calls Tryz.prog 220 #[.slice A l.length cap, .agg #[.int .i64 t.data, .int .i64 t.index], .map (some mb)] w fun e w' => e = .returned (.bool (dec (mkF l S t))) ∧ Below w.heap.size w w' := by
  by_cases hd : t.data = -1
  · obtain ⟨td, ti⟩ := t
    simp only at hd
    subst hd
    exact hasMade_int A l cap ti mb S w
  · exact hasMade_data A l cap t mb n F S w hr ht hw hd hm hpos
end Go.Proofs.YthecfkdilbfimaaGreat
