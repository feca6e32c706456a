/-
  The pattern that only one value matches: plain mathematics. No statement is proved here.
-/
import Derived.Test.YtholdmdkhbhokaaG00
import Derived.Test.YtholdmdkhbhokaaP00
import Derived.Test.YtholdmdkhbhokaaG07
import Derived.Test.YtholdmdkhbhokaaG08
namespace Go.Proofs.Ytholdmdkhbhokaa
open Go.RowKit
set_option maxRecDepth 100000
set_option linter.unusedVariables false

mutual
/-- The pattern that only this value matches. -/
def pof : Vl → Pt | .mk c n ks => if c = -1 then .mk 3 0 n n 0 [] else .mk 4 c 0 0 0 (pofs ks)
def pofs : List Vl → List Pt | [] => [] | v :: vs => pof v :: pofs vs
end
theorem pofs_map : ∀ l : List Vl, pofs l = l.map pof
  | [] => by rw [pofs]; rfl
  | v :: vs => by rw [pofs, pofs_map vs]; rfl
theorem pof_num {v : Vl} (h : v.ctor = -1) : pof v = .mk 3 0 v.n v.n 0 [] := by cases v; rw [pof]; exact if_pos h
theorem pof_ctor {v : Vl} (h : ¬ v.ctor = -1) : pof v = .mk 4 v.ctor 0 0 0 (v.kids.map pof) := by cases v; rw [pof, pofs_map]; exact if_neg h
mutual
theorem pof_w : ∀ v : Vl, wP (pof v) ≤ wV v
  | .mk c n ks => by
    rw [pof, wV]
    split
    · rw [wP, wPs]; exact Nat.zero_le _
    · rw [wP]; exact pofs_w ks
theorem pofs_w : ∀ l : List Vl, wPs (pofs l) ≤ wVs l
  | [] => by rw [pofs, wPs]; exact Nat.zero_le _
  | v :: vs => by
    rw [pofs, wPs, wVs]
    have := pof_w v; have := pofs_w vs; omega
end
end Go.Proofs.Ytholdmdkhbhokaa
/-
  The pattern that only one value matches: the document's function. No statement is proved here.
-/
namespace Go.Proofs.Ytholdmdkhbhokaa
open Go.RowKit Go.Sort Go.Deep
set_option maxRecDepth 100000
set_option linter.unusedVariables false

theorem cell_six_new (w : World) (a b c d e f : Value) (t : TypeId) : ∀ j u, [a, b, c, d, e, f][j]? = some u → (w.alloc (.cells #[a, b, c, d, e, f] t)).cell? ((⟨w.heap.size, 0, none⟩ : Addr).add j) = some u := by
  intro j u hj
  match j, hj with
  | 0, hj => simp at hj; subst hj; simp [Addr.add, go_sem]
  | 1, hj => simp at hj; subst hj; simp [Addr.add, go_sem]
  | 2, hj => simp at hj; subst hj; simp [Addr.add, go_sem]
  | 3, hj => simp at hj; subst hj; simp [Addr.add, go_sem]
  | 4, hj => simp at hj; subst hj; simp [Addr.add, go_sem]
  | 5, hj => simp at hj; subst hj; simp [Addr.add, go_sem]
/-- What is returned: the pattern, in blocks of its own. -/
def PoQ (d : Nat) (v : Vl) (w : World) (e : Ending) (w' : World) : Prop := ∃ A c, e = .returned (.agg #[.int .i64 (pof v).op, .int .i64 (pof v).ctor, .int .i64 (pof v).n, .int .i64 (pof v).m, .int .i64 (pof v).var, .slice A (pof v).kids.length c]) ∧ OPs (d + 1) w' (Nw w w') A (pof v).kids ∧ Below w.heap.size w w'

def PoS (d : Nat) : Prop := ∀ (D : Option Addr) (ep : Nat) (v : Vl) (w : World), RVs d w w.heap.size D v.kids → wV v ≤ 1048576 →
  Calls Try.prog 61 #[.agg #[.int .i64 v.ctor, .int .i64 v.n, .slice D v.kids.length ep]] w (PoQ d v w)
theorem poS_num (d : Nat) (D : Option Addr) (ep : Nat) (v : Vl) (w : World) (h1 : v.ctor = -1) : Calls Try.prog 61 #[.agg #[.int .i64 v.ctor, .int .i64 v.n, .slice D v.kids.length ep]] w (PoQ d v w) := by
  have HF : Hid (∀ w', Below w.heap.size w w' → PoQ d v w (.returned (.agg #[.int .i64 3, .int .i64 0, .int .i64 v.n, .int .i64 v.n, .int .i64 0, .slice none 0 0])) w') := fun w' hb => by
    unfold PoQ
    rw [pof_num h1]
    exact ⟨none, 0, rfl, OPs.nil _ _ _ _, hb⟩
  have q1 := ieq_t h1
  clear h1
  go_enter Try.func61, Try.ntmps61
  go_wp2_with fail
  refine bodyPost_ret (v := .agg #[.int .i64 3, .int .i64 0, .int .i64 v.n, .int .i64 v.n, .int .i64 0, .slice none 0 0]) (by simp [results, Try.results61, go_sem]) rfl (HF.out _ ?_)
  repeat (refine Below.setCell ?_ (by simp <;> omega) _)
  exact ((Below.refl _ _).alloc (Nat.le_refl _) _).alloc (by simp) _

set_option maxHeartbeats 4000000 in
theorem poS_of (d : Nat) (ih : ∀ d', d = d' + 1 → PoS d') : PoS d := by
  intro D ep v w hv hn
  by_cases h1 : v.ctor = -1
  · exact poS_num d D ep v w h1
  obtain ⟨i0, hi0, hz0, hz1, hz2⟩ := info_parts infoOP
  have q1 := ieq_f h1
  have hl := hv.1
  unfold maxLen at hl
  have HV := Lib.hid hv
  have IH := Lib.hid ih
  have HPO := Lib.hid (pof_ctor h1)
  have hkl : v.kids.length ≤ 1048576 := by have h2 := wV_kids v; have h3 := wVs_sum v.kids; omega
  clear h1 hv ih
  generalize hwx : (w.alloc (.cells #[.int .i64 v.ctor, .int .i64 v.n, .slice D v.kids.length ep] 56)).alloc (.cells #[.int .i64 0, .int .i64 0, .int .i64 0, .int .i64 0, .int .i64 0, .slice none 0 0] 37) = wx
  have hbx : Below w.heap.size w wx := by rw [← hwx]; exact ((Below.refl _ _).alloc (Nat.le_refl _) _).alloc (by simp) _
  have HXV : Hid (VBx wx w.heap.size v.ctor v.n (.slice D v.kids.length ep)) := by rw [← hwx]; exact ⟨by simp [go_sem], by simp [go_sem], by simp [go_sem]⟩
  have HXR : Hid (ZbP wx (w.heap.size + 1)) := by
    have h := ZbP.new (w.alloc (.cells #[.int .i64 v.ctor, .int .i64 v.n, .slice D v.kids.length ep] 56))
    simp only [World.size_alloc] at h
    unfold Hid; rw [← hwx]; exact h
  have hsx : wx.heap.size = w.heap.size + 2 := by rw [← hwx]; simp
  have HWX := Lib.hid hwx
  clear hwx
  generalize hwl : wx.alloc (.cells #[.int .i64 4, .int .i64 v.ctor, .int .i64 0, .int .i64 0, .int .i64 0, .slice none 0 0] 37) = wl
  have hbl : Below wx.heap.size wx wl := by rw [← hwl]; exact (Below.refl _ _).alloc (Nat.le_refl _) _
  have HG : Hid (wl.heap[wx.heap.size]? = some (.cells #[.int .i64 4, .int .i64 v.ctor, .int .i64 0, .int .i64 0, .int .i64 0, .slice none 0 0] 37 (0, 0))) := by unfold Hid; rw [← hwl]; exact heap_alloc_new _ _
  have HWL := Lib.hid hwl
  have HXV1 := Lib.hid (HXV.out.at_ hbl)
  have HXR1 : Hid (ZbP wl (w.heap.size + 1)) := HXR.out.at_ hbl
  have hbwl := below_aft hbx hbl hbx.size
  have hsl : wx.heap.size < wl.heap.size := heap_lt HG.out
  clear hwl
  obtain ⟨x0, x1, x2⟩ := HXV.out
  have hq0 : w.heap.size < wx.heap.size := by omega
  generalize hg : wx.heap.size = g at HG hsl hq0
  have hgx : g = w.heap.size + 2 := by omega
  go_enter Try.func61, Try.ntmps61
  go_wp2_with fail
  rw [HWX.out, HWL.out]
  rw [show w.heap.size + 1 + 1 = g by omega]
  have hgl1 : w.heap.size + 2 ≤ g := by omega
  have hgl2 : g ≤ w.heap.size + 2 := by omega
  clear hgx hg hsx
  clear x0 x1 x2 hbx hbl
  obtain ⟨x0, x1, x2⟩ := HXV1.out
  go_loopw [4] (fun i wr => ∃ k : Nat, k ≤ v.kids.length ∧ i = .int .i64 k ∧ Hid (BldP d wl wr g 4 v.ctor 0 0 0 (v.kids.map pof) k)) (fun i _ => v.kids.length - (intOf i).toNat)
  case atStart => exact ⟨0, by omega, rfl, BldP.zero HG.out⟩
  case round =>
    clear x0 x1 x2
    obtain ⟨k, hk, rfl, HBd⟩ := hrel
    have hfr := HBd.out.2.1
    have hwr := hfr.size
    have hbw0 : Below w.heap.size w wr := hbwl.trans (hfr.to hbwl.size (fun b h => by omega))
    have hvx : wr.heap[w.heap.size]? = wl.heap[w.heap.size]? := hfr.2.2.2.2 _ (by omega) (by omega)
    have y2 := (World.cell?_of_block (a := ⟨w.heap.size, 2, none⟩) hvx).trans HXV1.out.2.2
    by_cases hlt : k < v.kids.length
    · have hkI : (k : Int) < (v.kids.length : Int) := by omega
      obtain ⟨b, off, rfl, hbB, hvk⟩ := (HV.out.below hbw0 (Nat.le_refl _)).2 k hlt
      obtain ⟨d', hd, A', cp, p0, p1, p2, hm⟩ := hvk.parts
      obtain ⟨wb, hwb⟩ : ∃ wb, wb = wr := ⟨_, rfl⟩
      subst hwb
      have hbb : Below wb.heap.size wb wb := Below.refl _ _
      obtain ⟨hgl, hf, Ak, ck, ys, Q, hgc, hown, hrow⟩ := HBd.out.below hbb
      have hbwb := below_aft hbw0 hbb hbw0.size
      obtain ⟨_, _, _, hob⟩ := own_form hown
      have HGL := Lib.hid hgl
      have HFR := Lib.hid hf
      have HGC := Lib.hid hgc
      have HOW := Lib.hid hown
      have HRW := Lib.hid hrow
      have c2x : wb.cell? ⟨g, 5, none⟩ = some (.slice Ak k ck) := (cell_of_blk hgc 5).trans rfl
      have hwlb : wl.heap.size ≤ wb.heap.size := hf.size
      have hbwl' : b < wl.heap.size := by have := hbwl.size; omega
      have HKP : Hid (∀ w2, Below wb.heap.size wb w2 → w2.cell? ⟨g, 5, none⟩ = some (.slice Ak k ck) ∧ w2.cell? ⟨w.heap.size, 2, none⟩ = some (.slice (some ⟨b, off, none⟩) v.kids.length ep) ∧ w2.cell? ⟨b, off + k * 3, none⟩ = some (.int .i64 v.kids[k].ctor) ∧ w2.cell? ⟨b, off + k * 3 + 1, none⟩ = some (.int .i64 v.kids[k].n) ∧ w2.cell? ⟨b, off + k * 3 + 2, none⟩ = some (.slice A' v.kids[k].kids.length cp)) := fun w2 h => ⟨(h.cell (p := ⟨g, 5, none⟩) (Go.block_lt_of_cell c2x)).trans c2x, (h.cell (p := ⟨w.heap.size, 2, none⟩) (Go.block_lt_of_cell y2)).trans y2, (h.cell (p := ⟨b, off + k * 3, none⟩) (Go.block_lt_of_cell p0)).trans p0, (h.cell (p := ⟨b, off + k * 3 + 1, none⟩) (Go.block_lt_of_cell p1)).trans p1, (h.cell (p := ⟨b, off + k * 3 + 2, none⟩) (Go.block_lt_of_cell p2)).trans p2⟩
      have HKB : Hid (∀ (w2 : World) (o : Obj), Below wb.heap.size wb w2 → ∀ b, (Value.slice Ak k ck).ownBlock = some b → (w2.alloc o).heap[b]? = wb.heap[b]?) := fun w2 o h b e => by
        have := (hob b e).2
        rw [Below.heap_alloc _ _ _ (Nat.lt_of_lt_of_le this h.size), h.block b this]
      have HKC : Hid (∀ (w2 w4 : World) (o : Obj), Below wb.heap.size wb w2 → (w2.alloc o).grownBy w4 (Value.slice Ak k ck).ownBlock → w4.cell? ⟨w.heap.size, 2, none⟩ = some (.slice (some ⟨b, off, none⟩) v.kids.length ep) ∧ w4.cell? ⟨b, off + k * 3, none⟩ = some (.int .i64 v.kids[k].ctor) ∧ w4.cell? ⟨b, off + k * 3 + 1, none⟩ = some (.int .i64 v.kids[k].n) ∧ w4.cell? ⟨b, off + k * 3 + 2, none⟩ = some (.slice A' v.kids[k].kids.length cp)) := fun w2 w4 o h hg => by
        have hsz := h.size
        have e : ∀ b, b < wb.heap.size → some b ≠ (Value.slice Ak k ck).ownBlock → w4.heap[b]? = wb.heap[b]? := fun b hb hne => by
          rw [hg.block b (by simp; omega) hne, Below.heap_alloc _ _ _ (by omega), h.block b hb]
        have hne : some w.heap.size ≠ (Value.slice Ak k ck).ownBlock ∧ some b ≠ (Value.slice Ak k ck).ownBlock := ⟨fun e => by have := (hob _ e.symm).1; omega, fun e => by have := (hob _ e.symm).1; omega⟩
        exact ⟨(World.cell?_of_block (a := ⟨w.heap.size, 2, none⟩) (e (w.heap.size) (by omega) hne.1)).trans y2, (World.cell?_of_block (a := ⟨b, off + k * 3, none⟩) (e (b) (by omega) hne.2)).trans p0, (World.cell?_of_block (a := ⟨b, off + k * 3 + 1, none⟩) (e (b) (by omega) hne.2)).trans p1, (World.cell?_of_block (a := ⟨b, off + k * 3 + 2, none⟩) (e (b) (by omega) hne.2)).trans p2⟩
      have hwk : wV v.kids[k] ≤ 1048576 := by have := wV_kid v k hlt; omega
      have HED : Hid (d = d' + 1) := hd
      have HIH : Hid (Calls Try.prog 61 #[.agg #[.int .i64 v.kids[k].ctor, .int .i64 v.kids[k].n, .slice A' v.kids[k].kids.length cp]] wb.drew (PoQ d' v.kids[k] wb.drew)) := IH.out d' hd A' cp v.kids[k] wb.drew (hm.keep (fun p hp => hbb.cell (p := p) (Nat.lt_of_lt_of_le hp hbw0.size)) (Nat.le_trans hbw0.size hbb.size)) hwk
      have HS0 : Hid (wb.drew.cell? ⟨g, 5, none⟩ = some (.slice Ak k ck) ∧ wb.drew.cell? ⟨w.heap.size, 2, none⟩ = some (.slice (some ⟨b, off, none⟩) v.kids.length ep) ∧ wb.drew.cell? ⟨b, off + k * 3, none⟩ = some (.int .i64 v.kids[k].ctor) ∧ wb.drew.cell? ⟨b, off + k * 3 + 1, none⟩ = some (.int .i64 v.kids[k].n) ∧ wb.drew.cell? ⟨b, off + k * 3 + 2, none⟩ = some (.slice A' v.kids[k].kids.length cp)) := ⟨c2x, y2, p0, p1, p2⟩
      clear hgl hf hgc hown hrow hob c2x hbwb hbB hfr hvk hm hbb hd hvx hbw0 hwr
      clear p0 p1 p2
      go_wp2_with fail
      clear y2
      refine Till.start (S := fun w' => w'.cell? ⟨g, 5, none⟩ = some (.slice Ak k ck) ∧ w'.cell? ⟨w.heap.size, 2, none⟩ = some (.slice (some ⟨b, off, none⟩) v.kids.length ep) ∧ w'.cell? ⟨b, off + k * 3, none⟩ = some (.int .i64 v.kids[k].ctor) ∧ w'.cell? ⟨b, off + k * 3 + 1, none⟩ = some (.int .i64 v.kids[k].n) ∧ w'.cell? ⟨b, off + k * 3 + 2, none⟩ = some (.slice A' v.kids[k].kids.length cp)) (z := 11) (by kernel_rfl) ?_
      refine Till.take_ (i := 0) (d := some 23) (v := .pointer (some ⟨g, 5, none⟩)) (ls' := #[true, false, false, false, false, false, false, false, false, false, false, false]) rfl rfl (by kernel_rfl) (by kernel_rfl) (by kernel_rfl) (by kernel_rfl) (fun _ _ _ h => h) HS0.out (Or.inl ⟨by rfl, fun wq hSw => ?_⟩) (by kernel_rfl) ?_
      · obtain ⟨hs0, hs1, hs2, hs3, hs4⟩ := hSw
        go_simp
      simp only [Act.put, List.setIfInBounds_toArray, List.set_cons_zero, List.set_cons_succ]
      refine Till.take_ (i := 1) (d := some 24) (v := .slice Ak k ck) (ls' := #[true, true, false, false, false, false, false, false, false, false, false, false]) rfl rfl (by kernel_rfl) (by kernel_rfl) (by kernel_rfl) (by kernel_rfl) (fun _ _ _ h => h) HS0.out (Or.inl ⟨by rfl, fun wq hSw => ?_⟩) (by kernel_rfl) ?_
      · obtain ⟨hs0, hs1, hs2, hs3, hs4⟩ := hSw
        go_simp
      simp only [Act.put, List.setIfInBounds_toArray, List.set_cons_zero, List.set_cons_succ]
      refine Till.take_ (i := 2) (d := some 25) (v := .pointer (some ⟨w.heap.size, 2, none⟩)) (ls' := #[true, true, true, false, false, false, false, false, false, false, false, false]) rfl rfl (by kernel_rfl) (by kernel_rfl) (by kernel_rfl) (by kernel_rfl) (fun _ _ _ h => h) HS0.out (Or.inl ⟨by rfl, fun wq hSw => ?_⟩) (by kernel_rfl) ?_
      · obtain ⟨hs0, hs1, hs2, hs3, hs4⟩ := hSw
        go_simp
      simp only [Act.put, List.setIfInBounds_toArray, List.set_cons_zero, List.set_cons_succ]
      refine Till.take_ (i := 3) (d := some 26) (v := .slice (some ⟨b, off, none⟩) v.kids.length ep) (ls' := #[true, true, true, true, false, false, false, false, false, false, false, false]) rfl rfl (by kernel_rfl) (by kernel_rfl) (by kernel_rfl) (by kernel_rfl) (fun _ _ _ h => h) HS0.out (Or.inl ⟨by rfl, fun wq hSw => ?_⟩) (by kernel_rfl) ?_
      · obtain ⟨hs0, hs1, hs2, hs3, hs4⟩ := hSw
        go_simp
      simp only [Act.put, List.setIfInBounds_toArray, List.set_cons_zero, List.set_cons_succ]
      refine Till.take_ (i := 4) (d := some 27) (v := .int .i64 k) (ls' := #[true, true, true, true, true, false, false, false, false, false, false, false]) rfl rfl (by kernel_rfl) (by kernel_rfl) (by kernel_rfl) (by kernel_rfl) (fun _ _ _ h => h) HS0.out (Or.inl ⟨by rfl, fun wq hSw => ?_⟩) (by kernel_rfl) ?_
      · obtain ⟨hs0, hs1, hs2, hs3, hs4⟩ := hSw
        go_simp
      simp only [Act.put, List.setIfInBounds_toArray, List.set_cons_zero, List.set_cons_succ]
      refine Till.take_ (i := 5) (d := some 28) (v := .pointer (some ⟨b, off + k * 3, none⟩)) (ls' := #[true, true, true, true, true, true, false, false, false, false, false, false]) rfl rfl (by kernel_rfl) (by kernel_rfl) (by kernel_rfl) (by kernel_rfl) (fun _ _ _ h => h) HS0.out (Or.inl ⟨by rfl, fun wq hSw => ?_⟩) (by kernel_rfl) ?_
      · obtain ⟨hs0, hs1, hs2, hs3, hs4⟩ := hSw
        go_simp
      simp only [Act.put, List.setIfInBounds_toArray, List.set_cons_zero, List.set_cons_succ]
      refine Till.take_ (i := 6) (d := some 29) (v := .agg #[.int .i64 v.kids[k].ctor, .int .i64 v.kids[k].n, .slice A' v.kids[k].kids.length cp]) (ls' := #[true, true, true, true, true, true, true, false, false, false, false, false]) rfl rfl (by kernel_rfl) (by kernel_rfl) (by kernel_rfl) (by kernel_rfl) (fun _ _ _ h => h) HS0.out (Or.inl ⟨by rfl, fun wq hSw => ?_⟩) (by kernel_rfl) ?_
      · obtain ⟨hs0, hs1, hs2, hs3, hs4⟩ := hSw
        go_simp
      simp only [Act.put, List.setIfInBounds_toArray, List.set_cons_zero, List.set_cons_succ]
      refine Till.all (rs := [7]) (by kernel_rfl) (by decide) (List.forall_mem_cons.2 ⟨?_, fun _ h => nomatch h⟩)
      refine Till.step rfl (by rfl) ?_
      intro K hK
      go_simp
      go_at_call 61
      with_reducible refine (HIH.out).mono ?_
      rintro e w2 ⟨A4, c4, rfl, ho4, hb4'⟩
      have hb4 : Below wb.heap.size wb w2 := ⟨hb4'.os, hb4'.tape, hb4'.output, hb4'.size, hb4'.block⟩
      have HS2 := Lib.hid (HKP.out w2 hb4)
      have HB4 := Lib.hid hb4
      have HO4 : Hid (OPs d w2 (Nw wb w2) A4 ((v.kids.map pof)[k]'(by simpa using hlt)).kids) := by unfold Hid; rw [List.getElem_map, HED.out]; exact ho4
      have hbz : wb.heap.size ≤ w2.heap.size := hb4.size
      clear hb4 hb4' ho4
      go_simp
      refine hK _ _ (fun _ => HS2.out) ?_
      clear hK K
      refine Till.all (rs := [8]) (by kernel_rfl) (by decide) (List.forall_mem_cons.2 ⟨?_, fun _ h => nomatch h⟩)
      refine Till.step rfl (by rfl) ?_
      intro K hK
      go_simp
      refine hK _ _ (fun _ => ⟨by have := HS2.out.1; go_keep, by have := HS2.out.2.1; go_keep, by have := HS2.out.2.2.1; go_keep, by have := HS2.out.2.2.2.1; go_keep, by have := HS2.out.2.2.2.2; go_keep⟩) ?_
      clear hK K
      refine Till.all (rs := [9]) (by kernel_rfl) (by decide) (List.forall_mem_cons.2 ⟨?_, fun _ h => nomatch h⟩)
      refine Till.step rfl (by rfl) ?_
      intro K hK
      refine wp_append_own (.tmp 24) (.tmp 31) 35 (by rfl) wl.heap.size 37 i0 (.agg #[.int .i64 0, .int .i64 0, .int .i64 0, .int .i64 0, .int .i64 0, .slice none 0 0]) 6 64 Try.underlying35 hi0 hz0 hz1 hz2 (by rfl) (by decide) (.slice Ak k ck) k ys (by rfl) (own_at HOW.out (HKB.out w2 _ HB4.out)) ⟨w2.heap.size, 0, none⟩ 1 1 [.int .i64 (pof v.kids[k]).op, .int .i64 (pof v.kids[k]).ctor, .int .i64 (pof v.kids[k]).n, .int .i64 (pof v.kids[k]).m, .int .i64 (pof v.kids[k]).var, .slice A4 (pof v.kids[k]).kids.length c4] (by rfl) rfl (cell_six_new _ _ _ _ _ _ _ _) (by intro u hu; simp at hu; rcases hu with rfl | rfl | rfl | rfl | rfl | rfl <;> rfl) (by unfold maxLen; omega) (by omega) (by simp; omega) ?_
      intro v4 w4 hown4 hgr4 hat4
      obtain ⟨A5, c5, rfl, hg4, hbl4⟩ := BldP.step HGL.out HFR.out HGC.out HOW.out HRW.out (by simpa using hlt) HB4.out HO4.out (by rw [List.getElem_map]; exact hown4) hgr4 hat4
      have HS4 := Lib.hid (And.intro ((cell_of_blk hg4 5).trans rfl) (HKC.out w2 w4 _ HB4.out hgr4))
      have hfz : w4.frozen? ⟨g, 5, none⟩ = false := frozen_of_row w4 g 5 _ 37 hg4
      have c4x := HS4.out.1
      have HBL := Lib.hid hbl4
      clear hown4 hgr4 hat4 hg4 hbl4
      refine hK _ _ (fun _ => HS4.out) ?_
      clear hK K
      refine Till.all (rs := [10]) (by kernel_rfl) (by decide) (List.forall_mem_cons.2 ⟨?_, fun _ h => nomatch h⟩)
      refine Till.step rfl (by rfl) ?_
      intro K hK
      go_simp
      refine hK _ _ (fun _ => HS4.out) ?_
      clear hK K
      refine Till.all (rs := [11]) (by kernel_rfl) (by decide) (List.forall_mem_cons.2 ⟨?_, fun _ h => nomatch h⟩)
      refine Till.step rfl (by rfl) ?_
      intro K hK
      go_simp
      refine hK _ _ (fun h => absurd rfl h) ?_
      clear hK K
      refine Till.done (by kernel_rfl) ?_ _
      clear c4x hfz HS4 HS2
      go_wp2_with fail
      go_roundw
      case rel => exact ⟨k + 1, by omega, by go_num, HBL.out⟩
      case measure => simp [intOf]; omega
    · have hke : k = v.kids.length := by omega
      obtain ⟨A6, c6, hg6, ho6, hf6⟩ := HBd.out.all (by simpa using hke) (by simpa using hkl)
      have hr6 : wr.heap[w.heap.size + 1]? = some (.cells #[.int .i64 0, .int .i64 0, .int .i64 0, .int .i64 0, .int .i64 0, .slice none 0 0] 37 (0, 0)) := hf6.block HXR1.out (by omega)
      have hF := Lib.hid hf6
      have HO6 := Lib.hid ho6
      have g0 := (cell_of_blk hg6 0).trans rfl
      have r0 := (cell_of_blk hr6 0).trans rfl
      have f0 := frozen_of_row wr (w.heap.size + 1) 0 _ 37 hr6
      have g1 := (cell_of_blk hg6 1).trans rfl
      have r1 := (cell_of_blk hr6 1).trans rfl
      have f1 := frozen_of_row wr (w.heap.size + 1) 1 _ 37 hr6
      have g2 := (cell_of_blk hg6 2).trans rfl
      have r2 := (cell_of_blk hr6 2).trans rfl
      have f2 := frozen_of_row wr (w.heap.size + 1) 2 _ 37 hr6
      have g3 := (cell_of_blk hg6 3).trans rfl
      have r3 := (cell_of_blk hr6 3).trans rfl
      have f3 := frozen_of_row wr (w.heap.size + 1) 3 _ 37 hr6
      have g4 := (cell_of_blk hg6 4).trans rfl
      have r4 := (cell_of_blk hr6 4).trans rfl
      have f4 := frozen_of_row wr (w.heap.size + 1) 4 _ 37 hr6
      have g5 := (cell_of_blk hg6 5).trans rfl
      have r5 := (cell_of_blk hr6 5).trans rfl
      have f5 := frozen_of_row wr (w.heap.size + 1) 5 _ 37 hr6
      have hkI : (v.kids.length : Int) ≤ (k : Int) := by omega
      clear hke hg6 ho6 hf6 hfr hvx hr6
      go_wp2_with fail
      refine bodyPost_ret (v := .agg #[.int .i64 4, .int .i64 v.ctor, .int .i64 0, .int .i64 0, .int .i64 0, .slice A6 (v.kids.map pof).length c6]) (by simp [results, Try.results61, go_sem, r0, r1, r2, r3, r4, r5]) rfl ?_
      unfold PoQ
      rw [HPO.out]
      have hs4 := hbwl.size
      refine ⟨A6, c6, rfl, (HO6.out.fr _ (P' := fun b => b = w.heap.size + 1) ((((((Fr.set (P := fun b => b = w.heap.size + 1) _ _ _ _ rfl).trans (Fr.set _ _ _ _ rfl)).trans (Fr.set _ _ _ _ rfl)).trans (Fr.set _ _ _ _ rfl)).trans (Fr.set _ _ _ _ rfl)).trans (Fr.set _ _ _ _ rfl)) (fun b hq e => by have := hq.1; omega)).wide _ (fun b hq => ⟨by have := hq.1; omega, by have h2 := hq.2; simpa [World.setCell] using h2⟩), ?_⟩
      refine Below.setCell (Below.setCell (Below.setCell (Below.setCell (Below.setCell (Below.setCell hbw0 ?_ _) ?_ _) ?_ _) ?_ _) ?_ _) ?_ _ <;> (simp <;> omega)
theorem poS_any : ∀ d, PoS d
  | 0 => poS_of 0 (fun _ h => by omega)
  | d + 1 => poS_of (d + 1) (fun d' h => (Nat.succ.inj h) ▸ poS_any d)
end Go.Proofs.Ytholdmdkhbhokaa
/-
  The pattern that only one value matches: the program's function. No statement is proved here.
-/
namespace Go.Proofs.Ytholdmdkhbhokaa
open Go.RowKit Go.Sort Go.Deep
set_option maxRecDepth 100000
set_option linter.unusedVariables false

def PoI (d : Nat) : Prop := ∀ (D : Option Addr) (ep : Nat) (v : Vl) (w : World), RVs d w w.heap.size D v.kids → wV v ≤ 1048576 →
  Calls Try.prog 64 #[.agg #[.int .i64 v.ctor, .int .i64 v.n, .slice D v.kids.length ep]] w (PoQ d v w)
theorem poI_num (d : Nat) (D : Option Addr) (ep : Nat) (v : Vl) (w : World) (h1 : v.ctor = -1) : Calls Try.prog 64 #[.agg #[.int .i64 v.ctor, .int .i64 v.n, .slice D v.kids.length ep]] w (PoQ d v w) := by
  have HF : Hid (∀ w', Below w.heap.size w w' → PoQ d v w (.returned (.agg #[.int .i64 3, .int .i64 0, .int .i64 v.n, .int .i64 v.n, .int .i64 0, .slice none 0 0])) w') := fun w' hb => by
    unfold PoQ
    rw [pof_num h1]
    exact ⟨none, 0, rfl, OPs.nil _ _ _ _, hb⟩
  have q1 := ieq_t h1
  clear h1
  go_enter Try.func64, Try.ntmps64
  go_wp2_with fail
  refine bodyPost_ret (v := .agg #[.int .i64 3, .int .i64 0, .int .i64 v.n, .int .i64 v.n, .int .i64 0, .slice none 0 0]) (by simp [results, Try.results64, go_sem]) rfl (HF.out _ ?_)
  repeat (refine Below.setCell ?_ (by simp <;> omega) _)
  exact ((Below.refl _ _).alloc (Nat.le_refl _) _).alloc (by simp) _

set_option maxHeartbeats 4000000 in
theorem poI_of (d : Nat) (ih : ∀ d', d = d' + 1 → PoI d') : PoI d := by
  intro D ep v w hv hn
  by_cases h1 : v.ctor = -1
  · exact poI_num d D ep v w h1
  obtain ⟨i0, hi0, hz0, hz1, hz2⟩ := info_parts infoOP
  have q1 := ieq_f h1
  have hl := hv.1
  unfold maxLen at hl
  have HV := Lib.hid hv
  have IH := Lib.hid ih
  have HPO := Lib.hid (pof_ctor h1)
  have hkl : v.kids.length ≤ 1048576 := by have h2 := wV_kids v; have h3 := wVs_sum v.kids; omega
  clear h1 hv ih
  generalize hwx : (w.alloc (.cells #[.int .i64 v.ctor, .int .i64 v.n, .slice D v.kids.length ep] 56)).alloc (.cells #[.int .i64 0, .int .i64 0, .int .i64 0, .int .i64 0, .int .i64 0, .slice none 0 0] 37) = wx
  have hbx : Below w.heap.size w wx := by rw [← hwx]; exact ((Below.refl _ _).alloc (Nat.le_refl _) _).alloc (by simp) _
  have HXV : Hid (VBx wx w.heap.size v.ctor v.n (.slice D v.kids.length ep)) := by rw [← hwx]; exact ⟨by simp [go_sem], by simp [go_sem], by simp [go_sem]⟩
  have HXR : Hid (ZbP wx (w.heap.size + 1)) := by
    have h := ZbP.new (w.alloc (.cells #[.int .i64 v.ctor, .int .i64 v.n, .slice D v.kids.length ep] 56))
    simp only [World.size_alloc] at h
    unfold Hid; rw [← hwx]; exact h
  have hsx : wx.heap.size = w.heap.size + 2 := by rw [← hwx]; simp
  have HWX := Lib.hid hwx
  clear hwx
  generalize hwl : wx.alloc (.cells #[.int .i64 4, .int .i64 v.ctor, .int .i64 0, .int .i64 0, .int .i64 0, .slice none 0 0] 37) = wl
  have hbl : Below wx.heap.size wx wl := by rw [← hwl]; exact (Below.refl _ _).alloc (Nat.le_refl _) _
  have HG : Hid (wl.heap[wx.heap.size]? = some (.cells #[.int .i64 4, .int .i64 v.ctor, .int .i64 0, .int .i64 0, .int .i64 0, .slice none 0 0] 37 (0, 0))) := by unfold Hid; rw [← hwl]; exact heap_alloc_new _ _
  have HWL := Lib.hid hwl
  have HXV1 := Lib.hid (HXV.out.at_ hbl)
  have HXR1 : Hid (ZbP wl (w.heap.size + 1)) := HXR.out.at_ hbl
  have hbwl := below_aft hbx hbl hbx.size
  have hsl : wx.heap.size < wl.heap.size := heap_lt HG.out
  clear hwl
  obtain ⟨x0, x1, x2⟩ := HXV.out
  have hq0 : w.heap.size < wx.heap.size := by omega
  generalize hg : wx.heap.size = g at HG hsl hq0
  have hgx : g = w.heap.size + 2 := by omega
  go_enter Try.func64, Try.ntmps64
  go_wp2_with fail
  rw [HWX.out, HWL.out]
  rw [show w.heap.size + 1 + 1 = g by omega]
  have hgl1 : w.heap.size + 2 ≤ g := by omega
  have hgl2 : g ≤ w.heap.size + 2 := by omega
  clear hgx hg hsx
  clear x0 x1 x2 hbx hbl
  obtain ⟨x0, x1, x2⟩ := HXV1.out
  go_loopw [20] (fun i wr => ∃ k : Nat, k ≤ v.kids.length ∧ i = .int .i64 k ∧ Hid (BldP d wl wr g 4 v.ctor 0 0 0 (v.kids.map pof) k)) (fun i _ => v.kids.length - (intOf i).toNat)
  case atStart => exact ⟨0, by omega, rfl, BldP.zero HG.out⟩
  case round =>
    clear x0 x1 x2
    obtain ⟨k, hk, rfl, HBd⟩ := hrel
    have hfr := HBd.out.2.1
    have hwr := hfr.size
    have hbw0 : Below w.heap.size w wr := hbwl.trans (hfr.to hbwl.size (fun b h => by omega))
    have hvx : wr.heap[w.heap.size]? = wl.heap[w.heap.size]? := hfr.2.2.2.2 _ (by omega) (by omega)
    have y2 := (World.cell?_of_block (a := ⟨w.heap.size, 2, none⟩) hvx).trans HXV1.out.2.2
    by_cases hlt : k < v.kids.length
    · have hkI : (k : Int) < (v.kids.length : Int) := by omega
      obtain ⟨b, off, rfl, hbB, hvk⟩ := (HV.out.below hbw0 (Nat.le_refl _)).2 k hlt
      obtain ⟨d', hd, A', cp, p0, p1, p2, hm⟩ := hvk.parts
      generalize hwb : wr.alloc (.cells #[.int .i64 v.kids[k].ctor, .int .i64 v.kids[k].n, .slice A' v.kids[k].kids.length cp] 56) = wb
      have hbb : Below wr.heap.size wr wb := by rw [← hwb]; exact (Below.refl _ _).alloc (Nat.le_refl _) _
      have HXB : Hid (VBx wb wr.heap.size v.kids[k].ctor v.kids[k].n (.slice A' v.kids[k].kids.length cp)) := by rw [← hwb]; exact ⟨by simp [go_sem], by simp [go_sem], by simp [go_sem]⟩
      have HWB := Lib.hid hwb
      have hwbs : wr.heap.size < wb.heap.size := by rw [← hwb]; simp
      clear hwb
      obtain ⟨hgl, hf, Ak, ck, ys, Q, hgc, hown, hrow⟩ := HBd.out.below hbb
      have hbwb := below_aft hbw0 hbb hbw0.size
      obtain ⟨_, _, _, hob⟩ := own_form hown
      have HGL := Lib.hid hgl
      have HFR := Lib.hid hf
      have HGC := Lib.hid hgc
      have HOW := Lib.hid hown
      have HRW := Lib.hid hrow
      have c2x : wb.cell? ⟨g, 5, none⟩ = some (.slice Ak k ck) := (cell_of_blk hgc 5).trans rfl
      have hwlb : wl.heap.size ≤ wb.heap.size := hf.size
      have hbwl' : b < wl.heap.size := by have := hbwl.size; omega
      obtain ⟨y0, y1, y3⟩ := HXB.out
      have HKP : Hid (∀ w2, Below wb.heap.size wb w2 → w2.cell? ⟨g, 5, none⟩ = some (.slice Ak k ck) ∧ w2.cell? ⟨wr.heap.size, 0, none⟩ = some (.int .i64 v.kids[k].ctor) ∧ w2.cell? ⟨wr.heap.size, 1, none⟩ = some (.int .i64 v.kids[k].n) ∧ w2.cell? ⟨wr.heap.size, 2, none⟩ = some (.slice A' v.kids[k].kids.length cp)) := fun w2 h => ⟨(h.cell (p := ⟨g, 5, none⟩) (Go.block_lt_of_cell c2x)).trans c2x, (h.cell (p := ⟨wr.heap.size, 0, none⟩) (Go.block_lt_of_cell y0)).trans y0, (h.cell (p := ⟨wr.heap.size, 1, none⟩) (Go.block_lt_of_cell y1)).trans y1, (h.cell (p := ⟨wr.heap.size, 2, none⟩) (Go.block_lt_of_cell y3)).trans y3⟩
      have HKB : Hid (∀ (w2 : World) (o : Obj), Below wb.heap.size wb w2 → ∀ b, (Value.slice Ak k ck).ownBlock = some b → (w2.alloc o).heap[b]? = wb.heap[b]?) := fun w2 o h b e => by
        have := (hob b e).2
        rw [Below.heap_alloc _ _ _ (Nat.lt_of_lt_of_le this h.size), h.block b this]
      have HKC : Hid (∀ (w2 w4 : World) (o : Obj), Below wb.heap.size wb w2 → (w2.alloc o).grownBy w4 (Value.slice Ak k ck).ownBlock → w4.cell? ⟨wr.heap.size, 0, none⟩ = some (.int .i64 v.kids[k].ctor) ∧ w4.cell? ⟨wr.heap.size, 1, none⟩ = some (.int .i64 v.kids[k].n) ∧ w4.cell? ⟨wr.heap.size, 2, none⟩ = some (.slice A' v.kids[k].kids.length cp)) := fun w2 w4 o h hg => by
        have hsz := h.size
        have e : ∀ b, b < wb.heap.size → some b ≠ (Value.slice Ak k ck).ownBlock → w4.heap[b]? = wb.heap[b]? := fun b hb hne => by
          rw [hg.block b (by simp; omega) hne, Below.heap_alloc _ _ _ (by omega), h.block b hb]
        have hne : some wr.heap.size ≠ (Value.slice Ak k ck).ownBlock := by
          intro e'
          rcases hown.2 with ⟨e1, _⟩ | ⟨g', cap', cur, e1, a2, a3, _⟩
          · rw [e1] at e'; cases e'
          · rw [e1] at e'
            injection e' with e'
            simp only at e'
            have h2 : wb.heap[wr.heap.size]? = some (.cells #[.int .i64 v.kids[k].ctor, .int .i64 v.kids[k].n, .slice A' v.kids[k].kids.length cp] 56 (0, 0)) := by rw [← HWB.out]; exact heap_alloc_new _ _
            rw [← e', h2] at a3
            injection a3 with a3
            injection a3 with _ a4
            revert a4; decide
        exact ⟨(World.cell?_of_block (a := ⟨wr.heap.size, 0, none⟩) (e (wr.heap.size) hwbs hne)).trans y0, (World.cell?_of_block (a := ⟨wr.heap.size, 1, none⟩) (e (wr.heap.size) hwbs hne)).trans y1, (World.cell?_of_block (a := ⟨wr.heap.size, 2, none⟩) (e (wr.heap.size) hwbs hne)).trans y3⟩
      have hwk : wV v.kids[k] ≤ 1048576 := by have := wV_kid v k hlt; omega
      have HED : Hid (d = d' + 1) := hd
      have HIH : Hid (Calls Try.prog 64 #[.agg #[.int .i64 v.kids[k].ctor, .int .i64 v.kids[k].n, .slice A' v.kids[k].kids.length cp]] wb.drew (PoQ d' v.kids[k] wb.drew)) := IH.out d' hd A' cp v.kids[k] wb.drew (hm.keep (fun p hp => hbb.cell (p := p) (Nat.lt_of_lt_of_le hp hbw0.size)) (Nat.le_trans hbw0.size hbb.size)) hwk
      have HS0 : Hid (wb.drew.cell? ⟨g, 5, none⟩ = some (.slice Ak k ck) ∧ wb.drew.cell? ⟨wr.heap.size, 0, none⟩ = some (.int .i64 v.kids[k].ctor) ∧ wb.drew.cell? ⟨wr.heap.size, 1, none⟩ = some (.int .i64 v.kids[k].n) ∧ wb.drew.cell? ⟨wr.heap.size, 2, none⟩ = some (.slice A' v.kids[k].kids.length cp)) := ⟨c2x, y0, y1, y3⟩
      clear hgl hf hgc hown hrow hob c2x hbwb hbB hfr hvk hm hbb hd hvx hbw0 hwr
      clear y0 y1 y3
      go_wp2_with fail
      rw [HWB.out]
      clear y2 p0 p1 p2
      refine Till.start (S := fun w' => w'.cell? ⟨g, 5, none⟩ = some (.slice Ak k ck) ∧ w'.cell? ⟨wr.heap.size, 0, none⟩ = some (.int .i64 v.kids[k].ctor) ∧ w'.cell? ⟨wr.heap.size, 1, none⟩ = some (.int .i64 v.kids[k].n) ∧ w'.cell? ⟨wr.heap.size, 2, none⟩ = some (.slice A' v.kids[k].kids.length cp)) (z := 7) (by kernel_rfl) ?_
      refine Till.take_ (i := 0) (d := some 24) (v := .pointer (some ⟨g, 5, none⟩)) (ls' := #[true, false, false, false, false, false, false, false]) rfl rfl (by kernel_rfl) (by kernel_rfl) (by kernel_rfl) (by kernel_rfl) (fun _ _ _ h => h) HS0.out (Or.inl ⟨by rfl, fun wq hSw => ?_⟩) (by kernel_rfl) ?_
      · obtain ⟨hs0, hs1, hs2, hs3⟩ := hSw
        go_simp
      simp only [Act.put, List.setIfInBounds_toArray, List.set_cons_zero, List.set_cons_succ]
      refine Till.take_ (i := 1) (d := some 25) (v := .slice Ak k ck) (ls' := #[true, true, false, false, false, false, false, false]) rfl rfl (by kernel_rfl) (by kernel_rfl) (by kernel_rfl) (by kernel_rfl) (fun _ _ _ h => h) HS0.out (Or.inl ⟨by rfl, fun wq hSw => ?_⟩) (by kernel_rfl) ?_
      · obtain ⟨hs0, hs1, hs2, hs3⟩ := hSw
        go_simp
      simp only [Act.put, List.setIfInBounds_toArray, List.set_cons_zero, List.set_cons_succ]
      refine Till.take_ (i := 2) (d := some 26) (v := .agg #[.int .i64 v.kids[k].ctor, .int .i64 v.kids[k].n, .slice A' v.kids[k].kids.length cp]) (ls' := #[true, true, true, false, false, false, false, false]) rfl rfl (by kernel_rfl) (by kernel_rfl) (by kernel_rfl) (by kernel_rfl) (fun _ _ _ h => h) HS0.out (Or.inl ⟨by rfl, fun wq hSw => ?_⟩) (by kernel_rfl) ?_
      · obtain ⟨hs0, hs1, hs2, hs3⟩ := hSw
        go_simp
      simp only [Act.put, List.setIfInBounds_toArray, List.set_cons_zero, List.set_cons_succ]
      refine Till.all (rs := [3]) (by kernel_rfl) (by decide) (List.forall_mem_cons.2 ⟨?_, fun _ h => nomatch h⟩)
      refine Till.step rfl (by rfl) ?_
      intro K hK
      go_simp
      go_at_call 64
      with_reducible refine (HIH.out).mono ?_
      rintro e w2 ⟨A4, c4, rfl, ho4, hb4'⟩
      have hb4 : Below wb.heap.size wb w2 := ⟨hb4'.os, hb4'.tape, hb4'.output, hb4'.size, hb4'.block⟩
      have HS2 := Lib.hid (HKP.out w2 hb4)
      have HB4 := Lib.hid hb4
      have HO4 : Hid (OPs d w2 (Nw wb w2) A4 ((v.kids.map pof)[k]'(by simpa using hlt)).kids) := by unfold Hid; rw [List.getElem_map, HED.out]; exact ho4
      have hbz : wb.heap.size ≤ w2.heap.size := hb4.size
      clear hb4 hb4' ho4
      go_simp
      refine hK _ _ (fun _ => HS2.out) ?_
      clear hK K
      refine Till.all (rs := [4]) (by kernel_rfl) (by decide) (List.forall_mem_cons.2 ⟨?_, fun _ h => nomatch h⟩)
      refine Till.step rfl (by rfl) ?_
      intro K hK
      go_simp
      refine hK _ _ (fun _ => ⟨by have := HS2.out.1; go_keep, by have := HS2.out.2.1; go_keep, by have := HS2.out.2.2.1; go_keep, by have := HS2.out.2.2.2; go_keep⟩) ?_
      clear hK K
      refine Till.all (rs := [5]) (by kernel_rfl) (by decide) (List.forall_mem_cons.2 ⟨?_, fun _ h => nomatch h⟩)
      refine Till.step rfl (by rfl) ?_
      intro K hK
      refine wp_append_own (.tmp 25) (.tmp 28) 35 (by rfl) wl.heap.size 37 i0 (.agg #[.int .i64 0, .int .i64 0, .int .i64 0, .int .i64 0, .int .i64 0, .slice none 0 0]) 6 64 Try.underlying35 hi0 hz0 hz1 hz2 (by rfl) (by decide) (.slice Ak k ck) k ys (by rfl) (own_at HOW.out (HKB.out w2 _ HB4.out)) ⟨w2.heap.size, 0, none⟩ 1 1 [.int .i64 (pof v.kids[k]).op, .int .i64 (pof v.kids[k]).ctor, .int .i64 (pof v.kids[k]).n, .int .i64 (pof v.kids[k]).m, .int .i64 (pof v.kids[k]).var, .slice A4 (pof v.kids[k]).kids.length c4] (by rfl) rfl (cell_six_new _ _ _ _ _ _ _ _) (by intro u hu; simp at hu; rcases hu with rfl | rfl | rfl | rfl | rfl | rfl <;> rfl) (by unfold maxLen; omega) (by omega) (by simp; omega) ?_
      intro v4 w4 hown4 hgr4 hat4
      obtain ⟨A5, c5, rfl, hg4, hbl4⟩ := BldP.step HGL.out HFR.out HGC.out HOW.out HRW.out (by simpa using hlt) HB4.out HO4.out (by rw [List.getElem_map]; exact hown4) hgr4 hat4
      have HS4 := Lib.hid (And.intro ((cell_of_blk hg4 5).trans rfl) (HKC.out w2 w4 _ HB4.out hgr4))
      have hfz : w4.frozen? ⟨g, 5, none⟩ = false := frozen_of_row w4 g 5 _ 37 hg4
      have c4x := HS4.out.1
      have HBL := Lib.hid hbl4
      clear hown4 hgr4 hat4 hg4 hbl4
      refine hK _ _ (fun _ => HS4.out) ?_
      clear hK K
      refine Till.all (rs := [6]) (by kernel_rfl) (by decide) (List.forall_mem_cons.2 ⟨?_, fun _ h => nomatch h⟩)
      refine Till.step rfl (by rfl) ?_
      intro K hK
      go_simp
      refine hK _ _ (fun _ => HS4.out) ?_
      clear hK K
      refine Till.all (rs := [7]) (by kernel_rfl) (by decide) (List.forall_mem_cons.2 ⟨?_, fun _ h => nomatch h⟩)
      refine Till.step rfl (by rfl) ?_
      intro K hK
      go_simp
      refine hK _ _ (fun h => absurd rfl h) ?_
      clear hK K
      refine Till.done (by kernel_rfl) ?_ _
      clear c4x hfz HS4 HS2
      go_wp2_with fail
      go_roundw
      case rel => exact ⟨k + 1, by omega, by go_num, HBL.out⟩
      case measure => simp [intOf]; omega
    · have hke : k = v.kids.length := by omega
      obtain ⟨A6, c6, hg6, ho6, hf6⟩ := HBd.out.all (by simpa using hke) (by simpa using hkl)
      have hr6 : wr.heap[w.heap.size + 1]? = some (.cells #[.int .i64 0, .int .i64 0, .int .i64 0, .int .i64 0, .int .i64 0, .slice none 0 0] 37 (0, 0)) := hf6.block HXR1.out (by omega)
      have hF := Lib.hid hf6
      have HO6 := Lib.hid ho6
      have g0 := (cell_of_blk hg6 0).trans rfl
      have r0 := (cell_of_blk hr6 0).trans rfl
      have f0 := frozen_of_row wr (w.heap.size + 1) 0 _ 37 hr6
      have g1 := (cell_of_blk hg6 1).trans rfl
      have r1 := (cell_of_blk hr6 1).trans rfl
      have f1 := frozen_of_row wr (w.heap.size + 1) 1 _ 37 hr6
      have g2 := (cell_of_blk hg6 2).trans rfl
      have r2 := (cell_of_blk hr6 2).trans rfl
      have f2 := frozen_of_row wr (w.heap.size + 1) 2 _ 37 hr6
      have g3 := (cell_of_blk hg6 3).trans rfl
      have r3 := (cell_of_blk hr6 3).trans rfl
      have f3 := frozen_of_row wr (w.heap.size + 1) 3 _ 37 hr6
      have g4 := (cell_of_blk hg6 4).trans rfl
      have r4 := (cell_of_blk hr6 4).trans rfl
      have f4 := frozen_of_row wr (w.heap.size + 1) 4 _ 37 hr6
      have g5 := (cell_of_blk hg6 5).trans rfl
      have r5 := (cell_of_blk hr6 5).trans rfl
      have f5 := frozen_of_row wr (w.heap.size + 1) 5 _ 37 hr6
      have hkI : (v.kids.length : Int) ≤ (k : Int) := by omega
      clear hke hg6 ho6 hf6 hfr hvx hr6
      go_wp2_with fail
      refine bodyPost_ret (v := .agg #[.int .i64 4, .int .i64 v.ctor, .int .i64 0, .int .i64 0, .int .i64 0, .slice A6 (v.kids.map pof).length c6]) (by simp [results, Try.results64, go_sem, r0, r1, r2, r3, r4, r5]) rfl ?_
      unfold PoQ
      rw [HPO.out]
      have hs4 := hbwl.size
      refine ⟨A6, c6, rfl, (HO6.out.fr _ (P' := fun b => b = w.heap.size + 1) ((((((Fr.set (P := fun b => b = w.heap.size + 1) _ _ _ _ rfl).trans (Fr.set _ _ _ _ rfl)).trans (Fr.set _ _ _ _ rfl)).trans (Fr.set _ _ _ _ rfl)).trans (Fr.set _ _ _ _ rfl)).trans (Fr.set _ _ _ _ rfl)) (fun b hq e => by have := hq.1; omega)).wide _ (fun b hq => ⟨by have := hq.1; omega, by have h2 := hq.2; simpa [World.setCell] using h2⟩), ?_⟩
      refine Below.setCell (Below.setCell (Below.setCell (Below.setCell (Below.setCell (Below.setCell hbw0 ?_ _) ?_ _) ?_ _) ?_ _) ?_ _) ?_ _ <;> (simp <;> omega)
theorem poI_any : ∀ d, PoI d
  | 0 => poI_of 0 (fun _ h => by omega)
  | d + 1 => poI_of (d + 1) (fun d' h => (Nat.succ.inj h) ▸ poI_any d)
end Go.Proofs.Ytholdmdkhbhokaa
/-
  PatternOf of the program and of the document. No statement is proved here.
-/
namespace Go.Proofs.Ytholdmdkhbhokaa
open Go.RowKit Go.Sort Go.Deep
set_option maxRecDepth 100000
set_option linter.unusedVariables false

noncomputable def poR (l : List Da) (t : Ty) (v : Vl) : Pt := if vvT l t v then pof v else .mk 0 0 0 0 0 []
theorem poR_w (l : List Da) (t : Ty) (v : Vl) : wPs (poR l t v).kids ≤ wV v := by
  have h1 : wP (poR l t v) ≤ wV v := by
    unfold poR
    split
    · exact pof_w v
    · rw [wP, wPs]; exact Nat.zero_le _
  rw [wP_kids] at h1; exact h1
def PoT (d : Nat) (l : List Da) (t : Ty) (v : Vl) (w : World) (e : Ending) (w' : World) : Prop := ∃ B c, e = .returned (.tuple #[.agg #[.int .i64 (poR l t v).op, .int .i64 (poR l t v).ctor, .int .i64 (poR l t v).n, .int .i64 (poR l t v).m, .int .i64 (poR l t v).var, .slice B (poR l t v).kids.length c], .bool (vvT l t v)]) ∧ OPs (d + 1) w' (Nw w w') B (poR l t v).kids ∧ Below w.heap.size w w'
theorem PoT.no {d : Nat} {l : List Da} {t : Ty} {v : Vl} {w w' : World} (h : vvT l t v = false) (hb : Below w.heap.size w w') : PoT d l t v w (.returned (.tuple #[.agg #[.int .i64 0, .int .i64 0, .int .i64 0, .int .i64 0, .int .i64 0, .slice none 0 0], .bool false])) w' := by
  unfold PoT poR
  rw [h]
  exact ⟨none, 0, rfl, OPs.nil _ _ _ _, hb⟩
theorem PoT.yes {d : Nat} {l : List Da} {t : Ty} {v : Vl} {w w' : World} {B : Option Addr} {c : Nat} (h : vvT l t v = true) (hb : Below w.heap.size w w') (ho : OPs (d + 1) w' (Nw w w') B (pof v).kids) : PoT d l t v w (.returned (.tuple #[.agg #[.int .i64 (pof v).op, .int .i64 (pof v).ctor, .int .i64 (pof v).n, .int .i64 (pof v).m, .int .i64 (pof v).var, .slice B (pof v).kids.length c], .bool true])) w' := by
  unfold PoT poR
  rw [h]
  exact ⟨B, c, rfl, ho, hb⟩

set_option maxHeartbeats 1600000 in
theorem po_spec (A D : Option Addr) (l : List Da) (cap ep d : Nat) (t : Ty) (v : Vl) (w : World) (hr : RDas w w.heap.size A l) (hv : RVs d w w.heap.size D v.kids) (hn : wV v ≤ 1048576) :
    Calls Try.prog 27 #[.slice A l.length cap, .agg #[.int .i64 t.data, .int .i64 t.index], .agg #[.int .i64 v.ctor, .int .i64 v.n, .slice D v.kids.length ep]] w (PoT d l t v w) := by
  have Hr := Lib.hid hr
  have HV := Lib.hid hv
  clear hr hv
  generalize hwx : ((w.alloc (.cells #[.int .i64 t.data, .int .i64 t.index] 33)).alloc (.cells #[.int .i64 v.ctor, .int .i64 v.n, .slice D v.kids.length ep] 56)).alloc (.cells #[.int .i64 0, .int .i64 0, .int .i64 0, .int .i64 0, .int .i64 0, .slice none 0 0] 37) = wx
  have hbx : Below w.heap.size w wx := by rw [← hwx]; exact (((Below.refl _ _).alloc (Nat.le_refl _) _).alloc (by simp) _).alloc (by simp <;> omega) _
  have HXT : Hid (Bx wx w.heap.size t) := by rw [← hwx]; exact ⟨by simp [go_sem], by simp [go_sem]⟩
  have HXV : Hid (VBx wx (w.heap.size + 1) v.ctor v.n (.slice D v.kids.length ep)) := by rw [← hwx]; exact ⟨by simp [go_sem], by simp [go_sem], by simp [go_sem]⟩
  have HXR : Hid (ZbP wx (w.heap.size + 2)) := by
    have h := ZbP.new ((w.alloc (.cells #[.int .i64 t.data, .int .i64 t.index] 33)).alloc (.cells #[.int .i64 v.ctor, .int .i64 v.n, .slice D v.kids.length ep] 56))
    simp only [World.size_alloc] at h
    unfold Hid; rw [← hwx]; exact h
  have HWX := Lib.hid hwx
  clear hwx
  obtain ⟨x0, x1⟩ := HXT.out
  obtain ⟨y0, y1, y2⟩ := HXV.out
  by_cases hb : vvT l t v = true
  · have HB := Lib.hid hb
    clear hb
    go_enter Try.func27, Try.ntmps27
    go_wp2_with fail
    rw [HWX.out]
    refine (vv_spec A D l cap ep d t v _ (Hr.out.at_ hbx) (HV.out.at_ hbx) hn).mono ?_
    rw [HB.out]
    rintro e w1 ⟨rfl, hb1⟩
    have hbw1 := below_aft hbx hb1 hbx.size
    obtain ⟨z0, z1, z2⟩ := HXV.out.at_ hb1
    clear x0 x1 y0 y1 y2
    go_wp2_with fail
    refine (poS_any d D ep v _ (HV.out.at_ hbw1) hn).mono ?_
    rintro e w2 ⟨B, c, rfl, ho, hb2⟩
    have hbw2 := below_aft hbw1 hb2 hbw1.size
    have hr2 : ZbP w2 (w.heap.size + 2) := (HXR.out.at_ hb1).at_ hb2
    obtain ⟨r0, r1, r2, r3, r4, r5, f0, f1, f2, f3, f4, f5⟩ := hr2.cells
    have hs1 := hbw1.size
    have hs0 := heap_lt (HXR.out.at_ hb1)
    have HO := Lib.hid ho
    clear z0 z1 z2 ho hr2
    go_wp2_with fail
    refine bodyPost_ret (v := .tuple #[.agg #[.int .i64 (pof v).op, .int .i64 (pof v).ctor, .int .i64 (pof v).n, .int .i64 (pof v).m, .int .i64 (pof v).var, .slice B (pof v).kids.length c], .bool true]) (by simp [results, Try.results27, go_sem, r0, r1, r2, r3, r4, r5]) rfl (PoT.yes HB.out ?_ ?_)
    · refine Below.setCell (Below.setCell (Below.setCell (Below.setCell (Below.setCell (Below.setCell hbw2 ?_ _) ?_ _) ?_ _) ?_ _) ?_ _) ?_ _ <;> (simp <;> omega)
    · refine (HO.out.fr _ (P' := fun b => b = w.heap.size + 2) ((((((Fr.set (P := fun b => b = w.heap.size + 2) _ _ _ _ rfl).trans (Fr.set _ _ _ _ rfl)).trans (Fr.set _ _ _ _ rfl)).trans (Fr.set _ _ _ _ rfl)).trans (Fr.set _ _ _ _ rfl)).trans (Fr.set _ _ _ _ rfl)) (fun b hq e => by have := hq.1; omega)).wide _ (fun b hq => ⟨by have := hq.1; omega, by have h2 := hq.2; simpa [World.setCell] using h2⟩)
  · have hb' : vvT l t v = false := by simpa using hb
    have HB := Lib.hid hb'
    clear hb hb'
    go_enter Try.func27, Try.ntmps27
    go_wp2_with fail
    rw [HWX.out]
    refine (vv_spec A D l cap ep d t v _ (Hr.out.at_ hbx) (HV.out.at_ hbx) hn).mono ?_
    rw [HB.out]
    rintro e w1 ⟨rfl, hb1⟩
    have hbw1 := below_aft hbx hb1 hbx.size
    have hr2 : ZbP w1 (w.heap.size + 2) := HXR.out.at_ hb1
    obtain ⟨r0, r1, r2, r3, r4, r5, f0, f1, f2, f3, f4, f5⟩ := hr2.cells
    clear x0 x1 y0 y1 y2 hr2
    go_wp2_with fail
    refine bodyPost_ret (v := .tuple #[.agg #[.int .i64 0, .int .i64 0, .int .i64 0, .int .i64 0, .int .i64 0, .slice none 0 0], .bool false]) (by simp [results, Try.results27, go_sem, r0, r1, r2, r3, r4, r5]) rfl (PoT.no HB.out ?_)
    refine Below.setCell (Below.setCell (Below.setCell (Below.setCell (Below.setCell (Below.setCell hbw1 ?_ _) ?_ _) ?_ _) ?_ _) ?_ _) ?_ _ <;> (simp <;> omega)

set_option maxHeartbeats 1600000 in
theorem po_impl (A D : Option Addr) (l : List Da) (cap ep d : Nat) (t : Ty) (v : Vl) (w : World) (hr : RDas w w.heap.size A l) (hv : RVs d w w.heap.size D v.kids) (hn : wV v ≤ 1048576) :
    Calls Try.prog 29 #[.slice A l.length cap, .agg #[.int .i64 t.data, .int .i64 t.index], .agg #[.int .i64 v.ctor, .int .i64 v.n, .slice D v.kids.length ep]] w (PoT d l t v w) := by
  have Hr := Lib.hid hr
  have HV := Lib.hid hv
  clear hr hv
  generalize hwx : ((w.alloc (.cells #[.int .i64 t.data, .int .i64 t.index] 33)).alloc (.cells #[.int .i64 v.ctor, .int .i64 v.n, .slice D v.kids.length ep] 56)).alloc (.cells #[.int .i64 0, .int .i64 0, .int .i64 0, .int .i64 0, .int .i64 0, .slice none 0 0] 37) = wx
  have hbx : Below w.heap.size w wx := by rw [← hwx]; exact (((Below.refl _ _).alloc (Nat.le_refl _) _).alloc (by simp) _).alloc (by simp <;> omega) _
  have HXT : Hid (Bx wx w.heap.size t) := by rw [← hwx]; exact ⟨by simp [go_sem], by simp [go_sem]⟩
  have HXV : Hid (VBx wx (w.heap.size + 1) v.ctor v.n (.slice D v.kids.length ep)) := by rw [← hwx]; exact ⟨by simp [go_sem], by simp [go_sem], by simp [go_sem]⟩
  have HXR : Hid (ZbP wx (w.heap.size + 2)) := by
    have h := ZbP.new ((w.alloc (.cells #[.int .i64 t.data, .int .i64 t.index] 33)).alloc (.cells #[.int .i64 v.ctor, .int .i64 v.n, .slice D v.kids.length ep] 56))
    simp only [World.size_alloc] at h
    unfold Hid; rw [← hwx]; exact h
  have HWX := Lib.hid hwx
  clear hwx
  obtain ⟨x0, x1⟩ := HXT.out
  obtain ⟨y0, y1, y2⟩ := HXV.out
  by_cases hb : vvT l t v = true
  · have HB := Lib.hid hb
    clear hb
    go_enter Try.func29, Try.ntmps29
    go_wp2_with fail
    rw [HWX.out]
    refine (vv_impl A D l cap ep d t v _ (Hr.out.at_ hbx) (HV.out.at_ hbx) hn).mono ?_
    rw [HB.out]
    rintro e w1 ⟨rfl, hb1⟩
    have hbw1 := below_aft hbx hb1 hbx.size
    obtain ⟨z0, z1, z2⟩ := HXV.out.at_ hb1
    clear x0 x1 y0 y1 y2
    go_wp2_with fail
    refine (poI_any d D ep v _ (HV.out.at_ hbw1) hn).mono ?_
    rintro e w2 ⟨B, c, rfl, ho, hb2⟩
    have hbw2 := below_aft hbw1 hb2 hbw1.size
    have hr2 : ZbP w2 (w.heap.size + 2) := (HXR.out.at_ hb1).at_ hb2
    obtain ⟨r0, r1, r2, r3, r4, r5, f0, f1, f2, f3, f4, f5⟩ := hr2.cells
    have hs1 := hbw1.size
    have hs0 := heap_lt (HXR.out.at_ hb1)
    have HO := Lib.hid ho
    clear z0 z1 z2 ho hr2
    go_wp2_with fail
    refine bodyPost_ret (v := .tuple #[.agg #[.int .i64 (pof v).op, .int .i64 (pof v).ctor, .int .i64 (pof v).n, .int .i64 (pof v).m, .int .i64 (pof v).var, .slice B (pof v).kids.length c], .bool true]) (by simp [results, Try.results29, go_sem, r0, r1, r2, r3, r4, r5]) rfl (PoT.yes HB.out ?_ ?_)
    · refine Below.setCell (Below.setCell (Below.setCell (Below.setCell (Below.setCell (Below.setCell hbw2 ?_ _) ?_ _) ?_ _) ?_ _) ?_ _) ?_ _ <;> (simp <;> omega)
    · refine (HO.out.fr _ (P' := fun b => b = w.heap.size + 2) ((((((Fr.set (P := fun b => b = w.heap.size + 2) _ _ _ _ rfl).trans (Fr.set _ _ _ _ rfl)).trans (Fr.set _ _ _ _ rfl)).trans (Fr.set _ _ _ _ rfl)).trans (Fr.set _ _ _ _ rfl)).trans (Fr.set _ _ _ _ rfl)) (fun b hq e => by have := hq.1; omega)).wide _ (fun b hq => ⟨by have := hq.1; omega, by have h2 := hq.2; simpa [World.setCell] using h2⟩)
  · have hb' : vvT l t v = false := by simpa using hb
    have HB := Lib.hid hb'
    clear hb hb'
    go_enter Try.func29, Try.ntmps29
    go_wp2_with fail
    rw [HWX.out]
    refine (vv_impl A D l cap ep d t v _ (Hr.out.at_ hbx) (HV.out.at_ hbx) hn).mono ?_
    rw [HB.out]
    rintro e w1 ⟨rfl, hb1⟩
    have hbw1 := below_aft hbx hb1 hbx.size
    have hr2 : ZbP w1 (w.heap.size + 2) := HXR.out.at_ hb1
    obtain ⟨r0, r1, r2, r3, r4, r5, f0, f1, f2, f3, f4, f5⟩ := hr2.cells
    clear x0 x1 y0 y1 y2 hr2
    go_wp2_with fail
    refine bodyPost_ret (v := .tuple #[.agg #[.int .i64 0, .int .i64 0, .int .i64 0, .int .i64 0, .int .i64 0, .slice none 0 0], .bool false]) (by simp [results, Try.results29, go_sem, r0, r1, r2, r3, r4, r5]) rfl (PoT.no HB.out ?_)
    refine Below.setCell (Below.setCell (Below.setCell (Below.setCell (Below.setCell (Below.setCell hbw1 ?_ _) ?_ _) ?_ _) ?_ _) ?_ _) ?_ _ <;> (simp <;> omega)
end Go.Proofs.Ytholdmdkhbhokaa
