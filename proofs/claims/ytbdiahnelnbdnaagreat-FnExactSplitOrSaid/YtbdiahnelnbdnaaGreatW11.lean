/-
  l3Tuples of the document. No statement is proved here.
-/
import Derived.Test.YtbdiahnelnbdnaaGreatW10
import Derived.Test.YtbdiahnelnbdnaaGreatW09
namespace Go.Proofs.YtbdiahnelnbdnaaGreat
open Go.RowKit Go.Sort Go.Deep
set_option maxRecDepth 100000
set_option linter.unusedVariables false
/-- A row of lists of patterns that the call has made. -/
def RowT (d : Nat) (P : Nat → Prop) (w : World) (v : Value) (Ks : List (List Pt)) (ys : List Value) (k : Nat) : Prop := ∀ j (h : j < Ks.length), j < k → ∃ A c, ys[j]? = some (.slice A Ks[j].length c) ∧ QPs d w (fun b => P b ∧ b < w.heap.size ∧ some b ≠ v.ownBlock) A Ks[j]
def TuI (d : Nat) (P : Nat → Prop) (base : Nat) (ts : List (List Pt)) (v : Value) (w : World) : Prop := ∃ ys, w.ownsRow base 30 1 v ts.length ys ∧ RowT d P w v ts ys ts.length ∧ ∀ (j : Nat) (A : Option Addr) (n c : Nat), ys[j]? = some (Value.slice A n c) → A ≠ none
theorem RowT.low {d : Nat} {P : Nat → Prop} {w w' : World} {v : Value} {Ks : List (List Pt)} {ys : List Value} {k : Nat} (h : RowT d P w v Ks ys k) (hb : Below w.heap.size w w') : RowT d P w' v Ks ys k := fun j hj hjk => by
  obtain ⟨A, c, h1, h2⟩ := h j hj hjk
  exact ⟨A, c, h1, h2.keep (fun q u hq hu => (hb.cell hq.2.1).trans hu) (fun b hb' => ⟨hb'.1, by have := hb'.2.1; have := hb.size; omega, hb'.2.2⟩)⟩
theorem TuI.low {d base base' : Nat} {P : Nat → Prop} {w w' : World} {v : Value} {ts : List (List Pt)} (h : TuI d P base ts v w) (hlo : base' ≤ base) (hb : Below w.heap.size w w') : TuI d P base' ts v w' := by
  obtain ⟨ys, h1, h2, h3⟩ := h
  have h1' := own_below h1 hb
  exact ⟨ys, ⟨h1'.1, h1'.2.imp id (fun ⟨g, cap, cur, a1, a2, a3⟩ => ⟨g, cap, cur, a1, by omega, a3⟩)⟩, h2.low hb, h3⟩
theorem RowT.step2 {d : Nat} {P : Nat → Prop} {w w2 w5 : World} {v v5 : Value} {Ks : List (List Pt)} {ys : List Value} {k c2 : Nat} {A2 : Option Addr} {o : Obj} (h : RowT d P w v Ks ys k) (hk : k < Ks.length) (hy : ys.length = k) (hb : Below w.heap.size w w2)
    (hq : QPs d w2 (fun b => P b ∧ b < w2.heap.size ∧ some b ≠ v.ownBlock) A2 Ks[k]) (hg : (w2.alloc o).grownBy w5 v.ownBlock) (hat : v5.ownBlock = v.ownBlock ∨ v5.ownBlock = some (w2.alloc o).heap.size) :
    RowT d P w5 v5 Ks (ys ++ [.slice A2 Ks[k].length c2]) (k + 1) := by
  have hs2 := hb.size
  have hs5 := hg.size
  rw [World.size_alloc] at hs5 hat
  have key : ∀ b, b < w2.heap.size → some b ≠ v.ownBlock → w5.heap[b]? = w2.heap[b]? ∧ some b ≠ v5.ownBlock := fun b hb1 hne => ⟨(hg.block b (by rw [World.size_alloc]; omega) hne).trans (Below.heap_alloc _ _ _ hb1), fun e => by
    rcases hat with h | h
    · rw [h] at e; exact hne e
    · rw [h] at e; injection e with e; omega⟩
  intro j hj hjk
  by_cases e : j = k
  · subst e
    exact ⟨A2, c2, by rw [List.getElem?_append_right (by omega), hy, Nat.sub_self]; rfl, hq.keep (fun q u hqp hu => (World.cell?_of_block (key q.block hqp.2.1 hqp.2.2).1).trans hu) (fun b hbp => ⟨hbp.1, by have := hbp.2.1; omega, (key b hbp.2.1 hbp.2.2).2⟩)⟩
  · obtain ⟨A, c, h1, h2⟩ := h j hj (by omega)
    refine ⟨A, c, by rw [List.getElem?_append_left (by omega)]; exact h1, h2.keep (fun q u hqp hu => ?_) (fun b hbp => ?_)⟩
    · have hl : q.block < w2.heap.size := by have := hqp.2.1; omega
      exact (World.cell?_of_block (key q.block hl hqp.2.2).1).trans ((hb.cell hqp.2.1).trans hu)
    · have hl : b < w2.heap.size := by have := hbp.2.1; omega
      exact ⟨hbp.1, by have := hbp.2.1; omega, (key b hl hbp.2.2).2⟩
/-- One of its lists. -/
theorem TuI.at_ {d base : Nat} {P : Nat → Prop} {w : World} {v : Value} {ts : List (List Pt)} (h : TuI d P base ts v w) (k : Nat) (hk : k < ts.length) : ∃ g c a ca, v = .slice (some ⟨g, 0, none⟩) ts.length c ∧ w.cell? ⟨g, k, none⟩ = some (.slice (some a) ts[k].length ca) ∧ g < w.heap.size ∧ QPs d w (fun b => P b ∧ b < w.heap.size) (some a) ts[k] := by
  obtain ⟨ys, h1, h2, h3⟩ := h
  obtain ⟨A, c, hy, hq⟩ := h2 k hk hk
  rcases h1.2 with ⟨_, h0⟩ | ⟨g, cap, cur, h', hb, hgb, hnc, hcm, hcs, htake⟩
  · omega
  · have hA := h3 k A _ _ hy
    obtain ⟨a, rfl⟩ : ∃ a, A = some a := by
      cases A with
      | none => exact absurd rfl hA
      | some a => exact ⟨a, rfl⟩
    refine ⟨g, cap, a, c, h', ?_, heap_lt hgb, hq.keep (fun _ _ _ h => h) (fun b hb => ⟨hb.1, hb.2.1⟩)⟩
    rw [cell_of_blk hgb, ← hy, ← htake, List.getElem?_take_of_lt (by omega), Array.getElem?_toList]
theorem TuI.push {d base : Nat} {P : Nat → Prop} {w w2 w5 : World} {v v5 : Value} {ts : List (List Pt)} {x : List Pt} {a : Addr} {c2 : Nat} {o : Obj} {ys : List Value} (h1 : w.ownsRow base 30 1 v ts.length ys) (h2 : RowT d P w v ts ys ts.length) (h3 : ∀ (j : Nat) (A : Option Addr) (n c : Nat), ys[j]? = some (Value.slice A n c) → A ≠ none) (hb : Below w.heap.size w w2)
    (hq : QPs d w2 (fun b => P b ∧ b < w2.heap.size ∧ some b ≠ v.ownBlock) (some a) x) (ho : w5.ownsRow base 30 1 v5 (ts.length + 1) (ys ++ [.slice (some a) x.length c2])) (hg : (w2.alloc o).grownBy w5 v.ownBlock) (hat : v5.ownBlock = v.ownBlock ∨ v5.ownBlock = some (w2.alloc o).heap.size) : TuI d P base (ts ++ [x]) v5 w5 := by
  have hyl : ys.length = ts.length := by have := h1.1; omega
  have hr : RowT d P w v (ts ++ [x]) ys ts.length := fun j hj hjk => by
    obtain ⟨A, c, e1, e2⟩ := h2 j hjk hjk
    exact ⟨A, c, by rw [List.getElem_append_left hjk]; exact e1, by rw [List.getElem_append_left hjk]; exact e2⟩
  have hl : ts.length < (ts ++ [x]).length := by rw [List.length_append]; simp
  have hx : (ts ++ [x])[ts.length] = x := by rw [List.getElem_append_right (Nat.le_refl _)]; simp
  have hs := RowT.step2 (c2 := c2) hr hl hyl hb (by rw [hx]; exact hq) hg hat
  rw [hx] at hs
  refine ⟨_, by rw [List.length_append]; exact ho, by rw [List.length_append]; exact hs, fun j A n c e => ?_⟩
  by_cases hj : j < ys.length
  · rw [List.getElem?_append_left hj] at e; exact h3 j A n c e
  · rw [List.getElem?_append_right (by omega)] at e
    have hj0 : j - ys.length = 0 := by
      have := (List.getElem?_eq_some_iff.1 e).1
      simp at this; omega
    rw [hj0] at e
    simp at e
    rw [← e.1]; simp
def TuQ (d : Nat) (P0 : Nat → Prop) (Ls : List (List Pt)) (w : World) (e : Ending) (w' : World) : Prop := ∃ v, e = .returned v ∧ TuI d (fun b => P0 b ∨ w.heap.size ≤ b) w.heap.size (tupG Ls) v w' ∧ Below w.heap.size w w'
theorem tupK_le (ts : List (List Pt)) (l : List Pt) (k j : Nat) : (tupK ts l k j).length ≤ 401 := by unfold tupK; rw [List.length_take]; omega
theorem tupG_le : ∀ (n : Nat) (Ls : List (List Pt)), n ≤ Ls.length → (tupG (Ls.take n)).length ≤ 401
  | 0, Ls, _ => by rw [List.take_zero, tupG_nil]; simp
  | n + 1, Ls, h => by rw [tupG_take Ls n (by omega), List.length_take]; omega
set_option maxHeartbeats 8000000 in
theorem tu_any (d : Nat) (P0 : Nat → Prop) (A : Option Addr) (Ls : List (List Pt)) (cap : Nat) (w : World) (hl : LsQ (d + 1) w P0 A Ls) (hB : ∀ b, P0 b → b < w.heap.size) (hn : Ls.length ≤ 100) (hne : ¬ [] ∈ Ls) (hle : ∀ l ∈ Ls, l.length ≤ 401) :
    Calls Tryz.prog 34 #[.slice A Ls.length cap] w (TuQ (d + 1) P0 Ls w) := by
  obtain ⟨i0, hi0, hz0, hz1, hz2⟩ := info_parts infoOP
  obtain ⟨i1, hi1, hy0, hy1, hy2⟩ := info_parts infoLP
  have HL := Lib.hid hl
  have HNE := Lib.hid hne
  have HLE := Lib.hid hle
  clear hl hne hle
  generalize hwx : (w.alloc (.cells #[] 38)).alloc (.cells #[.slice (some ⟨w.heap.size, 0, none⟩) 0 0] 30) = wx
  have hbx : Below w.heap.size w wx := by rw [← hwx]; exact ((Below.refl _ _).alloc (Nat.le_refl _) _).alloc (by simp) _
  have hsx : w.heap.size + 2 ≤ wx.heap.size := by rw [← hwx]; simp
  have HT0 : Hid (TuI (d + 1) (fun b => P0 b ∨ w.heap.size ≤ b) w.heap.size (tupG (Ls.take 0)) (.slice (some ⟨w.heap.size + 1, 0, none⟩) 1 1) wx) := by
    unfold Hid
    rw [List.take_zero, tupG_nil, ← hwx]
    have h := World.ownsRow_lit (base := w.heap.size) (e := 30) (size := 1) (w.alloc (.cells #[] 38)) #[.slice (some ⟨w.heap.size, 0, none⟩) 0 0] 1 (by simp) (by unfold maxLen; omega) rfl
    rw [World.size_alloc] at h
    refine ⟨_, h, fun j hj hjk => ?_, fun j A n c e => ?_⟩
    · have : j = 0 := by simp at hj; omega
      subst this
      exact ⟨some ⟨w.heap.size, 0, none⟩, 0, rfl, QPs.nil⟩
    · have := (List.getElem?_eq_some_iff.1 e).1
      have : j = 0 := by simp at this; omega
      subst this
      simp at e; rw [← e.1]; simp
  have HW := Lib.hid hwx
  have HBX := Lib.hid hbx
  clear hwx hbx
  go_enter Tryz.func34, Tryz.ntmps34
  go_wp2_with fail
  rw [HW.out]
  go_loopw [3, 4] (fun u q wr => ∃ i : Nat, i ≤ Ls.length ∧ q = .int .i64 i ∧ Hid (TuI (d + 1) (fun b => P0 b ∨ w.heap.size ≤ b) w.heap.size (tupG (Ls.take i)) u wr) ∧ Hid (Below w.heap.size w wr)) (fun _ q _ => Ls.length - (intOf q).toNat)
  case atStart => exact ⟨0, by omega, rfl, HT0, HBX⟩
  case round =>
    obtain ⟨i, hi, rfl, HT, HB⟩ := hrel
    have hwr := HB.out.size
    obtain ⟨ys0, h10, h20, h30⟩ := HT.out
    obtain ⟨A0, c0, rfl, _⟩ := own_form h10
    clear h10 h20 h30
    by_cases hlt : i < Ls.length
    · have hiI : (i : Int) < (Ls.length : Int) := by omega
      obtain ⟨bL, off, rfl, hbL, Al, cl, hcl, hql⟩ := HL.out.2 i hlt
      have hbLw := hB bL hbL
      have hlen := HLE.out Ls[i] (List.getElem_mem _)
      have HQL := Lib.hid hql
      have HCL := Lib.hid hcl
      clear hql hcl
      have hwi : ∃ wi, wi = wr := ⟨_, rfl⟩
      obtain ⟨wi, rfl⟩ := hwi
      have HBI := Lib.hid HB.out
      have hts := tupG_le i Ls hi
      have htl := tupG_len i Ls hi
      have HTL := Lib.hid htl
      have HTG := Lib.hid (tupG_take Ls i hlt)
      obtain ⟨ts, hte⟩ : ∃ ts, ts = tupG (Ls.take i) := ⟨_, rfl⟩
      rw [← hte] at HT HTL HTG hts ⊢
      clear hte htl
      obtain ⟨ys0, h10, h20, h30⟩ := HT.out
      have HF0 : Hid (∀ b, (Value.slice A0 ts.length c0).ownBlock = some b → w.heap.size ≤ b ∧ b < wi.heap.size) := by obtain ⟨_, _, e, h⟩ := own_form h10; cases e; exact h
      clear h10 h20 h30
      have HNX : Hid (TuI (d + 1) (fun b => P0 b ∨ w.heap.size ≤ b) wi.heap.size (tupK ts Ls[i] 0 0) (.slice (some ⟨wi.heap.size, 0, none⟩) 0 0) (wi.alloc (.cells #[] 30))) := by
        unfold Hid
        rw [tupK_zero]
        exact ⟨[], World.ownsRow_lit (base := wi.heap.size) (e := 30) (size := 1) wi #[] 0 (Nat.le_refl _) (by unfold maxLen; omega) rfl, fun j hj => absurd hj (by simp), fun j A n c e => by simp at e⟩
      go_wp2_with fail
      go_loopw [5, 6] (fun v q wq => ∃ k : Nat, k ≤ ts.length ∧ q = .int .i64 k ∧ Hid (TuI (d + 1) (fun b => P0 b ∨ w.heap.size ≤ b) wi.heap.size (tupK ts Ls[i] k 0) v wq) ∧ Hid (Below wi.heap.size wi wq)) (fun _ q _ => ts.length - (intOf q).toNat)
      case atStart => exact ⟨0, by omega, rfl, HNX, (Below.refl _ _).alloc (Nat.le_refl _) _⟩
      case round =>
        obtain ⟨k, hk, rfl, HK, HBK⟩ := hrel
        obtain ⟨ys1, h11, h21, h31⟩ := HK.out
        obtain ⟨A1, c1, rfl, _⟩ := own_form h11
        have hkl := tupK_le ts Ls[i] k 0
        clear h11 h21 h31
        by_cases hgo : k < ts.length ∧ (tupK ts Ls[i] k 0).length ≤ 400
        · obtain ⟨hkt, hk4⟩ := hgo
          have hkI : (k : Int) < (ts.length : Int) := by omega
          have hk4I : ((tupK ts Ls[i] k 0).length : Int) ≤ 400 := by omega
          go_wp2_with fail
          go_loopw [5, 7] (fun v q wq => ∃ j : Nat, j ≤ Ls[i].length ∧ q = .int .i64 j ∧ Hid (TuI (d + 1) (fun b => P0 b ∨ w.heap.size ≤ b) wi.heap.size (tupK ts Ls[i] k j) v wq) ∧ Hid (Below wi.heap.size wi wq)) (fun _ q _ => Ls[i].length - (intOf q).toNat)
          case atStart => exact ⟨0, by omega, rfl, HK, HBK⟩
          case round =>
            obtain ⟨j, hj, rfl, HJ, HBJ⟩ := hrel
            obtain ⟨ys2, h12, h22, h32⟩ := HJ.out
            obtain ⟨A2, c2, rfl, hf2⟩ := own_form h12
            have hjl := tupK_le ts Ls[i] k j
            have HF2 := Lib.hid hf2
            have HO2 := Lib.hid h12
            have HR2 := Lib.hid h22
            have HS2 := Lib.hid h32
            clear h12 h22 h32 hf2
            have hcl := (HBJ.out.cell (p := ⟨bL, off + i, none⟩) (by show bL < wi.heap.size; have := HBI.out.size; omega)).trans ((HBI.out.cell (p := ⟨bL, off + i, none⟩) (by show bL < w.heap.size; omega)).trans HCL.out)
            by_cases hgj : j < Ls[i].length ∧ (tupK ts Ls[i] k j).length ≤ 400
            · obtain ⟨hjt, hj4⟩ := hgj
              have hjI : (j : Int) < (Ls[i].length : Int) := by omega
              have hj4I : ((tupK ts Ls[i] k j).length : Int) ≤ 400 := by omega
              go_wp2_with fail
              obtain ⟨gO, _, aK, caK, hvO, hcK, hgO, hqK⟩ := HT.out.at_ k hkt
              cases hvO
              obtain ⟨xsK, hxr, hxc⟩ := hqK.news
              obtain ⟨b0, o0, rfl, hb0, hqe⟩ := HQL.out.2 j hjt
              have hb0w := hB b0 hb0
              obtain ⟨d', hd', A1, c1, p0, p1, p2, p3, p4, p5, hkd⟩ := hqe.parts
              obtain rfl : d = d' := by omega
              have hbi := HBI.out.size
              have HCK := Lib.hid hcK
              have HXR := Lib.hid hxr
              have HXC := Lib.hid hxc
              have HKD := Lib.hid hkd
              have HQK := Lib.hid hqK
              have hkn : ts[k].length ≤ 100 := by have := HTL.out ts[k] (List.getElem_mem _); omega
              have HP : Hid (∀ W', Below wi.heap.size wi W' → W'.cell? ⟨gO, k, none⟩ = some (.slice (some aK) ts[k].length caK) ∧ W'.cell? ⟨bL, off + i, none⟩ = some (.slice (some ⟨b0, o0, none⟩) Ls[i].length cl) ∧ W'.cell? ⟨b0, o0 + j * 6, none⟩ = some (.int .i64 Ls[i][j].op) ∧ W'.cell? ⟨b0, o0 + j * 6 + 1, none⟩ = some (.int .i64 Ls[i][j].ctor) ∧ W'.cell? ⟨b0, o0 + j * 6 + 2, none⟩ = some (.int .i64 Ls[i][j].n) ∧ W'.cell? ⟨b0, o0 + j * 6 + 3, none⟩ = some (.int .i64 Ls[i][j].m) ∧ W'.cell? ⟨b0, o0 + j * 6 + 4, none⟩ = some (.int .i64 Ls[i][j].var) ∧ W'.cell? ⟨b0, o0 + j * 6 + 5, none⟩ = some (.slice A1 Ls[i][j].kids.length c1)) := fun W' h => by
                have hc : ∀ (o : Nat) (v : Value), w.cell? ⟨b0, o, none⟩ = some v → W'.cell? ⟨b0, o, none⟩ = some v := fun o v hv => (h.cell (p := ⟨b0, o, none⟩) (by show b0 < wi.heap.size; omega)).trans ((HBI.out.cell (p := ⟨b0, o, none⟩) (by show b0 < w.heap.size; omega)).trans hv)
                exact ⟨(h.cell (p := ⟨gO, k, none⟩) hgO).trans HCK.out, (h.cell (p := ⟨bL, off + i, none⟩) (by show bL < wi.heap.size; omega)).trans ((HBI.out.cell (p := ⟨bL, off + i, none⟩) (by show bL < w.heap.size; omega)).trans HCL.out), hc _ _ p0, hc _ _ p1, hc _ _ p2, hc _ _ p3, hc _ _ p4, hc _ _ p5⟩
              clear hcK hxr hxc hkd hqK hqe p0 p1 p2 p3 p4 p5 hd' hcl
              have SQ : Below wi.heap.size wi wr.drew := HBJ.out.drew
              refine Till.start (S := fun w' => Below wi.heap.size wi w') (z := 99) (by kernel_rfl) ?_
              refine Till.take_ (i := 0) (d := some 42) (v := .slice A2 (tupK ts Ls[i] k j).length c2) (ls' := #[true, false, false, false, false, false, false, false, false, false, false, false, false, false, false, false, false, false, false]) rfl rfl (by kernel_rfl) (by kernel_rfl) (by kernel_rfl) (by kernel_rfl) (fun _ _ _ h => h) SQ (Or.inl ⟨by rfl, fun wq hSw => ?_⟩) (by kernel_rfl) ?_
              · go_simp
              simp only [Act.put, List.setIfInBounds_toArray, List.set_cons_zero, List.set_cons_succ]
              refine Till.take_ (i := 2) (d := some 44) (v := .slice (some ⟨gO, 0, none⟩) ts.length c0) (ls' := #[true, false, true, false, false, false, false, false, false, false, false, false, false, false, false, false, false, false, false]) rfl rfl (by kernel_rfl) (by kernel_rfl) (by kernel_rfl) (by kernel_rfl) (fun _ _ _ h => h) SQ (Or.inl ⟨by rfl, fun wq hSw => ?_⟩) (by kernel_rfl) ?_
              · go_simp
              simp only [Act.put, List.setIfInBounds_toArray, List.set_cons_zero, List.set_cons_succ]
              refine Till.take_ (i := 3) (d := some 45) (v := .int .i64 (k : Nat)) (ls' := #[true, false, true, true, false, false, false, false, false, false, false, false, false, false, false, false, false, false, false]) rfl rfl (by kernel_rfl) (by kernel_rfl) (by kernel_rfl) (by kernel_rfl) (fun _ _ _ h => h) SQ (Or.inl ⟨by rfl, fun wq hSw => ?_⟩) (by kernel_rfl) ?_
              · go_simp
              simp only [Act.put, List.setIfInBounds_toArray, List.set_cons_zero, List.set_cons_succ]
              refine Till.take_ (i := 4) (d := some 46) (v := .pointer (some ⟨gO, k, none⟩)) (ls' := #[true, false, true, true, true, false, false, false, false, false, false, false, false, false, false, false, false, false, false]) rfl rfl (by kernel_rfl) (by kernel_rfl) (by kernel_rfl) (by kernel_rfl) (fun _ _ _ h => h) SQ (Or.inl ⟨by rfl, fun wq hSw => ?_⟩) (by kernel_rfl) ?_
              · go_simp
              simp only [Act.put, List.setIfInBounds_toArray, List.set_cons_zero, List.set_cons_succ]
              refine Till.take_ (i := 5) (d := some 47) (v := .slice (some aK) ts[k].length caK) (ls' := #[true, false, true, true, true, true, false, false, false, false, false, false, false, false, false, false, false, false, false]) rfl rfl (by kernel_rfl) (by kernel_rfl) (by kernel_rfl) (by kernel_rfl) (fun _ _ _ h => h) SQ (Or.inl ⟨by rfl, fun wq hSw => ?_⟩) (by kernel_rfl) ?_
              · obtain ⟨k0, l0, e0, e1, e2, e3, e4, e5⟩ := HP.out wq hSw
                go_simp
              simp only [Act.put, List.setIfInBounds_toArray, List.set_cons_zero, List.set_cons_succ]
              refine Till.take_ (i := 7) (d := some 49) (v := .slice (some ⟨bL, off, none⟩) Ls.length cap) (ls' := #[true, false, true, true, true, true, false, true, false, false, false, false, false, false, false, false, false, false, false]) rfl rfl (by kernel_rfl) (by kernel_rfl) (by kernel_rfl) (by kernel_rfl) (fun _ _ _ h => h) SQ (Or.inl ⟨by rfl, fun wq hSw => ?_⟩) (by kernel_rfl) ?_
              · go_simp
              simp only [Act.put, List.setIfInBounds_toArray, List.set_cons_zero, List.set_cons_succ]
              refine Till.take_ (i := 8) (d := some 50) (v := .int .i64 (i : Nat)) (ls' := #[true, false, true, true, true, true, false, true, true, false, false, false, false, false, false, false, false, false, false]) rfl rfl (by kernel_rfl) (by kernel_rfl) (by kernel_rfl) (by kernel_rfl) (fun _ _ _ h => h) SQ (Or.inl ⟨by rfl, fun wq hSw => ?_⟩) (by kernel_rfl) ?_
              · go_simp
              simp only [Act.put, List.setIfInBounds_toArray, List.set_cons_zero, List.set_cons_succ]
              refine Till.take_ (i := 9) (d := some 51) (v := .pointer (some ⟨bL, off + i, none⟩)) (ls' := #[true, false, true, true, true, true, false, true, true, true, false, false, false, false, false, false, false, false, false]) rfl rfl (by kernel_rfl) (by kernel_rfl) (by kernel_rfl) (by kernel_rfl) (fun _ _ _ h => h) SQ (Or.inl ⟨by rfl, fun wq hSw => ?_⟩) (by kernel_rfl) ?_
              · go_simp
              simp only [Act.put, List.setIfInBounds_toArray, List.set_cons_zero, List.set_cons_succ]
              refine Till.take_ (i := 10) (d := some 52) (v := .slice (some ⟨b0, o0, none⟩) Ls[i].length cl) (ls' := #[true, false, true, true, true, true, false, true, true, true, true, false, false, false, false, false, false, false, false]) rfl rfl (by kernel_rfl) (by kernel_rfl) (by kernel_rfl) (by kernel_rfl) (fun _ _ _ h => h) SQ (Or.inl ⟨by rfl, fun wq hSw => ?_⟩) (by kernel_rfl) ?_
              · obtain ⟨k0, l0, e0, e1, e2, e3, e4, e5⟩ := HP.out wq hSw
                go_simp
              simp only [Act.put, List.setIfInBounds_toArray, List.set_cons_zero, List.set_cons_succ]
              refine Till.take_ (i := 11) (d := some 53) (v := .int .i64 (j : Nat)) (ls' := #[true, false, true, true, true, true, false, true, true, true, true, true, false, false, false, false, false, false, false]) rfl rfl (by kernel_rfl) (by kernel_rfl) (by kernel_rfl) (by kernel_rfl) (fun _ _ _ h => h) SQ (Or.inl ⟨by rfl, fun wq hSw => ?_⟩) (by kernel_rfl) ?_
              · go_simp
              simp only [Act.put, List.setIfInBounds_toArray, List.set_cons_zero, List.set_cons_succ]
              refine Till.take_ (i := 12) (d := some 54) (v := .pointer (some ⟨b0, o0 + j * 6, none⟩)) (ls' := #[true, false, true, true, true, true, false, true, true, true, true, true, true, false, false, false, false, false, false]) rfl rfl (by kernel_rfl) (by kernel_rfl) (by kernel_rfl) (by kernel_rfl) (fun _ _ _ h => h) SQ (Or.inl ⟨by rfl, fun wq hSw => ?_⟩) (by kernel_rfl) ?_
              · go_simp
              simp only [Act.put, List.setIfInBounds_toArray, List.set_cons_zero, List.set_cons_succ]
              refine Till.take_ (i := 13) (d := some 55) (v := .agg #[.int .i64 Ls[i][j].op, .int .i64 Ls[i][j].ctor, .int .i64 Ls[i][j].n, .int .i64 Ls[i][j].m, .int .i64 Ls[i][j].var, .slice A1 Ls[i][j].kids.length c1]) (ls' := #[true, false, true, true, true, true, false, true, true, true, true, true, true, true, false, false, false, false, false]) rfl rfl (by kernel_rfl) (by kernel_rfl) (by kernel_rfl) (by kernel_rfl) (fun _ _ _ h => h) SQ (Or.inl ⟨by rfl, fun wq hSw => ?_⟩) (by kernel_rfl) ?_
              · obtain ⟨k0, l0, e0, e1, e2, e3, e4, e5⟩ := HP.out wq hSw
                go_simp
              simp only [Act.put, List.setIfInBounds_toArray, List.set_cons_zero, List.set_cons_succ]
              obtain ⟨wd, hwd⟩ : ∃ wd, wd = wr.drew := ⟨_, rfl⟩
              have hsd : wd.heap.size = wr.heap.size := by rw [hwd]; rfl
              have hsd1 : wd.heap.size ≤ wr.heap.size := by omega
              have hsd2 : wr.heap.size ≤ wd.heap.size := by omega
              have HO2D : Hid (wd.ownsRow wi.heap.size 30 1 (.slice A2 (tupK ts Ls[i] k j).length c2) (tupK ts Ls[i] k j).length ys2) := by unfold Hid; rw [hwd]; exact HO2.out.drew
              have HR2D : Hid (RowT (d + 1) (fun b => P0 b ∨ w.heap.size ≤ b) wd (.slice A2 (tupK ts Ls[i] k j).length c2) (tupK ts Ls[i] k j) ys2 (tupK ts Ls[i] k j).length) := by unfold Hid; rw [hwd]; exact HR2.out.low (Below.refl _ wr).drew
              have hwid : wi.heap.size ≤ wd.heap.size := by rw [hwd]; exact HBJ.out.size
              rw [← hwd] at SQ ⊢
              have HSQ := Lib.hid SQ
              clear hwd hsd SQ
              have HBD : Hid (Below wd.heap.size wd wd) := Below.refl _ _
              have HBE : Hid (Below wd.heap.size wd (wd.alloc (.cells #[] 38))) := (Below.refl _ _).alloc (Nat.le_refl _) _
              have HBF : Hid (Below wd.heap.size wd (wd.alloc (.cells #[.int .i64 Ls[i][j].op, .int .i64 Ls[i][j].ctor, .int .i64 Ls[i][j].n, .int .i64 Ls[i][j].m, .int .i64 Ls[i][j].var, .slice A1 Ls[i][j].kids.length c1] 38))) := (Below.refl _ _).alloc (Nat.le_refl _) _
              have HBG : Hid (Below wd.heap.size wd ((wd.alloc (.cells #[] 38)).alloc (.cells #[.int .i64 Ls[i][j].op, .int .i64 Ls[i][j].ctor, .int .i64 Ls[i][j].n, .int .i64 Ls[i][j].m, .int .i64 Ls[i][j].var, .slice A1 Ls[i][j].kids.length c1] 38))) := HBE.out.alloc HBE.out.size _
              have HBH : Hid (Below wd.heap.size wd ((wd.alloc (.cells #[.int .i64 Ls[i][j].op, .int .i64 Ls[i][j].ctor, .int .i64 Ls[i][j].n, .int .i64 Ls[i][j].m, .int .i64 Ls[i][j].var, .slice A1 Ls[i][j].kids.length c1] 38)).alloc (.cells #[] 38))) := HBF.out.alloc HBF.out.size _
              have HWE : Hid ((wd.alloc (.cells #[] 38)).ownsRow wi.heap.size 38 6 (.slice (some ⟨wd.heap.size, 0, none⟩) 0 0) 0 []) := World.ownsRow_lit (base := wi.heap.size) (e := 38) (size := 6) wd #[] 0 hwid (by unfold maxLen; omega) rfl
              have HWH : Hid (((wd.alloc (.cells #[.int .i64 Ls[i][j].op, .int .i64 Ls[i][j].ctor, .int .i64 Ls[i][j].n, .int .i64 Ls[i][j].m, .int .i64 Ls[i][j].var, .slice A1 Ls[i][j].kids.length c1] 38)).alloc (.cells #[] 38)).ownsRow wi.heap.size 38 6 (.slice (some ⟨wd.heap.size + 1, 0, none⟩) 0 0) 0 []) := by
                have h := World.ownsRow_lit (base := wi.heap.size) (e := 38) (size := 6) (wd.alloc (.cells #[.int .i64 Ls[i][j].op, .int .i64 Ls[i][j].ctor, .int .i64 Ls[i][j].n, .int .i64 Ls[i][j].m, .int .i64 Ls[i][j].var, .slice A1 Ls[i][j].kids.length c1] 38)) #[] 0 (by rw [World.size_alloc]; omega) (by unfold maxLen; omega) rfl
                rw [World.size_alloc] at h; exact h
              refine Till.all (rs := [1, 14]) (by kernel_rfl) (by decide) (List.forall_mem_cons.2 ⟨?_, List.forall_mem_cons.2 ⟨?_, fun _ h => nomatch h⟩⟩)
              · refine Till.step rfl (by rfl) ?_
                intro K hK
                go_simp
                refine hK _ _ (fun _ => HSQ.out.trans (((HBD.out).alloc (by have := HBD.out.size; omega) _).mono hwid)) ?_
                clear hK K
                refine Till.all (rs := [6, 14]) (by kernel_rfl) (by decide) (List.forall_mem_cons.2 ⟨?_, List.forall_mem_cons.2 ⟨?_, fun _ h => nomatch h⟩⟩)
                · skip
                  refine Till.step rfl (by rfl) ?_
                  intro K hK
                  refine wp_append_own (.tmp 43) (.tmp 47) 30 (by rfl) wi.heap.size 38 i0 (.agg #[.int .i64 0, .int .i64 0, .int .i64 0, .int .i64 0, .int .i64 0, .slice none 0 0]) 6 64 Tryz.underlying30 hi0 hz0 hz1 hz2 (by rfl) (by decide) (.slice (some ⟨wd.heap.size, 0, none⟩) 0 0) 0 [] (by rfl) HWE.out aK ts[k].length caK xsK (by rfl) HXR.out.1 (fun q u hu => by have h := HXC.out aK rfl q u hu; exact (Below.cell (B := wi.heap.size) (HSQ.out.trans (HBE.out.mono hwid)) (Go.block_lt_of_cell h)).trans h) HXR.out.cells (by unfold maxLen; omega) (by omega) (Nat.le_trans hwid HBE.out.size) ?_
                  intro v6 w6 hown6 hgr6 hat6
                  rw [Nat.zero_add] at hown6
                  obtain ⟨A6, c6, rfl, hf6⟩ := own_form hown6
                  have HB6 : Hid (Below wd.heap.size wd w6) := HBE.out.grown hgr6 HBE.out.size (fun q e => by have e : wd.heap.size = q := Option.some.inj e; omega)
                  have HO6 := Lib.hid hown6
                  have HG6 := Lib.hid hgr6
                  have HF6 := Lib.hid hf6
                  have hs6 := hgr6.size
                  have HA6 : Hid (∀ b, (Value.slice A6 (ts[k].length) c6).ownBlock = some b → wd.heap.size ≤ b ∧ (b = wd.heap.size ∨ (wd.alloc (.cells #[] 38)).heap.size ≤ b)) := fun b e => by
                    rcases hat6 with h | h
                    · have e : wd.heap.size = b := Option.some.inj (h.symm.trans e)
                      exact ⟨by omega, .inl e.symm⟩
                    · have e : (wd.alloc (.cells #[] 38)).heap.size = b := Option.some.inj (h.symm.trans e)
                      exact ⟨by rw [← e]; exact HBE.out.size, .inr (Nat.le_of_eq e)⟩
                  clear hown6 hgr6 hat6 hf6
                  refine hK _ _ (fun _ => HSQ.out.trans (HB6.out.mono hwid)) ?_
                  clear hK K
                  refine Till.all (rs := [14]) (by kernel_rfl) (by decide) (List.forall_mem_cons.2 ⟨?_, fun _ h => nomatch h⟩)
                  refine Till.step rfl (by rfl) ?_
                  intro K hK
                  go_simp
                  refine hK _ _ (fun _ => HSQ.out.trans ((HB6.out.alloc HB6.out.size _).mono hwid)) ?_
                  clear hK K
                  have HBT : Hid (Below wd.heap.size wd (w6.alloc (.cells #[.int .i64 Ls[i][j].op, .int .i64 Ls[i][j].ctor, .int .i64 Ls[i][j].n, .int .i64 Ls[i][j].m, .int .i64 Ls[i][j].var, .slice A1 Ls[i][j].kids.length c1] 38))) := HB6.out.alloc HB6.out.size _
                  have H14 : Hid (∀ (q : Nat) (u : Value), [.int .i64 Ls[i][j].op, .int .i64 Ls[i][j].ctor, .int .i64 Ls[i][j].n, .int .i64 Ls[i][j].m, .int .i64 Ls[i][j].var, .slice A1 Ls[i][j].kids.length c1][q]? = some u → (w6.alloc (.cells #[.int .i64 Ls[i][j].op, .int .i64 Ls[i][j].ctor, .int .i64 Ls[i][j].n, .int .i64 Ls[i][j].m, .int .i64 Ls[i][j].var, .slice A1 Ls[i][j].kids.length c1] 38)).cell? ((⟨w6.heap.size, 0, none⟩ : Addr).add q) = some u) := cell_six_new _ _ _ _ _ _ _ _
                  refine Till.all (rs := [15]) (by kernel_rfl) (by decide) (List.forall_mem_cons.2 ⟨?_, fun _ h => nomatch h⟩)
                  refine Till.step rfl (by rfl) ?_
                  intro K hK
                  refine wp_append_own (.tmp 48) (.tmp 56) 30 (by rfl) wi.heap.size 38 i0 (.agg #[.int .i64 0, .int .i64 0, .int .i64 0, .int .i64 0, .int .i64 0, .slice none 0 0]) 6 64 Tryz.underlying30 hi0 hz0 hz1 hz2 (by rfl) (by decide) (.slice A6 (ts[k].length) c6) (ts[k].length) ([] ++ xsK) (by rfl) (HO6.out.alloc _) ⟨w6.heap.size, 0, none⟩ 1 1 [.int .i64 Ls[i][j].op, .int .i64 Ls[i][j].ctor, .int .i64 Ls[i][j].n, .int .i64 Ls[i][j].m, .int .i64 Ls[i][j].var, .slice A1 Ls[i][j].kids.length c1] (by rfl) rfl (fun q u hu => H14.out q u hu) (by intro u hu; simp at hu; rcases hu with rfl | rfl | rfl | rfl | rfl | rfl <;> rfl) (by unfold maxLen; omega) (by omega) (by have := HBT.out.size; omega) ?_
                  intro v7 w7 hown7 hgr7 hat7
                  obtain ⟨a7, c7, rfl⟩ := ownsRow_succ hown7
                  have HB7 : Hid (Below wd.heap.size wd w7) := HBT.out.grown hgr7 HBT.out.size (fun q e => (HA6.out q e).1)
                  have HO7 := Lib.hid hown7
                  have h7l : wd.heap.size ≤ a7 := by
                    rcases hat7 with h | h
                    · exact (HA6.out a7 h.symm).1
                    · have h : a7 = (w6.alloc (.cells #[.int .i64 Ls[i][j].op, .int .i64 Ls[i][j].ctor, .int .i64 Ls[i][j].n, .int .i64 Ls[i][j].m, .int .i64 Ls[i][j].var, .slice A1 Ls[i][j].kids.length c1] 38)).heap.size := Option.some.inj h
                      rw [h]; exact HBT.out.size
                  have h7s : a7 < w7.heap.size := by obtain ⟨_, _, _, h⟩ := own_form hown7; exact (h a7 rfl).2
                  have hs7 := HB7.out.size
                  clear hown7 hgr7 hat7
                  refine hK _ _ (fun _ => HSQ.out.trans (HB7.out.mono hwid)) ?_
                  clear hK K
                  refine Till.all (rs := [16]) (by kernel_rfl) (by decide) (List.forall_mem_cons.2 ⟨?_, fun _ h => nomatch h⟩)
                  refine Till.step rfl (by rfl) ?_
                  intro K hK
                  go_simp
                  refine hK _ _ (fun _ => HSQ.out.trans ((HB7.out.alloc hs7 _).mono hwid)) ?_
                  clear hK K
                  refine Till.all (rs := [17]) (by kernel_rfl) (by decide) (List.forall_mem_cons.2 ⟨?_, fun _ h => nomatch h⟩)
                  refine Till.step rfl (by rfl) ?_
                  intro K hK
                  refine wp_append_own (.tmp 42) (.tmp 58) 65 (by rfl) wi.heap.size 30 i1 (.slice none 0 0) 1 24 Tryz.underlying65 hi1 hy0 hy1 hy2 (by rfl) (by decide) (.slice A2 (tupK ts Ls[i] k j).length c2) (tupK ts Ls[i] k j).length ys2 (by rfl) ((own_at HO2D.out (fun b e => HB7.out.block b (by have := (HF2.out b e).2; omega))).alloc _) ⟨w7.heap.size, 0, none⟩ 1 1 [.slice (some ⟨a7, 0, none⟩) (ts[k].length + 1) c7] (by rfl) rfl (cell_one_new _ _ _) (by intro u hu; rw [List.mem_singleton.1 hu]; rfl) (by unfold maxLen; omega) (by omega) (by rw [World.size_alloc]; omega) ?_
                  intro v9 w9 hown9 hgr9 hat9
                  obtain ⟨A9, c9, rfl, hf9⟩ := own_form hown9
                  have HB9 : Hid (Below wi.heap.size wi w9) := (HSQ.out.trans (HB7.out.mono hwid)).trans (((Below.refl wi.heap.size w7).alloc (by omega) _).grown hgr9 (by rw [World.size_alloc]; omega) (fun q e => (HF2.out q e).1))
                  have HT9 : Hid (TuI (d + 1) (fun b => P0 b ∨ w.heap.size ≤ b) wi.heap.size (tupK ts Ls[i] k (j + 1)) (.slice A9 ((tupK ts Ls[i] k j).length + 1) c9) w9) := by
                    unfold Hid
                    rw [tupK_more ts Ls[i] k j hkt hjt hj4]
                    have hBI : ∀ b, ((P0 b ∨ w.heap.size ≤ b) ∧ b < wi.heap.size) → (P0 b ∨ w.heap.size ≤ b) ∧ b < w7.heap.size ∧ some b ≠ (Value.slice A2 (tupK ts Ls[i] k j).length c2).ownBlock := fun b hb => ⟨hb.1, by have := hb.2; omega, fun e => by have := (HF2.out b e.symm).1; have := hb.2; omega⟩
                    have r1 := HXR.out.keep (w' := w7) (P' := fun b => (P0 b ∨ w.heap.size ≤ b) ∧ b < w7.heap.size ∧ some b ≠ (Value.slice A2 (tupK ts Ls[i] k j).length c2).ownBlock) (fun q u hq hu => ((HSQ.out.trans (HB7.out.mono hwid)).cell hq.2).trans hu) hBI
                    have r2 := HKD.out.keep (w' := w7) (P' := fun b => (P0 b ∨ w.heap.size ≤ b) ∧ b < w7.heap.size ∧ some b ≠ (Value.slice A2 (tupK ts Ls[i] k j).length c2).ownBlock) (fun q u hq hu => ((HSQ.out.trans (HB7.out.mono hwid)).cell (by have := hB _ hq; omega)).trans ((HBI.out.cell (hB _ hq)).trans hu)) (fun b hb => hBI b ⟨.inl hb, by have := hB b hb; omega⟩)
                    have r3 := r1.app (RowQ.one (v := Ls[i][j]) (cap := c1) r2)
                    have ho7 := HO7.out
                    rw [List.nil_append, show ts[k].length + 1 = (ts[k] ++ [Ls[i][j]]).length by rw [List.length_append]; rfl] at ho7
                    obtain ⟨A', c', e', hq'⟩ := r3.reads ho7 (fun g e => by cases e; exact ⟨.inr (show w.heap.size ≤ a7 by omega), h7s, fun e => by have := (HF2.out a7 e.symm).2; omega⟩) (by rw [List.length_append]; unfold maxLen; simp; omega)
                    cases e'
                    refine TuI.push (c2 := c7) HO2D.out HR2D.out HS2.out HB7.out hq' ?_ hgr9 hat9
                    rw [show (ts[k] ++ [Ls[i][j]]).length = ts[k].length + 1 by rw [List.length_append]; rfl]
                    exact hown9
                  clear hown9 hgr9 hat9 hf9
                  refine hK _ _ (fun _ => HB9.out) ?_
                  clear hK K
                  refine Till.all (rs := [18]) (by kernel_rfl) (by decide) (List.forall_mem_cons.2 ⟨?_, fun _ h => nomatch h⟩)
                  refine Till.step rfl (by rfl) ?_
                  intro K hK
                  go_simp
                  refine hK _ _ (fun _ => HB9.out) ?_
                  clear hK K
                  refine Till.done (by kernel_rfl) ?_ _
                  go_wp2_with fail
                  go_roundw
                  case rel => exact ⟨j + 1, by omega, by go_num, HT9, HB9⟩
                  case measure => simp [intOf]; omega
                · skip
                  refine Till.step rfl (by rfl) ?_
                  intro K hK
                  go_simp
                  refine hK _ _ (fun _ => HSQ.out.trans (HBG.out.mono hwid)) ?_
                  clear hK K
                  refine Till.all (rs := [6]) (by kernel_rfl) (by decide) (List.forall_mem_cons.2 ⟨?_, fun _ h => nomatch h⟩)
                  refine Till.step rfl (by rfl) ?_
                  intro K hK
                  refine wp_append_own (.tmp 43) (.tmp 47) 30 (by rfl) wi.heap.size 38 i0 (.agg #[.int .i64 0, .int .i64 0, .int .i64 0, .int .i64 0, .int .i64 0, .slice none 0 0]) 6 64 Tryz.underlying30 hi0 hz0 hz1 hz2 (by rfl) (by decide) (.slice (some ⟨wd.heap.size, 0, none⟩) 0 0) 0 [] (by rfl) (HWE.out.alloc _) aK ts[k].length caK xsK (by rfl) HXR.out.1 (fun q u hu => by have h := HXC.out aK rfl q u hu; exact (Below.cell (B := wi.heap.size) (HSQ.out.trans (HBG.out.mono hwid)) (Go.block_lt_of_cell h)).trans h) HXR.out.cells (by unfold maxLen; omega) (by omega) (Nat.le_trans hwid HBG.out.size) ?_
                  intro v6 w6 hown6 hgr6 hat6
                  rw [Nat.zero_add] at hown6
                  obtain ⟨A6, c6, rfl, hf6⟩ := own_form hown6
                  have HB6 : Hid (Below wd.heap.size wd w6) := HBG.out.grown hgr6 HBG.out.size (fun q e => by have e : wd.heap.size = q := Option.some.inj e; omega)
                  have HO6 := Lib.hid hown6
                  have HG6 := Lib.hid hgr6
                  have HF6 := Lib.hid hf6
                  have hs6 := hgr6.size
                  have HA6 : Hid (∀ b, (Value.slice A6 (ts[k].length) c6).ownBlock = some b → wd.heap.size ≤ b ∧ (b = wd.heap.size ∨ ((wd.alloc (.cells #[] 38)).alloc (.cells #[.int .i64 Ls[i][j].op, .int .i64 Ls[i][j].ctor, .int .i64 Ls[i][j].n, .int .i64 Ls[i][j].m, .int .i64 Ls[i][j].var, .slice A1 Ls[i][j].kids.length c1] 38)).heap.size ≤ b)) := fun b e => by
                    rcases hat6 with h | h
                    · have e : wd.heap.size = b := Option.some.inj (h.symm.trans e)
                      exact ⟨by omega, .inl e.symm⟩
                    · have e : ((wd.alloc (.cells #[] 38)).alloc (.cells #[.int .i64 Ls[i][j].op, .int .i64 Ls[i][j].ctor, .int .i64 Ls[i][j].n, .int .i64 Ls[i][j].m, .int .i64 Ls[i][j].var, .slice A1 Ls[i][j].kids.length c1] 38)).heap.size = b := Option.some.inj (h.symm.trans e)
                      exact ⟨by rw [← e]; exact HBG.out.size, .inr (Nat.le_of_eq e)⟩
                  clear hown6 hgr6 hat6 hf6
                  refine hK _ _ (fun _ => HSQ.out.trans (HB6.out.mono hwid)) ?_
                  clear hK K
                  have H14 : Hid (∀ (q : Nat) (u : Value), [.int .i64 Ls[i][j].op, .int .i64 Ls[i][j].ctor, .int .i64 Ls[i][j].n, .int .i64 Ls[i][j].m, .int .i64 Ls[i][j].var, .slice A1 Ls[i][j].kids.length c1][q]? = some u → w6.cell? ((⟨wd.heap.size + 1, 0, none⟩ : Addr).add q) = some u) := fun q u hu => by
                    have h := cell_six_new (wd.alloc (.cells #[] 38)) _ _ _ _ _ _ 38 q u hu
                    rw [World.size_alloc] at h
                    exact (World.cell?_of_block (a := (⟨wd.heap.size + 1, 0, none⟩ : Addr).add q) (by rw [Addr.add_lit]; exact HG6.out.block (wd.heap.size + 1) (by rw [World.size_alloc, World.size_alloc]; omega) (fun e => by have e : wd.heap.size = wd.heap.size + 1 := Option.some.inj e.symm; omega))).trans h
                  refine Till.all (rs := [15]) (by kernel_rfl) (by decide) (List.forall_mem_cons.2 ⟨?_, fun _ h => nomatch h⟩)
                  refine Till.step rfl (by rfl) ?_
                  intro K hK
                  refine wp_append_own (.tmp 48) (.tmp 56) 30 (by rfl) wi.heap.size 38 i0 (.agg #[.int .i64 0, .int .i64 0, .int .i64 0, .int .i64 0, .int .i64 0, .slice none 0 0]) 6 64 Tryz.underlying30 hi0 hz0 hz1 hz2 (by rfl) (by decide) (.slice A6 (ts[k].length) c6) (ts[k].length) ([] ++ xsK) (by rfl) (HO6.out) ⟨wd.heap.size + 1, 0, none⟩ 1 1 [.int .i64 Ls[i][j].op, .int .i64 Ls[i][j].ctor, .int .i64 Ls[i][j].n, .int .i64 Ls[i][j].m, .int .i64 Ls[i][j].var, .slice A1 Ls[i][j].kids.length c1] (by rfl) rfl (fun q u hu => H14.out q u hu) (by intro u hu; simp at hu; rcases hu with rfl | rfl | rfl | rfl | rfl | rfl <;> rfl) (by unfold maxLen; omega) (by omega) (by have := HB6.out.size; omega) ?_
                  intro v7 w7 hown7 hgr7 hat7
                  obtain ⟨a7, c7, rfl⟩ := ownsRow_succ hown7
                  have HB7 : Hid (Below wd.heap.size wd w7) := HB6.out.grown hgr7 HB6.out.size (fun q e => (HA6.out q e).1)
                  have HO7 := Lib.hid hown7
                  have h7l : wd.heap.size ≤ a7 := by
                    rcases hat7 with h | h
                    · exact (HA6.out a7 h.symm).1
                    · have h : a7 = (w6).heap.size := Option.some.inj h
                      rw [h]; exact HB6.out.size
                  have h7s : a7 < w7.heap.size := by obtain ⟨_, _, _, h⟩ := own_form hown7; exact (h a7 rfl).2
                  have hs7 := HB7.out.size
                  clear hown7 hgr7 hat7
                  refine hK _ _ (fun _ => HSQ.out.trans (HB7.out.mono hwid)) ?_
                  clear hK K
                  refine Till.all (rs := [16]) (by kernel_rfl) (by decide) (List.forall_mem_cons.2 ⟨?_, fun _ h => nomatch h⟩)
                  refine Till.step rfl (by rfl) ?_
                  intro K hK
                  go_simp
                  refine hK _ _ (fun _ => HSQ.out.trans ((HB7.out.alloc hs7 _).mono hwid)) ?_
                  clear hK K
                  refine Till.all (rs := [17]) (by kernel_rfl) (by decide) (List.forall_mem_cons.2 ⟨?_, fun _ h => nomatch h⟩)
                  refine Till.step rfl (by rfl) ?_
                  intro K hK
                  refine wp_append_own (.tmp 42) (.tmp 58) 65 (by rfl) wi.heap.size 30 i1 (.slice none 0 0) 1 24 Tryz.underlying65 hi1 hy0 hy1 hy2 (by rfl) (by decide) (.slice A2 (tupK ts Ls[i] k j).length c2) (tupK ts Ls[i] k j).length ys2 (by rfl) ((own_at HO2D.out (fun b e => HB7.out.block b (by have := (HF2.out b e).2; omega))).alloc _) ⟨w7.heap.size, 0, none⟩ 1 1 [.slice (some ⟨a7, 0, none⟩) (ts[k].length + 1) c7] (by rfl) rfl (cell_one_new _ _ _) (by intro u hu; rw [List.mem_singleton.1 hu]; rfl) (by unfold maxLen; omega) (by omega) (by rw [World.size_alloc]; omega) ?_
                  intro v9 w9 hown9 hgr9 hat9
                  obtain ⟨A9, c9, rfl, hf9⟩ := own_form hown9
                  have HB9 : Hid (Below wi.heap.size wi w9) := (HSQ.out.trans (HB7.out.mono hwid)).trans (((Below.refl wi.heap.size w7).alloc (by omega) _).grown hgr9 (by rw [World.size_alloc]; omega) (fun q e => (HF2.out q e).1))
                  have HT9 : Hid (TuI (d + 1) (fun b => P0 b ∨ w.heap.size ≤ b) wi.heap.size (tupK ts Ls[i] k (j + 1)) (.slice A9 ((tupK ts Ls[i] k j).length + 1) c9) w9) := by
                    unfold Hid
                    rw [tupK_more ts Ls[i] k j hkt hjt hj4]
                    have hBI : ∀ b, ((P0 b ∨ w.heap.size ≤ b) ∧ b < wi.heap.size) → (P0 b ∨ w.heap.size ≤ b) ∧ b < w7.heap.size ∧ some b ≠ (Value.slice A2 (tupK ts Ls[i] k j).length c2).ownBlock := fun b hb => ⟨hb.1, by have := hb.2; omega, fun e => by have := (HF2.out b e.symm).1; have := hb.2; omega⟩
                    have r1 := HXR.out.keep (w' := w7) (P' := fun b => (P0 b ∨ w.heap.size ≤ b) ∧ b < w7.heap.size ∧ some b ≠ (Value.slice A2 (tupK ts Ls[i] k j).length c2).ownBlock) (fun q u hq hu => ((HSQ.out.trans (HB7.out.mono hwid)).cell hq.2).trans hu) hBI
                    have r2 := HKD.out.keep (w' := w7) (P' := fun b => (P0 b ∨ w.heap.size ≤ b) ∧ b < w7.heap.size ∧ some b ≠ (Value.slice A2 (tupK ts Ls[i] k j).length c2).ownBlock) (fun q u hq hu => ((HSQ.out.trans (HB7.out.mono hwid)).cell (by have := hB _ hq; omega)).trans ((HBI.out.cell (hB _ hq)).trans hu)) (fun b hb => hBI b ⟨.inl hb, by have := hB b hb; omega⟩)
                    have r3 := r1.app (RowQ.one (v := Ls[i][j]) (cap := c1) r2)
                    have ho7 := HO7.out
                    rw [List.nil_append, show ts[k].length + 1 = (ts[k] ++ [Ls[i][j]]).length by rw [List.length_append]; rfl] at ho7
                    obtain ⟨A', c', e', hq'⟩ := r3.reads ho7 (fun g e => by cases e; exact ⟨.inr (show w.heap.size ≤ a7 by omega), h7s, fun e => by have := (HF2.out a7 e.symm).2; omega⟩) (by rw [List.length_append]; unfold maxLen; simp; omega)
                    cases e'
                    refine TuI.push (c2 := c7) HO2D.out HR2D.out HS2.out HB7.out hq' ?_ hgr9 hat9
                    rw [show (ts[k] ++ [Ls[i][j]]).length = ts[k].length + 1 by rw [List.length_append]; rfl]
                    exact hown9
                  clear hown9 hgr9 hat9 hf9
                  refine hK _ _ (fun _ => HB9.out) ?_
                  clear hK K
                  refine Till.all (rs := [18]) (by kernel_rfl) (by decide) (List.forall_mem_cons.2 ⟨?_, fun _ h => nomatch h⟩)
                  refine Till.step rfl (by rfl) ?_
                  intro K hK
                  go_simp
                  refine hK _ _ (fun _ => HB9.out) ?_
                  clear hK K
                  refine Till.done (by kernel_rfl) ?_ _
                  go_wp2_with fail
                  go_roundw
                  case rel => exact ⟨j + 1, by omega, by go_num, HT9, HB9⟩
                  case measure => simp [intOf]; omega
              · refine Till.step rfl (by rfl) ?_
                intro K hK
                go_simp
                refine hK _ _ (fun _ => HSQ.out.trans (HBF.out.mono hwid)) ?_
                clear hK K
                refine Till.all (rs := [1]) (by kernel_rfl) (by decide) (List.forall_mem_cons.2 ⟨?_, fun _ h => nomatch h⟩)
                refine Till.step rfl (by rfl) ?_
                intro K hK
                go_simp
                refine hK _ _ (fun _ => HSQ.out.trans (HBH.out.mono hwid)) ?_
                clear hK K
                refine Till.all (rs := [6]) (by kernel_rfl) (by decide) (List.forall_mem_cons.2 ⟨?_, fun _ h => nomatch h⟩)
                refine Till.step rfl (by rfl) ?_
                intro K hK
                refine wp_append_own (.tmp 43) (.tmp 47) 30 (by rfl) wi.heap.size 38 i0 (.agg #[.int .i64 0, .int .i64 0, .int .i64 0, .int .i64 0, .int .i64 0, .slice none 0 0]) 6 64 Tryz.underlying30 hi0 hz0 hz1 hz2 (by rfl) (by decide) (.slice (some ⟨wd.heap.size + 1, 0, none⟩) 0 0) 0 [] (by rfl) HWH.out aK ts[k].length caK xsK (by rfl) HXR.out.1 (fun q u hu => by have h := HXC.out aK rfl q u hu; exact (Below.cell (B := wi.heap.size) (HSQ.out.trans (HBH.out.mono hwid)) (Go.block_lt_of_cell h)).trans h) HXR.out.cells (by unfold maxLen; omega) (by omega) (Nat.le_trans hwid HBH.out.size) ?_
                intro v6 w6 hown6 hgr6 hat6
                rw [Nat.zero_add] at hown6
                obtain ⟨A6, c6, rfl, hf6⟩ := own_form hown6
                have HB6 : Hid (Below wd.heap.size wd w6) := HBH.out.grown hgr6 HBH.out.size (fun q e => by have e : wd.heap.size + 1 = q := Option.some.inj e; omega)
                have HO6 := Lib.hid hown6
                have HG6 := Lib.hid hgr6
                have HF6 := Lib.hid hf6
                have hs6 := hgr6.size
                have HA6 : Hid (∀ b, (Value.slice A6 (ts[k].length) c6).ownBlock = some b → wd.heap.size ≤ b ∧ (b = wd.heap.size + 1 ∨ ((wd.alloc (.cells #[.int .i64 Ls[i][j].op, .int .i64 Ls[i][j].ctor, .int .i64 Ls[i][j].n, .int .i64 Ls[i][j].m, .int .i64 Ls[i][j].var, .slice A1 Ls[i][j].kids.length c1] 38)).alloc (.cells #[] 38)).heap.size ≤ b)) := fun b e => by
                  rcases hat6 with h | h
                  · have e : wd.heap.size + 1 = b := Option.some.inj (h.symm.trans e)
                    exact ⟨by omega, .inl e.symm⟩
                  · have e : ((wd.alloc (.cells #[.int .i64 Ls[i][j].op, .int .i64 Ls[i][j].ctor, .int .i64 Ls[i][j].n, .int .i64 Ls[i][j].m, .int .i64 Ls[i][j].var, .slice A1 Ls[i][j].kids.length c1] 38)).alloc (.cells #[] 38)).heap.size = b := Option.some.inj (h.symm.trans e)
                    exact ⟨by rw [← e]; exact HBH.out.size, .inr (Nat.le_of_eq e)⟩
                clear hown6 hgr6 hat6 hf6
                refine hK _ _ (fun _ => HSQ.out.trans (HB6.out.mono hwid)) ?_
                clear hK K
                have H14 : Hid (∀ (q : Nat) (u : Value), [.int .i64 Ls[i][j].op, .int .i64 Ls[i][j].ctor, .int .i64 Ls[i][j].n, .int .i64 Ls[i][j].m, .int .i64 Ls[i][j].var, .slice A1 Ls[i][j].kids.length c1][q]? = some u → w6.cell? ((⟨wd.heap.size, 0, none⟩ : Addr).add q) = some u) := fun q u hu => by
                  have h := cell_six_new wd _ _ _ _ _ _ 38 q u hu
                  have h2 : ((wd.alloc (.cells #[.int .i64 Ls[i][j].op, .int .i64 Ls[i][j].ctor, .int .i64 Ls[i][j].n, .int .i64 Ls[i][j].m, .int .i64 Ls[i][j].var, .slice A1 Ls[i][j].kids.length c1] 38)).alloc (.cells #[] 38)).cell? ((⟨wd.heap.size, 0, none⟩ : Addr).add q) = some u := (World.cell?_of_block (a := (⟨wd.heap.size, 0, none⟩ : Addr).add q) (by rw [Addr.add_lit]; exact Below.heap_alloc _ _ wd.heap.size (by rw [World.size_alloc]; omega))).trans h
                  exact (World.cell?_of_block (a := (⟨wd.heap.size, 0, none⟩ : Addr).add q) (by rw [Addr.add_lit]; exact HG6.out.block wd.heap.size (by rw [World.size_alloc, World.size_alloc]; omega) (fun e => by have e : wd.heap.size = wd.heap.size + 1 := Option.some.inj e; omega))).trans h2
                refine Till.all (rs := [15]) (by kernel_rfl) (by decide) (List.forall_mem_cons.2 ⟨?_, fun _ h => nomatch h⟩)
                refine Till.step rfl (by rfl) ?_
                intro K hK
                refine wp_append_own (.tmp 48) (.tmp 56) 30 (by rfl) wi.heap.size 38 i0 (.agg #[.int .i64 0, .int .i64 0, .int .i64 0, .int .i64 0, .int .i64 0, .slice none 0 0]) 6 64 Tryz.underlying30 hi0 hz0 hz1 hz2 (by rfl) (by decide) (.slice A6 (ts[k].length) c6) (ts[k].length) ([] ++ xsK) (by rfl) (HO6.out) ⟨wd.heap.size, 0, none⟩ 1 1 [.int .i64 Ls[i][j].op, .int .i64 Ls[i][j].ctor, .int .i64 Ls[i][j].n, .int .i64 Ls[i][j].m, .int .i64 Ls[i][j].var, .slice A1 Ls[i][j].kids.length c1] (by rfl) rfl (fun q u hu => H14.out q u hu) (by intro u hu; simp at hu; rcases hu with rfl | rfl | rfl | rfl | rfl | rfl <;> rfl) (by unfold maxLen; omega) (by omega) (by have := HB6.out.size; omega) ?_
                intro v7 w7 hown7 hgr7 hat7
                obtain ⟨a7, c7, rfl⟩ := ownsRow_succ hown7
                have HB7 : Hid (Below wd.heap.size wd w7) := HB6.out.grown hgr7 HB6.out.size (fun q e => (HA6.out q e).1)
                have HO7 := Lib.hid hown7
                have h7l : wd.heap.size ≤ a7 := by
                  rcases hat7 with h | h
                  · exact (HA6.out a7 h.symm).1
                  · have h : a7 = (w6).heap.size := Option.some.inj h
                    rw [h]; exact HB6.out.size
                have h7s : a7 < w7.heap.size := by obtain ⟨_, _, _, h⟩ := own_form hown7; exact (h a7 rfl).2
                have hs7 := HB7.out.size
                clear hown7 hgr7 hat7
                refine hK _ _ (fun _ => HSQ.out.trans (HB7.out.mono hwid)) ?_
                clear hK K
                refine Till.all (rs := [16]) (by kernel_rfl) (by decide) (List.forall_mem_cons.2 ⟨?_, fun _ h => nomatch h⟩)
                refine Till.step rfl (by rfl) ?_
                intro K hK
                go_simp
                refine hK _ _ (fun _ => HSQ.out.trans ((HB7.out.alloc hs7 _).mono hwid)) ?_
                clear hK K
                refine Till.all (rs := [17]) (by kernel_rfl) (by decide) (List.forall_mem_cons.2 ⟨?_, fun _ h => nomatch h⟩)
                refine Till.step rfl (by rfl) ?_
                intro K hK
                refine wp_append_own (.tmp 42) (.tmp 58) 65 (by rfl) wi.heap.size 30 i1 (.slice none 0 0) 1 24 Tryz.underlying65 hi1 hy0 hy1 hy2 (by rfl) (by decide) (.slice A2 (tupK ts Ls[i] k j).length c2) (tupK ts Ls[i] k j).length ys2 (by rfl) ((own_at HO2D.out (fun b e => HB7.out.block b (by have := (HF2.out b e).2; omega))).alloc _) ⟨w7.heap.size, 0, none⟩ 1 1 [.slice (some ⟨a7, 0, none⟩) (ts[k].length + 1) c7] (by rfl) rfl (cell_one_new _ _ _) (by intro u hu; rw [List.mem_singleton.1 hu]; rfl) (by unfold maxLen; omega) (by omega) (by rw [World.size_alloc]; omega) ?_
                intro v9 w9 hown9 hgr9 hat9
                obtain ⟨A9, c9, rfl, hf9⟩ := own_form hown9
                have HB9 : Hid (Below wi.heap.size wi w9) := (HSQ.out.trans (HB7.out.mono hwid)).trans (((Below.refl wi.heap.size w7).alloc (by omega) _).grown hgr9 (by rw [World.size_alloc]; omega) (fun q e => (HF2.out q e).1))
                have HT9 : Hid (TuI (d + 1) (fun b => P0 b ∨ w.heap.size ≤ b) wi.heap.size (tupK ts Ls[i] k (j + 1)) (.slice A9 ((tupK ts Ls[i] k j).length + 1) c9) w9) := by
                  unfold Hid
                  rw [tupK_more ts Ls[i] k j hkt hjt hj4]
                  have hBI : ∀ b, ((P0 b ∨ w.heap.size ≤ b) ∧ b < wi.heap.size) → (P0 b ∨ w.heap.size ≤ b) ∧ b < w7.heap.size ∧ some b ≠ (Value.slice A2 (tupK ts Ls[i] k j).length c2).ownBlock := fun b hb => ⟨hb.1, by have := hb.2; omega, fun e => by have := (HF2.out b e.symm).1; have := hb.2; omega⟩
                  have r1 := HXR.out.keep (w' := w7) (P' := fun b => (P0 b ∨ w.heap.size ≤ b) ∧ b < w7.heap.size ∧ some b ≠ (Value.slice A2 (tupK ts Ls[i] k j).length c2).ownBlock) (fun q u hq hu => ((HSQ.out.trans (HB7.out.mono hwid)).cell hq.2).trans hu) hBI
                  have r2 := HKD.out.keep (w' := w7) (P' := fun b => (P0 b ∨ w.heap.size ≤ b) ∧ b < w7.heap.size ∧ some b ≠ (Value.slice A2 (tupK ts Ls[i] k j).length c2).ownBlock) (fun q u hq hu => ((HSQ.out.trans (HB7.out.mono hwid)).cell (by have := hB _ hq; omega)).trans ((HBI.out.cell (hB _ hq)).trans hu)) (fun b hb => hBI b ⟨.inl hb, by have := hB b hb; omega⟩)
                  have r3 := r1.app (RowQ.one (v := Ls[i][j]) (cap := c1) r2)
                  have ho7 := HO7.out
                  rw [List.nil_append, show ts[k].length + 1 = (ts[k] ++ [Ls[i][j]]).length by rw [List.length_append]; rfl] at ho7
                  obtain ⟨A', c', e', hq'⟩ := r3.reads ho7 (fun g e => by cases e; exact ⟨.inr (show w.heap.size ≤ a7 by omega), h7s, fun e => by have := (HF2.out a7 e.symm).2; omega⟩) (by rw [List.length_append]; unfold maxLen; simp; omega)
                  cases e'
                  refine TuI.push (c2 := c7) HO2D.out HR2D.out HS2.out HB7.out hq' ?_ hgr9 hat9
                  rw [show (ts[k] ++ [Ls[i][j]]).length = ts[k].length + 1 by rw [List.length_append]; rfl]
                  exact hown9
                clear hown9 hgr9 hat9 hf9
                refine hK _ _ (fun _ => HB9.out) ?_
                clear hK K
                refine Till.all (rs := [18]) (by kernel_rfl) (by decide) (List.forall_mem_cons.2 ⟨?_, fun _ h => nomatch h⟩)
                refine Till.step rfl (by rfl) ?_
                intro K hK
                go_simp
                refine hK _ _ (fun _ => HB9.out) ?_
                clear hK K
                refine Till.done (by kernel_rfl) ?_ _
                go_wp2_with fail
                go_roundw
                case rel => exact ⟨j + 1, by omega, by go_num, HT9, HB9⟩
                case measure => simp [intOf]; omega
            · have HE : Hid (tupK ts Ls[i] k j = tupK ts Ls[i] (k + 1) 0) := by
                by_cases h4 : 400 < (tupK ts Ls[i] k j).length
                · exact (tupK_full ts Ls[i] k j (k + 1) 0 hkt (.inl (by omega)) h4).symm
                · have : j = Ls[i].length := by omega
                  subst this
                  exact tupK_next ts Ls[i] k hkt
              by_cases hjt : j < Ls[i].length
              · have hjI : (j : Int) < (Ls[i].length : Int) := by omega
                have hj4I : ¬ ((tupK ts Ls[i] k j).length : Int) ≤ 400 := by omega
                go_wp2_with fail
                go_roundw
                case rel => exact ⟨k + 1, by omega, by go_num, by rw [← HE.out]; exact HJ, HBJ⟩
                case measure => simp [intOf]; omega
              · have hjI : ¬ (j : Int) < (Ls[i].length : Int) := by omega
                go_wp2_with fail
                go_roundw
                case rel => exact ⟨k + 1, by omega, by go_num, by rw [← HE.out]; exact HJ, HBJ⟩
                case measure => simp [intOf]; omega
        · have HE : Hid (tupK ts Ls[i] k 0 = tupG (Ls.take (i + 1))) := by
            unfold Hid
            rw [HTG.out, ← tupK_end]
            by_cases h4 : 400 < (tupK ts Ls[i] k 0).length
            · by_cases e : k < ts.length
              · exact (tupK_full ts Ls[i] k 0 ts.length 0 e (.inl e) h4).symm
              · have : k = ts.length := by omega
                rw [this]
            · have : k = ts.length := by omega
              rw [this]
          have HT2 : Hid (TuI (d + 1) (fun b => P0 b ∨ w.heap.size ≤ b) w.heap.size (tupG (Ls.take (i + 1))) (.slice A1 (tupK ts Ls[i] k 0).length c1) wr) := by
            unfold Hid; rw [← HE.out]; exact HK.out.low hwr (Below.refl _ _)
          have HB2 : Hid (Below w.heap.size w wr) := HBI.out.trans (HBK.out.mono hwr)
          by_cases hkt : k < ts.length
          · have hkI : (k : Int) < (ts.length : Int) := by omega
            have hk4I : ¬ ((tupK ts Ls[i] k 0).length : Int) ≤ 400 := by omega
            go_wp2_with fail
            go_roundw
            case rel => exact ⟨i + 1, by omega, by go_num, HT2, HB2⟩
            case measure => simp [intOf]; omega
          · have hkI : ¬ (k : Int) < (ts.length : Int) := by omega
            go_wp2_with fail
            go_roundw
            case rel => exact ⟨i + 1, by omega, by go_num, HT2, HB2⟩
            case measure => simp [intOf]; omega
    · have hiI : ¬ (i : Int) < (Ls.length : Int) := by omega
      have HE : Hid (tupG (Ls.take i) = tupG Ls) := by unfold Hid; rw [List.take_of_length_le (by omega)]
      go_wp2_with fail
      go_ret
      exact ⟨_, rfl, by rw [← HE.out]; exact HT.out, HB.out⟩
end Go.Proofs.YtbdiahnelnbdnaaGreat
/-
  firstChoices of the program at every pattern. No statement is proved here.
-/
namespace Go.Proofs.YtbdiahnelnbdnaaGreat
open Go.RowKit
set_option linter.unusedVariables false
theorem fc_of (d : Nat) (ih : ∀ d', d = d' + 1 → FcC d') : FcC d := fun B D ep p w hok hp hB hN => by
  by_cases h5 : p.op = 5
  · exact fc_or d ih B D ep p w hok hp hB hN h5
  · exact fc_not d ih B D ep p w hok hp hB hN h5
theorem fc_any : ∀ d, FcC d
  | 0 => fc_of 0 (fun _ h => by omega)
  | d + 1 => fc_of (d + 1) (fun d' h => (Nat.succ.inj h) ▸ fc_any d)
end Go.Proofs.YtbdiahnelnbdnaaGreat
