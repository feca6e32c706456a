/-
  Pt trees copied into blocks of their own: no part has a block of another part. No statement is proved here.
-/
import Derived.Test.YtbdiahnelnbdnaaGreatW01
import Derived.Test.YtbdiahnelnbdnaaGreatW00
import Derived.Test.YtbdiahnelnbdnaaGreatW04
import Derived.Test.YtbdiahnelnbdnaaGreatW03
import Derived.RangeFuncCalls
import Derived.Shelf.Abstract
import Derived.Shelf.RegionOpen
import Derived.WalkKit
import Derived.OwnWalkIn
import Derived.TacticsInMore
import Derived.LoopNIn
import Derived.LoopIn
import Derived.OrdersHeld
import Derived.Deep.RegionHeld3
import Derived.Lib.SmallJoins
import Derived.Deep.RegionWith
import Derived.Lib.QuietBelow
import Derived.IntWalk
namespace Go.Proofs.YtbdiahnelnbdnaaGreat
open Go.RowKit
set_option maxRecDepth 100000
set_option linter.unusedVariables false
theorem infoOP : (Tryz.prog.info? 38).map (fun i => (i.zero, i.size, i.bytes)) = some (some (.agg #[.int .i64 0, .int .i64 0, .int .i64 0, .int .i64 0, .int .i64 0, .slice none 0 0]), 6, 64) := by kernel_rfl
def ToPO (d : Nat) : Prop := ∀ (A : Option Addr) (l : List Pt) (cap : Nat) (w : World), RPs d w w.heap.size A l → wPs l ≤ 1048576 →
  Calls Tryz.prog 24 #[.slice A l.length cap] w fun e w' => ∃ A2, e = .returned (.slice A2 l.length l.length) ∧ OPs (d + 1) w' (Nw w w') A2 l ∧ Below w.heap.size w w'
theorem toPO_of {d : Nat} (ih : ToPO d) (A : Option Addr) (l : List Pt) (cap : Nat) (x0 x1 x2 x3 x4 : Int) (w : World) (hr : RPs d w w.heap.size A l) (hn : wPs l ≤ 1048576) :
    Calls Tryz.prog 9 #[.agg #[.int .i64 x0, .int .i64 x1, .int .i64 x2, .int .i64 x3, .int .i64 x4, .slice A l.length cap]] w fun e w' => ∃ A2, e = .returned (.agg #[.int .i64 x0, .int .i64 x1, .int .i64 x2, .int .i64 x3, .int .i64 x4, .slice A2 l.length l.length]) ∧ OPs (d + 1) w' (Nw w w') A2 l ∧ Below w.heap.size w w' := by
  have Hr := Lib.hid hr
  have IH := Lib.hid ih
  clear hr ih
  go_enter Tryz.func9, Tryz.ntmps9
  go_wp2_with (go_at_call 24; refine (IH.out _ _ _ _ (by exact Hr.out.keep (fun p hp => by rw [World.cell?_alloc_lt _ _ _ (by simp <;> omega), World.cell?_alloc_lt _ _ _ (by simp <;> omega), World.cell?_alloc_lt _ _ _ hp]) (by simp <;> omega)) hn).mono ?_; rintro e w1 ⟨A2, rfl, hf, hb⟩; obtain ⟨hc, hfz⟩ := bcell hb; have hz : w.heap.size + 2 < w1.heap.size := by have := hb.size; simp at this; omega)
  refine bodyPost_ret (v := .agg #[.int .i64 x0, .int .i64 x1, .int .i64 x2, .int .i64 x3, .int .i64 x4, .slice A2 l.length l.length]) (by simp [results, Tryz.results9, go_sem, hc]) rfl ⟨A2, rfl, ?_, ?_⟩
  · refine (hf.fr _ (P' := fun b => b < w.heap.size + 3) ?_ (fun b hq => by have := hq.1; simp only [World.size_alloc] at this; omega)).wide _ (fun b hq => ⟨by have := hq.1; simp only [World.size_alloc] at this; omega, by have h2 := hq.2; simpa [World.setCell] using h2⟩)
    refine Fr.trans ?_ (Fr.set _ _ _ _ (by simp <;> omega))
    refine Fr.trans ?_ (Fr.set _ _ _ _ (by simp <;> omega))
    refine Fr.trans ?_ (Fr.set _ _ _ _ (by simp <;> omega))
    refine Fr.trans ?_ (Fr.set _ _ _ _ (by simp <;> omega))
    refine Fr.trans ?_ (Fr.set _ _ _ _ (by simp <;> omega))
    refine Fr.trans ?_ (Fr.set _ _ _ _ (by simp <;> omega))
    refine Fr.trans ?_ (Fr.set _ _ _ _ (by simp <;> omega))
    exact Fr.refl _ _
  · skip
    refine Below.setCell ?_ (by simp <;> omega) _
    refine Below.setCell ?_ (by simp <;> omega) _
    refine Below.setCell ?_ (by simp <;> omega) _
    refine Below.setCell ?_ (by simp <;> omega) _
    refine Below.setCell ?_ (by simp <;> omega) _
    refine Below.setCell ?_ (by simp <;> omega) _
    refine Below.setCell ?_ (by simp <;> omega) _
    refine Below.trans ?_ (hb.mono (by simp <;> omega))
    refine Below.alloc (Below.alloc (Below.alloc (Below.refl _ _) ?_ _) ?_ _) ?_ _ <;> simp <;> omega
set_option maxHeartbeats 1600000 in
theorem toPOs_of (d : Nat) (ih : ∀ d', d = d' + 1 → ToPO d') : ToPO d := by
  intro A l cap w hr hn
  obtain ⟨i0, hi, hz0, hz1, hz2⟩ := info_parts infoOP
  have Hr := Lib.hid hr
  have IH := Lib.hid ih
  have HSum := Lib.hid (wPs_sum l)
  have hl : l.length ≤ 1048576 := by have := wPs_sum l; omega
  clear hr ih
  go_enter Tryz.func24, Tryz.ntmps24
  go_wp2_with (at_make; refine wpList_make_full _ rfl _ _ 30 rfl w.heap.size 38 i0 _ 6 Tryz.underlying30 hi hz0 hz1 _ _ _ _ l.length rfl rfl rfl rfl (by rw [hz2]; omega) (by unfold maxLen; omega) (Nat.le_refl _) ?_; intro w1 hown hgr)
  go_loopw [4] (fun i wr => ∃ k : Nat, k ≤ l.length ∧ i = .int .i64 k ∧ ∃ xs Q, wr.ownsRow w.heap.size 38 6 (.slice (some ⟨w.heap.size, 0, none⟩) l.length l.length) l.length xs ∧ RowP d wr w.heap.size (some w.heap.size) Q l xs k ∧ Below w.heap.size w wr) (fun i _ => l.length - (intOf i).toNat)
  case atStart => exact ⟨0, by omega, rfl, _, fun _ _ => False, hown, RowP.zero _ _ _ _ _ _ _, below_of_grown hgr (Nat.le_refl _)⟩
  case round =>
    obtain ⟨k, hk, rfl, xs, Q, hown, hrow, hb⟩ := hrel
    clear hgr hi hz0 hz1 hz2
    by_cases hlt : k < l.length
    · obtain ⟨b, off, rfl, hbB, hv⟩ := (Hr.out.below hb (Nat.le_refl _)).2 k hlt
      obtain ⟨d', hd, A', cp, c0, c1, c2, c3, c4, c5, hm⟩ := hv.parts
      have ha : wPs l[k].kids ≤ 1048576 := by
        have h1 := sum_take_succ wP l k hlt
        have h2 := sum_take_le wP l (k + 1)
        have h3 := wP_kids l[k]
        have h4 := HSum.out
        omega
      have IHd := Lib.hid (IH.out d' hd)
      have Hm := Lib.hid (hm.keep (fun _ _ => rfl) hb.size)
      have HD := Lib.hid hd
      have hwl : w.heap.size < wr.heap.size := own_lt hown
      have HROW := Lib.hid hrow
      clear hm hv hd hrow
      go_wp2_with (go_at_call 9; refine (toPO_of IHd.out _ _ _ _ _ _ _ _ _ Hm.out ha).mono ?_; rintro e w2 ⟨A2, rfl, hf, hb2⟩; have hown2 := own_below hown hb2; obtain ⟨v0, f0⟩ := own_cell hown2 (k * 6) (by omega); obtain ⟨v1, f1⟩ := own_cell hown2 (k * 6 + 1) (by omega); obtain ⟨v2, f2⟩ := own_cell hown2 (k * 6 + 2) (by omega); obtain ⟨v3, f3⟩ := own_cell hown2 (k * 6 + 3) (by omega); obtain ⟨v4, f4⟩ := own_cell hown2 (k * 6 + 4) (by omega); obtain ⟨v5, f5⟩ := own_cell hown2 (k * 6 + 5) (by omega); have g0 := hown2.frozenAt (k * 6); have g1 := hown2.frozenAt (k * 6 + 1); have g2 := hown2.frozenAt (k * 6 + 2); have g3 := hown2.frozenAt (k * 6 + 3); have g4 := hown2.frozenAt (k * 6 + 4); have g5 := hown2.frozenAt (k * 6 + 5); skip)
      have hx := hown2.1
      have s1 := (hown2.stored (k * 6) (.int .i64 l[k].op)).1
      have s2 := (s1.stored (k * 6 + 1) (.int .i64 l[k].ctor)).1
      have s3 := (s2.stored (k * 6 + 2) (.int .i64 l[k].n)).1
      have s4 := (s3.stored (k * 6 + 3) (.int .i64 l[k].m)).1
      have s5 := (s4.stored (k * 6 + 4) (.int .i64 l[k].var)).1
      have s6 := (s5.stored (k * 6 + 5) (.slice A2 l[k].kids.length l[k].kids.length)).1
      have hf2 : OPs d w2 (Nw wr w2) A2 l[k].kids := by rw [HD.out]; exact hf
      have hrow2 := HROW.out.more (xs' := ((((((xs.set (k * 6) (.int .i64 l[k].op)).set (k * 6 + 1) (.int .i64 l[k].ctor)).set (k * 6 + 2) (.int .i64 l[k].n)).set (k * 6 + 3) (.int .i64 l[k].m)).set (k * 6 + 4) (.int .i64 l[k].var)).set (k * 6 + 5) (.slice A2 l[k].kids.length l[k].kids.length))) hb2 hlt (by omega) (fun g e => by injection e with e; omega) hf2 (fun j c hj hc => by rw [List.getElem?_set_ne (by omega), List.getElem?_set_ne (by omega), List.getElem?_set_ne (by omega), List.getElem?_set_ne (by omega), List.getElem?_set_ne (by omega), List.getElem?_set_ne (by omega)]) (by rw [List.getElem?_set_ne (by omega), List.getElem?_set_ne (by omega), List.getElem?_set_ne (by omega), List.getElem?_set_ne (by omega), List.getElem?_set_ne (by omega), List.getElem?_set_self (by first | omega | (simp <;> omega))]) (by rw [List.getElem?_set_ne (by omega), List.getElem?_set_ne (by omega), List.getElem?_set_ne (by omega), List.getElem?_set_ne (by omega), List.getElem?_set_self (by first | omega | (simp <;> omega))]) (by rw [List.getElem?_set_ne (by omega), List.getElem?_set_ne (by omega), List.getElem?_set_ne (by omega), List.getElem?_set_self (by first | omega | (simp <;> omega))]) (by rw [List.getElem?_set_ne (by omega), List.getElem?_set_ne (by omega), List.getElem?_set_self (by first | omega | (simp <;> omega))]) (by rw [List.getElem?_set_ne (by omega), List.getElem?_set_self (by first | omega | (simp <;> omega))]) (by rw [List.getElem?_set_self (by first | omega | (simp <;> omega))])
      have hrow3 := hrow2.fr (w' := ((((((w2.setCell ⟨w.heap.size, k * 6, none⟩ (.int .i64 l[k].op)).setCell ⟨w.heap.size, k * 6 + 1, none⟩ (.int .i64 l[k].ctor)).setCell ⟨w.heap.size, k * 6 + 2, none⟩ (.int .i64 l[k].n)).setCell ⟨w.heap.size, k * 6 + 3, none⟩ (.int .i64 l[k].m)).setCell ⟨w.heap.size, k * 6 + 4, none⟩ (.int .i64 l[k].var)).setCell ⟨w.heap.size, k * 6 + 5, none⟩ (.slice A2 l[k].kids.length l[k].kids.length))) (P' := fun b => b = w.heap.size) ((((((Fr.set (P := fun b => b = w.heap.size) _ _ _ _ rfl).trans (Fr.set (P := fun b => b = w.heap.size) _ _ _ _ rfl)).trans (Fr.set (P := fun b => b = w.heap.size) _ _ _ _ rfl)).trans (Fr.set (P := fun b => b = w.heap.size) _ _ _ _ rfl)).trans (Fr.set (P := fun b => b = w.heap.size) _ _ _ _ rfl)).trans (Fr.set (P := fun b => b = w.heap.size) _ _ _ _ rfl)) (fun b _ hb' _ e => hb' (by rw [e]))
      go_roundw
      case rel => exact ⟨k + 1, by omega, by go_num, _, _, s6, hrow3, ((((((hb.trans (hb2.mono hb.size)).setCell (Nat.le_refl _) _).setCell (Nat.le_refl _) _).setCell (Nat.le_refl _) _).setCell (Nat.le_refl _) _).setCell (Nat.le_refl _) _).setCell (Nat.le_refl _) _⟩
      case measure => simp [intOf]; omega
    · go_wp2_with fail
      go_ret
      have he : k = l.length := by omega
      obtain ⟨A2, c2, e2, ho⟩ := OPs.of_row hown (he ▸ hrow) hl
      injection e2 with e3 e4 e5
      subst e3
      exact ⟨_, rfl, ho, hb⟩
theorem toPOs_any : ∀ d, ToPO d
  | 0 => toPOs_of 0 (fun _ h => by omega)
  | d + 1 => toPOs_of (d + 1) (fun d' h => (Nat.succ.inj h) ▸ toPOs_any d)
theorem toPO_any (d : Nat) (A : Option Addr) (l : List Pt) (cap : Nat) (x0 x1 x2 x3 x4 : Int) (w : World) (hr : RPs d w w.heap.size A l) (hn : wPs l ≤ 1048576) :
    Calls Tryz.prog 9 #[.agg #[.int .i64 x0, .int .i64 x1, .int .i64 x2, .int .i64 x3, .int .i64 x4, .slice A l.length cap]] w fun e w' => ∃ A2, e = .returned (.agg #[.int .i64 x0, .int .i64 x1, .int .i64 x2, .int .i64 x3, .int .i64 x4, .slice A2 l.length l.length]) ∧ OPs (d + 1) w' (Nw w w') A2 l ∧ Below w.heap.size w w' := toPO_of (toPOs_any d) A l cap x0 x1 x2 x3 x4 w hr hn
end Go.Proofs.YtbdiahnelnbdnaaGreat
/-
  products of the program: the function that it returns; no list at all. No statement is proved here.
-/
namespace Go.Proofs.YtbdiahnelnbdnaaGreat
open Go.RowKit Go.Sort Go.Deep Go.Shelf
set_option maxRecDepth 100000
set_option linter.unusedVariables false
attribute [local go_sem] Oper.semAt_some
structure Yx where
  A : Option Addr
  cap : Nat
  l : List Pt
def encY (x : Yx) : Array Value := #[.slice x.A x.l.length x.cap]
/-- What is handed over. -/
def GdP (X : World → Nat → Prop) (K d : Nat) (Pin : Nat → Prop) (n₀ : Nat) (Ls : List (List Pt)) (pre : List Yx) (x : Yx) (W : World) : Prop :=
  K ≤ W.heap.size ∧ pre.map Yx.l ++ [x.l] <+: prods Ls ∧ ∃ xs, W.ownsRow n₀ 38 6 (.slice x.A x.l.length x.cap) x.l.length xs ∧ (∀ g, (Value.slice x.A x.l.length x.cap).ownBlock = some g → ¬ X W g) ∧ RowQ d W Pin x.l xs
def YldP (X : World → Nat → Prop) (K d : Nat) (Pin : Nat → Prop) (n₀ : Nat) (Ls : List (List Pt)) (l B : Nat) (J Jx : List Yx → World → Prop) : Prop := ∀ m pre x W1, J pre W1 → GdP X K d Pin n₀ Ls pre x W1 → YieldAt Fence.wide m Tryz.prog l (encY x) W1 fun e W' =>
  (e = .returned (.bool true) ∧ J (pre ++ [x]) W' ∧ KpX X B W1 W') ∨ (e = .returned (.bool false) ∧ KeepsFrom B W1 W' ∧ Jx (pre ++ [x]) W')
/-- What the function that products returns does with whatever body. -/
def PrIn (X : World → Nat → Prop) (K d : Nat) (Pin : Nat → Prop) (n₀ : Nat) (Ls : List (List Pt)) : Prop := ∀ (bl be : Nat) (A : Option Addr) (cap l : Nat) (J Jx : List Yx → World → Prop) (W : World) (m : Nat),
  Boxed W bl 65 (.slice A Ls.length cap) → ¬ X W bl → Boxed W be 91 (.func (.func 51) #[] #[]) → ¬ X W be → (∀ b, Pin b → b < W.heap.size ∧ ¬ X W b) → LsQ (d + 1) W Pin A Ls → Ls.length ≤ cap → cap ≤ maxLen → Ls.length ≤ 1000 → (∀ b, X W b → b < W.heap.size) → K ≤ W.heap.size → n₀ ≤ W.heap.size → OwnFrom W.heap.size J → OwnFrom W.heap.size Jx →
  YldP X K d Pin n₀ Ls l W.heap.size J Jx → J [] W →
  CallsIn Fence.wide m Tryz.prog 52 #[.func (.yield l) #[] #[], .pointer (some ⟨bl, 0, none⟩), .pointer (some ⟨be, 0, none⟩)] W fun e W' => (∃ v, e = .returned v) ∧ ((∃ xs, xs.map Yx.l = prods Ls ∧ J xs W') ∨ ∃ pre, Jx pre W')
def mark (D : Nat) : Deferred := { target := .collected D, args := #[] }
/-- The marks of loops that have ended, one after the other. -/
theorem leaves_marks {F : Fence} {n : Nat} {P : Program} {fn : Func} {tmps : Array Value} {R : Ending → World → Prop} {v : Value} {T : World → Prop} {B : Nat} (hT : OwnFrom B (fun (_ : Unit) W => T W)) (hr : ∀ w, Sem.run P (results fn tmps) w = Result.ok v w) (hR : ∀ w, T w → R (.returned v) w) :
    ∀ (ds : List Nat) (w : World), ds.Nodup → (∀ D ∈ ds, B ≤ D ∧ w.heap[D]? = some (.deferred (some []))) → T w → LeavesInM F n P fn tmps R (ds.map mark) .returning w
  | [], w, _, _, h => ⟨v, hr w, hR w h⟩
  | D :: ds, w, hn, hd, h => by
    obtain ⟨h1, h2⟩ := hd D (List.mem_cons_self ..)
    refine ⟨by simp, .inl ⟨D, _, rfl, run_takeDeferred h2, leaves_marks hT hr hR ds _ (List.nodup_cons.1 hn).2 (fun E hE => ?_) (hT.putObj (s := ()) _ h h1 h2 rfl)⟩⟩
    have := hd E (List.mem_cons_of_mem _ hE)
    exact ⟨this.1, (World.putObj_heap_other (fun e => (List.nodup_cons.1 hn).1 (by first | (rw [← e]; exact hE) | (rw [e]; exact hE)))).trans this.2⟩
theorem own_mono {β : Type} {B B' : Nat} {J : β → World → Prop} (h : OwnFrom B J) (hB : B ≤ B') : OwnFrom B' J := fun s W W' row hs hg hr => h s W W' row hs hg (fun r e => ⟨by have := (hr r e).1; omega, (hr r e).2⟩)
theorem ownF_below {β : Type} {B : Nat} {J : β → World → Prop} {s : β} {W W' : World} (h : OwnFrom B J) (hs : J s W) (hb : Below W.heap.size W W') : J s W' := h s W W' none hs ⟨hb.os, hb.tape, hb.output, hb.size, fun k hk _ => hb.block k hk⟩ (fun _ e => by cases e)
theorem grown_of_below {W W' : World} (hb : Below W.heap.size W W') : W.grownBy W' none := ⟨hb.os, hb.tape, hb.output, hb.size, fun k hk _ => hb.block k hk⟩
theorem row_kept {W W' : World} {row : Option Nat} {base : Nat} {e : TypeId} {size k : Nat} {v : Value} {xs : List Value} (hr : W.ownsRow base e size v k xs) (hg : W.grownBy W' row) (hrow : ∀ r, row = some r → ∃ o : Obj, W.heap[r]? = some o ∧ o.isCells = false) : W'.ownsRow base e size v k xs := by
  refine hr.kept hg ?_
  rcases hr.2 with ⟨rfl, _⟩ | ⟨g, cap, cur, rfl, _, hgb, _⟩
  · exact .inl rfl
  · refine .inr fun e' => ?_
    obtain ⟨o, ho, hc⟩ := hrow g (by simpa [Value.ownBlock] using e'.symm)
    rw [hgb] at ho; cases ho; cases hc
theorem gdP_own {X : World → Nat → Prop} {K d B : Nat} {Pin : Nat → Prop} {n₀ : Nat} {Ls : List (List Pt)} (hOX : OwnX X K) (hK : K ≤ B) (pre : List Yx) (x : Yx) : OwnFrom B (fun (_ : Unit) W => GdP X K d Pin n₀ Ls pre x W) := fun _ V W row h hg hr => by
  obtain ⟨h1, h2, xs, h3, h4, h5⟩ := h
  exact ⟨Nat.le_trans h1 hg.size, h2, xs, row_kept h3 hg (fun r e => (hr r e).2), fun g e hx => h4 g e (hOX V W row h1 hg (fun r e => ⟨by have := (hr r e).1; omega, (hr r e).2⟩) g hx), h5.keep (fun p v _ hv => cell_kept hv hg (fun r e => (hr r e).2)) (fun _ h => h)⟩
/-- What a slice holds, as an append reads it. -/
theorem own_news {W : World} {base : Nat} {e : TypeId} {size n c : Nat} {A : Option Addr} {xs : List Value} (h : W.ownsRow base e size (.slice A n c) n xs) : (A = none → n = 0 ∧ c = 0) ∧ (∀ ad, A = some ad → ∀ j u, xs[j]? = some u → W.cell? (ad.add j) = some u) ∧ xs.length = n * size := by
  refine ⟨fun e => ?_, fun ad e j u hu => ?_, h.1⟩
  · rcases h.2 with ⟨h', h0⟩ | ⟨g, cap, cur, h', _⟩
    · cases h'; exact ⟨h0, rfl⟩
    · rw [e] at h'; cases h'
  · rcases h.2 with ⟨h', h0⟩ | ⟨g, cap, cur, h', hb, hgb, hnc, hcm, hcs, htake⟩
    · rw [e] at h'; cases h'
    · rw [e] at h'; cases h'
      rw [← htake] at hu
      obtain ⟨hj, _⟩ := List.getElem?_eq_some_iff.1 hu
      rw [List.length_take] at hj
      rw [List.getElem?_take_of_lt (by omega), Array.getElem?_toList] at hu
      rw [Addr.add_lit, Nat.zero_add, cell_of_blk hgb]; exact hu
theorem RowQ.cells {d : Nat} {w : World} {P : Nat → Prop} {l : List Pt} {xs : List Value} (h : RowQ d w P l xs) : ∀ u ∈ xs, u.oneCell' = true := fun u hu => by
  obtain ⟨i, hi, e⟩ := List.getElem_of_mem hu
  have hl := h.1
  obtain ⟨q, r, hq, hlt, rfl⟩ : ∃ q r, q < l.length ∧ r < 6 ∧ i = q * 6 + r := ⟨i / 6, i % 6, by omega, by omega, by omega⟩
  obtain ⟨A', cap, e0, e1, e2, e3, e4, e5, _⟩ := h.2 q hq
  have hu2 : xs[q * 6 + r]? = some u := by rw [List.getElem?_eq_getElem hi, e]
  clear hi e
  match r, hlt with
  | 0, _ => rw [Nat.add_zero] at hu2; rw [e0] at hu2; cases hu2; rfl
  | 1, _ => rw [e1] at hu2; cases hu2; rfl
  | 2, _ => rw [e2] at hu2; cases hu2; rfl
  | 3, _ => rw [e3] at hu2; cases hu2; rfl
  | 4, _ => rw [e4] at hu2; cases hu2; rfl
  | 5, _ => rw [e5] at hu2; cases hu2; rfl
set_option maxHeartbeats 4000000 in
theorem pr_nil (X : World → Nat → Prop) (K d : Nat) (Pin : Nat → Prop) (n₀ : Nat) : PrIn X K d Pin n₀ [] := by
  intro bl be A cap l J Jx W m hbl hxl hbe hxe hPin hLs hc hcm hk hX hK hn hJ hJx hY h0
  have hw1 : ∃ w1, w1 = W.alloc (.cells #[.func (.yield l) #[] #[]] 91) := ⟨_, rfl⟩
  obtain ⟨w1, e1⟩ := hw1
  have hJ1 : J [] w1 := by rw [e1]; exact hJ.alloc _ h0
  obtain ⟨fn, tmps, assign, body, hy, hR⟩ := hY (m - 1) [] ⟨none, 0, []⟩ w1 hJ1 ⟨by rw [e1]; simp; omega, by rw [prods]; exact List.prefix_refl _, [], World.ownsRow_nil _ _ _ _, (fun g h => by cases h), RowQ.nil _ _ _⟩
  dsimp only [encY, List.length_nil] at hy
  have hb := (hbl.alloc (.cells #[.func (.yield l) #[] #[]] 91)).cell
  have HJ := Lib.hid hJ
  have HJx := Lib.hid hJx
  have hd : ∀ k : Nat, (Fence.wide.depth.isSome = true → 1 ≤ k) := fun k h => by simp [Fence.wide] at h
  subst e1
  clear hbl hxl hbe hxe hPin hLs hc hcm hk hX hJ hJx hY h0 hJ1
  refine callsIn_of_wp_marks Tryz.func52 rfl trivial ?_ rfl
  simp only [Tryz.ntmps52, List.size_toArray, List.length_cons, List.length_nil, Nat.reduceAdd, Nat.reduceSub, Array.replicate_succ, Array.replicate_zero, List.push_toArray, List.append_toArray, List.nil_append, List.cons_append]
  gi_wp2
  refine ⟨hd _, ?_⟩
  refine hR.mono ?_
  rintro e W1 (⟨rfl, hJ1, _⟩ | ⟨rfl, _, hx1⟩)
  · gi_wp2
    exact ⟨_, results_none rfl _ _ _, ⟨_, rfl⟩, .inl ⟨_, by rw [prods]; rfl, hJ1⟩⟩
  · gi_wp2
    exact ⟨_, results_none rfl _ _ _, ⟨_, rfl⟩, .inr ⟨_, hx1⟩⟩
end Go.Proofs.YtbdiahnelnbdnaaGreat
/-
  A region whose last operation waits for all others: a condition on the world that holds until that one comes up. No statement is proved here.
-/
namespace Go.Proofs.YtbdiahnelnbdnaaGreat
open Go
set_option linter.unusedVariables false
section
variable {P : Program} {ops : Array Oper} {Q : Exit → Act → World → Prop} {md : Region.Mode} {S : World → Prop} {z : Nat}
/-- Whatever comes up next, the condition holds behind it, unless it is number z; and so on. -/
def Till (P : Program) (md : Region.Mode) (ops : Array Oper) (Q : Exit → Act → World → Prop) (S : World → Prop) (z : Nat) : Nat → Array Bool → Act → World → Prop
  | 0, ls, a, w => Region.ready md ops ls = [] ∧ Q .normal a w
  | n + 1, ls, a, w => (Region.ready md ops ls = [] → Q .normal a w) ∧ ∀ i ∈ Region.ready md ops ls, wpOp P ops Q i (fun b v => (i ≠ z → S v) ∧ Till P md ops Q S z n (ls.setIfInBounds i true) b v) a w
theorem Till.any : ∀ (n : Nat) (ls : Array Bool) (a : Act) (w : World), Till P md ops Q S z n ls a w → wpAny P md ops Q n ls a w
  | 0, _, _, _, h => h
  | n + 1, ls, a, w, h => ⟨h.1, fun i hi => wpOp_mono (fun b v hv => Till.any n _ b v hv.2) (h.2 i hi)⟩
/-- Does number z wait for number i? -/
def waitB (md : Region.Mode) (ops : Array Oper) (z i : Nat) : Bool := match ops[z]? with
  | some o => o.after.any fun e => Region.binds md e && e.on == i
  | none => true
theorem wait_not {i : Nat} {ls : Array Bool} (h : waitB md ops z i = true) (hi : i ∈ Region.ready md ops ls) : ¬ z ∈ Region.ready md ops ls := fun hz => by
  obtain ⟨_, o, ho, hall⟩ := mem_ready.1 hz
  obtain ⟨hun, oi, hoi, _⟩ := mem_ready.1 hi
  unfold waitB at h
  rw [ho] at h
  simp only at h
  obtain ⟨e, he, hb⟩ := Array.any_eq_true'.1 h
  simp only [Bool.and_eq_true, beq_iff_eq] at hb
  have h1 := hall e he hb.1
  rw [hb.2] at h1
  rcases Nat.lt_or_ge i ls.size with hlt | hge
  · simp [hlt] at hun h1; rw [hun] at h1; cases h1
  · simp [Array.getElem?_eq_none hge] at h1
theorem Till.first {i : Nat} {oi : Oper} {v : Value} (hi : ops[i]? = some oi) (hs : Region.noSelect ops = true) (hQ : ∀ c a w, Q (.panic c) (a.put oi.dst v) w → Q (.panic c) a w) (hw : waitB md ops z i = true) :
    ∀ (n : Nat) (ls : Array Bool) (a : Act) (w : World), (∀ j oj, ops[j]? = some oj → j ≠ i → ls.getD j true = false → (∀ e ∈ oj.after, Region.binds md e = true → e.on ≠ i) → oi.apart ops oj = true) →
      i ∈ Region.ready md ops ls → i ≠ z → YieldsIf P ops S oi v a → S w → Till P md ops Q S z n (ls.setIfInBounds i true) (a.put oi.dst v) w → Till P md ops Q S z (n + 1) ls a w := by
  intro n
  have hsel := Region.noSelect_spec hs
  induction n with
  | zero =>
    intro ls a w _ hr hz hy hS H
    refine ⟨fun h => (by rw [h] at hr; cases hr), fun j hj => ?_⟩
    by_cases e : j = i
    · subst e; exact hy.wpOp hi hS ⟨fun _ => hS, H⟩
    · have := ready_mono hj e
      rw [H.1] at this
      cases this
  | succ n ih =>
    intro ls a w hfree hr hz hy hS H
    refine ⟨fun h => (by rw [h] at hr; cases hr), fun j hj => ?_⟩
    by_cases e : j = i
    · subst e; exact hy.wpOp hi hS ⟨fun _ => hS, H⟩
    · have hjz : j ≠ z := fun ez => wait_not hw hr (ez ▸ hj)
      have h1 := H.2 j (ready_mono hj e)
      obtain ⟨hun, oj, hoj, hall⟩ := mem_ready.1 hj
      have hno : ∀ d ∈ oj.after, Region.binds md d = true → d.on ≠ i := fun d hd hb heq => by
        have h2 := hall d hd hb
        have h3 := (mem_ready.1 hr).1
        rw [heq] at h2
        rcases Nat.lt_or_ge i ls.size with hlt | hge
        · simp [hlt] at h3 h2; rw [h3] at h2; cases h2
        · simp [Array.getElem?_eq_none hge] at h2
      have h2 := wpOp_putIf hoj (hfree j oj hoj e hun hno) (fun cs b => hsel i oi cs b hi) (fun cs b => hsel j oj cs b hoj) hQ hy h1
      refine wpOp_mono (fun b v h3 => ⟨fun _ => h3.2.1 hjz, ih (ls.setIfInBounds j true) b v ?_ (ready_mono hr (Ne.symm e)) hz h3.1 (h3.2.1 hjz) ?_⟩) h2
      · intro k ok hk hki huk hnk
        refine hfree k ok hk hki ?_ hnk
        by_cases ek : j = k
        · subst ek; exact hun
        · rw [getD_set_ne true ek] at huk; exact huk
      · rw [Array.setIfInBounds_comm _ _ e]
        exact h3.2.2
theorem Till.take {i : Nat} {oi : Oper} {v : Value} {n : Nat} {ls : Array Bool} {a : Act} {w : World} (hi : ops[i]? = some oi) (hs : Region.noSelect ops = true) (hf : Region.free md ops ls i = true)
    (hr : (Region.ready md ops ls).contains i = true) (hw : (waitB md ops z i && i != z) = true) (hQ : ∀ c a w, Q (.panic c) (a.put oi.dst v) w → Q (.panic c) a w) (hS : S w) (hy : YieldsIf P ops S oi v a)
    (h : Till P md ops Q S z n (ls.setIfInBounds i true) (a.put oi.dst v) w) : Till P md ops Q S z (n + 1) ls a w := by
  rw [Bool.and_eq_true, bne_iff_ne] at hw
  exact Till.first hi hs hQ hw.1 n ls a w (Region.free_spec hi hf) (by simpa using hr) hw.2 hy hS h
theorem Till.take_ {i : Nat} {oi : Oper} {d : Option Tmp} {v : Value} {n : Nat} {ls ls' : Array Bool} {a : Act} {w : World} (hi : ops[i]? = some oi) (hd : ops[i]?.map (fun o => o.dst) = some d) (hs : Region.noSelect ops = true) (hf : Region.free md ops ls i = true)
    (hr : (Region.ready md ops ls).contains i = true) (hw : (waitB md ops z i && i != z) = true) (hQ : ∀ c a w, Q (.panic c) (a.put d v) w → Q (.panic c) a w) (hS : S w) (hy : YieldsIf P ops S oi v a) (hl : ls.setIfInBounds i true = ls')
    (h : Till P md ops Q S z n ls' (a.put d v) w) : Till P md ops Q S z (n + 1) ls a w := by
  have e : oi.dst = d := by rw [hi] at hd; injection hd
  subst e hl
  exact Till.take hi hs hf hr hw hQ hS hy h
/-- One operation comes up. -/
theorem Till.step {i : Nat} {o : Oper} {n : Nat} {ls : Array Bool} {a : Act} {w : World} (ho : ops[i]? = some o) (hw : Region.wanted o (yielded ops a.tmps) = true)
    (h : ∀ K : Act → World → Prop, (∀ b v, (i ≠ z → S v) → Till P md ops Q S z n (ls.setIfInBounds i true) b v → K b v) → o.wp P a w K Q) :
    wpOp P ops Q i (fun b v => (i ≠ z → S v) ∧ Till P md ops Q S z n (ls.setIfInBounds i true) b v) a w := by
  unfold wpOp
  simp only [ho, hw, if_true]
  exact .inl (h _ fun b v h1 h2 => ⟨h1, h2⟩)
theorem Till.all {rs : List Nat} {n : Nat} {ls : Array Bool} {a : Act} {w : World} (hr : Region.ready md ops ls = rs) (hne : rs ≠ [])
    (h : ∀ i ∈ rs, wpOp P ops Q i (fun b v => (i ≠ z → S v) ∧ Till P md ops Q S z n (ls.setIfInBounds i true) b v) a w) : Till P md ops Q S z (n + 1) ls a w :=
  ⟨fun h0 => absurd (hr ▸ h0) hne, hr ▸ h⟩
theorem Till.done {ls : Array Bool} {a : Act} {w : World} (hr : Region.ready md ops ls = []) (h : Q .normal a w) : ∀ n, Till P md ops Q S z n ls a w
  | 0 => ⟨hr, h⟩
  | _ + 1 => ⟨fun _ => h, by rw [hr]; simp⟩
theorem Till.start {id : Nat} {a : Act} {w : World} (hm : P.follows .mixedOrders = true) (h : Till P .any ops Q S z ops.size (Array.replicate ops.size false) a w.drew) : (Code.region id ops true).wp P Q a w :=
  wp_region_any hm (Till.any _ _ _ _ h)
end
end Go.Proofs.YtbdiahnelnbdnaaGreat
/-
  When a tree is a value of a type: plain mathematics. No statement is proved here.
-/
namespace Go.Proofs.YtbdiahnelnbdnaaGreat
open Go.RowKit
set_option maxRecDepth 100000
set_option linter.unusedVariables false
theorem agR_ok {l : List Da} {t : Ty} {x : Int} (h : x ∈ ctR l t) : ∀ a ∈ agR l t x, TyOK l a := by
  obtain ⟨ht, d, m, hd, h1, rfl, hm⟩ := mem_ctR h
  obtain ⟨td, ti⟩ := t
  simp only at h1
  subst h1
  rw [agR_yes h hd hm]
  intro a ha
  refine ⟨ht.1, ?_⟩
  obtain ⟨hi, hargs⟩ := ctor_parts (world_ctor ht.1 hd hm)
  have hti : 0 ≤ ti ∧ ti ≤ 3 := by
    have h2 := ht.2
    rw [argB_data (by simp only; omega)] at h2
    have := of_decide_eq_true h2
    simp only at this
    omega
  unfold argT at ha
  obtain ⟨b, hb, rfl⟩ := List.mem_map.1 ha
  have hB := hargs b hb
  by_cases hb1 : b.data = -1
  · rw [argB_int hb1] at hB
    have h0 : b.index = 0 := of_decide_eq_true hB
    rw [argOf_other (by omega), argB_int hb1]
    exact decide_eq_true h0
  · rw [argB_data hb1] at hB
    have hp := of_decide_eq_true hB
    by_cases hs : b.index = -1
    · rw [argOf_same hs]
      have h5 : ¬ (Ty.mk b.data (resI l[d].ctors[m].index ti)).data = -1 := hb1
      rw [argB_data h5]
      refine decide_eq_true ?_
      unfold resI
      simp only
      split <;> omega
    · rw [argOf_other hs, argB_data hb1]
      exact decide_eq_true (by omega)
def upto (f : Nat → Bool) : Nat → Bool
  | 0 => true
  | k + 1 => upto f k && f k
theorem upto_le {f : Nat → Bool} {k : Nat} (e : Nat) (h : upto f k = false) : upto f (k + e) = false := by
  induction e with
  | zero => exact h
  | succ e ih => show (upto f (k + e) && f (k + e)) = false; rw [ih]; rfl
theorem upto_f {f : Nat → Bool} {n k : Nat} (hk : k < n) (h : f k = false) : upto f n = false := by
  have := upto_le (f := f) (k := k + 1) (n - (k + 1)) (by show (upto f k && f k) = false; rw [h]; simp)
  rwa [show k + 1 + (n - (k + 1)) = n by omega] at this
theorem upto_t {f : Nat → Bool} {k : Nat} (h : upto f k = true) (h' : f k = true) : upto f (k + 1) = true := by
  show (upto f k && f k) = true; rw [h, h']; rfl
theorem upto_get {f : Nat → Bool} {n k : Nat} (h : upto f n = true) (hk : k < n) : f k = true := by
  by_cases e : f k = true
  · exact e
  · have := upto_f hk (by simpa using e); rw [h] at this; cases this
end Go.Proofs.YtbdiahnelnbdnaaGreat
/-
  When a tree is a pattern for a type: plain mathematics. No statement is proved here.
-/
namespace Go.Proofs.YtbdiahnelnbdnaaGreat
open Go.RowKit
set_option maxRecDepth 100000
set_option linter.unusedVariables false
instance : Inhabited Pt := ⟨.mk 0 0 0 0 0 []⟩
/-- The fields of a node are right, apart from its parts. -/
def OwnOK (l : List Da) (t : Ty) (p : Pt) : Prop :=
  ((p.op = 2 ∨ p.op = 6) → 0 ≤ p.var ∧ p.var ≤ 5) ∧ (¬ (p.op = 2 ∨ p.op = 6) → p.var = 0) ∧ (¬ p.op = 3 → p.n = 0 ∧ p.m = 0) ∧ (¬ p.op = 4 → p.ctor = 0) ∧
  (p.op = 1 ∨ p.op = 2 ∨ p.op = 5 ∨ p.op = 6 ∨ (p.op = 3 ∧ t.data = -1 ∧ 0 ≤ p.n ∧ p.n ≤ p.m ∧ p.m ≤ 9) ∨ (p.op = 4 ∧ p.ctor ∈ ctR l t))
def kidN (op : Int) : Nat := if op = 5 then 2 else if op = 6 then 1 else 0
/-- The types of the parts. -/
noncomputable def tysP (l : List Da) (t : Ty) (p : Pt) : List Ty := if p.op = 4 then agR l t p.ctor else List.replicate (kidN p.op) t
theorem kidN_le (op : Int) : kidN op ≤ 2 := by unfold kidN; split <;> (try split) <;> omega
theorem tysP_ctor {l : List Da} {t : Ty} {p : Pt} (h : p.op = 4) : tysP l t p = agR l t p.ctor := if_pos h
theorem tysP_other {l : List Da} {t : Ty} {p : Pt} (h : ¬ p.op = 4) : tysP l t p = List.replicate (kidN p.op) t := if_neg h
theorem tysP_len (l : List Da) (t : Ty) (p : Pt) : (tysP l t p).length ≤ 3 := by
  by_cases h : p.op = 4
  · rw [tysP_ctor h]; exact agR_len l t p.ctor
  · rw [tysP_other h, List.length_replicate]; have := kidN_le p.op; omega
theorem OwnOK.mem {l : List Da} {t : Ty} {p : Pt} (h : OwnOK l t p) (h4 : p.op = 4) : p.ctor ∈ ctR l t := by
  rcases h.2.2.2.2 with h | h | h | h | h | h
  · omega
  · omega
  · omega
  · omega
  · omega
  · exact h.2
theorem tysP_ok {l : List Da} {t : Ty} {p : Pt} (ht : TyOK l t) (h : OwnOK l t p) : ∀ a ∈ tysP l t p, TyOK l a := by
  intro a ha
  by_cases h4 : p.op = 4
  · rw [tysP_ctor h4] at ha; exact agR_ok (h.mem h4) a ha
  · rw [tysP_other h4] at ha; rw [List.eq_of_mem_replicate ha]; exact ht
/-- Down to d levels, the fields are right. -/
noncomputable def shP (l : List Da) : Nat → Ty → Pt → Bool
  | 0, _, _ => false
  | d + 1, t, p => dec (OwnOK l t p) && (decide (p.kids.length = (tysP l t p).length) && upto (fun i => shP l d ((tysP l t p).getD i default) (p.kids.getD i default)) (tysP l t p).length)
noncomputable def kidP (l : List Da) (d : Nat) (ats : List Ty) (ks : List Pt) (i : Nat) : Bool := shP l d (ats.getD i default) (ks.getD i default)
section
variable {l : List Da} {d : Nat} {t : Ty} {p : Pt}
theorem shP_zero : shP l 0 t p = false := rfl
theorem shP_own (h : ¬ OwnOK l t p) : shP l (d + 1) t p = false := by
  show (dec _ && _) = _; rw [dec_f h]; rfl
theorem shP_len (h : ¬ p.kids.length = (tysP l t p).length) : shP l (d + 1) t p = false := by
  show (dec _ && (decide _ && _)) = _; rw [decide_eq_false h]; simp
theorem shP_go (h : OwnOK l t p) (hl : p.kids.length = (tysP l t p).length) : shP l (d + 1) t p = upto (kidP l d (tysP l t p) p.kids) (tysP l t p).length := by
  show (dec _ && (decide _ && _)) = _; rw [dec_t h, decide_eq_true hl]; rfl
theorem kidP_at {ats : List Ty} {ks : List Pt} {i : Nat} (h : i < ats.length) (h' : i < ks.length) : kidP l d ats ks i = shP l d ats[i] ks[i] := by
  unfold kidP
  rw [List.getD_eq_getElem?_getD, List.getD_eq_getElem?_getD, List.getElem?_eq_getElem h, List.getElem?_eq_getElem h']; rfl
theorem shP_parts (h : shP l (d + 1) t p = true) : OwnOK l t p ∧ p.kids.length = (tysP l t p).length ∧ ∀ i (h : i < (tysP l t p).length) (h' : i < p.kids.length), shP l d (tysP l t p)[i] p.kids[i] = true := by
  by_cases h1 : OwnOK l t p
  · by_cases h2 : p.kids.length = (tysP l t p).length
    · rw [shP_go h1 h2] at h
      exact ⟨h1, h2, fun i hi hi' => by rw [← kidP_at hi hi']; exact upto_get h hi⟩
    · rw [shP_len h2] at h; cases h
  · rw [shP_own h1] at h; cases h
end
end Go.Proofs.YtbdiahnelnbdnaaGreat
/-
  The function FnExactTypeValid returns true for every list of data types and every type, and both read behind the call as they read before. No condition.
-/
namespace Go.Proofs.YtbdiahnelnbdnaaGreat
open Go.RowKit Go.Deep
open Go.ChangeShapes Go.WideShapes Go.ChangeAt
set_option maxRecDepth 100000
set_option linter.unusedVariables false
/-- A type in a block of its own. -/
def Bx (w : World) (b : Nat) (t : Ty) : Prop := w.cell? ⟨b, 0, none⟩ = some (.int .i64 t.data) ∧ w.cell? ⟨b, 1, none⟩ = some (.int .i64 t.index)
theorem Bx.at_ {w w' : World} {b : Nat} {t : Ty} (h : Bx w b t) (hb : Below w.heap.size w w') : Bx w' b t :=
  ⟨(hb.cell (p := ⟨b, 0, none⟩) (Go.block_lt_of_cell h.1)).trans h.1, (hb.cell (p := ⟨b, 1, none⟩) (Go.block_lt_of_cell h.2)).trans h.2⟩
theorem Bx.new (w : World) (t : Ty) (T : TypeId) : Bx (w.alloc (.cells #[.int .i64 t.data, .int .i64 t.index] T)) w.heap.size t := ⟨by simp [go_sem], by simp [go_sem]⟩
/-- An argument that is a type. -/
theorem open_ty {H : Type} {enc : TypeId × Value → H} {w : World} {spare : Nat → Bool} {held : Bool} {v : Value} {d : DataW H} {ps : List MemPlace} {b0 : Nat} {r : Reach} (hv : Value.okWide Tryz.prog w r b0 24 v) (h : DataW.Trod enc Tryz.prog w 0 spare held 24 v d ps) :
    ∃ t : Ty, v = .agg #[.int .i64 t.data, .int .i64 t.index] := by
  obtain ⟨c0, c1, y0, y1, m, rfl, rfl, rfl, hy0, hy1⟩ := Go.Joins.open_agg2 Tryz.underlying24 (by kernel_rfl) (by kernel_rfl) hv h
  obtain ⟨a, e0, _, _⟩ := DataW.trod_int Tryz.underlying3 hy0
  obtain ⟨b, e1, _, _⟩ := DataW.trod_int Tryz.underlying3 hy1
  simp only [List.cons.injEq, and_true] at e0 e1
  subst e0 e1
  exact ⟨⟨a, b⟩, rfl⟩
end Go.Proofs.YtbdiahnelnbdnaaGreat
/-
  When a tree is a value of a type: the document's function. No statement is proved here.
-/
namespace Go.Proofs.YtbdiahnelnbdnaaGreat
open Go.RowKit Go.Sort Go.Deep
set_option maxRecDepth 100000
set_option linter.unusedVariables false
theorem below_aft {w wr w' : World} {B : Nat} (h : Below B w wr) (hb : Below wr.heap.size wr w') (hB : B ≤ wr.heap.size) : Below B w w' := h.trans (hb.mono hB)
theorem below_box2 {w w0 : World} {o o' : Obj} (h : (w.alloc o).alloc o' = w0) : Below w.heap.size w w0 := by
  subst h; exact ((Below.refl _ _).alloc (Nat.le_refl _) _).alloc (by simp) _
end Go.Proofs.YtbdiahnelnbdnaaGreat
