/-
  products of the program: the function that it returns; one list more. No statement is proved here.
-/
import Derived.Test.YtbdiahnelnbdnaaGreatW05
namespace Go.Proofs.YtbdiahnelnbdnaaGreat
open Go.RowKit Go.Sort Go.Deep Go.Shelf
set_option maxRecDepth 100000
set_option linter.unusedVariables false
attribute [local go_sem] Oper.semAt_some
def upP (l0 : List Pt) (Ls : List (List Pt)) (i : Nat) : List (List Pt) := (l0.take i).flatMap fun x => (prods Ls).map (x :: ·)
theorem upP_step (l0 : List Pt) (Ls : List (List Pt)) (i : Nat) (h : i < l0.length) : upP l0 Ls (i + 1) = upP l0 Ls i ++ (prods Ls).map (l0[i] :: ·) := by
  unfold upP
  rw [← List.take_append_getElem h, List.flatMap_append]
  simp
theorem upP_all (l0 : List Pt) (Ls : List (List Pt)) : upP l0 Ls l0.length = prods (l0 :: Ls) := by unfold upP; rw [List.take_length, prods]
theorem upP_pre {l0 : List Pt} {Ls : List (List Pt)} {i : Nat} (h : i < l0.length) {q : List (List Pt)} (hq : q <+: prods Ls) : upP l0 Ls i ++ q.map (l0[i] :: ·) <+: prods (l0 :: Ls) := by
  obtain ⟨r, hr⟩ := hq
  refine ⟨r.map (l0[i] :: ·) ++ (l0.drop (i + 1)).flatMap (fun x => (prods Ls).map (x :: ·)), ?_⟩
  rw [← List.append_assoc, List.append_assoc (upP l0 Ls i), ← List.map_append, hr, ← upP_step l0 Ls i h]
  unfold upP
  rw [← List.flatMap_append, List.take_append_drop, prods]
set_option maxHeartbeats 4000000 in
theorem pr_cons {X : World → Nat → Prop} {K : Nat} (hOX : OwnX X K) (d : Nat) (Pin : Nat → Prop) (n₀ : Nat) (l0 : List Pt) (Ls : List (List Pt)) (ih : PrIn X K d Pin n₀ Ls) : PrIn X K d Pin n₀ (l0 :: Ls) := by
  intro bl be A cap l J Jx W m hbl hxl hbe hxe hPin hLs hc hcm hk hX hK hn hJ hJx hY h0
  have hlen : (l0 :: Ls).length = Ls.length + 1 := rfl
  obtain ⟨bA, off, rfl, hbA, A0, c0, hc0, hq0⟩ := hLs.2 0 (by omega)
  have hl0 := hq0.1
  unfold maxLen at hl0 hcm
  simp only [List.getElem_cons_zero, Nat.add_zero] at hc0 hq0 hl0
  have hb1 : Below W.heap.size W (W.alloc (.cells #[.func (.yield l) #[] #[]] 91)) := (Below.refl _ _).alloc (Nat.le_refl _) _
  have cl := (hbl.alloc (.cells #[.func (.yield l) #[] #[]] 91)).cell
  have ce := (hbe.alloc (.cells #[.func (.yield l) #[] #[]] 91)).cell
  have HCF := Lib.hid (containsE_any (some ⟨bA, off, none⟩) (l0 :: Ls) cap _ ((hLs.ln (fun b hb => (hPin b hb).1)).keep hb1))
  have HB3 : Hid (Boxed (W.alloc (.cells #[.func (.yield l) #[] #[]] 91)) W.heap.size 91 (.func (.yield l) #[] #[])) := Boxed.new _ _ _
  have u1 : ((Ls.length : Int) + 1 == 0) = false := ieq_f (by omega)
  have HB1 := Lib.hid hb1
  have HBL := Lib.hid hbl
  have HBE := Lib.hid hbe
  have HX := Lib.hid hX
  have HOX := Lib.hid hOX
  have HXL := Lib.hid hxl
  have HXE := Lib.hid hxe
  have HPIN := Lib.hid hPin
  have HLS := Lib.hid hLs
  have HJ := Lib.hid hJ
  have HJX := Lib.hid hJx
  have HY := Lib.hid hY
  have H0 := Lib.hid h0
  have HC0 := Lib.hid hc0
  have HQ0 := Lib.hid hq0
  have HPA := Lib.hid (hPin bA hbA)
  have HPA0 := Lib.hid hbA
  have IH := Lib.hid ih
  clear hb1 hbl hbe hX hOX hxl hxe hPin hLs hJ hJx hY h0 hc0 hq0 hbA ih
  have hd : ∀ k : Nat, (Fence.wide.depth.isSome = true → 1 ≤ k) := fun k h => by simp [Fence.wide] at h
  by_cases hm : [] ∈ l0 :: Ls
  · have HCF : Hid _ := Lib.hid (HCF.out.mono (R' := fun e w' => e = .returned (.bool true) ∧ Below (W.alloc (.cells #[.func (.yield l) #[] #[]] 91)).heap.size (W.alloc (.cells #[.func (.yield l) #[] #[]] 91)) w') (fun e w' h => by obtain ⟨⟨b, h1, h2⟩, h3⟩ := h; exact ⟨by rw [h1, h2.2 hm], h3⟩))
    have HPN := Lib.hid (prods_nil hm)
    clear hm
    refine callsIn_of_wp_marks Tryz.func52 rfl trivial ?_ rfl
    simp only [Tryz.ntmps52, List.size_toArray, List.length_cons, List.length_nil, Nat.reduceAdd, Nat.reduceSub, Array.replicate_succ, Array.replicate_zero, List.push_toArray, List.append_toArray, List.nil_append, List.cons_append]
    gi_wp2_with (refine ⟨trivial, hd _, ?_⟩; gi_at_call 53; refine (callsIn_wide.2 HCF.out).mono ?_; rintro e w2 ⟨rfl, hB2⟩; have hb2 := HB1.out.trans (hB2.mono (by simp)); have cl2 := (HBL.out.kept (grown_of_below hb2) (by simp)).cell; have cA0 := (hb2.cell (p := ⟨bA, off, none⟩) HPA.out.1).trans HC0.out; have HB2 := Lib.hid hB2; clear hB2 cl ce)
    exact ⟨_, results_none rfl _ _ _, ⟨_, rfl⟩, .inl ⟨[], by rw [HPN.out]; rfl, ownF_below HJ.out H0.out hb2⟩⟩
  have HCF : Hid _ := Lib.hid (HCF.out.mono (R' := fun e w' => e = .returned (.bool false) ∧ Below (W.alloc (.cells #[.func (.yield l) #[] #[]] 91)).heap.size (W.alloc (.cells #[.func (.yield l) #[] #[]] 91)) w') (fun e w' h => by
    obtain ⟨⟨b, h1, h2⟩, h3⟩ := h
    cases b with
    | true => exact absurd (h2.1 rfl) hm
    | false => exact ⟨h1, h3⟩))
  have HNM := Lib.hid hm
  clear hm
  refine callsIn_of_wp_marks Tryz.func52 rfl trivial ?_ rfl
  simp only [Tryz.ntmps52, List.size_toArray, List.length_cons, List.length_nil, Nat.reduceAdd, Nat.reduceSub, Array.replicate_succ, Array.replicate_zero, List.push_toArray, List.append_toArray, List.nil_append, List.cons_append]
  gi_wp2_with (refine ⟨trivial, hd _, ?_⟩; gi_at_call 53; refine (callsIn_wide.2 HCF.out).mono ?_; rintro e w2 ⟨rfl, hB2⟩; have hb2 := HB1.out.trans (hB2.mono (by simp)); have cl2 := (HBL.out.kept (grown_of_below hb2) (by simp)).cell; have cA0 := (hb2.cell (p := ⟨bA, off, none⟩) HPA.out.1).trans HC0.out; have HB2 := Lib.hid hB2; clear hB2 cl ce)
  have HX2 : Hid (∀ b, X w2 b → X W b) := HOX.out W w2 none hK (grown_of_below hb2) (fun _ e => by cases e)
  have hs2 := hb2.size
  have hs3 : W.heap.size + 1 ≤ w2.heap.size := by have := HB2.out.size; simp at this; omega
  have HBL2 : Hid (Boxed w2 bl 65 (.slice (some ⟨bA, off, none⟩) (Ls.length + 1) cap)) := HBL.out.kept (grown_of_below hb2) (by simp)
  have HB32 : Hid (Boxed w2 W.heap.size 91 (.func (.yield l) #[] #[])) := HB3.out.kept (grown_of_below HB2.out) (by simp)
  have HN3 : Hid (¬ X w2 W.heap.size) := fun h => by have := HX.out _ (HX2.out _ h); omega
  have HPI2 : Hid (∀ b, Pin b → b < W.heap.size ∧ ¬ X w2 b) := fun b hb => ⟨(HPIN.out b hb).1, fun h => (HPIN.out b hb).2 (HX2.out b h)⟩
  have HLS2 : Hid (LsQ (d + 1) w2 Pin (some ⟨bA, off, none⟩) (l0 :: Ls)) := HLS.out.keep (fun p v hp hv => (hb2.cell (HPIN.out _ hp).1).trans hv) (fun _ h => h)
  have HQ2 : Hid (QPs (d + 1) w2 Pin A0 l0) := HQ0.out.keep (fun p v hp hv => (hb2.cell (HPIN.out _ hp).1).trans hv) (fun _ h => h)
  have HPA2 := Lib.hid (HPI2.out bA HPA0.out)
  have HJ2 := Lib.hid (ownF_below HJ.out H0.out hb2)
  have HXL2 : Hid (¬ X w2 bl) := fun h => HXL.out (HX2.out _ h)
  have HSX2 : Hid (∀ b, X w2 b → b < W.heap.size) := fun b h => HX.out _ (HX2.out b h)
  clear hb2 cl2 cA0 HB2 HCF HB1 HB3 HC0 HQ0 HLS HBL HBE HPA
  refine wpIn_loop (fun a wr => ∃ (i : Nat) (ds : List Nat) (u5 u6 u20 u21 u22 u23 u24 u25 u26 u27 u28 u29 u30 u31 u32 u33 u34 : Value) (po : List Yx), i ≤ l0.length ∧ a = { tmps := #[.func (.yield l) #[] #[], .pointer (some ⟨bl, 0, none⟩), .pointer (some ⟨be, 0, none⟩), .pointer (some ⟨W.heap.size, 0, none⟩), undef, u5, u6, .slice (some ⟨bA, off, none⟩) (Ls.length + 1) cap, .int .i64 ((Ls.length : Int) + 1), .bool false, undef, undef, .slice (some ⟨bA, off, none⟩) (Ls.length + 1) cap, .func (.func 51) #[] #[], .bool false, .slice (some ⟨bA, off, none⟩) (Ls.length + 1) cap, .pointer (some ⟨bA, off, none⟩), .slice A0 l0.length c0, .int .i64 (l0.length : Nat), .int .i64 (i : Nat), u20, u21, u22, u23, u24, u25, u26, u27, u28, u29, u30, u31, u32, u33, u34], defers := ds.map mark } ∧ Hid (ds.Nodup ∧ (∀ D ∈ ds, w2.heap.size ≤ D ∧ wr.heap[D]? = some (.deferred (some [])))) ∧ Hid (po.map Yx.l = upP l0 Ls i) ∧ Hid (J po wr) ∧ Hid (KpX X W.heap.size w2 wr)) (fun a _ => l0.length - (intOf (a.tmps.getD 19 undef)).toNat) ?start ?round
  case start =>
    exact ⟨0, [], undef, undef, undef, undef, undef, undef, undef, undef, undef, undef, undef, undef, undef, undef, undef, undef, undef, [], by omega, rfl, ⟨List.nodup_nil, fun D h => by cases h⟩, rfl, HJ2.out, KpX.grown HOX.out (by omega) (World.grownBy.refl _ _)⟩
  case round =>
    rintro a wr ⟨i, ds, u5, u6, u20, u21, u22, u23, u24, u25, u26, u27, u28, u29, u30, u31, u32, u33, u34, po, hi, rfl, HDS, HPO, HJO, HKP⟩
    by_cases hlt : i < l0.length
    · obtain ⟨b0, o0, rfl, hb0, hql⟩ := HQ2.out.2 i hlt
      obtain ⟨d', hd', A1, c1, p0, p1, p2, p3, p4, p5, hkd⟩ := hql.parts
      obtain rfl : d = d' := by omega
      have hn0 := (HPI2.out b0 hb0).2
      have q0 := HKP.out.cell p0 hn0
      have q1 := HKP.out.cell p1 hn0
      have q2 := HKP.out.cell p2 hn0
      have q3 := HKP.out.cell p3 hn0
      have q4 := HKP.out.cell p4 hn0
      have q5 := HKP.out.cell p5 hn0
      have cl := HKP.out.cell HBL2.out.cell HXL2.out
      have hblr : bl < wr.heap.size := Go.block_lt_of_cell cl
      have hiI : (i : Int) < (l0.length : Int) := by omega
      have HQL := Lib.hid hql
      have HKD := Lib.hid hkd
      clear p0 p1 p2 p3 p4 p5 hql hkd hd' hn0
      by_cases hc1 : cap = 1
      · subst hc1
        gi_wp2_with (refine ⟨trivial, hd _, ?_⟩; gi_at_call 38; refine (callsIn_wide.2 (prod_made _ _ _ _)).mono ?_; rintro e w3 ⟨rfl, hB3, hs4, hbl3, hbe3⟩; have HB33 := Lib.hid hB3; have HL33 := Lib.hid hbl3; have HE33 := Lib.hid hbe3; clear hB3 hbl3 hbe3)
        have hw3s : w3.heap.size = wr.heap.size + 3 := by rw [hs4, World.size_alloc]
        have hbw3 : Below wr.heap.size wr w3 := ((Below.refl _ wr).alloc (Nat.le_refl _) _).trans (HB33.out.mono (by simp))
        have HBL3 : Hid (Boxed w3 (wr.heap.size + 1) 65 (.slice (some ⟨bA, off, none⟩) Ls.length (0))) := by have h := HL33.out; unfold Hid; simpa [] using h
        have HBE3 : Hid (Boxed w3 (wr.heap.size + 1 + 1) 91 (.func (.func 51) #[] #[])) := by have h := HE33.out; unfold Hid; simpa using h
        have HBF3 : Hid (w3.heap[wr.heap.size]? = some (.cells #[.int .i64 l0[i].op, .int .i64 l0[i].ctor, .int .i64 l0[i].n, .int .i64 l0[i].m, .int .i64 l0[i].var, .slice A1 l0[i].kids.length c1] 38 (0, 0))) := (HB33.out.block _ (by simp)).trans (heap_alloc_new _ _)
        have hwr2 := HKP.out.size
        have hKr : K ≤ wr.heap.size := by omega
        have HXR : Hid (∀ b, X w3 b → b < wr.heap.size) := fun b h => by
          rcases HKP.out.own b (HOX.out wr w3 none hKr (grown_of_below hbw3) (fun _ e => by cases e) b h) with h | h
          · have := HSX2.out b h; omega
          · exact h.2
        have HKP3 : Hid (KpX X W.heap.size w2 w3) := HKP.out.trans (KpX.grown HOX.out hKr (grown_of_below hbw3))
        have HDS3 : Hid (∀ D ∈ ds, w2.heap.size ≤ D ∧ D < wr.heap.size ∧ w3.heap[D]? = some (.deferred (some []))) := fun D hD => by
          have h := (HDS.out.2 D hD)
          have hl := (Array.getElem?_eq_some_iff.1 h.2).1
          exact ⟨h.1, hl, (hbw3.block D hl).trans h.2⟩
        have HJ3 := Lib.hid (ownF_below HJ.out HJO.out hbw3)
        have HLT : Hid (LsQ (d + 1) w3 Pin (some ⟨bA, off, none⟩) Ls) := (show LsQ (d + 1) w2 Pin (some ⟨bA, off, none⟩) Ls from by have h0 : Ls = [] := List.length_eq_zero_iff.1 (by omega); rw [h0]; exact ⟨Nat.zero_le _, fun i h => absurd h (Nat.not_lt_zero _)⟩).keep (fun p v hp hv => HKP3.out.cell hv (HPI2.out _ hp).2) (fun _ h => h)
        have HPI3 : Hid (∀ b, Pin b → b < w3.heap.size ∧ ¬ X w3 b) := fun b hb => ⟨by have := (HPI2.out b hb).1; omega, fun h => by
          rcases HKP3.out.own b h with h | h
          · exact (HPI2.out b hb).2 h
          · have := (HPI2.out b hb).1; omega⟩
        have hK3 : K ≤ w3.heap.size := by omega
        have HX3Y : Hid (¬ X w3 W.heap.size) := fun h => by
          rcases HKP3.out.own _ h with h | h
          · exact HN3.out h
          · omega
        have HSEQ : Hid (SeqG Tryz.prog 52 #[.pointer (some ⟨wr.heap.size + 1, 0, none⟩), .pointer (some ⟨wr.heap.size + 1 + 1, 0, none⟩)] encY (GdP X K d Pin n₀ Ls) X (fun xs => xs.map Yx.l = prods Ls) (fun _ => True) w3) := fun l' J' Jx' V hV hJ' hJx' hY' h0' m' => by
          have hxV : ∀ b, X V b → X w3 b := HOX.out w3 V none hK3 (grown_of_below hV) (fun _ e => by cases e)
          refine (IH.out (wr.heap.size + 1) (wr.heap.size + 1 + 1) (some ⟨bA, off, none⟩) (0) l' J' Jx' V m' (HBL3.out.kept (grown_of_below hV) (by simp)) (fun h => by have := HXR.out _ (hxV _ h); omega) (HBE3.out.kept (grown_of_below hV) (by simp)) (fun h => by have := HXR.out _ (hxV _ h); omega) (fun b hb => ⟨by have := (HPI3.out b hb).1; have := hV.size; omega, fun h => (HPI3.out b hb).2 (hxV b h)⟩) (HLT.out.keep (fun p v hp hv => (hV.cell (HPI3.out _ hp).1).trans hv) (fun _ h => h)) (by omega) (by unfold maxLen; omega) (by omega) (fun b h => by have := HXR.out _ (hxV _ h); have := hV.size; omega) (by have := hV.size; omega) (by have := hV.size; omega) hJ' hJx' hY' h0').mono (fun e W' h => ⟨h.1, h.2.imp id (fun ⟨pre, hp⟩ => ⟨pre, trivial, hp⟩)⟩)
        have HPRE : Hid (Below wr.heap.size wr w3) := hbw3
        have hb0' : b0 < W.heap.size := (HPI2.out b0 hb0).1
        clear hbw3 q0 q1 q2 q3 q4 q5 cl hs4 HL33 HE33 HB33
        refine wp_rangeG (K := K) HOX.out hK3 rfl (enters_of Tryz.func52 (by kernel_rfl) rfl) HSEQ.out (Below.refl _ _) (fun _ => rfl) (fun pre x => gdP_own HOX.out hK3 pre x)
          (fun pre' W' => ∃ po', po'.map Yx.l = upP l0 Ls i ++ pre'.map (fun y => l0[i] :: y.l) ∧ J po' W' ∧ KpX X W.heap.size w3 W')
          (fun c _ W' => c = .ret ∧ (∃ po', Jx po' W') ∧ KeepsFrom W.heap.size w3 W')
          (fun s V V' row h hg hr => by obtain ⟨po', h1, h2, h3⟩ := h; exact ⟨po', h1, own_mono HJ.out (by omega) po' V V' row h2 hg hr, ownFrom_kpX (β := Unit) HOX.out hK3 (Nat.le_refl _) () V V' row h3 hg hr⟩)
          (fun c s V V' row h hg hr => by obtain ⟨h1, ⟨po', h2⟩, h3⟩ := h; exact ⟨h1, ⟨po', own_mono HJX.out (by omega) po' V V' row h2 hg hr⟩, ownFrom_keepsFrom (β := Unit) (Nat.le_refl _) () V V' row h3 hg hr⟩)
          ⟨po, by rw [HPO.out]; simp, HJ3.out, KpX.grown HOX.out hK3 (World.grownBy.refl _ _)⟩
          (fun y => { tmps := #[.func (.yield l) #[] #[], .pointer (some ⟨bl, 0, none⟩), .pointer (some ⟨be, 0, none⟩), .pointer (some ⟨W.heap.size, 0, none⟩), undef, .pointer (some ⟨wr.heap.size, 0, none⟩), .slice y.A y.l.length y.cap, .slice (some ⟨bA, off, none⟩) (Ls.length + 1) 1, .int .i64 ((Ls.length : Int) + 1), .bool false, undef, undef, .slice (some ⟨bA, off, none⟩) (Ls.length + 1) 1, .func (.func 51) #[] #[], .bool false, .slice (some ⟨bA, off, none⟩) (Ls.length + 1) 1, .pointer (some ⟨bA, off, none⟩), .slice (some ⟨b0, o0, none⟩) l0.length c0, .int .i64 (l0.length : Nat), .int .i64 (i : Nat), .bool true, .pointer (some ⟨b0, o0 + i * 6, none⟩), .agg #[.int .i64 l0[i].op, .int .i64 l0[i].ctor, .int .i64 l0[i].n, .int .i64 l0[i].m, .int .i64 l0[i].var, .slice A1 l0[i].kids.length c1], .slice (some ⟨bA, off, none⟩) (Ls.length + 1) 1, .slice (some ⟨bA, off, none⟩) Ls.length 0, .func (.func 52) #[] #[.pointer (some ⟨wr.heap.size + 1, 0, none⟩), .pointer (some ⟨wr.heap.size + 1 + 1, 0, none⟩)], .slice y.A y.l.length y.cap, u27, u28, u29, u30, u31, u32, u33, u34], defers := [] }) ?assign ?body ?done ?stop _
        case assign =>
          intro m' l' x V K' hK'
          unfold encY
          gi_wp2
          exact hK'
        case done =>
          rintro D ys V hD hS ⟨po', h1, h2, h3⟩ hDK
          have HS := Lib.hid hS
          have H1 := Lib.hid h1
          have H2 := Lib.hid h2
          have H3 := Lib.hid h3
          have HD := Lib.hid hDK
          clear hS h1 h2 h3 hDK
          gi_wp2
          refine ⟨⟨i + 1, D :: ds, _, _, _, _, _, _, _, _, _, _, _, _, _, _, _, _, _, po', by omega, by first | rfl | (congr 1), ⟨List.nodup_cons.2 ⟨fun h => by have := (HDS3.out D h).2.1; omega, HDS.out.1⟩, fun E hE => ?_⟩, ?_, H2.out, HKP3.out.trans H3.out⟩, ?_⟩
          · rcases List.mem_cons.1 hE with rfl | hE
            · exact ⟨by omega, HD.out⟩
            · have h := HDS3.out E hE
              exact ⟨h.1, H3.out.rest E _ (by omega) h.2.2 rfl⟩
          · have h := H1.out
            unfold Hid
            rw [h, upP_step l0 Ls i hlt, ← HS.out, List.map_map]; rfl
          · simp [intOf]; omega
        case stop =>
          rintro n' D c pre V hD _ ⟨rfl, hx, hkf⟩ hDK
          have HX' := Lib.hid hx
          have HKF := Lib.hid hkf
          have HD := Lib.hid hDK
          clear hx hkf hDK
          gi_wp2
          exact leaves_marks (T := fun W' => ∃ pre, Jx pre W') (B := W.heap.size) (fun _ V V' row h hg hr => by obtain ⟨ys, h2⟩ := h; exact ⟨ys, HJX.out ys V V' row h2 hg hr⟩) (fun _ => results_none rfl _ _ _) (fun _ h => ⟨⟨_, rfl⟩, .inr h⟩) (D :: ds) _ (List.nodup_cons.2 ⟨fun h => by have := (HDS3.out D h).2.1; omega, HDS.out.1⟩) (fun E hE => by
            rcases List.mem_cons.1 hE with rfl | hE
            · exact ⟨by omega, HD.out⟩
            · have h := HDS3.out E hE
              exact ⟨by omega, HKF.out.same E _ (by omega) h.2.2 rfl⟩) HX'.out
        case body =>
          rintro m2 l2 pre' y Wb hsz ⟨po', e1, hj, hkp⟩ ⟨hKb, hpre, xs, hown, hnx, hrow⟩
          have hyl : y.l.length = Ls.length := prods_len (hpre.subset (List.mem_append_right _ (List.mem_singleton.2 rfl)))
          have HXW : Hid (∀ b, X Wb b → b < Wb.heap.size) := fun b h => by
            rcases hkp.own b h with h | h
            · have := HXR.out b h; omega
            · exact h.2
          have cY3 : w3.cell? ⟨W.heap.size, 0, none⟩ = some (.func (.yield l) #[] #[]) := (HPRE.out.cell (p := ⟨W.heap.size, 0, none⟩) (by show W.heap.size < wr.heap.size; omega)).trans (HKP.out.cell HB32.out.cell HN3.out)
          have cY := hkp.cell cY3 HX3Y.out
          have hbf := hkp.block HBF3.out (fun h => by have := HXR.out _ h; omega)
          have f0 := (cell_of_blk hbf 0).trans rfl
          have f1 := (cell_of_blk hbf 1).trans rfl
          have f2 := (cell_of_blk hbf 2).trans rfl
          have f3 := (cell_of_blk hbf 3).trans rfl
          have f4 := (cell_of_blk hbf 4).trans rfl
          have f5 := (cell_of_blk hbf 5).trans rfl
          have hY3 : W.heap.size < Wb.heap.size := by omega
          have hB1 : wr.heap.size < Wb.heap.size := by omega
          have HNW := Lib.hid (own_news hown)
          have HONE := Lib.hid hrow.cells
          obtain ⟨i0, hi0, hz0, hz1, hz2⟩ := info_parts infoOP
          have HKEY : Hid (∀ (v5 : Value) (w5 : World), w5.ownsRow n₀ 38 6 v5 (1 + y.l.length) ([.int .i64 l0[i].op, .int .i64 l0[i].ctor, .int .i64 l0[i].n, .int .i64 l0[i].m, .int .i64 l0[i].var, .slice A1 l0[i].kids.length c1] ++ xs) → Below Wb.heap.size Wb w5 → (∀ g, v5.ownBlock = some g → Wb.heap.size ≤ g) →
              ∃ A5 c5, v5 = .slice A5 (1 + y.l.length) c5 ∧ YieldAt Fence.wide (m2 - 1) Tryz.prog l #[.slice A5 (1 + y.l.length) c5] w5 (fun e W' => (e = .returned (.bool true) ∧ KpX X w3.heap.size Wb W' ∧ ∃ po', po'.map Yx.l = upP l0 Ls i ++ (pre' ++ [y]).map (fun y => l0[i] :: y.l) ∧ J po' W' ∧ KpX X W.heap.size w3 W') ∨ (e = .returned (.bool false) ∧ KeepsFrom w3.heap.size Wb W' ∧ Code.ret = .ret ∧ (∃ po', Jx po' W') ∧ KeepsFrom W.heap.size w3 W'))) := fun v5 w5 ho hb hg => by
            obtain ⟨A5, c5, rfl, _⟩ := own_form ho
            have hk5 : KpX X W.heap.size Wb w5 := KpX.grown HOX.out (by omega) (grown_of_below hb)
            have hx5 : ∀ b, X w5 b → X Wb b := HOX.out Wb w5 none (by omega) (grown_of_below hb) (fun _ e => by cases e)
            have hq : QPs d w5 Pin A1 l0[i].kids := HKD.out.keep (fun p v hp hv => (hb.cell (by have := (HPI3.out _ hp).1; omega)).trans ((hkp.cell (HKP3.out.cell hv (HPI2.out _ hp).2) (HPI3.out _ hp).2))) (fun _ h => h)
            have hr5 := (RowQ.one (v := l0[i]) (cap := c1) hq).app (hrow.keep (P' := Pin) (fun p v hp hv => (hb.cell (by have := (HPI3.out _ hp).1; omega)).trans hv) (fun _ h => h))
            have hyy := HY.out (m2 - 1) po' ⟨A5, c5, l0[i] :: y.l⟩ w5 (ownF_below HJ.out hj hb) ⟨by have := hb.size; omega, by
              have h := upP_pre hlt hpre
              rw [List.map_append, ← List.append_assoc, List.map_map] at h
              rw [e1]; exact h, _, by rw [List.length_cons, Nat.add_comm y.l.length 1]; exact ho, (fun g e hx => by
                rw [List.length_cons, Nat.add_comm y.l.length 1] at e
                have h1 := hg g e
                have h2 := HXW.out g (hx5 g hx)
                omega), hr5⟩
            refine ⟨A5, c5, rfl, ?_⟩
            have he : encY ⟨A5, c5, l0[i] :: y.l⟩ = #[.slice A5 (1 + y.l.length) c5] := by unfold encY; rw [List.length_cons, Nat.add_comm]
            rw [he] at hyy
            refine YieldAt.mono hyy ?_
            rintro e W' (⟨h1, h2, h3⟩ | ⟨h1, h2, h3⟩)
            · refine .inl ⟨h1, (hk5.trans h3).mono (by omega), po' ++ [⟨A5, c5, l0[i] :: y.l⟩], ?_, h2, (hkp.trans hk5).trans h3⟩
              rw [List.map_append, e1, List.map_append, List.append_assoc]; rfl
            · have hkf : KeepsFrom W.heap.size Wb W' := KeepsFrom.trans ⟨hk5.size, hk5.rest⟩ h2
              exact .inr ⟨h1, ⟨hkf.size, fun k o hB hk ho => hkf.same k o (by omega) hk ho⟩, rfl, ⟨_, h3⟩, KeepsFrom.trans ⟨hkp.size, hkp.rest⟩ hkf⟩
          have HBA : Hid (Below Wb.heap.size Wb (Wb.drew.alloc (.cells #[.int .i64 l0[i].op, .int .i64 l0[i].ctor, .int .i64 l0[i].n, .int .i64 l0[i].m, .int .i64 l0[i].var, .slice A1 l0[i].kids.length c1] 38))) := (Below.refl Wb.heap.size Wb).drew.alloc (Nat.le_refl _) _
          have HLIT : Hid ((Wb.drew.alloc (.cells #[.int .i64 l0[i].op, .int .i64 l0[i].ctor, .int .i64 l0[i].n, .int .i64 l0[i].m, .int .i64 l0[i].var, .slice A1 l0[i].kids.length c1] 38)).ownsRow n₀ 38 6 (.slice (some ⟨Wb.heap.size, 0, none⟩) 1 1) 1 [.int .i64 l0[i].op, .int .i64 l0[i].ctor, .int .i64 l0[i].n, .int .i64 l0[i].m, .int .i64 l0[i].var, .slice A1 l0[i].kids.length c1]) := World.ownsRow_lit Wb.drew #[.int .i64 l0[i].op, .int .i64 l0[i].ctor, .int .i64 l0[i].n, .int .i64 l0[i].m, .int .i64 l0[i].var, .slice A1 l0[i].kids.length c1] 1 (by show n₀ ≤ Wb.heap.size; omega) (by unfold maxLen; omega) rfl
          have HNW2 : Hid (∀ ad, y.A = some ad → ∀ j u, xs[j]? = some u → (Wb.drew.alloc (.cells #[.int .i64 l0[i].op, .int .i64 l0[i].ctor, .int .i64 l0[i].n, .int .i64 l0[i].m, .int .i64 l0[i].var, .slice A1 l0[i].kids.length c1] 38)).cell? (ad.add j) = some u) := fun ad e j u hu => by
            have h := HNW.out.2.1 ad e j u hu
            exact (HBA.out.cell (Go.block_lt_of_cell h)).trans h
          have HSS : Hid (w3.heap.size ≤ Wb.heap.size) := hsz
          have hyl2 : y.l.length ≤ 1000 := by omega
          clear hj hown hnx hrow hbf cY3 hpre e1 hkp hyl
          gi_wp2
          refine region_inRound rfl (by kernel_rfl) (by kernel_rfl) ?_
          refine wpAnyIn_take (i := 3) (v := .slice y.A y.l.length y.cap) rfl rfl (by kernel_rfl) (by kernel_rfl) (by kernel_rfl) (fun _ _ _ h => h) ⟨Or.inl ⟨by rfl, fun wq => by go_simp⟩, fun _ => rfl⟩ ?_
          refine wpAnyIn_ready (rs := [0, 1]) (by kernel_rfl) (by simp) ?_
          refine AllReadyIn.cons rfl (fun K hK => ?_) ?_
          · go_simp
            refine hK _ _ ?_; clear hK K
            refine wpAnyIn_ready (rs := [1]) (by kernel_rfl) (by simp) ?_
            refine AllReadyIn.cons rfl (fun K hK => ?_) ?_
            · go_simp
              refine hK _ _ ?_; clear hK K
              refine wpAnyIn_ready (rs := [2]) (by kernel_rfl) (by simp) ?_
              refine AllReadyIn.cons rfl (fun K hK => ?_) ?_
              · go_simp
                refine hK _ _ ?_; clear hK K
                refine wpAnyIn_ready (rs := [4]) (by kernel_rfl) (by simp) ?_
                refine AllReadyIn.cons rfl (fun K hK => ?_) ?_
                · rw [if_pos (by rfl)]
                  refine opIn_append_own (.tmp 29) (.tmp 30) 30 (by rfl) n₀ 38 i0 (.agg #[.int .i64 0, .int .i64 0, .int .i64 0, .int .i64 0, .int .i64 0, .slice none 0 0]) 6 64 Tryz.underlying30 hi0 hz0 hz1 hz2 (by rfl) (by decide) (.slice (some ⟨Wb.heap.size, 0, none⟩) 1 1) 1 [.int .i64 l0[i].op, .int .i64 l0[i].ctor, .int .i64 l0[i].n, .int .i64 l0[i].m, .int .i64 l0[i].var, .slice A1 l0[i].kids.length c1] (by rfl) HLIT.out y.A y.l.length y.cap xs (by rfl) HNW.out.1 HNW.out.2.2 (fun ad e j u hu => HNW2.out ad e j u hu) HONE.out (by unfold maxLen; omega) (by omega) (by simp; omega) ?_
                  intro v5 w5 hown5 hgr5 hat5
                  have hb5 : Below Wb.heap.size Wb w5 := HBA.out.grown hgr5 (by simp) (fun k e => by cases e; exact Nat.le_refl _)
                  obtain ⟨A5, c5, rfl, fn, tmps, assign, body, hy, hR⟩ := HKEY.out v5 w5 hown5 hb5 (fun g e => by rcases hat5 with h | h <;> rw [h] at e <;> injection e with e <;> simp at e <;> omega)
                  have cY5 := (hb5.cell (p := ⟨W.heap.size, 0, none⟩) hY3).trans cY
                  clear hown5 hgr5 hat5 hb5
                  refine hK _ _ ?_; clear hK K
                  refine wpAnyIn_ready (rs := [5]) (by kernel_rfl) (by simp) ?_
                  refine AllReadyIn.cons rfl (fun K hK => ?_) ?_
                  · go_simp
                    refine ⟨hd _, ?_⟩
                    refine hR.mono ?_
                    rintro e W6 (⟨rfl, hP⟩ | ⟨rfl, hP⟩)
                    · refine hK _ _ ?_; clear hK K
                      refine wpAnyIn_ready (rs := [6]) (by kernel_rfl) (by simp) ?_
                      refine AllReadyIn.cons rfl (fun K hK => ?_) ?_
                      · go_simp
                        refine hK _ _ ?_; clear hK K
                        refine wpAnyIn_done (by kernel_rfl) ?_ _
                        gi_wp2; exact hP
                      exact AllReadyIn.nil
                    · refine hK _ _ ?_; clear hK K
                      refine wpAnyIn_ready (rs := [6]) (by kernel_rfl) (by simp) ?_
                      refine AllReadyIn.cons rfl (fun K hK => ?_) ?_
                      · go_simp
                        refine hK _ _ ?_; clear hK K
                        refine wpAnyIn_done (by kernel_rfl) ?_ _
                        gi_wp2; exact ⟨hP.1, rfl, hP.2.2⟩
                      exact AllReadyIn.nil
                  exact AllReadyIn.nil
                exact AllReadyIn.nil
              exact AllReadyIn.nil
            exact AllReadyIn.nil
          refine AllReadyIn.cons rfl (fun K hK => ?_) ?_
          · go_simp
            refine hK _ _ ?_; clear hK K
            refine wpAnyIn_ready (rs := [0, 2]) (by kernel_rfl) (by simp) ?_
            refine AllReadyIn.cons rfl (fun K hK => ?_) ?_
            · go_simp
              refine hK _ _ ?_; clear hK K
              refine wpAnyIn_ready (rs := [2]) (by kernel_rfl) (by simp) ?_
              refine AllReadyIn.cons rfl (fun K hK => ?_) ?_
              · go_simp
                refine hK _ _ ?_; clear hK K
                refine wpAnyIn_ready (rs := [4]) (by kernel_rfl) (by simp) ?_
                refine AllReadyIn.cons rfl (fun K hK => ?_) ?_
                · rw [if_pos (by rfl)]
                  refine opIn_append_own (.tmp 29) (.tmp 30) 30 (by rfl) n₀ 38 i0 (.agg #[.int .i64 0, .int .i64 0, .int .i64 0, .int .i64 0, .int .i64 0, .slice none 0 0]) 6 64 Tryz.underlying30 hi0 hz0 hz1 hz2 (by rfl) (by decide) (.slice (some ⟨Wb.heap.size, 0, none⟩) 1 1) 1 [.int .i64 l0[i].op, .int .i64 l0[i].ctor, .int .i64 l0[i].n, .int .i64 l0[i].m, .int .i64 l0[i].var, .slice A1 l0[i].kids.length c1] (by rfl) HLIT.out y.A y.l.length y.cap xs (by rfl) HNW.out.1 HNW.out.2.2 (fun ad e j u hu => HNW2.out ad e j u hu) HONE.out (by unfold maxLen; omega) (by omega) (by simp; omega) ?_
                  intro v5 w5 hown5 hgr5 hat5
                  have hb5 : Below Wb.heap.size Wb w5 := HBA.out.grown hgr5 (by simp) (fun k e => by cases e; exact Nat.le_refl _)
                  obtain ⟨A5, c5, rfl, fn, tmps, assign, body, hy, hR⟩ := HKEY.out v5 w5 hown5 hb5 (fun g e => by rcases hat5 with h | h <;> rw [h] at e <;> injection e with e <;> simp at e <;> omega)
                  have cY5 := (hb5.cell (p := ⟨W.heap.size, 0, none⟩) hY3).trans cY
                  clear hown5 hgr5 hat5 hb5
                  refine hK _ _ ?_; clear hK K
                  refine wpAnyIn_ready (rs := [5]) (by kernel_rfl) (by simp) ?_
                  refine AllReadyIn.cons rfl (fun K hK => ?_) ?_
                  · go_simp
                    refine ⟨hd _, ?_⟩
                    refine hR.mono ?_
                    rintro e W6 (⟨rfl, hP⟩ | ⟨rfl, hP⟩)
                    · refine hK _ _ ?_; clear hK K
                      refine wpAnyIn_ready (rs := [6]) (by kernel_rfl) (by simp) ?_
                      refine AllReadyIn.cons rfl (fun K hK => ?_) ?_
                      · go_simp
                        refine hK _ _ ?_; clear hK K
                        refine wpAnyIn_done (by kernel_rfl) ?_ _
                        gi_wp2; exact hP
                      exact AllReadyIn.nil
                    · refine hK _ _ ?_; clear hK K
                      refine wpAnyIn_ready (rs := [6]) (by kernel_rfl) (by simp) ?_
                      refine AllReadyIn.cons rfl (fun K hK => ?_) ?_
                      · go_simp
                        refine hK _ _ ?_; clear hK K
                        refine wpAnyIn_done (by kernel_rfl) ?_ _
                        gi_wp2; exact ⟨hP.1, rfl, hP.2.2⟩
                      exact AllReadyIn.nil
                  exact AllReadyIn.nil
                exact AllReadyIn.nil
              exact AllReadyIn.nil
            refine AllReadyIn.cons rfl (fun K hK => ?_) ?_
            · go_simp
              refine hK _ _ ?_; clear hK K
              refine wpAnyIn_ready (rs := [0, 4]) (by kernel_rfl) (by simp) ?_
              refine AllReadyIn.cons rfl (fun K hK => ?_) ?_
              · go_simp
                refine hK _ _ ?_; clear hK K
                refine wpAnyIn_ready (rs := [4]) (by kernel_rfl) (by simp) ?_
                refine AllReadyIn.cons rfl (fun K hK => ?_) ?_
                · rw [if_pos (by rfl)]
                  refine opIn_append_own (.tmp 29) (.tmp 30) 30 (by rfl) n₀ 38 i0 (.agg #[.int .i64 0, .int .i64 0, .int .i64 0, .int .i64 0, .int .i64 0, .slice none 0 0]) 6 64 Tryz.underlying30 hi0 hz0 hz1 hz2 (by rfl) (by decide) (.slice (some ⟨Wb.heap.size, 0, none⟩) 1 1) 1 [.int .i64 l0[i].op, .int .i64 l0[i].ctor, .int .i64 l0[i].n, .int .i64 l0[i].m, .int .i64 l0[i].var, .slice A1 l0[i].kids.length c1] (by rfl) HLIT.out y.A y.l.length y.cap xs (by rfl) HNW.out.1 HNW.out.2.2 (fun ad e j u hu => HNW2.out ad e j u hu) HONE.out (by unfold maxLen; omega) (by omega) (by simp; omega) ?_
                  intro v5 w5 hown5 hgr5 hat5
                  have hb5 : Below Wb.heap.size Wb w5 := HBA.out.grown hgr5 (by simp) (fun k e => by cases e; exact Nat.le_refl _)
                  obtain ⟨A5, c5, rfl, fn, tmps, assign, body, hy, hR⟩ := HKEY.out v5 w5 hown5 hb5 (fun g e => by rcases hat5 with h | h <;> rw [h] at e <;> injection e with e <;> simp at e <;> omega)
                  have cY5 := (hb5.cell (p := ⟨W.heap.size, 0, none⟩) hY3).trans cY
                  clear hown5 hgr5 hat5 hb5
                  refine hK _ _ ?_; clear hK K
                  refine wpAnyIn_ready (rs := [5]) (by kernel_rfl) (by simp) ?_
                  refine AllReadyIn.cons rfl (fun K hK => ?_) ?_
                  · go_simp
                    refine ⟨hd _, ?_⟩
                    refine hR.mono ?_
                    rintro e W6 (⟨rfl, hP⟩ | ⟨rfl, hP⟩)
                    · refine hK _ _ ?_; clear hK K
                      refine wpAnyIn_ready (rs := [6]) (by kernel_rfl) (by simp) ?_
                      refine AllReadyIn.cons rfl (fun K hK => ?_) ?_
                      · go_simp
                        refine hK _ _ ?_; clear hK K
                        refine wpAnyIn_done (by kernel_rfl) ?_ _
                        gi_wp2; exact hP
                      exact AllReadyIn.nil
                    · refine hK _ _ ?_; clear hK K
                      refine wpAnyIn_ready (rs := [6]) (by kernel_rfl) (by simp) ?_
                      refine AllReadyIn.cons rfl (fun K hK => ?_) ?_
                      · go_simp
                        refine hK _ _ ?_; clear hK K
                        refine wpAnyIn_done (by kernel_rfl) ?_ _
                        gi_wp2; exact ⟨hP.1, rfl, hP.2.2⟩
                      exact AllReadyIn.nil
                  exact AllReadyIn.nil
                exact AllReadyIn.nil
              refine AllReadyIn.cons rfl (fun K hK => ?_) ?_
              · rw [if_pos (by rfl)]
                refine opIn_append_own (.tmp 29) (.tmp 30) 30 (by rfl) n₀ 38 i0 (.agg #[.int .i64 0, .int .i64 0, .int .i64 0, .int .i64 0, .int .i64 0, .slice none 0 0]) 6 64 Tryz.underlying30 hi0 hz0 hz1 hz2 (by rfl) (by decide) (.slice (some ⟨Wb.heap.size, 0, none⟩) 1 1) 1 [.int .i64 l0[i].op, .int .i64 l0[i].ctor, .int .i64 l0[i].n, .int .i64 l0[i].m, .int .i64 l0[i].var, .slice A1 l0[i].kids.length c1] (by rfl) HLIT.out y.A y.l.length y.cap xs (by rfl) HNW.out.1 HNW.out.2.2 (fun ad e j u hu => HNW2.out ad e j u hu) HONE.out (by unfold maxLen; omega) (by omega) (by simp; omega) ?_
                intro v5 w5 hown5 hgr5 hat5
                have hb5 : Below Wb.heap.size Wb w5 := HBA.out.grown hgr5 (by simp) (fun k e => by cases e; exact Nat.le_refl _)
                obtain ⟨A5, c5, rfl, fn, tmps, assign, body, hy, hR⟩ := HKEY.out v5 w5 hown5 hb5 (fun g e => by rcases hat5 with h | h <;> rw [h] at e <;> injection e with e <;> simp at e <;> omega)
                have cY5 := (hb5.cell (p := ⟨W.heap.size, 0, none⟩) hY3).trans cY
                clear hown5 hgr5 hat5 hb5
                refine hK _ _ ?_; clear hK K
                refine wpAnyIn_ready (rs := [0]) (by kernel_rfl) (by simp) ?_
                refine AllReadyIn.cons rfl (fun K hK => ?_) ?_
                · go_simp
                  refine hK _ _ ?_; clear hK K
                  refine wpAnyIn_ready (rs := [5]) (by kernel_rfl) (by simp) ?_
                  refine AllReadyIn.cons rfl (fun K hK => ?_) ?_
                  · go_simp
                    refine ⟨hd _, ?_⟩
                    refine hR.mono ?_
                    rintro e W6 (⟨rfl, hP⟩ | ⟨rfl, hP⟩)
                    · refine hK _ _ ?_; clear hK K
                      refine wpAnyIn_ready (rs := [6]) (by kernel_rfl) (by simp) ?_
                      refine AllReadyIn.cons rfl (fun K hK => ?_) ?_
                      · go_simp
                        refine hK _ _ ?_; clear hK K
                        refine wpAnyIn_done (by kernel_rfl) ?_ _
                        gi_wp2; exact hP
                      exact AllReadyIn.nil
                    · refine hK _ _ ?_; clear hK K
                      refine wpAnyIn_ready (rs := [6]) (by kernel_rfl) (by simp) ?_
                      refine AllReadyIn.cons rfl (fun K hK => ?_) ?_
                      · go_simp
                        refine hK _ _ ?_; clear hK K
                        refine wpAnyIn_done (by kernel_rfl) ?_ _
                        gi_wp2; exact ⟨hP.1, rfl, hP.2.2⟩
                      exact AllReadyIn.nil
                  exact AllReadyIn.nil
                exact AllReadyIn.nil
              exact AllReadyIn.nil
            exact AllReadyIn.nil
          exact AllReadyIn.nil
      · have hc1' : ¬ 1 = cap := fun h => hc1 h.symm
        gi_wp2_with (refine ⟨trivial, hd _, ?_⟩; gi_at_call 38; refine (callsIn_wide.2 (prod_made _ _ _ _)).mono ?_; rintro e w3 ⟨rfl, hB3, hs4, hbl3, hbe3⟩; have HB33 := Lib.hid hB3; have HL33 := Lib.hid hbl3; have HE33 := Lib.hid hbe3; clear hB3 hbl3 hbe3)
        have hw3s : w3.heap.size = wr.heap.size + 3 := by rw [hs4, World.size_alloc]
        have hbw3 : Below wr.heap.size wr w3 := ((Below.refl _ wr).alloc (Nat.le_refl _) _).trans (HB33.out.mono (by simp))
        have HBL3 : Hid (Boxed w3 (wr.heap.size + 1) 65 (.slice (some ⟨bA, off + 1, none⟩) Ls.length ((cap - 1)))) := by have h := HL33.out; unfold Hid; simpa [hc1] using h
        have HBE3 : Hid (Boxed w3 (wr.heap.size + 1 + 1) 91 (.func (.func 51) #[] #[])) := by have h := HE33.out; unfold Hid; simpa using h
        have HBF3 : Hid (w3.heap[wr.heap.size]? = some (.cells #[.int .i64 l0[i].op, .int .i64 l0[i].ctor, .int .i64 l0[i].n, .int .i64 l0[i].m, .int .i64 l0[i].var, .slice A1 l0[i].kids.length c1] 38 (0, 0))) := (HB33.out.block _ (by simp)).trans (heap_alloc_new _ _)
        have hwr2 := HKP.out.size
        have hKr : K ≤ wr.heap.size := by omega
        have HXR : Hid (∀ b, X w3 b → b < wr.heap.size) := fun b h => by
          rcases HKP.out.own b (HOX.out wr w3 none hKr (grown_of_below hbw3) (fun _ e => by cases e) b h) with h | h
          · have := HSX2.out b h; omega
          · exact h.2
        have HKP3 : Hid (KpX X W.heap.size w2 w3) := HKP.out.trans (KpX.grown HOX.out hKr (grown_of_below hbw3))
        have HDS3 : Hid (∀ D ∈ ds, w2.heap.size ≤ D ∧ D < wr.heap.size ∧ w3.heap[D]? = some (.deferred (some []))) := fun D hD => by
          have h := (HDS.out.2 D hD)
          have hl := (Array.getElem?_eq_some_iff.1 h.2).1
          exact ⟨h.1, hl, (hbw3.block D hl).trans h.2⟩
        have HJ3 := Lib.hid (ownF_below HJ.out HJO.out hbw3)
        have HLT : Hid (LsQ (d + 1) w3 Pin (some ⟨bA, off + 1, none⟩) Ls) := (show LsQ (d + 1) w2 Pin (some ⟨bA, off + 1, none⟩) Ls from HLS2.out.tail).keep (fun p v hp hv => HKP3.out.cell hv (HPI2.out _ hp).2) (fun _ h => h)
        have HPI3 : Hid (∀ b, Pin b → b < w3.heap.size ∧ ¬ X w3 b) := fun b hb => ⟨by have := (HPI2.out b hb).1; omega, fun h => by
          rcases HKP3.out.own b h with h | h
          · exact (HPI2.out b hb).2 h
          · have := (HPI2.out b hb).1; omega⟩
        have hK3 : K ≤ w3.heap.size := by omega
        have HX3Y : Hid (¬ X w3 W.heap.size) := fun h => by
          rcases HKP3.out.own _ h with h | h
          · exact HN3.out h
          · omega
        have HSEQ : Hid (SeqG Tryz.prog 52 #[.pointer (some ⟨wr.heap.size + 1, 0, none⟩), .pointer (some ⟨wr.heap.size + 1 + 1, 0, none⟩)] encY (GdP X K d Pin n₀ Ls) X (fun xs => xs.map Yx.l = prods Ls) (fun _ => True) w3) := fun l' J' Jx' V hV hJ' hJx' hY' h0' m' => by
          have hxV : ∀ b, X V b → X w3 b := HOX.out w3 V none hK3 (grown_of_below hV) (fun _ e => by cases e)
          refine (IH.out (wr.heap.size + 1) (wr.heap.size + 1 + 1) (some ⟨bA, off + 1, none⟩) ((cap - 1)) l' J' Jx' V m' (HBL3.out.kept (grown_of_below hV) (by simp)) (fun h => by have := HXR.out _ (hxV _ h); omega) (HBE3.out.kept (grown_of_below hV) (by simp)) (fun h => by have := HXR.out _ (hxV _ h); omega) (fun b hb => ⟨by have := (HPI3.out b hb).1; have := hV.size; omega, fun h => (HPI3.out b hb).2 (hxV b h)⟩) (HLT.out.keep (fun p v hp hv => (hV.cell (HPI3.out _ hp).1).trans hv) (fun _ h => h)) (by omega) (by unfold maxLen; omega) (by omega) (fun b h => by have := HXR.out _ (hxV _ h); have := hV.size; omega) (by have := hV.size; omega) (by have := hV.size; omega) hJ' hJx' hY' h0').mono (fun e W' h => ⟨h.1, h.2.imp id (fun ⟨pre, hp⟩ => ⟨pre, trivial, hp⟩)⟩)
        have HPRE : Hid (Below wr.heap.size wr w3) := hbw3
        have hb0' : b0 < W.heap.size := (HPI2.out b0 hb0).1
        clear hbw3 q0 q1 q2 q3 q4 q5 cl hs4 HL33 HE33 HB33
        refine wp_rangeG (K := K) HOX.out hK3 rfl (enters_of Tryz.func52 (by kernel_rfl) rfl) HSEQ.out (Below.refl _ _) (fun _ => rfl) (fun pre x => gdP_own HOX.out hK3 pre x)
          (fun pre' W' => ∃ po', po'.map Yx.l = upP l0 Ls i ++ pre'.map (fun y => l0[i] :: y.l) ∧ J po' W' ∧ KpX X W.heap.size w3 W')
          (fun c _ W' => c = .ret ∧ (∃ po', Jx po' W') ∧ KeepsFrom W.heap.size w3 W')
          (fun s V V' row h hg hr => by obtain ⟨po', h1, h2, h3⟩ := h; exact ⟨po', h1, own_mono HJ.out (by omega) po' V V' row h2 hg hr, ownFrom_kpX (β := Unit) HOX.out hK3 (Nat.le_refl _) () V V' row h3 hg hr⟩)
          (fun c s V V' row h hg hr => by obtain ⟨h1, ⟨po', h2⟩, h3⟩ := h; exact ⟨h1, ⟨po', own_mono HJX.out (by omega) po' V V' row h2 hg hr⟩, ownFrom_keepsFrom (β := Unit) (Nat.le_refl _) () V V' row h3 hg hr⟩)
          ⟨po, by rw [HPO.out]; simp, HJ3.out, KpX.grown HOX.out hK3 (World.grownBy.refl _ _)⟩
          (fun y => { tmps := #[.func (.yield l) #[] #[], .pointer (some ⟨bl, 0, none⟩), .pointer (some ⟨be, 0, none⟩), .pointer (some ⟨W.heap.size, 0, none⟩), undef, .pointer (some ⟨wr.heap.size, 0, none⟩), .slice y.A y.l.length y.cap, .slice (some ⟨bA, off, none⟩) (Ls.length + 1) cap, .int .i64 ((Ls.length : Int) + 1), .bool false, undef, undef, .slice (some ⟨bA, off, none⟩) (Ls.length + 1) cap, .func (.func 51) #[] #[], .bool false, .slice (some ⟨bA, off, none⟩) (Ls.length + 1) cap, .pointer (some ⟨bA, off, none⟩), .slice (some ⟨b0, o0, none⟩) l0.length c0, .int .i64 (l0.length : Nat), .int .i64 (i : Nat), .bool true, .pointer (some ⟨b0, o0 + i * 6, none⟩), .agg #[.int .i64 l0[i].op, .int .i64 l0[i].ctor, .int .i64 l0[i].n, .int .i64 l0[i].m, .int .i64 l0[i].var, .slice A1 l0[i].kids.length c1], .slice (some ⟨bA, off, none⟩) (Ls.length + 1) cap, .slice (some ⟨bA, off + 1, none⟩) Ls.length (cap - 1), .func (.func 52) #[] #[.pointer (some ⟨wr.heap.size + 1, 0, none⟩), .pointer (some ⟨wr.heap.size + 1 + 1, 0, none⟩)], .slice y.A y.l.length y.cap, u27, u28, u29, u30, u31, u32, u33, u34], defers := [] }) ?assign ?body ?done ?stop _
        case assign =>
          intro m' l' x V K' hK'
          unfold encY
          gi_wp2
          exact hK'
        case done =>
          rintro D ys V hD hS ⟨po', h1, h2, h3⟩ hDK
          have HS := Lib.hid hS
          have H1 := Lib.hid h1
          have H2 := Lib.hid h2
          have H3 := Lib.hid h3
          have HD := Lib.hid hDK
          clear hS h1 h2 h3 hDK
          gi_wp2
          refine ⟨⟨i + 1, D :: ds, _, _, _, _, _, _, _, _, _, _, _, _, _, _, _, _, _, po', by omega, by first | rfl | (congr 1), ⟨List.nodup_cons.2 ⟨fun h => by have := (HDS3.out D h).2.1; omega, HDS.out.1⟩, fun E hE => ?_⟩, ?_, H2.out, HKP3.out.trans H3.out⟩, ?_⟩
          · rcases List.mem_cons.1 hE with rfl | hE
            · exact ⟨by omega, HD.out⟩
            · have h := HDS3.out E hE
              exact ⟨h.1, H3.out.rest E _ (by omega) h.2.2 rfl⟩
          · have h := H1.out
            unfold Hid
            rw [h, upP_step l0 Ls i hlt, ← HS.out, List.map_map]; rfl
          · simp [intOf]; omega
        case stop =>
          rintro n' D c pre V hD _ ⟨rfl, hx, hkf⟩ hDK
          have HX' := Lib.hid hx
          have HKF := Lib.hid hkf
          have HD := Lib.hid hDK
          clear hx hkf hDK
          gi_wp2
          exact leaves_marks (T := fun W' => ∃ pre, Jx pre W') (B := W.heap.size) (fun _ V V' row h hg hr => by obtain ⟨ys, h2⟩ := h; exact ⟨ys, HJX.out ys V V' row h2 hg hr⟩) (fun _ => results_none rfl _ _ _) (fun _ h => ⟨⟨_, rfl⟩, .inr h⟩) (D :: ds) _ (List.nodup_cons.2 ⟨fun h => by have := (HDS3.out D h).2.1; omega, HDS.out.1⟩) (fun E hE => by
            rcases List.mem_cons.1 hE with rfl | hE
            · exact ⟨by omega, HD.out⟩
            · have h := HDS3.out E hE
              exact ⟨by omega, HKF.out.same E _ (by omega) h.2.2 rfl⟩) HX'.out
        case body =>
          rintro m2 l2 pre' y Wb hsz ⟨po', e1, hj, hkp⟩ ⟨hKb, hpre, xs, hown, hnx, hrow⟩
          have hyl : y.l.length = Ls.length := prods_len (hpre.subset (List.mem_append_right _ (List.mem_singleton.2 rfl)))
          have HXW : Hid (∀ b, X Wb b → b < Wb.heap.size) := fun b h => by
            rcases hkp.own b h with h | h
            · have := HXR.out b h; omega
            · exact h.2
          have cY3 : w3.cell? ⟨W.heap.size, 0, none⟩ = some (.func (.yield l) #[] #[]) := (HPRE.out.cell (p := ⟨W.heap.size, 0, none⟩) (by show W.heap.size < wr.heap.size; omega)).trans (HKP.out.cell HB32.out.cell HN3.out)
          have cY := hkp.cell cY3 HX3Y.out
          have hbf := hkp.block HBF3.out (fun h => by have := HXR.out _ h; omega)
          have f0 := (cell_of_blk hbf 0).trans rfl
          have f1 := (cell_of_blk hbf 1).trans rfl
          have f2 := (cell_of_blk hbf 2).trans rfl
          have f3 := (cell_of_blk hbf 3).trans rfl
          have f4 := (cell_of_blk hbf 4).trans rfl
          have f5 := (cell_of_blk hbf 5).trans rfl
          have hY3 : W.heap.size < Wb.heap.size := by omega
          have hB1 : wr.heap.size < Wb.heap.size := by omega
          have HNW := Lib.hid (own_news hown)
          have HONE := Lib.hid hrow.cells
          obtain ⟨i0, hi0, hz0, hz1, hz2⟩ := info_parts infoOP
          have HKEY : Hid (∀ (v5 : Value) (w5 : World), w5.ownsRow n₀ 38 6 v5 (1 + y.l.length) ([.int .i64 l0[i].op, .int .i64 l0[i].ctor, .int .i64 l0[i].n, .int .i64 l0[i].m, .int .i64 l0[i].var, .slice A1 l0[i].kids.length c1] ++ xs) → Below Wb.heap.size Wb w5 → (∀ g, v5.ownBlock = some g → Wb.heap.size ≤ g) →
              ∃ A5 c5, v5 = .slice A5 (1 + y.l.length) c5 ∧ YieldAt Fence.wide (m2 - 1) Tryz.prog l #[.slice A5 (1 + y.l.length) c5] w5 (fun e W' => (e = .returned (.bool true) ∧ KpX X w3.heap.size Wb W' ∧ ∃ po', po'.map Yx.l = upP l0 Ls i ++ (pre' ++ [y]).map (fun y => l0[i] :: y.l) ∧ J po' W' ∧ KpX X W.heap.size w3 W') ∨ (e = .returned (.bool false) ∧ KeepsFrom w3.heap.size Wb W' ∧ Code.ret = .ret ∧ (∃ po', Jx po' W') ∧ KeepsFrom W.heap.size w3 W'))) := fun v5 w5 ho hb hg => by
            obtain ⟨A5, c5, rfl, _⟩ := own_form ho
            have hk5 : KpX X W.heap.size Wb w5 := KpX.grown HOX.out (by omega) (grown_of_below hb)
            have hx5 : ∀ b, X w5 b → X Wb b := HOX.out Wb w5 none (by omega) (grown_of_below hb) (fun _ e => by cases e)
            have hq : QPs d w5 Pin A1 l0[i].kids := HKD.out.keep (fun p v hp hv => (hb.cell (by have := (HPI3.out _ hp).1; omega)).trans ((hkp.cell (HKP3.out.cell hv (HPI2.out _ hp).2) (HPI3.out _ hp).2))) (fun _ h => h)
            have hr5 := (RowQ.one (v := l0[i]) (cap := c1) hq).app (hrow.keep (P' := Pin) (fun p v hp hv => (hb.cell (by have := (HPI3.out _ hp).1; omega)).trans hv) (fun _ h => h))
            have hyy := HY.out (m2 - 1) po' ⟨A5, c5, l0[i] :: y.l⟩ w5 (ownF_below HJ.out hj hb) ⟨by have := hb.size; omega, by
              have h := upP_pre hlt hpre
              rw [List.map_append, ← List.append_assoc, List.map_map] at h
              rw [e1]; exact h, _, by rw [List.length_cons, Nat.add_comm y.l.length 1]; exact ho, (fun g e hx => by
                rw [List.length_cons, Nat.add_comm y.l.length 1] at e
                have h1 := hg g e
                have h2 := HXW.out g (hx5 g hx)
                omega), hr5⟩
            refine ⟨A5, c5, rfl, ?_⟩
            have he : encY ⟨A5, c5, l0[i] :: y.l⟩ = #[.slice A5 (1 + y.l.length) c5] := by unfold encY; rw [List.length_cons, Nat.add_comm]
            rw [he] at hyy
            refine YieldAt.mono hyy ?_
            rintro e W' (⟨h1, h2, h3⟩ | ⟨h1, h2, h3⟩)
            · refine .inl ⟨h1, (hk5.trans h3).mono (by omega), po' ++ [⟨A5, c5, l0[i] :: y.l⟩], ?_, h2, (hkp.trans hk5).trans h3⟩
              rw [List.map_append, e1, List.map_append, List.append_assoc]; rfl
            · have hkf : KeepsFrom W.heap.size Wb W' := KeepsFrom.trans ⟨hk5.size, hk5.rest⟩ h2
              exact .inr ⟨h1, ⟨hkf.size, fun k o hB hk ho => hkf.same k o (by omega) hk ho⟩, rfl, ⟨_, h3⟩, KeepsFrom.trans ⟨hkp.size, hkp.rest⟩ hkf⟩
          have HBA : Hid (Below Wb.heap.size Wb (Wb.drew.alloc (.cells #[.int .i64 l0[i].op, .int .i64 l0[i].ctor, .int .i64 l0[i].n, .int .i64 l0[i].m, .int .i64 l0[i].var, .slice A1 l0[i].kids.length c1] 38))) := (Below.refl Wb.heap.size Wb).drew.alloc (Nat.le_refl _) _
          have HLIT : Hid ((Wb.drew.alloc (.cells #[.int .i64 l0[i].op, .int .i64 l0[i].ctor, .int .i64 l0[i].n, .int .i64 l0[i].m, .int .i64 l0[i].var, .slice A1 l0[i].kids.length c1] 38)).ownsRow n₀ 38 6 (.slice (some ⟨Wb.heap.size, 0, none⟩) 1 1) 1 [.int .i64 l0[i].op, .int .i64 l0[i].ctor, .int .i64 l0[i].n, .int .i64 l0[i].m, .int .i64 l0[i].var, .slice A1 l0[i].kids.length c1]) := World.ownsRow_lit Wb.drew #[.int .i64 l0[i].op, .int .i64 l0[i].ctor, .int .i64 l0[i].n, .int .i64 l0[i].m, .int .i64 l0[i].var, .slice A1 l0[i].kids.length c1] 1 (by show n₀ ≤ Wb.heap.size; omega) (by unfold maxLen; omega) rfl
          have HNW2 : Hid (∀ ad, y.A = some ad → ∀ j u, xs[j]? = some u → (Wb.drew.alloc (.cells #[.int .i64 l0[i].op, .int .i64 l0[i].ctor, .int .i64 l0[i].n, .int .i64 l0[i].m, .int .i64 l0[i].var, .slice A1 l0[i].kids.length c1] 38)).cell? (ad.add j) = some u) := fun ad e j u hu => by
            have h := HNW.out.2.1 ad e j u hu
            exact (HBA.out.cell (Go.block_lt_of_cell h)).trans h
          have HSS : Hid (w3.heap.size ≤ Wb.heap.size) := hsz
          have hyl2 : y.l.length ≤ 1000 := by omega
          clear hj hown hnx hrow hbf cY3 hpre e1 hkp hyl
          gi_wp2
          refine region_inRound rfl (by kernel_rfl) (by kernel_rfl) ?_
          refine wpAnyIn_take (i := 3) (v := .slice y.A y.l.length y.cap) rfl rfl (by kernel_rfl) (by kernel_rfl) (by kernel_rfl) (fun _ _ _ h => h) ⟨Or.inl ⟨by rfl, fun wq => by go_simp⟩, fun _ => rfl⟩ ?_
          refine wpAnyIn_ready (rs := [0, 1]) (by kernel_rfl) (by simp) ?_
          refine AllReadyIn.cons rfl (fun K hK => ?_) ?_
          · go_simp
            refine hK _ _ ?_; clear hK K
            refine wpAnyIn_ready (rs := [1]) (by kernel_rfl) (by simp) ?_
            refine AllReadyIn.cons rfl (fun K hK => ?_) ?_
            · go_simp
              refine hK _ _ ?_; clear hK K
              refine wpAnyIn_ready (rs := [2]) (by kernel_rfl) (by simp) ?_
              refine AllReadyIn.cons rfl (fun K hK => ?_) ?_
              · go_simp
                refine hK _ _ ?_; clear hK K
                refine wpAnyIn_ready (rs := [4]) (by kernel_rfl) (by simp) ?_
                refine AllReadyIn.cons rfl (fun K hK => ?_) ?_
                · rw [if_pos (by rfl)]
                  refine opIn_append_own (.tmp 29) (.tmp 30) 30 (by rfl) n₀ 38 i0 (.agg #[.int .i64 0, .int .i64 0, .int .i64 0, .int .i64 0, .int .i64 0, .slice none 0 0]) 6 64 Tryz.underlying30 hi0 hz0 hz1 hz2 (by rfl) (by decide) (.slice (some ⟨Wb.heap.size, 0, none⟩) 1 1) 1 [.int .i64 l0[i].op, .int .i64 l0[i].ctor, .int .i64 l0[i].n, .int .i64 l0[i].m, .int .i64 l0[i].var, .slice A1 l0[i].kids.length c1] (by rfl) HLIT.out y.A y.l.length y.cap xs (by rfl) HNW.out.1 HNW.out.2.2 (fun ad e j u hu => HNW2.out ad e j u hu) HONE.out (by unfold maxLen; omega) (by omega) (by simp; omega) ?_
                  intro v5 w5 hown5 hgr5 hat5
                  have hb5 : Below Wb.heap.size Wb w5 := HBA.out.grown hgr5 (by simp) (fun k e => by cases e; exact Nat.le_refl _)
                  obtain ⟨A5, c5, rfl, fn, tmps, assign, body, hy, hR⟩ := HKEY.out v5 w5 hown5 hb5 (fun g e => by rcases hat5 with h | h <;> rw [h] at e <;> injection e with e <;> simp at e <;> omega)
                  have cY5 := (hb5.cell (p := ⟨W.heap.size, 0, none⟩) hY3).trans cY
                  clear hown5 hgr5 hat5 hb5
                  refine hK _ _ ?_; clear hK K
                  refine wpAnyIn_ready (rs := [5]) (by kernel_rfl) (by simp) ?_
                  refine AllReadyIn.cons rfl (fun K hK => ?_) ?_
                  · go_simp
                    refine ⟨hd _, ?_⟩
                    refine hR.mono ?_
                    rintro e W6 (⟨rfl, hP⟩ | ⟨rfl, hP⟩)
                    · refine hK _ _ ?_; clear hK K
                      refine wpAnyIn_ready (rs := [6]) (by kernel_rfl) (by simp) ?_
                      refine AllReadyIn.cons rfl (fun K hK => ?_) ?_
                      · go_simp
                        refine hK _ _ ?_; clear hK K
                        refine wpAnyIn_done (by kernel_rfl) ?_ _
                        gi_wp2; exact hP
                      exact AllReadyIn.nil
                    · refine hK _ _ ?_; clear hK K
                      refine wpAnyIn_ready (rs := [6]) (by kernel_rfl) (by simp) ?_
                      refine AllReadyIn.cons rfl (fun K hK => ?_) ?_
                      · go_simp
                        refine hK _ _ ?_; clear hK K
                        refine wpAnyIn_done (by kernel_rfl) ?_ _
                        gi_wp2; exact ⟨hP.1, rfl, hP.2.2⟩
                      exact AllReadyIn.nil
                  exact AllReadyIn.nil
                exact AllReadyIn.nil
              exact AllReadyIn.nil
            exact AllReadyIn.nil
          refine AllReadyIn.cons rfl (fun K hK => ?_) ?_
          · go_simp
            refine hK _ _ ?_; clear hK K
            refine wpAnyIn_ready (rs := [0, 2]) (by kernel_rfl) (by simp) ?_
            refine AllReadyIn.cons rfl (fun K hK => ?_) ?_
            · go_simp
              refine hK _ _ ?_; clear hK K
              refine wpAnyIn_ready (rs := [2]) (by kernel_rfl) (by simp) ?_
              refine AllReadyIn.cons rfl (fun K hK => ?_) ?_
              · go_simp
                refine hK _ _ ?_; clear hK K
                refine wpAnyIn_ready (rs := [4]) (by kernel_rfl) (by simp) ?_
                refine AllReadyIn.cons rfl (fun K hK => ?_) ?_
                · rw [if_pos (by rfl)]
                  refine opIn_append_own (.tmp 29) (.tmp 30) 30 (by rfl) n₀ 38 i0 (.agg #[.int .i64 0, .int .i64 0, .int .i64 0, .int .i64 0, .int .i64 0, .slice none 0 0]) 6 64 Tryz.underlying30 hi0 hz0 hz1 hz2 (by rfl) (by decide) (.slice (some ⟨Wb.heap.size, 0, none⟩) 1 1) 1 [.int .i64 l0[i].op, .int .i64 l0[i].ctor, .int .i64 l0[i].n, .int .i64 l0[i].m, .int .i64 l0[i].var, .slice A1 l0[i].kids.length c1] (by rfl) HLIT.out y.A y.l.length y.cap xs (by rfl) HNW.out.1 HNW.out.2.2 (fun ad e j u hu => HNW2.out ad e j u hu) HONE.out (by unfold maxLen; omega) (by omega) (by simp; omega) ?_
                  intro v5 w5 hown5 hgr5 hat5
                  have hb5 : Below Wb.heap.size Wb w5 := HBA.out.grown hgr5 (by simp) (fun k e => by cases e; exact Nat.le_refl _)
                  obtain ⟨A5, c5, rfl, fn, tmps, assign, body, hy, hR⟩ := HKEY.out v5 w5 hown5 hb5 (fun g e => by rcases hat5 with h | h <;> rw [h] at e <;> injection e with e <;> simp at e <;> omega)
                  have cY5 := (hb5.cell (p := ⟨W.heap.size, 0, none⟩) hY3).trans cY
                  clear hown5 hgr5 hat5 hb5
                  refine hK _ _ ?_; clear hK K
                  refine wpAnyIn_ready (rs := [5]) (by kernel_rfl) (by simp) ?_
                  refine AllReadyIn.cons rfl (fun K hK => ?_) ?_
                  · go_simp
                    refine ⟨hd _, ?_⟩
                    refine hR.mono ?_
                    rintro e W6 (⟨rfl, hP⟩ | ⟨rfl, hP⟩)
                    · refine hK _ _ ?_; clear hK K
                      refine wpAnyIn_ready (rs := [6]) (by kernel_rfl) (by simp) ?_
                      refine AllReadyIn.cons rfl (fun K hK => ?_) ?_
                      · go_simp
                        refine hK _ _ ?_; clear hK K
                        refine wpAnyIn_done (by kernel_rfl) ?_ _
                        gi_wp2; exact hP
                      exact AllReadyIn.nil
                    · refine hK _ _ ?_; clear hK K
                      refine wpAnyIn_ready (rs := [6]) (by kernel_rfl) (by simp) ?_
                      refine AllReadyIn.cons rfl (fun K hK => ?_) ?_
                      · go_simp
                        refine hK _ _ ?_; clear hK K
                        refine wpAnyIn_done (by kernel_rfl) ?_ _
                        gi_wp2; exact ⟨hP.1, rfl, hP.2.2⟩
                      exact AllReadyIn.nil
                  exact AllReadyIn.nil
                exact AllReadyIn.nil
              exact AllReadyIn.nil
            refine AllReadyIn.cons rfl (fun K hK => ?_) ?_
            · go_simp
              refine hK _ _ ?_; clear hK K
              refine wpAnyIn_ready (rs := [0, 4]) (by kernel_rfl) (by simp) ?_
              refine AllReadyIn.cons rfl (fun K hK => ?_) ?_
              · go_simp
                refine hK _ _ ?_; clear hK K
                refine wpAnyIn_ready (rs := [4]) (by kernel_rfl) (by simp) ?_
                refine AllReadyIn.cons rfl (fun K hK => ?_) ?_
                · rw [if_pos (by rfl)]
                  refine opIn_append_own (.tmp 29) (.tmp 30) 30 (by rfl) n₀ 38 i0 (.agg #[.int .i64 0, .int .i64 0, .int .i64 0, .int .i64 0, .int .i64 0, .slice none 0 0]) 6 64 Tryz.underlying30 hi0 hz0 hz1 hz2 (by rfl) (by decide) (.slice (some ⟨Wb.heap.size, 0, none⟩) 1 1) 1 [.int .i64 l0[i].op, .int .i64 l0[i].ctor, .int .i64 l0[i].n, .int .i64 l0[i].m, .int .i64 l0[i].var, .slice A1 l0[i].kids.length c1] (by rfl) HLIT.out y.A y.l.length y.cap xs (by rfl) HNW.out.1 HNW.out.2.2 (fun ad e j u hu => HNW2.out ad e j u hu) HONE.out (by unfold maxLen; omega) (by omega) (by simp; omega) ?_
                  intro v5 w5 hown5 hgr5 hat5
                  have hb5 : Below Wb.heap.size Wb w5 := HBA.out.grown hgr5 (by simp) (fun k e => by cases e; exact Nat.le_refl _)
                  obtain ⟨A5, c5, rfl, fn, tmps, assign, body, hy, hR⟩ := HKEY.out v5 w5 hown5 hb5 (fun g e => by rcases hat5 with h | h <;> rw [h] at e <;> injection e with e <;> simp at e <;> omega)
                  have cY5 := (hb5.cell (p := ⟨W.heap.size, 0, none⟩) hY3).trans cY
                  clear hown5 hgr5 hat5 hb5
                  refine hK _ _ ?_; clear hK K
                  refine wpAnyIn_ready (rs := [5]) (by kernel_rfl) (by simp) ?_
                  refine AllReadyIn.cons rfl (fun K hK => ?_) ?_
                  · go_simp
                    refine ⟨hd _, ?_⟩
                    refine hR.mono ?_
                    rintro e W6 (⟨rfl, hP⟩ | ⟨rfl, hP⟩)
                    · refine hK _ _ ?_; clear hK K
                      refine wpAnyIn_ready (rs := [6]) (by kernel_rfl) (by simp) ?_
                      refine AllReadyIn.cons rfl (fun K hK => ?_) ?_
                      · go_simp
                        refine hK _ _ ?_; clear hK K
                        refine wpAnyIn_done (by kernel_rfl) ?_ _
                        gi_wp2; exact hP
                      exact AllReadyIn.nil
                    · refine hK _ _ ?_; clear hK K
                      refine wpAnyIn_ready (rs := [6]) (by kernel_rfl) (by simp) ?_
                      refine AllReadyIn.cons rfl (fun K hK => ?_) ?_
                      · go_simp
                        refine hK _ _ ?_; clear hK K
                        refine wpAnyIn_done (by kernel_rfl) ?_ _
                        gi_wp2; exact ⟨hP.1, rfl, hP.2.2⟩
                      exact AllReadyIn.nil
                  exact AllReadyIn.nil
                exact AllReadyIn.nil
              refine AllReadyIn.cons rfl (fun K hK => ?_) ?_
              · rw [if_pos (by rfl)]
                refine opIn_append_own (.tmp 29) (.tmp 30) 30 (by rfl) n₀ 38 i0 (.agg #[.int .i64 0, .int .i64 0, .int .i64 0, .int .i64 0, .int .i64 0, .slice none 0 0]) 6 64 Tryz.underlying30 hi0 hz0 hz1 hz2 (by rfl) (by decide) (.slice (some ⟨Wb.heap.size, 0, none⟩) 1 1) 1 [.int .i64 l0[i].op, .int .i64 l0[i].ctor, .int .i64 l0[i].n, .int .i64 l0[i].m, .int .i64 l0[i].var, .slice A1 l0[i].kids.length c1] (by rfl) HLIT.out y.A y.l.length y.cap xs (by rfl) HNW.out.1 HNW.out.2.2 (fun ad e j u hu => HNW2.out ad e j u hu) HONE.out (by unfold maxLen; omega) (by omega) (by simp; omega) ?_
                intro v5 w5 hown5 hgr5 hat5
                have hb5 : Below Wb.heap.size Wb w5 := HBA.out.grown hgr5 (by simp) (fun k e => by cases e; exact Nat.le_refl _)
                obtain ⟨A5, c5, rfl, fn, tmps, assign, body, hy, hR⟩ := HKEY.out v5 w5 hown5 hb5 (fun g e => by rcases hat5 with h | h <;> rw [h] at e <;> injection e with e <;> simp at e <;> omega)
                have cY5 := (hb5.cell (p := ⟨W.heap.size, 0, none⟩) hY3).trans cY
                clear hown5 hgr5 hat5 hb5
                refine hK _ _ ?_; clear hK K
                refine wpAnyIn_ready (rs := [0]) (by kernel_rfl) (by simp) ?_
                refine AllReadyIn.cons rfl (fun K hK => ?_) ?_
                · go_simp
                  refine hK _ _ ?_; clear hK K
                  refine wpAnyIn_ready (rs := [5]) (by kernel_rfl) (by simp) ?_
                  refine AllReadyIn.cons rfl (fun K hK => ?_) ?_
                  · go_simp
                    refine ⟨hd _, ?_⟩
                    refine hR.mono ?_
                    rintro e W6 (⟨rfl, hP⟩ | ⟨rfl, hP⟩)
                    · refine hK _ _ ?_; clear hK K
                      refine wpAnyIn_ready (rs := [6]) (by kernel_rfl) (by simp) ?_
                      refine AllReadyIn.cons rfl (fun K hK => ?_) ?_
                      · go_simp
                        refine hK _ _ ?_; clear hK K
                        refine wpAnyIn_done (by kernel_rfl) ?_ _
                        gi_wp2; exact hP
                      exact AllReadyIn.nil
                    · refine hK _ _ ?_; clear hK K
                      refine wpAnyIn_ready (rs := [6]) (by kernel_rfl) (by simp) ?_
                      refine AllReadyIn.cons rfl (fun K hK => ?_) ?_
                      · go_simp
                        refine hK _ _ ?_; clear hK K
                        refine wpAnyIn_done (by kernel_rfl) ?_ _
                        gi_wp2; exact ⟨hP.1, rfl, hP.2.2⟩
                      exact AllReadyIn.nil
                  exact AllReadyIn.nil
                exact AllReadyIn.nil
              exact AllReadyIn.nil
            exact AllReadyIn.nil
          exact AllReadyIn.nil
    · have hie : i = l0.length := by omega
      have hiI : ¬ (i : Int) < (l0.length : Int) := by omega
      have HTT : Hid (po.map Yx.l = prods (l0 :: Ls)) := by unfold Hid; rw [HPO.out, hie, upP_all]
      gi_wp2
      exact leaves_marks (T := fun W' => ∃ xs, xs.map Yx.l = prods (l0 :: Ls) ∧ J xs W') (B := W.heap.size) (fun _ V V' row h hg hr => by obtain ⟨ys, h1, h2⟩ := h; exact ⟨ys, h1, HJ.out ys V V' row h2 hg hr⟩) (fun _ => results_none rfl _ _ _) (fun _ h => ⟨⟨_, rfl⟩, .inl h⟩) ds _ HDS.out.1 (fun D hD => ⟨by have := (HDS.out.2 D hD).1; omega, (HDS.out.2 D hD).2⟩) ⟨po, HTT.out, HJO.out⟩
end Go.Proofs.YtbdiahnelnbdnaaGreat
