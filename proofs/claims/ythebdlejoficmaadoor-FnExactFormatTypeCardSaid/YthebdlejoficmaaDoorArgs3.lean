/-
  The types of the arguments of a constructor: the document's function. No statement is proved here.
-/
import Derived.Test.YthebdlejoficmaaDoorArgs2
namespace Go.Proofs.YthebdlejoficmaaDoor
open Go.RowKit
set_option maxRecDepth 100000
set_option linter.unusedVariables false

theorem cell_two_new (w : World) (x y : Value) (t : TypeId) : ∀ j u, [x, y][j]? = some u → (w.alloc (.cells #[x, y] t)).cell? ((⟨w.heap.size, 0, none⟩ : Addr).add j) = some u := by
  intro j u hj
  match j, hj with
  | 0, hj => simp at hj; subst hj; simp [Addr.add, go_sem]
  | 1, hj => simp at hj; subst hj; simp [Addr.add, go_sem]
theorem cell_two_more (w : World) (o : Obj) (x y : Value) (t : TypeId) : ∀ j u, [x, y][j]? = some u → ((w.alloc o).alloc (.cells #[x, y] t)).cell? ((⟨w.heap.size + 1, 0, none⟩ : Addr).add j) = some u := by
  intro j u hj
  match j, hj with
  | 0, hj => simp at hj; subst hj; simp [Addr.add, go_sem]
  | 1, hj => simp at hj; subst hj; simp [Addr.add, go_sem]
theorem own_keep {w w' : World} {lo : Nat} {e : TypeId} {size n : Nat} {v : Value} {xs : List Value} (h : w.ownsRow lo e size v n xs) (hk : ∀ b, b < w.heap.size → w'.heap[b]? = w.heap[b]?) : w'.ownsRow lo e size v n xs := by
  refine ⟨h.1, ?_⟩
  rcases h.2 with h0 | ⟨g, cap, cur, a1, a2, a3, a4⟩
  · exact .inl h0
  · exact .inr ⟨g, cap, cur, a1, a2, (hk g (heap_lt a3)).trans a3, a4⟩
theorem snoc_step {c : Ct} {ix : Int} {xs : List Value} {k : Nat} (h : TyRow (argT c ix) xs k) (hk : k < c.args.length) (hx : xs.length = k * 2) {u0 u1 : Int} (h0 : u0 = (argOf c ix c.args[k]).data) (h1 : u1 = (argOf c ix c.args[k]).index) :
    TyRow (argT c ix) (xs ++ [.int .i64 u0, .int .i64 u1]) (k + 1) := by
  have hk' : k < (argT c ix).length := by rw [argT_len]; exact hk
  have := h.snoc hk' hx
  rw [argT_get c ix k hk hk'] at this
  rw [h0, h1]
  exact this

theorem own_ne {w : World} {lo size n b : Nat} {e t : TypeId} {v : Value} {xs : List Value} {cs : Array Value} (h : w.ownsRow lo e size v n xs) (hc : w.heap[b]? = some (.cells cs t (0, 0))) (hne : e ≠ t) : some b ≠ v.ownBlock := fun he => by
  rcases h.2 with ⟨rfl, _⟩ | ⟨g, cap, cur, rfl, a2, a3, a4⟩
  · simp [Value.ownBlock] at he
  · have : b = g := by simpa [Value.ownBlock] using he
    subst this
    exact other_blk a3 hc hne rfl

end Go.Proofs.YthebdlejoficmaaDoor
