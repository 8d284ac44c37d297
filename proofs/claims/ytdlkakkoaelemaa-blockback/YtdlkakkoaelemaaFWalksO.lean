/- The walks of the document's May and Batch, and of the statements' own 'batch'. -/
import Derived.Test.YtdlkakkoaelemaaFWalksJ
namespace Go.Proofs.Ytdlkakkoaelemaa
open Go.RowKit

/-- 'append(out, b...)' in a region that draws. -/
theorem step_gr {ops : Array Oper} {o : Oper} {a : Act} {w : World} {K : Act → World → Prop} {Q : Exit → Act → World → Prop} {E : Prop}
    (hg : o.guard = none) (s x : Operand) (hop : o.op = Op.call { callee := Callee.builtin Builtin.append, args := #[s, x], argTypes := #[23, 23] })
    (B : Nat) (bo : Option Addr) (n cap : Nat) (xs : List Int) (hs : a.eval s = .slice bo n cap) (h : Gr B w bo n cap xs)
    (ao : Option Addr) (m c : Nat) (ys : List Int) (hx : a.eval x = .slice ao m c) (ht : Tx w ao m c ys) (b : n + m ≤ 1000000000)
    (hK : ∀ bo' n' cap' w', Hid (n' = n + m) → Gr B w' bo' n' cap' (xs ++ ys) → Moves (.slice bo n cap) (.slice bo' n' cap') w w' → K (a.put o.dst (.slice bo' n' cap')) w') :
    if Region.wanted o (yielded ops a.tmps) = true then Oper.wp Try.prog o a w K Q else E :=
  step_app hg s x hop B (.slice bo n cap) n xs hs h.own ao m c ys hx ht b h.hB (fun bo' cap' w' h1 h2 h3 => hK bo' _ cap' w' rfl ⟨h1, fun x hx => (List.mem_append.1 hx).elim (h.rng x) (ht.rng x), Nat.le_trans h.hB h2.size⟩ ⟨h2, h3⟩)

theorem tx_two (w : World) (x y : Int) (hx : 0 ≤ x ∧ x ≤ 255) (hy : 0 ≤ y ∧ y ≤ 255) : Tx (w.alloc (.cells #[.int .u8 x, .int .u8 y] 5)) (some ⟨w.heap.size, 0, none⟩) 2 2 [x, y] := by
  have hr : Row (w.alloc (.cells #[.int .u8 x, .int .u8 y] 5)) w.heap.size [x, y] := heap_alloc_new w _
  refine hr.tx 2 rfl (by omega) (fun n hn => ?_)
  simp at hn
  rcases hn with rfl | rfl <;> assumption

end Go.Proofs.Ytdlkakkoaelemaa
