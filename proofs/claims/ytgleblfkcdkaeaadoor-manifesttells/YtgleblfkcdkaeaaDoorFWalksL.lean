/- The walks of frame's reader: number, text, entry. -/
import Derived.Test.YtgleblfkcdkaeaaDoorFWalksH
namespace Go.Proofs.YtgleblfkcdkaeaaDoor
open Go.RowKit

/-- The reader lies at block rb of w; what it has yet to read, xs, lies in W, which stands. -/
structure Rd (W w : World) (rb : Nat) (ro : Option Addr) (rl rc : Nat) (xs : List Int) : Prop where
  cell : w.cell? ⟨rb, 0, none⟩ = some (.slice ro rl rc)
  free : w.frozen? ⟨rb, 0, none⟩ = false
  tx : Tx W ro rl rc xs
  bel : Below W.heap.size W w
  out : W.heap.size ≤ rb

theorem Rd.lt {W w : World} {rb : Nat} {ro : Option Addr} {rl rc : Nat} {xs : List Int} (h : Rd W w rb ro rl rc xs) : rb < w.heap.size := World.block_lt_of_cell? _ _ h.cell
theorem Rd.later {W w w' : World} {rb : Nat} {ro : Option Addr} {rl rc : Nat} {xs : List Int} (h : Rd W w rb ro rl rc xs) (hb : Below w.heap.size w w') : Rd W w' rb ro rl rc xs :=
  ⟨cell_later hb h.cell, (hb.frozen (p := ⟨rb, 0, none⟩) h.lt).trans h.free, h.tx, h.bel.trans (hb.mono h.bel.size), h.out⟩
theorem Rd.off {S : List Nat} {W w w' : World} {rb : Nat} {ro : Option Addr} {rl rc : Nat} {xs : List Int} (h : Rd W w rb ro rl rc xs) (ho : Off S w w') (hn : rb ∉ S) (hs : ∀ k ∈ S, W.heap.size ≤ k) : Rd W w' rb ro rl rc xs :=
  ⟨ho.cell h.cell hn, by rw [World.frozen?_of_block (w := w) (ho.block rb h.lt hn)]; exact h.free, h.tx, h.bel.trans (ho.below hs h.bel.size), h.out⟩
theorem Rd.set {W w : World} {rb : Nat} {ro ro' : Option Addr} {rl rc rl' rc' : Nat} {xs xs' : List Int} (h : Rd W w rb ro rl rc xs) (t : Tx W ro' rl' rc' xs') : Rd W (w.setCell ⟨rb, 0, none⟩ (.slice ro' rl' rc')) rb ro' rl' rc' xs' :=
  ⟨World.cell?_setCell_same _ _ _ h.cell, by simpa using h.free, t, h.bel.setCell (p := ⟨rb, 0, none⟩) h.out _, h.out⟩

/-- The refusal that readers panic with. -/
def formE : List PanicEntry := [{ v := .iface 32 (.int .i64 12), recovered := false }]

end Go.Proofs.YtgleblfkcdkaeaaDoor
