/- The walk of the document's Batch. -/
import Derived.Test.YtdlkakkoaelemaaFWalksO
import Derived.Deep.RegionHeldLaw
namespace Go.Proofs.Ytdlkakkoaelemaa
open Go.RowKit

theorem Gr.drew {B : Nat} {w : World} {ao : Option Addr} {n cap : Nat} {xs : List Int} (h : Gr B w ao n cap xs) : Gr B w.drew ao n cap xs := h.later ((Below.refl _ _).drew)
theorem Box.drew {w : World} {bx : Nat} {k v : Value} {g : Bool} (h : Box w bx k v g) : Box w.drew bx k v g := ⟨h.c0, h.c1, h.c2⟩

theorem Gr.mono {B C : Nat} {w : World} {ao : Option Addr} {n cap : Nat} {xs : List Int} (h : Gr B w ao n cap xs) (hBC : C ≤ B) : Gr C w ao n cap xs := by
  refine ⟨⟨h.own.1, ?_⟩, h.rng, Nat.le_trans hBC h.hB⟩
  rcases h.own.2 with h' | ⟨g, cap', cur, e, hb, r⟩
  · exact .inl h'
  · exact .inr ⟨g, cap', cur, e, Nat.le_trans hBC hb, r⟩

end Go.Proofs.Ytdlkakkoaelemaa
