/- The walk of frame.Batch. -/
import Derived.Test.YtgleblfkcdkaeaaDoorFWalksF
namespace Go.Proofs.YtgleblfkcdkaeaaDoor
open Go.RowKit

theorem batch_take_succ (l : List Ent) (k : Nat) (e : Ent) (h : l[k]? = some e) : (l.take (k + 1)).flatMap encE = (l.take k).flatMap encE ++ encE e := by
  obtain ⟨hk, rfl⟩ := List.getElem?_eq_some_iff.1 h
  rw [List.take_succ_eq_append_getElem hk, List.flatMap_append, List.flatMap_cons, List.flatMap_nil, List.append_nil]
theorem flat_take_small (l : List Ent) (k : Nat) (h1 : l.length ≤ 8191) (h : ∀ e ∈ l, fitsE e = true) : ((l.take k).flatMap encE).length ≤ 40000000 := by
  have := flat_length (l.take k) (fun e he => h e (List.mem_of_mem_take he))
  rw [List.length_take] at this; omega

theorem TxB.mono {B C : Nat} {w : World} {ao : Option Addr} {l c : Nat} {xs : List Int} (h : TxB B w ao l c xs) (hBC : B ≤ C) : TxB C w ao l c xs := ⟨h.tx, fun ad ha h0 => Nat.lt_of_lt_of_le (h.low ad ha h0) hBC⟩
theorem TxB.alloc {B : Nat} {w : World} {ao : Option Addr} {l c : Nat} {xs : List Int} (h : TxB B w ao l c xs) (o : Obj) : TxB B (w.alloc o) ao l c xs := ⟨h.tx.alloc o, h.low⟩

theorem may_no {l : List Ent} {k : Nat} {e : Ent} (h : l[k]? = some e) (hf : fitsE e = false) : mayL l = false := by
  cases hm : mayL l with
  | false => rfl
  | true =>
    have := ((mayL_iff l).1 hm).2 e (List.mem_of_getElem? h)
    rw [hf] at this
    cases this

end Go.Proofs.YtgleblfkcdkaeaaDoor
