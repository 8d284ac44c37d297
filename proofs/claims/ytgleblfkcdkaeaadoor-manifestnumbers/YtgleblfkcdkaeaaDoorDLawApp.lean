/- 'append' onto bytes that a thing owns, wherever they lie: what it gives, and what stays. -/
import Derived.Test.YtgleblfkcdkaeaaDoorDMemB
import Derived.Deep.RegionHeldLaw
import Derived.Deep.AppendLies
namespace Go.Proofs.YtgleblfkcdkaeaaDoor
open Go.RowKit

theorem drun_app (w : World) (ty : TypeId) (v : Value) (n : Nat) (xs : List Int) (hown : w.ownsRow 0 5 1 v n (xs.map (Value.int .u8)))
    (ao : Option Addr) (m c : Nat) (ys : List Int) (ht : Tx w ao m c ys) (b : n + m ≤ 1000000000) :
    ∃ v' w', (Builtin.append_ #[27, 27] ty #[v, .slice ao m c]).run Tryd.prog w = .ok v' w' ∧ w'.ownsRow 0 5 1 v' (n + m) ((xs ++ ys).map (Value.int .u8)) ∧ Off (own v) w w' ∧ (∀ k ∈ own v', k ∈ own v ∨ w.heap.size ≤ k) := by
  obtain ⟨i, hi, hz0, hz1, hz2⟩ := info_parts Tryd.info5
  cases ao with
  | none =>
    obtain ⟨rfl, rfl⟩ := ht.bare rfl
    have hy : ys = [] := List.eq_nil_of_length_eq_zero ht.len_eq
    subst hy
    refine ⟨v, w, run_append_owned_none (P := Tryd.prog) (w := w) 0 27 ty 5 i 1 Tryd.underlying27 hi v n _ hown, by simpa using hown, .refl _ _, fun k hk => .inl hk⟩
  | some ad =>
    obtain ⟨v', w', hrun, hown', hgrow, _, hat⟩ := run_append_own_at (P := Tryd.prog) w 0 27 ty 5 i (.int .u8 0) 1 1 Tryd.underlying27 hi hz0 hz1 hz2 rfl (by decide) v n _ hown ad m c (ys.map (Value.int .u8)) (by simp [ht.len_eq])
      (fun j u hu => by
        have hjl : j < ys.length := by
          have := (List.getElem?_eq_some_iff.1 hu).1
          simpa using this
        rw [ht.cell ad rfl j (by rw [← ht.len_eq]; exact hjl)]
        simp [hjl] at hu
        simp [List.getD, hjl, hu]) (ints_oneCell _ _) (by unfold maxLen; omega) (by omega) (Nat.zero_le _)
    rw [← List.map_append] at hown'
    refine ⟨v', w', hrun, hown', (Off.refl _ _).grown hgrow (fun k hk => by simp [own, hk]), fun k hk => ?_⟩
    rcases hat with e | e
    · left; unfold own at hk ⊢; rwa [e] at hk
    · right; unfold own at hk; rw [e] at hk; simp at hk; omega

theorem dstep_app {ops : Array Oper} {o : Oper} {a : Act} {w : World} {K : Act → World → Prop} {Q : Exit → Act → World → Prop} {E : Prop}
    (hg : o.guard = none) (s x : Operand) (hop : o.op = Op.call { callee := Callee.builtin Builtin.append, args := #[s, x], argTypes := #[27, 27] })
    (v : Value) (n : Nat) (xs : List Int) (hs : a.eval s = v) (hown : w.ownsRow 0 5 1 v n (xs.map (Value.int .u8)))
    (ao : Option Addr) (m c : Nat) (ys : List Int) (hx : a.eval x = .slice ao m c) (ht : Tx w ao m c ys) (b : n + m ≤ 1000000000)
    (hK : ∀ bo' cap' w', w'.ownsRow 0 5 1 (.slice bo' (n + m) cap') (n + m) ((xs ++ ys).map (Value.int .u8)) → Off (own v) w w' → (∀ k ∈ own (.slice bo' (n + m) cap'), k ∈ own v ∨ w.heap.size ≤ k) → K (a.put o.dst (.slice bo' (n + m) cap')) w') :
    if Region.wanted o (yielded ops a.tmps) = true then Oper.wp Tryd.prog o a w K Q else E := by
  have hw : Region.wanted o (yielded ops a.tmps) = true := by simp [Region.wanted, hg]
  rw [if_pos hw]
  obtain ⟨v', w', hrun, hown', hoff, hsub⟩ := drun_app w o.type v n xs hown ao m c ys ht b
  obtain ⟨bo', cap', rfl⟩ := own_form hown'
  unfold Oper.wp
  simp [execOp, hop, resolve, invoke, builtin, hs, hx, hrun, Result.andThen]
  exact hK bo' cap' w' hown' hoff hsub

theorem dwpList_app {ops : Array Oper} {rest : List Oper} {o : Oper} {a : Act} {w : World} {Q : Exit → Act → World → Prop}
    (hg : o.guard = none) (s x : Operand) (hop : o.op = Op.call { callee := Callee.builtin Builtin.append, args := #[s, x], argTypes := #[27, 27] })
    (v : Value) (n : Nat) (xs : List Int) (hs : a.eval s = v) (hown : w.ownsRow 0 5 1 v n (xs.map (Value.int .u8)))
    (ao : Option Addr) (m c : Nat) (ys : List Int) (hx : a.eval x = .slice ao m c) (ht : Tx w ao m c ys) (b : n + m ≤ 1000000000)
    (hK : ∀ bo' cap' w', w'.ownsRow 0 5 1 (.slice bo' (n + m) cap') (n + m) ((xs ++ ys).map (Value.int .u8)) → Off (own v) w w' → (∀ k ∈ own (.slice bo' (n + m) cap'), k ∈ own v ∨ w.heap.size ≤ k) → wpList Tryd.prog ops Q rest (a.put o.dst (.slice bo' (n + m) cap')) w') :
    wpList Tryd.prog ops Q (o :: rest) a w := by
  refine wpList_plain hg fun K hKK => ?_
  obtain ⟨v', w', hrun, hown', hoff, hsub⟩ := drun_app w o.type v n xs hown ao m c ys ht b
  obtain ⟨bo', cap', rfl⟩ := own_form hown'
  unfold Oper.wp
  simp [execOp, hop, resolve, invoke, builtin, hs, hx, hrun, Result.andThen]
  exact hKK _ _ (hK bo' cap' w' hown' hoff hsub)

end Go.Proofs.YtgleblfkcdkaeaaDoor
