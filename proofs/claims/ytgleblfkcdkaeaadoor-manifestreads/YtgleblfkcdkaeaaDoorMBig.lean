/- An append of bytes, however many came in; what came in is told its size. -/
import Derived.Test.YtgleblfkcdkaeaaDoorFWalksF
import Derived.Test.YtgleblfkcdkaeaaDoorFOpen
import Derived.SizedLaws
namespace Go.Proofs.YtgleblfkcdkaeaaDoor
set_option maxRecDepth 100000
open Go.ChangeShapes Go.WideShapes Go.ChangeAt Go.RowKit Go.Deep Go.Sort

theorem run_appX (B : Nat) (w : World) (ty : TypeId) (v : Value) (n : Nat) (xs : List Int) (hown : w.ownsRow B 5 1 v n (xs.map (Value.int .u8)))
    (ao : Option Addr) (m c : Nat) (ys : List Int) (ht : Tx w ao m c ys) (b : n + m ≤ 140737488355328) (hB : B ≤ w.heap.size) :
    ∃ v' w', (Builtin.append_ #[27, 27] ty #[v, .slice ao m c]).run Tryd.prog w = .ok v' w' ∧ w'.ownsRow B 5 1 v' (n + m) ((xs ++ ys).map (Value.int .u8)) ∧ Off (own v) w w' ∧ (∀ k ∈ own v', k ∈ own v ∨ w.heap.size ≤ k) := by
  obtain ⟨i, hi, hz0, hz1, hz2⟩ := info_parts Tryd.info5
  cases ao with
  | none =>
    obtain ⟨rfl, rfl⟩ := ht.bare rfl
    have hy : ys = [] := List.eq_nil_of_length_eq_zero ht.len_eq
    subst hy
    refine ⟨v, w, run_append_owned_none (P := Tryd.prog) (w := w) B 27 ty 5 i 1 Tryd.underlying27 hi v n _ hown, by simpa using hown, .refl _ _, fun k hk => .inl hk⟩
  | some ad =>
    obtain ⟨v', w', hrun, hown', hgrow, _, hat⟩ := run_append_own_at (P := Tryd.prog) w B 27 ty 5 i (.int .u8 0) 1 1 Tryd.underlying27 hi hz0 hz1 hz2 rfl (by decide) v n _ hown ad m c (ys.map (Value.int .u8)) (by simp [ht.len_eq])
      (fun j u hu => by
        have hjl : j < ys.length := by
          have := (List.getElem?_eq_some_iff.1 hu).1
          simpa using this
        rw [ht.cell ad rfl j (by rw [← ht.len_eq]; exact hjl)]
        simp [hjl] at hu
        simp [List.getD, hjl, hu]) (ints_oneCell _ _) (by unfold maxLen; omega) (by omega) hB
    rw [← List.map_append] at hown'
    refine ⟨v', w', hrun, hown', (Off.refl _ _).grown hgrow (fun k hk => by simp [own, hk]), fun k hk => ?_⟩
    rcases hat with e | e
    · left; unfold own at hk ⊢; rwa [e] at hk
    · right; unfold own at hk; rw [e] at hk; simp at hk; omega

theorem step_appX {ops : Array Oper} {o : Oper} {a : Act} {w : World} {K : Act → World → Prop} {Q : Exit → Act → World → Prop} {E : Prop}
    (hg : o.guard = none) (s x : Operand) (hop : o.op = Op.call { callee := Callee.builtin Builtin.append, args := #[s, x], argTypes := #[27, 27] })
    (B : Nat) (v : Value) (n : Nat) (xs : List Int) (hs : a.eval s = v) (hown : w.ownsRow B 5 1 v n (xs.map (Value.int .u8)))
    (ao : Option Addr) (m c : Nat) (ys : List Int) (hx : a.eval x = .slice ao m c) (ht : Tx w ao m c ys) (b : n + m ≤ 140737488355328) (hB : B ≤ w.heap.size)
    (hK : ∀ bo' cap' w', w'.ownsRow B 5 1 (.slice bo' (n + m) cap') (n + m) ((xs ++ ys).map (Value.int .u8)) → Off (own v) w w' → (∀ k ∈ own (.slice bo' (n + m) cap'), k ∈ own v ∨ w.heap.size ≤ k) → K (a.put o.dst (.slice bo' (n + m) cap')) w') :
    if Region.wanted o (yielded ops a.tmps) = true then Oper.wp Tryd.prog o a w K Q else E := by
  have hw : Region.wanted o (yielded ops a.tmps) = true := by simp [Region.wanted, hg]
  rw [if_pos hw]
  obtain ⟨v', w', hrun, hown', hoff, hsub⟩ := run_appX B w o.type v n xs hown ao m c ys ht b hB
  obtain ⟨bo', cap', rfl⟩ := own_form hown'
  unfold Oper.wp
  simp [execOp, hop, resolve, invoke, builtin, hs, hx, hrun, Result.andThen]
  exact hK bo' cap' w' hown' hoff hsub
theorem wpList_appX {ops : Array Oper} {rest : List Oper} {o : Oper} {a : Act} {w : World} {Q : Exit → Act → World → Prop}
    (hg : o.guard = none) (s x : Operand) (hop : o.op = Op.call { callee := Callee.builtin Builtin.append, args := #[s, x], argTypes := #[27, 27] })
    (B : Nat) (v : Value) (n : Nat) (xs : List Int) (hs : a.eval s = v) (hown : w.ownsRow B 5 1 v n (xs.map (Value.int .u8)))
    (ao : Option Addr) (m c : Nat) (ys : List Int) (hx : a.eval x = .slice ao m c) (ht : Tx w ao m c ys) (b : n + m ≤ 140737488355328) (hB : B ≤ w.heap.size)
    (hK : ∀ bo' cap' w', w'.ownsRow B 5 1 (.slice bo' (n + m) cap') (n + m) ((xs ++ ys).map (Value.int .u8)) → Off (own v) w w' → (∀ k ∈ own (.slice bo' (n + m) cap'), k ∈ own v ∨ w.heap.size ≤ k) → wpList Tryd.prog ops Q rest (a.put o.dst (.slice bo' (n + m) cap')) w') :
    wpList Tryd.prog ops Q (o :: rest) a w := by
  refine wpList_plain hg fun K hKK => ?_
  obtain ⟨v', w', hrun, hown', hoff, hsub⟩ := run_appX B w o.type v n xs hown ao m c ys ht b hB
  obtain ⟨bo', cap', rfl⟩ := own_form hown'
  unfold Oper.wp
  simp [execOp, hop, resolve, invoke, builtin, hs, hx, hrun, Result.andThen]
  exact hKK _ _ (hK bo' cap' w' hown' hoff hsub)
theorem wpList_grX {ops : Array Oper} {rest : List Oper} {o : Oper} {a : Act} {w : World} {Q : Exit → Act → World → Prop}
    (hg : o.guard = none) (s x : Operand) (hop : o.op = Op.call { callee := Callee.builtin Builtin.append, args := #[s, x], argTypes := #[27, 27] })
    (B : Nat) (bo : Option Addr) (n cap : Nat) (xs : List Int) (hs : a.eval s = .slice bo n cap) (h : Gr B w bo n cap xs)
    (ao : Option Addr) (m c : Nat) (ys : List Int) (hx : a.eval x = .slice ao m c) (ht : Tx w ao m c ys) (b : n + m ≤ 140737488355328)
    (hK : ∀ bo' n' cap' w', Hid (n' = n + m) → Gr B w' bo' n' cap' (xs ++ ys) → Moves (.slice bo n cap) (.slice bo' n' cap') w w' → wpList Tryd.prog ops Q rest (a.put o.dst (.slice bo' n' cap')) w') :
    wpList Tryd.prog ops Q (o :: rest) a w :=
  wpList_appX hg s x hop B (.slice bo n cap) n xs hs h.own ao m c ys hx ht b h.hB (fun bo' cap' w' h1 h2 h3 => hK bo' _ cap' w' rfl ⟨h1, fun x hx => (List.mem_append.1 hx).elim (h.rng x) (ht.rng x), Nat.le_trans h.hB h2.size⟩ ⟨h2, h3⟩)

theorem Tryd.bytes5 : Tryd.prog.bytesOf 5 = 1 := by kernel_rfl
/-- As open_tx, and no more than the row lets in. -/
theorem open_txs {H : Type} {enc : TypeId × Value → H} {W : World} {base : Nat} {v : Value} {d : DataW H} {p : List MemPlace} {ts : List TypeId} {ds : List (DataW H)} (hz : (DataW.weightsEach Tryd.prog ts ds).all (· ≤ reachBytes) = true) (j : Nat) (htj : ts[j]? = some 27) (hdj : ds[j]? = some d) (hval : Value.okWide Tryd.prog W .any base 27 v) (h : DataW.Trod enc Tryd.prog W 0 (fun _ => true) true 27 v d p) :
    ∃ ao la ca xs, v = .slice ao la ca ∧ Tx W ao la ca xs ∧ la ≤ 140737488351232 := by
  have h0 := h
  obtain ⟨a1, len, cap, rfl⟩ := okWide_slice Tryd.underlying27 hval
  obtain ⟨ao, la, ca, xs, hv, t⟩ := open_tx hval h0
  cases hv
  refine ⟨a1, len, cap, xs, rfl, t, ?_⟩
  obtain ⟨fuel, hf⟩ := h
  rcases open_ints Tryd.underlying27 Tryd.underlying5 Tryd.cells5 hf with ⟨hcs, _⟩ | ⟨a, len', cap', zs, hcs, _, hl, hm, hzl, hd, _⟩
  · simp [Value.cells] at hcs
    omega
  · simp [Value.cells] at hcs
    obtain ⟨rfl, rfl, rfl⟩ := hcs
    simp only [if_true] at hzl
    obtain ⟨hd1, _⟩ := Prod.mk.inj hd
    rw [hd1] at hdj
    have := sized_slice hz htj hdj Tryd.underlying27
    rw [Tryd.bytes5] at this
    simp [lits] at this
    have hr : reachBytes = 140737488351232 := by decide
    omega
end Go.Proofs.YtgleblfkcdkaeaaDoor
