/- An append of a whole list of batches. -/
import Derived.Test.YtkbhhidmndhnoaaWMem
import Derived.Laws.AppendOwnNone
namespace Go.Proofs.Ytkbhhidmndhnoaa
open Go.RowKit

theorem Lx.lowL {w : World} {ao : Option Addr} {len cap : Nat} {es : List (List Ent)} (h : Lx 1 RL w ao len cap es) (X : List Nat) (hX : ∀ k ∈ X, w.heap.size ≤ k) : Lv 1 RL X w ao len cap es := by
  refine Lv.mono (X := []) RL.stable RL.plain (by omega) ⟨⟨h.len_eq, h.le, h.top, h.bare, fun ad ha j e he => ?_⟩, fun _ _ _ => by simp⟩ (fun k hk => .inr (hX k hk))
  exact h.cell ad ha j e he

theorem flat_single : ∀ l : List Value, (l.map (fun x => [x])).flatten = l
  | [] => rfl
  | x :: l => by rw [List.map_cons, List.flatten_cons, flat_single l]; rfl

theorem run_allL (w : World) (ty : TypeId) (B : Nat) (v : Value) (es : List (List Ent)) (h : Ls 25 1 RL w B v es) (ao : Option Addr) (m cc : Nat) (ds : List (List Ent)) (hx : Lv 1 RL (own v) w ao m cc ds) (hn : es.length + m ≤ 1000000000) (hB : B ≤ w.heap.size) :
    ∃ ao' cap' w', (Builtin.append_ #[26, 26] ty #[v, .slice ao m cc]).run Try.prog w = .ok (.slice ao' (es.length + m) cap') w' ∧ Ls 25 1 RL w' B (.slice ao' (es.length + m) cap') (es ++ ds) ∧ Off (own v) w w' ∧ (∀ k ∈ own (.slice ao' (es.length + m) cap'), k ∈ own v ∨ w.heap.size ≤ k) := by
  obtain ⟨us, h1, h2, h3⟩ := h
  obtain ⟨i, hi, hz0, hz1, hz2⟩ := info_parts Try.info25
  have hl := hx.lx.len_eq
  cases ao with
  | none =>
    obtain ⟨rfl, rfl⟩ := hx.lx.bare rfl
    have hd : ds = [] := List.eq_nil_of_length_eq_zero hl
    subst hd
    have hrun := run_append_owned_none (P := Try.prog) (w := w) B 26 ty 25 i 1 Try.underlying26 hi v es.length _ h2
    obtain ⟨ao', cap', rfl⟩ := own_form h2
    exact ⟨ao', cap', w, hrun, ⟨us, by simpa using h1, by simpa using h2, fun j x y hx hy => h3 j x y hx (by simpa using hy)⟩, Off.refl _ _, fun k hk => .inl hk⟩
  | some a =>
    have hall : ∀ j, ∃ x : Value, ∀ e, ds[j]? = some e → w.cell? (a.add j) = some x ∧ RL w (own v) [x] e := by
      intro j
      by_cases hj : j < ds.length
      · obtain ⟨u, c1, c2⟩ := hx.lx.cell a rfl j (ds[j]'hj) (by simp)
        have c2' : RL w (own v) u (ds[j]'hj) := by simpa [Rx] using c2
        obtain ⟨eo, el, ec, rfl, t⟩ := c2'
        refine ⟨.slice eo el ec, fun e he => ?_⟩
        have hde : ds[j]? = some (ds[j]'hj) := by simp
        rw [hde] at he
        cases he
        exact ⟨by have := c1 0 _ rfl; simpa using this, eo, el, ec, rfl, t⟩
      · exact ⟨.bool false, fun e he => absurd (List.getElem?_eq_some_iff.1 he).1 hj⟩
    obtain ⟨f, hall⟩ := Classical.skolem.1 hall
    have hnl : ((List.range m).map f).length = m * 1 := by simp
    have hat1 : ∀ (j : Nat) (u : Value), ((List.range m).map f)[j]? = some u → w.cell? (a.add j) = some u ∧ u.oneCell' = true := by
      intro j u hu
      have hj : j < m := by have := (List.getElem?_eq_some_iff.1 hu).1; simpa using this
      simp [hj] at hu
      subst hu
      obtain ⟨c1, eo, el, ec, e1, _⟩ := hall j (ds[j]'(by omega)) (by simp)
      simp at e1
      exact ⟨c1, by rw [e1]; rfl⟩
    obtain ⟨v', w', hrun, hown', hgrow, _, hat⟩ := run_append_own_at (P := Try.prog) w B 26 ty 25 i (.slice none 0 0) 1 24 Try.underlying26 hi hz0 hz1 hz2 rfl (by omega) v es.length _ h2 a m cc ((List.range m).map f) hnl (fun j u hu => (hat1 j u hu).1)
      (fun u hu => by obtain ⟨j, hj⟩ := List.getElem?_of_mem hu; exact (hat1 j u hj).2) (by unfold maxLen; omega) (by omega) hB
    obtain ⟨ao', cap', rfl⟩ := own_form hown'
    have hoff : Off (own v) w w' := (Off.refl _ _).grown hgrow (fun k hk => by simp [own, hk])
    have hsub : ∀ k ∈ own (.slice ao' (es.length + m) cap'), k ∈ own v ∨ w.heap.size ≤ k := by
      intro k hk
      rcases hat with e | e
      · left; unfold own at hk ⊢; rwa [e] at hk
      · right; unfold own at hk; rw [e] at hk; simp at hk; omega
    refine ⟨ao', cap', w', hrun, ⟨us ++ ((List.range m).map f).map (fun x => [x]), by simp [h1, hl], ?_, fun j x y hx' hy => ?_⟩, hoff, hsub⟩
    · rw [List.flatten_append, flat_single, List.length_append, hl]; exact hown'
    · by_cases hj : j < us.length
      · rw [List.getElem?_append_left hj] at hx'
        rw [List.getElem?_append_left (by omega)] at hy
        exact RL.stable _ _ _ _ _ _ (h3 j x y hx' hy) hoff hsub
      · rw [List.getElem?_append_right (by omega)] at hx'
        rw [List.getElem?_append_right (by omega), ← h1] at hy
        have hjm : j - us.length < m := by have := (List.getElem?_eq_some_iff.1 hy).1; omega
        simp [hjm] at hx'
        subst hx'
        exact RL.stable _ _ _ _ _ _ (hall _ y hy).2 hoff hsub

theorem wpList_allL {ops : Array Oper} {rest : List Oper} {o : Oper} {a : Act} {w : World} {Q : Exit → Act → World → Prop}
    (hg : o.guard = none) (s x : Operand) (hop : o.op = Op.call { callee := Callee.builtin Builtin.append, args := #[s, x], argTypes := #[26, 26] })
    (B : Nat) (v : Value) (es : List (List Ent)) (hs : a.eval s = v) (h : Ls 25 1 RL w B v es) (ao : Option Addr) (m cc : Nat) (ds : List (List Ent)) (hx : a.eval x = .slice ao m cc) (hd : Lv 1 RL (own v) w ao m cc ds) (hn : es.length + m ≤ 1000000000) (hB : B ≤ w.heap.size)
    (hK : ∀ ao' n' cap' w', Hid (n' = es.length + m) → Ls 25 1 RL w' B (.slice ao' n' cap') (es ++ ds) → Off (own v) w w' → (∀ k ∈ own (.slice ao' n' cap'), k ∈ own v ∨ w.heap.size ≤ k) → wpList Try.prog ops Q rest (a.put o.dst (.slice ao' n' cap')) w') :
    wpList Try.prog ops Q (o :: rest) a w := by
  refine wpList_plain hg fun K hKK => ?_
  obtain ⟨ao', cap', w', hrun, h1, h2, h3⟩ := run_allL w o.type B v es h ao m cc ds hd hn hB
  unfold Oper.wp
  simp [execOp, hop, resolve, invoke, builtin, hs, hx, hrun, Result.andThen]
  exact hKK _ _ (hK ao' _ cap' w' rfl h1 h2 h3)

theorem ls_empty (w : World) : Ls 25 1 RL (w.alloc (.cells #[] 25)) w.heap.size (.slice (some ⟨w.heap.size, 0, none⟩) 0 0) [] :=
  ⟨[], rfl, ⟨by simp, .inr ⟨w.heap.size, 0, #[], rfl, Nat.le_refl _, heap_alloc_new w _, Nat.le_refl _, by unfold maxLen; omega, rfl, by simp⟩⟩, by simp⟩

end Go.Proofs.Ytkbhhidmndhnoaa
