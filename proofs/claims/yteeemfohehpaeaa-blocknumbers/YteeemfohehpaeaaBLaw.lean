/- Lists of entries whose texts lie in an early world: an append of a whole list, the store of one. -/
import Derived.Test.YteeemfohehpaeaaFWalksH
import Derived.Deep.MidRow
namespace Go.Proofs.Yteeemfohehpaeaa
set_option maxRecDepth 100000
open Go.RowKit Go.Sort

/-- An entry whose texts lie in w0. -/
def RW (w0 : World) : Reads Ent := fun _ _ u e => RE w0 [] u e
theorem RW.st (w0 : World) : Stable (RW w0) := fun _ _ _ _ _ _ h _ _ => h
theorem RW.pl (w0 : World) : Plain 3 (RW w0) := fun _ _ u e h => RE.plain w0 [] u e h
theorem Lx.rw {w0 w : World} {ao : Option Addr} {len cap : Nat} {es : List Ent} (h : Lx 3 (RW w0) w ao len cap es) (hb : Below w0.heap.size w0 w) : Lx 3 RE w ao len cap es :=
  ⟨h.len_eq, h.le, h.top, h.bare, fun ad ha j e he => by
    obtain ⟨u, h1, h2⟩ := h.cell ad ha j e he
    exact ⟨u, h1, RE.stable _ _ _ _ _ _ h2 (.of_below hb) (fun k hk => .inl hk)⟩⟩
theorem Lx.toRw {w : World} {ao : Option Addr} {len cap : Nat} {es : List Ent} (h : Lx 3 RE w ao len cap es) : Lx 3 (RW w) w ao len cap es := ⟨h.len_eq, h.le, h.top, h.bare, fun ad ha j e he => h.cell ad ha j e he⟩
theorem Lx.drop3 {w0 w : World} {b off len cap : Nat} {es : List Ent} (h : Lx 3 (RW w0) w (some ⟨b, off, none⟩) len cap es) (k : Nat) (hk : k ≤ len) : Lx 3 (RW w0) w (some ⟨b, off + k * 3, none⟩) (len - k) (cap - k) (es.drop k) := by
  refine ⟨by have := h.len_eq; simp; omega, by have := h.le; omega, by have := h.top; omega, fun ha => (by cases ha), fun ad ha j e he => ?_⟩
  cases ha
  obtain ⟨u, h1, h2⟩ := h.cell _ rfl (k + j) e (by simpa using he)
  refine ⟨u, fun i x hx => ?_, h2⟩
  have := h1 i x hx
  rw [Addr.add_lit] at this ⊢
  rw [← this, show off + k * 3 + (j * 3 + i) = off + ((k + j) * 3 + i) by omega]

theorem run_allE (w0 w : World) (ty : TypeId) (B : Nat) (v : Value) (es : List Ent) (h : Ls 25 3 (RW w0) w B v es) (ao : Option Addr) (m cc : Nat) (ds : List Ent) (hx : Lx 3 (RW w0) w ao m cc ds) (hn : es.length + m ≤ 1000000) (hB : B ≤ w.heap.size) :
    ∃ ao' cap' w', (Builtin.append_ #[22, 22] ty #[v, .slice ao m cc]).run Try.prog w = .ok (.slice ao' (es.length + m) cap') w' ∧ Ls 25 3 (RW w0) w' B (.slice ao' (es.length + m) cap') (es ++ ds) ∧ Off (own v) w w' ∧ (∀ k ∈ own (.slice ao' (es.length + m) cap'), k ∈ own v ∨ w.heap.size ≤ k) := by
  obtain ⟨us, h1, h2, h3⟩ := h
  obtain ⟨i, hi, hz0, hz1, hz2⟩ := info_parts Try.info25
  have hl := hx.len_eq
  cases ao with
  | none =>
    obtain ⟨rfl, rfl⟩ := hx.bare rfl
    have hd : ds = [] := List.eq_nil_of_length_eq_zero hl
    subst hd
    have hrun := run_append_owned_none (P := Try.prog) (w := w) B 22 ty 25 i 3 Try.underlying22 hi v es.length _ h2
    obtain ⟨ao', cap', rfl⟩ := own_form h2
    exact ⟨ao', cap', w, hrun, ⟨us, by simpa using h1, by simpa using h2, fun j x y hx hy => h3 j x y hx (by simpa using hy)⟩, Off.refl _ _, fun k hk => .inl hk⟩
  | some a =>
    have hall : ∀ j, ∃ u : List Value, ∀ e, ds[j]? = some e → (∀ (i : Nat) (x : Value), u[i]? = some x → w.cell? (a.add (j * 3 + i)) = some x) ∧ RE w0 [] u e := by
      intro j
      by_cases hj : j < ds.length
      · obtain ⟨u, c1, c2⟩ := hx.cell a rfl j (ds[j]'hj) (by simp)
        refine ⟨u, fun e he => ?_⟩
        have hde : ds[j]? = some (ds[j]'hj) := by simp
        rw [hde] at he
        cases he
        exact ⟨c1, c2⟩
      · exact ⟨[], fun e he => absurd (List.getElem?_eq_some_iff.1 he).1 hj⟩
    obtain ⟨f, hall⟩ := Classical.skolem.1 hall
    have hlen3 : ∀ u ∈ (List.range m).map f, u.length = 3 := by
      intro u hu
      simp only [List.mem_map, List.mem_range] at hu
      obtain ⟨j, hj, rfl⟩ := hu
      exact (RE.plain _ _ _ _ (hall j (ds[j]'(by omega)) (by simp)).2).1
    have hflen : ∀ (us : List (List Value)), (∀ u ∈ us, u.length = 3) → us.flatten.length = us.length * 3 := by
      intro us
      induction us with
      | nil => intro _; rfl
      | cons x us ih =>
        intro h
        have := ih (fun u hu => h u (by simp [hu]))
        have := h x (by simp)
        simp only [List.flatten_cons, List.length_append, List.length_cons]; omega
    have hat1 : ∀ (q : Nat) (x : Value), ((List.range m).map f).flatten[q]? = some x → w.cell? (a.add q) = some x ∧ x.oneCell' = true := by
      intro q x hq
      have hql := (List.getElem?_eq_some_iff.1 hq).1
      rw [hflen _ hlen3] at hql
      simp at hql
      have hju : ((List.range m).map f)[q / 3]? = some (f (q / 3)) := by simp [show q / 3 < m by omega]
      have hfl := flat_at ((List.range m).map f) (q / 3) (q % 3) (f (q / 3)) hlen3 hju (by omega)
      rw [show q / 3 * 3 + q % 3 = q by omega, hq] at hfl
      obtain ⟨c1, c2⟩ := hall (q / 3) (ds[q / 3]'(by omega)) (by simp)
      have := c1 (q % 3) x hfl.symm
      rw [show q / 3 * 3 + q % 3 = q by omega] at this
      exact ⟨this, (RE.plain _ _ _ _ c2).2 x (List.mem_of_getElem? hfl.symm)⟩
    obtain ⟨v', w', hrun, hown', hgrow, _, hat⟩ := run_append_own_at (P := Try.prog) w B 22 ty 25 i (.agg #[.slice none 0 0, .slice none 0 0, .bool false]) 3 56 Try.underlying22 hi hz0 hz1 hz2 rfl (by omega) v es.length _ h2 a m cc ((List.range m).map f).flatten (by rw [hflen _ hlen3]; simp) (fun j u hu => (hat1 j u hu).1)
      (fun u hu => by obtain ⟨j, hj⟩ := List.getElem?_of_mem hu; exact (hat1 j u hj).2) (by unfold maxLen; omega) (by omega) hB
    obtain ⟨ao', cap', rfl⟩ := own_form hown'
    have hoff : Off (own v) w w' := (Off.refl _ _).grown hgrow (fun k hk => by simp [own, hk])
    have hsub : ∀ k ∈ own (.slice ao' (es.length + m) cap'), k ∈ own v ∨ w.heap.size ≤ k := by
      intro k hk
      rcases hat with e | e
      · left; unfold own at hk ⊢; rwa [e] at hk
      · right; unfold own at hk; rw [e] at hk; simp at hk; omega
    refine ⟨ao', cap', w', hrun, ⟨us ++ (List.range m).map f, by simp [h1, hl], ?_, fun j x y hx' hy => ?_⟩, hoff, hsub⟩
    · rw [List.flatten_append, List.length_append, hl]; exact hown'
    · by_cases hj : j < us.length
      · rw [List.getElem?_append_left hj] at hx'
        rw [List.getElem?_append_left (by omega)] at hy
        exact h3 j x y hx' hy
      · rw [List.getElem?_append_right (by omega)] at hx'
        rw [List.getElem?_append_right (by omega), ← h1] at hy
        have hjm : j - us.length < m := by have := (List.getElem?_eq_some_iff.1 hy).1; omega
        simp [hjm] at hx'
        subst hx'
        exact (hall _ y hy).2

theorem step_allE {ops : Array Oper} {o : Oper} {a : Act} {w : World} {K : Act → World → Prop} {Q : Exit → Act → World → Prop} {E : Prop}
    (hg : o.guard = none) (s x : Operand) (hop : o.op = Op.call { callee := Callee.builtin Builtin.append, args := #[s, x], argTypes := #[22, 22] })
    (w0 : World) (B : Nat) (v : Value) (es : List Ent) (hs : a.eval s = v) (h : Ls 25 3 (RW w0) w B v es) (ao : Option Addr) (m cc : Nat) (ds : List Ent) (hx : a.eval x = .slice ao m cc) (hd : Lx 3 (RW w0) w ao m cc ds) (hn : es.length + m ≤ 1000000) (hB : B ≤ w.heap.size)
    (hK : ∀ ao' n' cap' w', Hid (n' = es.length + m) → Ls 25 3 (RW w0) w' B (.slice ao' n' cap') (es ++ ds) → Off (own v) w w' → (∀ k ∈ own (.slice ao' n' cap'), k ∈ own v ∨ w.heap.size ≤ k) → K (a.put o.dst (.slice ao' n' cap')) w') :
    if Region.wanted o (yielded ops a.tmps) = true then Oper.wp Try.prog o a w K Q else E := by
  have hw : Region.wanted o (yielded ops a.tmps) = true := by simp [Region.wanted, hg]
  rw [if_pos hw]
  obtain ⟨ao', cap', w', hrun, h1, h2, h3⟩ := run_allE w0 w o.type B v es h ao m cc ds hd hn hB
  unfold Oper.wp
  simp [execOp, hop, resolve, invoke, builtin, hs, hx, hrun, Result.andThen]
  exact hK ao' _ cap' w' rfl h1 h2 h3
theorem ls_empty_at (w0 w : World) (g B : Nat) (hg : w.heap[g]? = some (.cells #[] 25)) (hB : B ≤ g) : Ls 25 3 (RW w0) w B (.slice (some ⟨g, 0, none⟩) 0 0) [] :=
  ⟨[], rfl, ⟨by simp, .inr ⟨g, 0, #[], rfl, hB, hg, Nat.le_refl _, by unfold maxLen; omega, rfl, by simp⟩⟩, by simp⟩

/-- A list that is read and whose elements may be put in place, its row the call's own. -/
structure RO (w0 w : World) (ao : Option Addr) (n cap : Nat) (es : List Ent) : Prop where
  lx : Lx 3 (RW w0) w ao n cap es
  th : 0 < n → ∃ g, ao = some ⟨g, 0, none⟩ ∧ w0.heap.size ≤ g ∧ w.there g 0 (n * 3)
theorem there_on {w w' : World} {g o n : Nat} (h : w.there g o n) (hb : Below w.heap.size w w') : w'.there g o n := fun j hj => by
  obtain ⟨h1, h2⟩ := h j hj
  obtain ⟨u, hu⟩ := Option.isSome_iff_exists.1 h1
  have hk := World.block_lt_of_cell? w _ hu
  have he := hb.block g hk
  refine ⟨by rw [cell_later hb hu]; rfl, ?_⟩
  have : w'.frozen? ⟨g, o + j, none⟩ = w.frozen? ⟨g, o + j, none⟩ := by simp only [World.frozen?]; rw [he]
  rw [this]; exact h2
theorem RO.nil (w0 w : World) : RO w0 w none 0 0 [] := ⟨Lx.nil _ _ _, fun h => by omega⟩
theorem RO.later {w0 w w' : World} {ao : Option Addr} {n cap : Nat} {es : List Ent} (h : RO w0 w ao n cap es) (hb : Below w.heap.size w w') : RO w0 w' ao n cap es :=
  ⟨h.lx.later (RW.st w0) hb, fun h0 => by
    obtain ⟨g, h1, h2, h3⟩ := h.th h0
    exact ⟨g, h1, h2, there_on h3 hb⟩⟩
theorem RO.of_ls {w0 w : World} {B n cap : Nat} {ao : Option Addr} {es : List Ent} (h : Ls 25 3 (RW w0) w B (.slice ao n cap) es) (hB : w0.heap.size ≤ B) : RO w0 w ao n cap es := by
  refine ⟨?_, fun h0 => ?_⟩
  · obtain ⟨ao9, cap9, e9, hx9⟩ := h.read (RW.st w0) (RW.pl w0)
    simp only [Value.slice.injEq] at e9
    obtain ⟨rfl, e10, rfl⟩ := e9
    rw [← e10] at hx9
    exact hx9
  · obtain ⟨us, h1, h2, h3⟩ := h
    obtain ⟨hl, h4⟩ := h2
    rcases h4 with ⟨h', hn⟩ | ⟨g, c, cur, h', hb, hg, hn, _, hs, _⟩
    · simp only [Value.slice.injEq] at h'
      omega
    · simp only [Value.slice.injEq] at h'
      obtain ⟨e1, e2, e3⟩ := h'
      refine ⟨g, e1, Nat.le_trans hB hb, fun j hj => ⟨?_, frozen_of_row w g _ _ 25 hg⟩⟩
      rw [cell_of_row w g _ cur 25 (0, 0) hg]
      simp; omega
theorem off_cells (g : Nat) : ∀ (vs : List Value) (o : Nat) (w : World), Off [g] w (w.setCells g o vs)
  | [], _, w => Off.refl _ w
  | v :: r, o, w => ((Off.refl [g] w).setCell (p := ⟨g, o, none⟩) (by simp) v).trans (off_cells g r (o + 1) _)
theorem RO.put {w0 w : World} {g n cap k : Nat} {es : List Ent} (h : RO w0 w (some ⟨g, 0, none⟩) n cap es) (hk : k < n) (u : List Value) (e : Ent) (hu : RE w0 [] u e) : RO w0 (w.setCells g (k * 3) u) (some ⟨g, 0, none⟩) n cap (es.set k e) := by
  obtain ⟨g', h1, h2, h3⟩ := h.th (by omega)
  cases h1
  have hl := h.lx.len_eq
  have hu3 := (RE.plain _ _ _ _ hu).1
  refine ⟨⟨by simpa using hl, h.lx.le, h.lx.top, fun h => (by cases h), fun ad ha j x hx => ?_⟩, fun _ => ⟨g, rfl, h2, World.there_setCells h3 g (k * 3) u⟩⟩
  cases ha
  by_cases hjk : k = j
  · subst hjk
    have hxe : x = e := by
      rw [List.getElem?_set_self (by omega)] at hx
      exact (Option.some.inj hx).symm
    subst hxe
    have hr := World.rangeAt_setCells_same w g (k * 3) u (fun i hi => by
      have := h3 (k * 3 + i) (by omega)
      rwa [Nat.zero_add] at this)
    exact ⟨u, fun i y hy => by rw [Addr.add_lit, Nat.zero_add]; exact hr i y hy, hu⟩
  · rw [List.getElem?_set_ne hjk] at hx
    obtain ⟨u', c1, c2⟩ := h.lx.cell _ rfl j x hx
    have hu3' := (RE.plain _ _ _ _ c2).1
    have hr : w.rangeAt g (j * 3) u' := fun i y hy => by have := c1 i y hy; rwa [Addr.add_lit, Nat.zero_add] at this
    have := World.rangeAt_setCells_apart hr g (k * 3) u (by omega)
    exact ⟨u', fun i y hy => by rw [Addr.add_lit, Nat.zero_add]; exact this i y hy, c2⟩
theorem info25s : (Try.prog.info? 25).map (·.size) = some 3 := by kernel_rfl
/-- The store of an entry in its place. -/
theorem wpList_putE {ops : Array Oper} {rest : List Oper} {o : Oper} {a : Act} {w w0 : World} {Q : Exit → Act → World → Prop}
    (hg : o.guard = none) (x y : Operand) (hop : o.op = .store 25 x y) (g n cap k : Nat) (A C D : Value) (es : List Ent) (e : Ent) (hx : a.eval x = .pointer (some ⟨g, k * 3, none⟩)) (hy : a.eval y = .agg #[A, C, D])
    (h : RO w0 w (some ⟨g, 0, none⟩) n cap es) (hk : k < n) (hu : RE w0 [] [A, C, D] e) (hb : Below w0.heap.size w0 w)
    (hK : ∀ w', RO w0 w' (some ⟨g, 0, none⟩) n cap (es.set k e) → Below w0.heap.size w0 w' → wpList Try.prog ops Q rest (a.put o.dst undef) w') : wpList Try.prog ops Q (o :: rest) a w := by
  obtain ⟨g', h1, h2, h3⟩ := h.th (by omega)
  cases h1
  refine wpList_store_mid hg 25 x y hop g (k * 3) _ hx hy (fun j hj => ?_) info25s ?_ ?_
  · have := h3 (k * 3 + j) (by simp at hj; omega)
    rwa [Nat.zero_add] at this
  · have hp := (RE.plain _ _ _ _ hu).2
    simp [hp A (by simp), hp C (by simp), hp D (by simp)]
  · exact hK _ (h.put hk [A, C, D] e hu) (hb.trans ((off_cells g _ _ w).below (by simpa using h2) hb.size))

end Go.Proofs.Yteeemfohehpaeaa
