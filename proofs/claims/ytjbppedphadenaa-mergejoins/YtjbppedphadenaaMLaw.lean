/- Lists whose texts lie in an early world and in none of the blocks X: an append of a whole list, of one; what came so is read again. -/
import Derived.Test.YtjbppedphadenaaMOwn
namespace Go.Proofs.Ytjbppedphadenaa
set_option maxRecDepth 100000
open Go.RowKit Go.Sort

theorem own_mono {B C n : Nat} {w : World} {e : TypeId} {size : Nat} {v : Value} {xs : List Value} (h : w.ownsRow C e size v n xs) (hBC : B ≤ C) : w.ownsRow B e size v n xs :=
  ⟨h.1, h.2.imp id (fun ⟨g, cap, cur, e, hb, r⟩ => ⟨g, cap, cur, e, Nat.le_trans hBC hb, r⟩)⟩

/-- An entry that lies in none of the blocks X either. -/
def REx (X : List Nat) : Reads Ent := fun w S u e => RE w (S ++ X) u e
theorem REx.st (X : List Nat) : Stable (REx X) := by
  rintro w w' S S' u e ⟨k, v, hu, h, h'⟩ ho hs
  have hof : Off (S ++ X) w w' := ho.mono (fun k hk => List.mem_append_left _ hk)
  have hss : ∀ k ∈ S' ++ X, k ∈ S ++ X ∨ w.heap.size ≤ k := fun k hk => by
    rcases List.mem_append.1 hk with hk | hk
    · exact (hs k hk).imp_left (List.mem_append_left _)
    · exact .inl (List.mem_append_right _ hk)
  exact ⟨k, v, hu, h.off hof hss, h'.off hof hss⟩
theorem REx.pl (X : List Nat) : Plain 3 (REx X) := fun w S u e h => RE.plain w (S ++ X) u e h
/-- A whole list is appended whose texts lie elsewhere. -/
theorem run_allY (X : List Nat) (w : World) (ty : TypeId) (B : Nat) (v : Value) (es : List Ent) (h : Ls 26 3 (REx X) w B v es) (ao : Option Addr) (m cc : Nat) (ds : List Ent) (hx : Lx 3 (REx (own v ++ X)) w ao m cc ds) (hn : es.length + m ≤ 500000000) (hB : B ≤ w.heap.size) :
    ∃ ao' cap' w', (Builtin.append_ #[23, 23] ty #[v, .slice ao m cc]).run Try.prog w = .ok (.slice ao' (es.length + m) cap') w' ∧ Ls 26 3 (REx X) w' B (.slice ao' (es.length + m) cap') (es ++ ds) ∧ Off (own v) w w' ∧ (∀ k ∈ own (.slice ao' (es.length + m) cap'), k ∈ own v ∨ w.heap.size ≤ k) ∧ (own v ≠ [] → own (.slice ao' (es.length + m) cap') ≠ []) := by
  obtain ⟨us, h1, h2, h3⟩ := h
  obtain ⟨i, hi, hz0, hz1, hz2⟩ := info_parts Try.info26
  have hl := hx.len_eq
  cases ao with
  | none =>
    obtain ⟨rfl, rfl⟩ := hx.bare rfl
    have hd : ds = [] := List.eq_nil_of_length_eq_zero hl
    subst hd
    have hrun := run_append_owned_none (P := Try.prog) (w := w) B 23 ty 26 i 3 Try.underlying23 hi v es.length _ h2
    obtain ⟨ao', cap', rfl⟩ := own_form h2
    exact ⟨ao', cap', w, hrun, ⟨us, by simpa using h1, by simpa using h2, fun j x y hx hy => h3 j x y hx (by simpa using hy)⟩, Off.refl _ _, fun k hk => .inl hk, fun h => h⟩
  | some a =>
    have hall : ∀ j, ∃ u : List Value, ∀ e, ds[j]? = some e → (∀ (i : Nat) (x : Value), u[i]? = some x → w.cell? (a.add (j * 3 + i)) = some x) ∧ REx X w (own v) u e := by
      intro j
      by_cases hj : j < ds.length
      · obtain ⟨u, c1, c2⟩ := hx.cell a rfl j (ds[j]'hj) (by simp)
        refine ⟨u, fun e he => ?_⟩
        have hde : ds[j]? = some (ds[j]'hj) := by simp
        rw [hde] at he
        cases he
        exact ⟨c1, by simpa [REx, List.append_assoc] using c2⟩
      · exact ⟨[], fun e he => absurd (List.getElem?_eq_some_iff.1 he).1 hj⟩
    obtain ⟨f, hall⟩ := Classical.skolem.1 hall
    have hlen3 : ∀ u ∈ (List.range m).map f, u.length = 3 := by
      intro u hu
      simp only [List.mem_map, List.mem_range] at hu
      obtain ⟨j, hj, rfl⟩ := hu
      exact ((REx.pl X) _ _ _ _ (hall j (ds[j]'(by omega)) (by simp)).2).1
    have hflen : ∀ (us : List (List Value)), (∀ u ∈ us, u.length = 3) → us.flatten.length = us.length * 3 := by
      intro us
      induction us with
      | nil => intro _; rfl
      | cons x us ih =>
        intro h
        have := ih (fun u hu => h u (by simp [hu]))
        have := h x (by simp)
        simp only [List.flatten_cons, List.length_append, List.length_cons]; omega
    have hat1 : ∀ (q : Nat) (x : Value), ((List.range m).map f).flatten[q]? = some x → w.cell? (a.add q) = some x ∧ x.oneCell' = true := by
      intro q x hq
      have hql := (List.getElem?_eq_some_iff.1 hq).1
      rw [hflen _ hlen3] at hql
      simp at hql
      have hju : ((List.range m).map f)[q / 3]? = some (f (q / 3)) := by simp [show q / 3 < m by omega]
      have hfl := flat_at ((List.range m).map f) (q / 3) (q % 3) (f (q / 3)) hlen3 hju (by omega)
      rw [show q / 3 * 3 + q % 3 = q by omega, hq] at hfl
      obtain ⟨c1, c2⟩ := hall (q / 3) (ds[q / 3]'(by omega)) (by simp)
      have := c1 (q % 3) x hfl.symm
      rw [show q / 3 * 3 + q % 3 = q by omega] at this
      exact ⟨this, ((REx.pl X) _ _ _ _ c2).2 x (List.mem_of_getElem? hfl.symm)⟩
    obtain ⟨v', w', hrun, hown', hgrow, _, hat⟩ := run_append_own_at (P := Try.prog) w B 23 ty 26 i (.agg #[.slice none 0 0, .slice none 0 0, .bool false]) 3 56 Try.underlying23 hi hz0 hz1 hz2 rfl (by omega) v es.length _ h2 a m cc ((List.range m).map f).flatten (by rw [hflen _ hlen3]; simp) (fun j u hu => (hat1 j u hu).1)
      (fun u hu => by obtain ⟨j, hj⟩ := List.getElem?_of_mem hu; exact (hat1 j u hj).2) (by unfold maxLen; omega) (by omega) hB
    obtain ⟨ao', cap', rfl⟩ := own_form hown'
    have hoff : Off (own v) w w' := (Off.refl _ _).grown hgrow (fun k hk => by simp [own, hk])
    have hsub : ∀ k ∈ own (.slice ao' (es.length + m) cap'), k ∈ own v ∨ w.heap.size ≤ k := by
      intro k hk
      rcases hat with e | e
      · left; unfold own at hk ⊢; rwa [e] at hk
      · right; unfold own at hk; rw [e] at hk; simp at hk; omega
    refine ⟨ao', cap', w', hrun, ⟨us ++ (List.range m).map f, by simp [h1, hl], ?_, fun j x y hx' hy => ?_⟩, hoff, hsub, fun hne => by
      unfold own at hne ⊢
      rcases hat with e | e
      · rw [e]; exact hne
      · rw [e]; simp⟩
    · rw [List.flatten_append, List.length_append, hl]; exact hown'
    · by_cases hj : j < us.length
      · rw [List.getElem?_append_left hj] at hx'
        rw [List.getElem?_append_left (by omega)] at hy
        exact (REx.st X) _ _ _ _ _ _ (h3 j x y hx' hy) hoff hsub
      · rw [List.getElem?_append_right (by omega)] at hx'
        rw [List.getElem?_append_right (by omega), ← h1] at hy
        have hjm : j - us.length < m := by have := (List.getElem?_eq_some_iff.1 hy).1; omega
        simp [hjm] at hx'
        subst hx'
        exact (REx.st X) _ _ _ _ _ _ (hall _ y hy).2 hoff hsub
theorem wpList_allY {X : List Nat} {ops : Array Oper} {rest : List Oper} {o : Oper} {a : Act} {w : World} {Q : Exit → Act → World → Prop}
    (hg : o.guard = none) (s x : Operand) (hop : o.op = Op.call { callee := Callee.builtin Builtin.append, args := #[s, x], argTypes := #[23, 23] })
    (B : Nat) (v : Value) (es : List Ent) (hs : a.eval s = v) (h : Ls 26 3 (REx X) w B v es) (ao : Option Addr) (m cc : Nat) (ds : List Ent) (hx : a.eval x = .slice ao m cc) (hd : Lx 3 (REx (own v ++ X)) w ao m cc ds) (hn : es.length + m ≤ 500000000) (hB : B ≤ w.heap.size)
    (hK : ∀ ao' n' cap' w', Hid (n' = es.length + m) → Ls 26 3 (REx X) w' B (.slice ao' n' cap') (es ++ ds) → Off (own v) w w' → (∀ k ∈ own (.slice ao' n' cap'), k ∈ own v ∨ w.heap.size ≤ k) → (own v ≠ [] → own (.slice ao' n' cap') ≠ []) → wpList Try.prog ops Q rest (a.put o.dst (.slice ao' n' cap')) w') :
    wpList Try.prog ops Q (o :: rest) a w := by
  refine wpList_plain hg fun K hKK => ?_
  obtain ⟨ao', cap', w', hrun, h1, h2, h3, h4⟩ := run_allY X w o.type B v es h ao m cc ds hd hn hB
  unfold Oper.wp
  simp [execOp, hop, resolve, invoke, builtin, hs, hx, hrun, Result.andThen]
  exact hKK _ _ (hK ao' _ cap' w' rfl h1 h2 h3 h4)
/-- An entry whose texts lie in w0, in none of X. -/
def RWX (X : List Nat) (w0 : World) : Reads Ent := fun _ _ u e => RE w0 X u e
theorem RWX.st (X : List Nat) (w0 : World) : Stable (RWX X w0) := fun _ _ _ _ _ _ h _ _ => h
theorem RWX.pl (X : List Nat) (w0 : World) : Plain 3 (RWX X w0) := fun _w _ u e h => RE.plain w0 X u e h
theorem Ls.rwx {X : List Nat} {w : World} {B n : Nat} {ao : Option Addr} {cap : Nat} {es : List Ent} (h : Ls 26 3 (REx X) w B (.slice ao n cap) es) : Lx 3 (RWX X w) w ao n cap es := by
  obtain ⟨ao9, cap9, e9, hx9⟩ := h.read (REx.st X) (REx.pl X)
  simp only [Value.slice.injEq] at e9
  obtain ⟨rfl, e10, rfl⟩ := e9
  rw [← e10] at hx9
  exact ⟨hx9.len_eq, hx9.le, hx9.top, hx9.bare, fun ad ha j e he => by
    obtain ⟨u, h1, h2⟩ := hx9.cell ad ha j e he
    exact ⟨u, h1, by simp only [REx, List.nil_append] at h2; exact h2⟩⟩
theorem Ls.back {X : List Nat} {w0 w : World} {B : Nat} {v : Value} {es : List Ent} (h : Ls 26 3 (RWX X w0) w w0.heap.size v es) (hb : Below w0.heap.size w0 w) (hB : B ≤ w0.heap.size) : Ls 26 3 (REx X) w B v es := by
  have hlt := h.lt
  obtain ⟨us, h1, h2, h3⟩ := h
  refine ⟨us, h1, own_mono h2 hB, fun i u e a b => ?_⟩
  exact RE.stable _ _ _ _ _ _ (h3 i u e a b) (.of_below hb) (fun k hk => by
    rcases List.mem_append.1 hk with h | h
    · exact .inr (hlt k h).2
    · exact .inl h)
/-- A list that may be read and whose elements may be put in place: its row from B on, its texts in none of X, nor in its row. -/
structure RQ (X : List Nat) (B : Nat) (w : World) (ao : Option Addr) (n cap : Nat) (es : List Ent) : Prop where
  lx : Lx 3 (RWX (own (.slice ao n cap) ++ X) w) w ao n cap es
  th : 0 < n → ∃ g, ao = some ⟨g, 0, none⟩ ∧ B ≤ g ∧ w.there g 0 (n * 3)
theorem RQ.of {X : List Nat} {w : World} {B n cap : Nat} {ao : Option Addr} {es : List Ent} (h : Ls 26 3 (REx X) w B (.slice ao n cap) es) : RQ X B w ao n cap es := by
  refine ⟨?_, fun h0 => ?_⟩
  · obtain ⟨ao9, cap9, e9, hx9⟩ := h.read (REx.st X) (REx.pl X)
    simp only [Value.slice.injEq] at e9
    obtain ⟨rfl, e10, rfl⟩ := e9
    rw [← e10] at hx9
    obtain ⟨us, h1, h2, h3⟩ := h
    have hu : ∀ u ∈ us, u.length = 3 := by
      intro u hu
      obtain ⟨i, hi, rfl⟩ := List.getElem_of_mem hu
      exact ((REx.pl X) _ _ _ _ (h3 i us[i] (es[i]'(by omega)) (by simp) (by simp))).1
    refine ⟨hx9.len_eq, hx9.le, hx9.top, hx9.bare, fun ad ha j e he => ?_⟩
    have hj := (List.getElem?_eq_some_iff.1 he).1
    have hju : us[j]? = some (us[j]'(by omega)) := by simp
    obtain ⟨hl, h4⟩ := h2
    rcases h4 with ⟨h', hn⟩ | ⟨g, c, cur, h', hb, hg, hn, hm, hs, ht⟩
    · omega
    · simp only [Value.slice.injEq] at h'
      obtain ⟨e1, e2, e3⟩ := h'
      rw [e1] at ha
      cases ha
      refine ⟨_, fun i x hx => ?_, h3 j _ e hju he⟩
      have hi := (List.getElem?_eq_some_iff.1 hx).1
      rw [hu _ (List.getElem_mem _)] at hi
      have hlt : j * 3 + i < es.length * 3 := by omega
      have hfl := flat_at us j i _ hu hju hi
      rw [hx, ← ht, List.getElem?_take, if_pos hlt] at hfl
      rw [Addr.add_lit, Nat.zero_add, cell_of_row w g _ cur 26 (0, 0) hg]
      simpa using hfl
  · obtain ⟨us, h1, h2, h3⟩ := h
    obtain ⟨hl, h4⟩ := h2
    rcases h4 with ⟨h', hn⟩ | ⟨g, c, cur, h', hb, hg, hn, _, hs, _⟩
    · simp only [Value.slice.injEq] at h'
      omega
    · simp only [Value.slice.injEq] at h'
      obtain ⟨e1, e2, e3⟩ := h'
      refine ⟨g, e1, hb, fun j hj => ⟨?_, frozen_of_row w g _ _ 26 hg⟩⟩
      rw [cell_of_row w g _ cur 26 (0, 0) hg]
      simp; omega
theorem RQ.nil (X : List Nat) (B : Nat) (w : World) : RQ X B w none 0 0 [] := ⟨Lx.nil _ _ _, fun h => by omega⟩
theorem Lx.rwx_on {X Y : List Nat} {w w' : World} {ao : Option Addr} {n cap : Nat} {es : List Ent} (h : Lx 3 (RWX X w) w ao n cap es) (hb : Below w.heap.size w w') (hY : ∀ k ∈ Y, k ∈ X ∨ w.heap.size ≤ k) : Lx 3 (RWX Y w') w' ao n cap es :=
  ⟨h.len_eq, h.le, h.top, h.bare, fun ad ha j e he => by
    obtain ⟨u, h1, h2⟩ := h.cell ad ha j e he
    exact ⟨u, fun i x hx => cell_later hb (h1 i x hx), RE.stable _ _ _ _ _ _ h2 (.of_below hb) hY⟩⟩
theorem RQ.later {X : List Nat} {B : Nat} {w w' : World} {ao : Option Addr} {n cap : Nat} {es : List Ent} (h : RQ X B w ao n cap es) (hb : Below w.heap.size w w') : RQ X B w' ao n cap es :=
  ⟨h.lx.rwx_on hb (fun _ hk => .inl hk), fun h0 => by
    obtain ⟨g, h1, h2, h3⟩ := h.th h0
    exact ⟨g, h1, h2, there_on h3 hb⟩⟩
theorem RQ.read {X : List Nat} {B : Nat} {w : World} {ao : Option Addr} {n cap : Nat} {es : List Ent} (h : RQ X B w ao n cap es) : Lx 3 (RWX X w) w ao n cap es := h.lx.rwx_on (Below.refl _ _) (fun _k hk => .inl (List.mem_append_right _ hk))
theorem RQ.lv {X : List Nat} {B : Nat} {w : World} {ao : Option Addr} {n cap : Nat} {es : List Ent} (h : RQ X B w ao n cap es) (hX : ∀ k ∈ X, k < B) : Lv 3 RE X w ao n cap es :=
  ⟨⟨h.lx.len_eq, h.lx.le, h.lx.top, h.lx.bare, fun ad ha j e he => by
    obtain ⟨u, h1, h2⟩ := h.lx.cell ad ha j e he
    exact ⟨u, h1, RE.stable _ _ _ _ _ _ h2 (.refl _ _) (fun k hk => .inl (List.mem_append_right _ (by simpa using hk)))⟩⟩, fun ad ha h0 hk => by
    obtain ⟨g, h1, h2, _⟩ := h.th h0
    rw [h1] at ha
    cases ha
    have := hX _ hk
    simp at this
    omega⟩
theorem RQ.put {X : List Nat} {B : Nat} {w : World} {g n cap k : Nat} {es : List Ent} (h : RQ X B w (some ⟨g, 0, none⟩) n cap es) (hk : k < n) (u : List Value) (e : Ent) (hu : RE w (g :: X) u e) : RQ X B (w.setCells g (k * 3) u) (some ⟨g, 0, none⟩) n cap (es.set k e) := by
  obtain ⟨g', h1, h2, h3⟩ := h.th (by omega)
  cases h1
  have hl := h.lx.len_eq
  have hu3 := (RE.plain _ _ _ _ hu).1
  have ho : own (.slice (some ⟨g, 0, none⟩) n cap) = [g] := rfl
  have hoff := off_cells g u (k * 3) w
  refine ⟨⟨by simpa using hl, h.lx.le, h.lx.top, fun h => (by cases h), fun ad ha j x hx => ?_⟩, fun _ => ⟨g, rfl, h2, World.there_setCells h3 g (k * 3) u⟩⟩
  cases ha
  by_cases hjk : k = j
  · subst hjk
    have hxe : x = e := by
      rw [List.getElem?_set_self (by omega)] at hx
      exact (Option.some.inj hx).symm
    subst hxe
    have hr := World.rangeAt_setCells_same w g (k * 3) u (fun i hi => by
      have := h3 (k * 3 + i) (by omega)
      rwa [Nat.zero_add] at this)
    exact ⟨u, fun i y hy => by rw [Addr.add_lit, Nat.zero_add]; exact hr i y hy, RE.stable _ _ _ _ _ _ hu (hoff.mono (fun q hq => by simp at hq; subst hq; simp)) (fun q hq => .inl (by simpa [own, Value.ownBlock] using hq))⟩
  · rw [List.getElem?_set_ne hjk] at hx
    obtain ⟨u', c1, c2⟩ := h.lx.cell _ rfl j x hx
    have hu3' := (RE.plain _ _ _ _ c2).1
    have hr : w.rangeAt g (j * 3) u' := fun i y hy => by have := c1 i y hy; rwa [Addr.add_lit, Nat.zero_add] at this
    have := World.rangeAt_setCells_apart hr g (k * 3) u (by omega)
    exact ⟨u', fun i y hy => by rw [Addr.add_lit, Nat.zero_add]; exact this i y hy, RE.stable _ _ _ _ _ _ c2 (hoff.mono (fun q hq => by simp at hq; subst hq; rw [ho]; simp)) (fun q hq => .inl hq)⟩
theorem info27s : (Try.prog.info? 26).map (·.size) = some 3 := by kernel_rfl
/-- The store of an entry in its place. -/
theorem wpList_putQ {ops : Array Oper} {rest : List Oper} {o : Oper} {a : Act} {w : World} {Q : Exit → Act → World → Prop}
    (hg : o.guard = none) (x y : Operand) (hop : o.op = .store 26 x y) (X : List Nat) (B g n cap k : Nat) (A C D : Value) (es : List Ent) (e : Ent) (hx : a.eval x = .pointer (some ⟨g, k * 3, none⟩)) (hy : a.eval y = .agg #[A, C, D])
    (h : RQ X B w (some ⟨g, 0, none⟩) n cap es) (hk : k < n) (hu : RE w (g :: X) [A, C, D] e)
    (hK : ∀ w', RQ X B w' (some ⟨g, 0, none⟩) n cap (es.set k e) → Off [g] w w' → wpList Try.prog ops Q rest (a.put o.dst undef) w') : wpList Try.prog ops Q (o :: rest) a w := by
  obtain ⟨g', h1, h2, h3⟩ := h.th (by omega)
  cases h1
  refine wpList_store_mid hg 26 x y hop g (k * 3) _ hx hy (fun j hj => ?_) info27s ?_ ?_
  · have := h3 (k * 3 + j) (by simp at hj; omega)
    rwa [Nat.zero_add] at this
  · have hp := (RE.plain _ _ _ _ hu).2
    simp [hp A (by simp), hp C (by simp), hp D (by simp)]
  · exact hK _ (h.put hk [A, C, D] e hu) (off_cells g _ _ w)

theorem run_allEX (X : List Nat) (w0 w : World) (ty : TypeId) (B : Nat) (v : Value) (es : List Ent) (h : Ls 26 3 (RWX X w0) w B v es) (ao : Option Addr) (m cc : Nat) (ds : List Ent) (hx : Lx 3 (RWX X w0) w ao m cc ds) (hn : es.length + m ≤ 1000000) (hB : B ≤ w.heap.size) :
    ∃ ao' cap' w', (Builtin.append_ #[23, 23] ty #[v, .slice ao m cc]).run Try.prog w = .ok (.slice ao' (es.length + m) cap') w' ∧ Ls 26 3 (RWX X w0) w' B (.slice ao' (es.length + m) cap') (es ++ ds) ∧ Off (own v) w w' ∧ (∀ k ∈ own (.slice ao' (es.length + m) cap'), k ∈ own v ∨ w.heap.size ≤ k) := by
  obtain ⟨us, h1, h2, h3⟩ := h
  obtain ⟨i, hi, hz0, hz1, hz2⟩ := info_parts Try.info26
  have hl := hx.len_eq
  cases ao with
  | none =>
    obtain ⟨rfl, rfl⟩ := hx.bare rfl
    have hd : ds = [] := List.eq_nil_of_length_eq_zero hl
    subst hd
    have hrun := run_append_owned_none (P := Try.prog) (w := w) B 23 ty 26 i 3 Try.underlying23 hi v es.length _ h2
    obtain ⟨ao', cap', rfl⟩ := own_form h2
    exact ⟨ao', cap', w, hrun, ⟨us, by simpa using h1, by simpa using h2, fun j x y hx hy => h3 j x y hx (by simpa using hy)⟩, Off.refl _ _, fun k hk => .inl hk⟩
  | some a =>
    have hall : ∀ j, ∃ u : List Value, ∀ e, ds[j]? = some e → (∀ (i : Nat) (x : Value), u[i]? = some x → w.cell? (a.add (j * 3 + i)) = some x) ∧ RE w0 X u e := by
      intro j
      by_cases hj : j < ds.length
      · obtain ⟨u, c1, c2⟩ := hx.cell a rfl j (ds[j]'hj) (by simp)
        refine ⟨u, fun e he => ?_⟩
        have hde : ds[j]? = some (ds[j]'hj) := by simp
        rw [hde] at he
        cases he
        exact ⟨c1, c2⟩
      · exact ⟨[], fun e he => absurd (List.getElem?_eq_some_iff.1 he).1 hj⟩
    obtain ⟨f, hall⟩ := Classical.skolem.1 hall
    have hlen3 : ∀ u ∈ (List.range m).map f, u.length = 3 := by
      intro u hu
      simp only [List.mem_map, List.mem_range] at hu
      obtain ⟨j, hj, rfl⟩ := hu
      exact (RE.plain _ _ _ _ (hall j (ds[j]'(by omega)) (by simp)).2).1
    have hflen : ∀ (us : List (List Value)), (∀ u ∈ us, u.length = 3) → us.flatten.length = us.length * 3 := by
      intro us
      induction us with
      | nil => intro _; rfl
      | cons x us ih =>
        intro h
        have := ih (fun u hu => h u (by simp [hu]))
        have := h x (by simp)
        simp only [List.flatten_cons, List.length_append, List.length_cons]; omega
    have hat1 : ∀ (q : Nat) (x : Value), ((List.range m).map f).flatten[q]? = some x → w.cell? (a.add q) = some x ∧ x.oneCell' = true := by
      intro q x hq
      have hql := (List.getElem?_eq_some_iff.1 hq).1
      rw [hflen _ hlen3] at hql
      simp at hql
      have hju : ((List.range m).map f)[q / 3]? = some (f (q / 3)) := by simp [show q / 3 < m by omega]
      have hfl := flat_at ((List.range m).map f) (q / 3) (q % 3) (f (q / 3)) hlen3 hju (by omega)
      rw [show q / 3 * 3 + q % 3 = q by omega, hq] at hfl
      obtain ⟨c1, c2⟩ := hall (q / 3) (ds[q / 3]'(by omega)) (by simp)
      have := c1 (q % 3) x hfl.symm
      rw [show q / 3 * 3 + q % 3 = q by omega] at this
      exact ⟨this, (RE.plain _ _ _ _ c2).2 x (List.mem_of_getElem? hfl.symm)⟩
    obtain ⟨v', w', hrun, hown', hgrow, _, hat⟩ := run_append_own_at (P := Try.prog) w B 23 ty 26 i (.agg #[.slice none 0 0, .slice none 0 0, .bool false]) 3 56 Try.underlying23 hi hz0 hz1 hz2 rfl (by omega) v es.length _ h2 a m cc ((List.range m).map f).flatten (by rw [hflen _ hlen3]; simp) (fun j u hu => (hat1 j u hu).1)
      (fun u hu => by obtain ⟨j, hj⟩ := List.getElem?_of_mem hu; exact (hat1 j u hj).2) (by unfold maxLen; omega) (by omega) hB
    obtain ⟨ao', cap', rfl⟩ := own_form hown'
    have hoff : Off (own v) w w' := (Off.refl _ _).grown hgrow (fun k hk => by simp [own, hk])
    have hsub : ∀ k ∈ own (.slice ao' (es.length + m) cap'), k ∈ own v ∨ w.heap.size ≤ k := by
      intro k hk
      rcases hat with e | e
      · left; unfold own at hk ⊢; rwa [e] at hk
      · right; unfold own at hk; rw [e] at hk; simp at hk; omega
    refine ⟨ao', cap', w', hrun, ⟨us ++ (List.range m).map f, by simp [h1, hl], ?_, fun j x y hx' hy => ?_⟩, hoff, hsub⟩
    · rw [List.flatten_append, List.length_append, hl]; exact hown'
    · by_cases hj : j < us.length
      · rw [List.getElem?_append_left hj] at hx'
        rw [List.getElem?_append_left (by omega)] at hy
        exact h3 j x y hx' hy
      · rw [List.getElem?_append_right (by omega)] at hx'
        rw [List.getElem?_append_right (by omega), ← h1] at hy
        have hjm : j - us.length < m := by have := (List.getElem?_eq_some_iff.1 hy).1; omega
        simp [hjm] at hx'
        subst hx'
        exact (hall _ y hy).2
theorem step_allEX {ops : Array Oper} {o : Oper} {a : Act} {w : World} {K : Act → World → Prop} {Q : Exit → Act → World → Prop} {E : Prop}
    (hg : o.guard = none) (s x : Operand) (hop : o.op = Op.call { callee := Callee.builtin Builtin.append, args := #[s, x], argTypes := #[23, 23] })
    (X : List Nat) (w0 : World) (B : Nat) (v : Value) (es : List Ent) (hs : a.eval s = v) (h : Ls 26 3 (RWX X w0) w B v es) (ao : Option Addr) (m cc : Nat) (ds : List Ent) (hx : a.eval x = .slice ao m cc) (hd : Lx 3 (RWX X w0) w ao m cc ds) (hn : es.length + m ≤ 1000000) (hB : B ≤ w.heap.size)
    (hK : ∀ ao' n' cap' w', Hid (n' = es.length + m) → Ls 26 3 (RWX X w0) w' B (.slice ao' n' cap') (es ++ ds) → Off (own v) w w' → (∀ k ∈ own (.slice ao' n' cap'), k ∈ own v ∨ w.heap.size ≤ k) → K (a.put o.dst (.slice ao' n' cap')) w') :
    if Region.wanted o (yielded ops a.tmps) = true then Oper.wp Try.prog o a w K Q else E := by
  have hw : Region.wanted o (yielded ops a.tmps) = true := by simp [Region.wanted, hg]
  rw [if_pos hw]
  obtain ⟨ao', cap', w', hrun, h1, h2, h3⟩ := run_allEX X w0 w o.type B v es h ao m cc ds hd hn hB
  unfold Oper.wp
  simp [execOp, hop, resolve, invoke, builtin, hs, hx, hrun, Result.andThen]
  exact hK ao' _ cap' w' rfl h1 h2 h3
theorem ls_empty_atX (X : List Nat) (w0 w : World) (g B : Nat) (hg : w.heap[g]? = some (.cells #[] 26)) (hB : B ≤ g) : Ls 26 3 (RWX X w0) w B (.slice (some ⟨g, 0, none⟩) 0 0) [] :=
  ⟨[], rfl, ⟨by simp, .inr ⟨g, 0, #[], rfl, hB, hg, Nat.le_refl _, by unfold maxLen; omega, rfl, by simp⟩⟩, by simp⟩
theorem Lx.drop3X {X : List Nat} {w0 w : World} {b off len cap : Nat} {es : List Ent} (h : Lx 3 (RWX X w0) w (some ⟨b, off, none⟩) len cap es) (k : Nat) (hk : k ≤ len) : Lx 3 (RWX X w0) w (some ⟨b, off + k * 3, none⟩) (len - k) (cap - k) (es.drop k) := by
  refine ⟨by have := h.len_eq; simp; omega, by have := h.le; omega, by have := h.top; omega, fun ha => (by cases ha), fun ad ha j e he => ?_⟩
  cases ha
  obtain ⟨u, h1, h2⟩ := h.cell _ rfl (k + j) e (by simpa using he)
  refine ⟨u, fun i x hx => ?_, h2⟩
  have := h1 i x hx
  rw [Addr.add_lit] at this ⊢
  rw [← this, show off + k * 3 + (j * 3 + i) = off + ((k + j) * 3 + i) by omega]
/-- An entry's cells, read. -/
theorem Lx.headWX {X : List Nat} {w0 w : World} {ao : Option Addr} {len cap : Nat} {l : List Ent} (h : Lx 3 (RWX X w0) w ao len cap l) (h0 : 0 < len) :
    ∃ b off, ao = some ⟨b, off, none⟩ ∧ ∀ j e, l[j]? = some e → ∃ ko kl kc vo vl vc, w.cell? ⟨b, off + j * 3, none⟩ = some (.slice ko kl kc) ∧ w.cell? ⟨b, off + j * 3 + 1, none⟩ = some (.slice vo vl vc) ∧ w.cell? ⟨b, off + j * 3 + 2, none⟩ = some (.bool e.g) ∧ Tx w0 ko kl kc e.k ∧ Tx w0 vo vl vc e.v := by
  obtain ⟨b, off, rfl, hc⟩ := h.head (RWX.pl X w0) (by omega) h0
  refine ⟨b, off, rfl, fun j e he => ?_⟩
  obtain ⟨u, h1, k, v, rfl, ⟨ko, kl, kc, rfl, tk, _⟩, ⟨vo, vl, vc, rfl, tv, _⟩⟩ := hc j e he
  exact ⟨ko, kl, kc, vo, vl, vc, by simpa using h1 0 _ rfl, by simpa [Nat.add_assoc] using h1 1 _ rfl, by simpa [Nat.add_assoc] using h1 2 _ rfl, tk, tv⟩

end Go.Proofs.Ytjbppedphadenaa
