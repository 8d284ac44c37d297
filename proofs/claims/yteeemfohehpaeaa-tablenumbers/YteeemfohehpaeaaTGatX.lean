/- table.gather once more: its entries lie in none of the blocks X. -/
import Derived.Test.YteeemfohehpaeaaTGather
import Derived.Test.YteeemfohehpaeaaTDelF
namespace Go.Proofs.Yteeemfohehpaeaa
set_option maxRecDepth 100000
open Go.RowKit Go.Sort

/-- A whole list is appended whose texts lie elsewhere. -/
theorem run_allY (X : List Nat) (w : World) (ty : TypeId) (B : Nat) (v : Value) (es : List Ent) (h : Ls 25 3 (REx X) w B v es) (ao : Option Addr) (m cc : Nat) (ds : List Ent) (hx : Lx 3 (REx (own v ++ X)) w ao m cc ds) (hn : es.length + m ≤ 500000000) (hB : B ≤ w.heap.size) :
    ∃ ao' cap' w', (Builtin.append_ #[22, 22] ty #[v, .slice ao m cc]).run Try.prog w = .ok (.slice ao' (es.length + m) cap') w' ∧ Ls 25 3 (REx X) w' B (.slice ao' (es.length + m) cap') (es ++ ds) ∧ Off (own v) w w' ∧ (∀ k ∈ own (.slice ao' (es.length + m) cap'), k ∈ own v ∨ w.heap.size ≤ k) := by
  obtain ⟨us, h1, h2, h3⟩ := h
  obtain ⟨i, hi, hz0, hz1, hz2⟩ := info_parts Try.info25
  have hl := hx.len_eq
  cases ao with
  | none =>
    obtain ⟨rfl, rfl⟩ := hx.bare rfl
    have hd : ds = [] := List.eq_nil_of_length_eq_zero hl
    subst hd
    have hrun := run_append_owned_none (P := Try.prog) (w := w) B 22 ty 25 i 3 Try.underlying22 hi v es.length _ h2
    obtain ⟨ao', cap', rfl⟩ := own_form h2
    exact ⟨ao', cap', w, hrun, ⟨us, by simpa using h1, by simpa using h2, fun j x y hx hy => h3 j x y hx (by simpa using hy)⟩, Off.refl _ _, fun k hk => .inl hk⟩
  | some a =>
    have hall : ∀ j, ∃ u : List Value, ∀ e, ds[j]? = some e → (∀ (i : Nat) (x : Value), u[i]? = some x → w.cell? (a.add (j * 3 + i)) = some x) ∧ REx X w (own v) u e := by
      intro j
      by_cases hj : j < ds.length
      · obtain ⟨u, c1, c2⟩ := hx.cell a rfl j (ds[j]'hj) (by simp)
        refine ⟨u, fun e he => ?_⟩
        have hde : ds[j]? = some (ds[j]'hj) := by simp
        rw [hde] at he
        cases he
        exact ⟨c1, by simpa [REx, List.append_assoc] using c2⟩
      · exact ⟨[], fun e he => absurd (List.getElem?_eq_some_iff.1 he).1 hj⟩
    obtain ⟨f, hall⟩ := Classical.skolem.1 hall
    have hlen3 : ∀ u ∈ (List.range m).map f, u.length = 3 := by
      intro u hu
      simp only [List.mem_map, List.mem_range] at hu
      obtain ⟨j, hj, rfl⟩ := hu
      exact ((REx.pl X) _ _ _ _ (hall j (ds[j]'(by omega)) (by simp)).2).1
    have hflen : ∀ (us : List (List Value)), (∀ u ∈ us, u.length = 3) → us.flatten.length = us.length * 3 := by
      intro us
      induction us with
      | nil => intro _; rfl
      | cons x us ih =>
        intro h
        have := ih (fun u hu => h u (by simp [hu]))
        have := h x (by simp)
        simp only [List.flatten_cons, List.length_append, List.length_cons]; omega
    have hat1 : ∀ (q : Nat) (x : Value), ((List.range m).map f).flatten[q]? = some x → w.cell? (a.add q) = some x ∧ x.oneCell' = true := by
      intro q x hq
      have hql := (List.getElem?_eq_some_iff.1 hq).1
      rw [hflen _ hlen3] at hql
      simp at hql
      have hju : ((List.range m).map f)[q / 3]? = some (f (q / 3)) := by simp [show q / 3 < m by omega]
      have hfl := flat_at ((List.range m).map f) (q / 3) (q % 3) (f (q / 3)) hlen3 hju (by omega)
      rw [show q / 3 * 3 + q % 3 = q by omega, hq] at hfl
      obtain ⟨c1, c2⟩ := hall (q / 3) (ds[q / 3]'(by omega)) (by simp)
      have := c1 (q % 3) x hfl.symm
      rw [show q / 3 * 3 + q % 3 = q by omega] at this
      exact ⟨this, ((REx.pl X) _ _ _ _ c2).2 x (List.mem_of_getElem? hfl.symm)⟩
    obtain ⟨v', w', hrun, hown', hgrow, _, hat⟩ := run_append_own_at (P := Try.prog) w B 22 ty 25 i (.agg #[.slice none 0 0, .slice none 0 0, .bool false]) 3 56 Try.underlying22 hi hz0 hz1 hz2 rfl (by omega) v es.length _ h2 a m cc ((List.range m).map f).flatten (by rw [hflen _ hlen3]; simp) (fun j u hu => (hat1 j u hu).1)
      (fun u hu => by obtain ⟨j, hj⟩ := List.getElem?_of_mem hu; exact (hat1 j u hj).2) (by unfold maxLen; omega) (by omega) hB
    obtain ⟨ao', cap', rfl⟩ := own_form hown'
    have hoff : Off (own v) w w' := (Off.refl _ _).grown hgrow (fun k hk => by simp [own, hk])
    have hsub : ∀ k ∈ own (.slice ao' (es.length + m) cap'), k ∈ own v ∨ w.heap.size ≤ k := by
      intro k hk
      rcases hat with e | e
      · left; unfold own at hk ⊢; rwa [e] at hk
      · right; unfold own at hk; rw [e] at hk; simp at hk; omega
    refine ⟨ao', cap', w', hrun, ⟨us ++ (List.range m).map f, by simp [h1, hl], ?_, fun j x y hx' hy => ?_⟩, hoff, hsub⟩
    · rw [List.flatten_append, List.length_append, hl]; exact hown'
    · by_cases hj : j < us.length
      · rw [List.getElem?_append_left hj] at hx'
        rw [List.getElem?_append_left (by omega)] at hy
        exact (REx.st X) _ _ _ _ _ _ (h3 j x y hx' hy) hoff hsub
      · rw [List.getElem?_append_right (by omega)] at hx'
        rw [List.getElem?_append_right (by omega), ← h1] at hy
        have hjm : j - us.length < m := by have := (List.getElem?_eq_some_iff.1 hy).1; omega
        simp [hjm] at hx'
        subst hx'
        exact (REx.st X) _ _ _ _ _ _ (hall _ y hy).2 hoff hsub


theorem wpList_allY {X : List Nat} {ops : Array Oper} {rest : List Oper} {o : Oper} {a : Act} {w : World} {Q : Exit → Act → World → Prop}
    (hg : o.guard = none) (s x : Operand) (hop : o.op = Op.call { callee := Callee.builtin Builtin.append, args := #[s, x], argTypes := #[22, 22] })
    (B : Nat) (v : Value) (es : List Ent) (hs : a.eval s = v) (h : Ls 25 3 (REx X) w B v es) (ao : Option Addr) (m cc : Nat) (ds : List Ent) (hx : a.eval x = .slice ao m cc) (hd : Lx 3 (REx (own v ++ X)) w ao m cc ds) (hn : es.length + m ≤ 500000000) (hB : B ≤ w.heap.size)
    (hK : ∀ ao' n' cap' w', Hid (n' = es.length + m) → Ls 25 3 (REx X) w' B (.slice ao' n' cap') (es ++ ds) → Off (own v) w w' → (∀ k ∈ own (.slice ao' n' cap'), k ∈ own v ∨ w.heap.size ≤ k) → wpList Try.prog ops Q rest (a.put o.dst (.slice ao' n' cap')) w') :
    wpList Try.prog ops Q (o :: rest) a w := by
  refine wpList_plain hg fun K hKK => ?_
  obtain ⟨ao', cap', w', hrun, h1, h2, h3⟩ := run_allY X w o.type B v es h ao m cc ds hd hn hB
  unfold Oper.wp
  simp [execOp, hop, resolve, invoke, builtin, hs, hx, hrun, Result.andThen]
  exact hKK _ _ (hK ao' _ cap' w' rfl h1 h2 h3)

set_option maxHeartbeats 4000000 in
theorem tgatherX_any (X : List Nat) (ro : Option Addr) (rl rc : Nat) (qs : List Pk) (w : World) (hr : Lx 2 RP w ro rl rc qs) (sl : rl ≤ 1000000) (sp : ∀ p ∈ qs, p.1.length ≤ 900000000) (hX : ∀ q ∈ X, q < w.heap.size) :
    Calls Try.prog 47 #[.slice ro rl rc, .func (.func 48) #[] #[]] w fun e w' => ∃ bo lb cb, e = .returned (.slice bo lb cb) ∧ Ls 25 3 (REx X) w' w.heap.size (.slice bo lb cb) (gatL qs) ∧ lb = (gatL qs).length ∧ Below w.heap.size w w' := by
  have hl := hr.len_eq
  by_cases h0 : rl = 0
  · subst h0
    have hn : qs = [] := List.eq_nil_of_length_eq_zero hl
    subst hn
    go_enter Try.func47, Try.ntmps47
    go_wp2
    refine wp_loop_rounds 1 ?_
    rw [rounds_succ]
    go_wp2
    go_ret
    exact ⟨none, 0, 0, rfl, Ls.nil _ _ _ _ _, rfl, Below.refl _ _⟩
  · obtain ⟨b, off, rfl, hc⟩ := hr.headP (by omega)
    go_enter Try.func47, Try.ntmps47
    go_wp2
    go_loopw [5, 10] (fun s5 s10 wr => ∃ (k n : Nat) (bo : Option Addr) (cb : Nat), k ≤ rl ∧ s10 = .int .i64 k ∧ s5 = .slice bo n cb ∧ Hid (n = (gatL (qs.take k)).length) ∧ Ls 25 3 (REx X) wr w.heap.size (.slice bo n cb) (gatL (qs.take k)) ∧ Below w.heap.size w wr) (fun _ s10 _ => rl - (intOf s10).toNat)
    case atStart => exact ⟨0, 0, none, 0, by omega, rfl, rfl, rfl, Ls.nil _ _ _ _ _, Below.refl _ _⟩
    case round =>
      obtain ⟨k, n, bo, cb, hk, rfl, rfl, hn, hls, hb⟩ := hrel
      by_cases hk2 : k < rl
      · have hx : qs[k]? = some (qs[k]'(by omega)) := by simp
        obtain ⟨to, tl, tc, lo, ll, lc, c0, c1, tt, tL⟩ := hc k _ hx
        have hsz := sp _ (List.getElem_mem (l := qs) (n := k) (by omega))
        have hsn := gat_snoc qs k _ hx
        have hgl := gat_le (qs.take k)
        rw [List.length_take] at hgl
        generalize qs[k]'(by omega) = p at hx tt tL hsz hsn
        rw [tt.len_eq] at hsz
        have hpe := ents_le p.1
        have c0r := cell_later hb c0
        have c1r := cell_later hb c1
        have hsnH : Hid (gatL (qs.take (k + 1)) = gatL (qs.take k) ++ entsOf p.1) := hsn
        have hn9 : Hid ((gatL (qs.take k)).length + (entsOf p.1).length ≤ 500000000) := by show _ ≤ _; omega
        have hkI : (k : Int) < rl := by omega
        have bA : Below wr.heap.size wr (wr.alloc (.cells #[.slice to tl tc, .slice lo ll lc] 77)) := (Below.refl _ _).alloc (Nat.le_refl _) _
        have a0 : (wr.alloc (.cells #[.slice to tl tc, .slice lo ll lc] 77)).cell? ⟨wr.heap.size, 0, none⟩ = some (.slice to tl tc) := by rw [cell_of_row _ wr.heap.size _ _ 77 (0, 0) (heap_alloc_new wr _)]; rfl
        have a1 : (wr.alloc (.cells #[.slice to tl tc, .slice lo ll lc] 77)).cell? ⟨wr.heap.size, 1, none⟩ = some (.slice lo ll lc) := by rw [cell_of_row _ wr.heap.size _ _ 77 (0, 0) (heap_alloc_new wr _)]; rfl
        have hent := pentries_any (own (.slice bo n cb) ++ X) to tl tc lo ll lc p.1 _ ((tt.later hb).later bA) hsz (fun q hq => by have h1 := bA.size; rcases List.mem_append.1 hq with hq | hq; have := (hls.lt q hq).1; omega; have := hX q hq; have := hb.size; omega)
        have hlsA := hls.later (REx.st X) bA
        clear hx hsn hgl hpe
        go_wp2_with fail
        generalize wr.alloc (.cells #[.slice to tl tc, .slice lo ll lc] 77) = W1 at bA a0 a1 hent hlsA ⊢
        go_wp2_with (first
          | (go_at_call 48; with_reducible refine hent.mono ?_; rintro e W2 ⟨eo, el, ec, rfl, xE, b2⟩; have hlsB := hlsA.later (REx.st X) b2; have hel := xE.len_eq)
          | (with_reducible show wpList _ _ _ (⟨some 18, _, _, _, _, _⟩ :: _) _ _; refine wpList_allY rfl _ _ rfl w.heap.size (.slice bo n cb) (gatL (qs.take k)) rfl hlsB eo el ec (entsOf p.1) rfl xE (by have := hn9.out; omega) (Nat.le_trans hb.size (Nat.le_trans bA.size b2.size)) ?_; intro ao5 n5 c5 w5 hn5 hls5 hof5 hsub5))
        go_roundw
        case rel =>
          have hbW2 : Below w.heap.size w W2 := (hb.trans (bA.mono hb.size)).trans (b2.mono (Nat.le_trans hb.size bA.size))
          exact ⟨k + 1, n5, ao5, c5, by omega, by go_num, rfl, by show _ = _; rw [hsnH.out, List.length_append, hn5.out, hel], by rw [hsnH.out]; exact hls5, hbW2.trans (hof5.below (fun q hq => (hls.lt q hq).2) hbW2.size)⟩
        case measure => simp [intOf]; omega
      · have hkl : k = rl := by omega
        have hkI : ¬ (k : Int) < rl := by omega
        have htk : qs.take k = qs := List.take_of_length_le (by omega)
        rw [htk] at hn hls
        go_wp2
        go_ret
        exact ⟨bo, n, cb, rfl, hls, hn.out, hb⟩
end Go.Proofs.Yteeemfohehpaeaa
