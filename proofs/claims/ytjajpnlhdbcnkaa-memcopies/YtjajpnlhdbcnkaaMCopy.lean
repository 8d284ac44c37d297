/- The walks of mem.Copy and of the book's Same; an append onto a constant's bytes. -/
import Derived.Test.YtjajpnlhdbcnkaaMNumbers
namespace Go.Proofs.Ytjajpnlhdbcnkaa
set_option maxRecDepth 100000
open Go.RowKit Go.Sort

theorem put_id {n : Nat} {es : List Ent} (h : Held n es) : putL [] es = es := by
  have hr := h.rises
  have : ∀ i, i ≤ es.length → putL [] (es.take i) = es.take i := by
    intro i
    induction i with
    | zero => intro _; rfl
    | succ i ih =>
      intro hi
      have hx : es[i]? = some (es[i]'(by omega)) := by simp
      have hlen : (es.take i).length = i := by rw [List.length_take]; omega
      rw [putL_take [] es i _ hx, ih (by omega), h.nm _ (List.getElem_mem _), take_snoc es i _ hx]
      have := ins_mid (es[i]'(by omega)) (es.take i) i (by omega) (fun j y hj hy => by
        rw [List.getElem?_take, if_pos hj] at hy
        exact hr j i _ _ hj hy hx) (fun y hy => by rw [List.getElem?_eq_none (by omega)] at hy; cases hy)
      rw [this, List.take_of_length_le (by omega), List.drop_eq_nil_of_le (by omega), List.append_nil]
  have h1 := this es.length (Nat.le_refl _)
  rwa [List.take_of_length_le (Nat.le_refl _)] at h1
theorem put_new {n : Nat} {es : List Ent} (h : Held n es) (e : Ent) (hk : ∀ x ∈ es, ¬ x.k = e.k) : (putL es [e]).length = es.length + 1 := by
  have hn : isAt es (norm e).k = false := by
    cases hi : isAt es (norm e).k with
    | false => rfl
    | true =>
      obtain ⟨x, hx, hxk⟩ := isAt_true hi
      rw [norm_k] at hxk
      exact absurd hxk (hk x (List.mem_of_getElem? hx))
  show (insR (norm e) es).length = _
  rw [ins_new h.rises (norm e) hn]
  have := (place_of h.rises (norm e).k).le
  simp; omega

theorem copy_any (mb : Nat) (S : List Nat) (es : List Ent) (n : Nat) (w : World) (h : Mm w mb S es) (hh : Held n es) (sm : n ≤ 900000) (sk : ∀ e ∈ es, e.k.length ≤ 1000000 ∧ e.v.length ≤ 1000000) :
    Calls Try.prog 14 #[.pointer (some ⟨mb, 0, none⟩)] w fun e w' => ∃ cb S', e = .returned (.pointer (some ⟨cb, 0, none⟩)) ∧ Mm w' cb S' es ∧ (∀ k ∈ S', w.heap.size ≤ k) ∧ Below w.heap.size w w' := by
  have hes := hh.len
  go_enter Try.func14, Try.ntmps14
  go_wp2_with fail
  with_reducible refine (new_any w).mono ?_
  rintro e W0 ⟨cb, rfl, M0, hcb, b0⟩
  have hm0 : cb < W0.heap.size := M0.lt cb (by simp)
  have hal := mall_any mb S es n W0 (h.later b0) hh (by omega)
  go_wp2_with fail
  with_reducible refine hal.mono ?_
  clear hal
  rintro e W1 ⟨ao, ac, rfl, ls1, b1⟩
  have lv1 := ls1.lvn [cb] (by simp; omega)
  have hpt := mput_any cb [cb] [] 0 ao es.length ac es W1 (M0.later b1) Held.nil lv1 hh.fits (by omega) sk
  rw [put_id hh] at hpt
  go_wp2_with fail
  with_reducible refine hpt.mono ?_
  clear hpt
  rintro e W2 ⟨rfl, S2, M2, of2, sub2⟩
  have B1 := b0.trans (b1.mono b0.size)
  go_wp2
  go_ret
  refine ⟨cb, S2, rfl, M2, sub_trans (a := w.heap.size) (fun k hk => .inl hk) (by simp; omega) sub2 B1.size, B1.trans (of2.below (by simp; omega) B1.size)⟩

theorem run_app_full (w : World) (ty : TypeId) (g n : Nat) (xs : List Int) (h : Tx w (some ⟨g, 0, none⟩) n n xs) (ao : Option Addr) (m c : Nat) (ys : List Int) (ht : Tx w ao m c ys) (b : n + m ≤ 1000000000) :
    ∃ bo cb w', (Builtin.append_ #[25, 25] ty #[.slice (some ⟨g, 0, none⟩) n n, .slice ao m c]).run Try.prog w = .ok (.slice bo (n + m) cb) w' ∧ Tx w' bo (n + m) cb (xs ++ ys) ∧ (∀ ad, bo = some ad → ad.block = g ∨ w.heap.size ≤ ad.block) ∧ Below w.heap.size w w' := by
  obtain ⟨i, hi, hz0, hz1, hz2⟩ := info_parts Try.info5
  have hxl := h.len_eq
  have hyl := ht.len_eq
  by_cases hm : m = 0
  · subst hm
    have hy : ys = [] := List.eq_nil_of_length_eq_zero hyl
    subst hy
    refine ⟨some ⟨g, 0, none⟩, n, w, ?_, by simpa using h, fun ad ha => by cases ha; exact .inl rfl, Below.refl _ _⟩
    cases ao <;> simp [Builtin.append_, run_underlying Try.underlying25, sizeOf, typeInfo, hi, Builtin.lenOf, Builtin.firstCells, storeCells, loadCells, loadCellsFrom]
  · obtain ⟨tb, tf, rfl, hc⟩ := ht.head (by omega)
    have hxc := h.cell _ rfl
    have hr := run_append_grow (P := Try.prog) w 25 ty 5 i (.int .u8 0) Try.underlying25 hi hz0 ⟨g, 0, none⟩ n n (xs.map (Value.int .u8)) (by rw [hz1]; simp [hxl]) (fun j v hj => by
        have hj2 : j < xs.length := by have := (List.getElem?_eq_some_iff.1 hj).1; simpa using this
        rw [hxc j (by omega)]
        simp [hj2] at hj
        simp [List.getD, hj2, hj])
      ⟨tb, tf, none⟩ m c (ys.map (Value.int .u8)) (by rw [hz1]; simp [hyl]) (fun j v hj => by
        have hj2 : j < ys.length := by have := (List.getElem?_eq_some_iff.1 hj).1; simpa using this
        rw [ht.cell _ rfl j (by omega)]
        simp [hj2] at hj
        simp [List.getD, hj2, hj]) (by omega) (by omega) (by rw [hz2]; exact growslice_fits (by omega) (by omega))
    obtain ⟨G, hG⟩ : ∃ G, G = grownCap w (n + m) n 5 := ⟨_, rfl⟩
    have hGn : n + m ≤ G := by rw [hG]; exact grownCap_ge w _ _ _
    have hGm : G ≤ maxLen := by rw [hG]; exact grownCap_le_maxLen w (n + m) n 5 (by unfold maxLen; omega)
    rw [← hG] at hr
    refine ⟨_, G, _, hr, ?_, fun ad ha => by cases ha; exact .inr (Nat.le_refl _), ((Below.refl _ _).drew.alloc (Nat.le_refl _) _)⟩
    have hown : (w.drew.alloc (.cells ((xs.map (Value.int .u8)).toArray ++ (ys.map (Value.int .u8)).toArray ++ Builtin.zeroCells (Value.int .u8 0).cells (G - (n + m))) 5)).ownsRow w.heap.size 5 1 (.slice (some ⟨w.heap.size, 0, none⟩) (n + m) G) (n + m) ((xs ++ ys).map (Value.int .u8)) := by
      refine ⟨by simp [hxl, hyl], .inr ⟨w.heap.size, G, _, rfl, Nat.le_refl _, heap_alloc_new w.drew _, hGn, hGm, ?_, ?_⟩⟩
      · simp [Builtin.zeroCells, Value.cells, hxl, hyl]; omega
      · simp only [Array.toList_append, List.map_append, Nat.mul_one]
        rw [List.take_append_of_le_length (by simp; omega), List.take_of_length_le (by simp; omega)]
    obtain ⟨ao9, cap9, e9, hx9⟩ := Tx.own hown (fun x hx => (List.mem_append.1 hx).elim (h.rng x) (ht.rng x))
    simp only [Value.slice.injEq, true_and] at e9
    obtain ⟨rfl, rfl⟩ := e9
    exact hx9
theorem wpList_app_full {ops : Array Oper} {rest : List Oper} {o : Oper} {a : Act} {w : World} {Q : Exit → Act → World → Prop}
    (hg : o.guard = none) (s x : Operand) (hop : o.op = Op.call { callee := Callee.builtin Builtin.append, args := #[s, x], argTypes := #[25, 25] })
    (g n : Nat) (xs : List Int) (hs : a.eval s = .slice (some ⟨g, 0, none⟩) n n) (h : Tx w (some ⟨g, 0, none⟩) n n xs) (ao : Option Addr) (m c : Nat) (ys : List Int) (hx : a.eval x = .slice ao m c) (ht : Tx w ao m c ys) (b : n + m ≤ 1000000000)
    (hK : ∀ bo l cb w', Hid (l = n + m) → Tx w' bo l cb (xs ++ ys) → (∀ ad, bo = some ad → ad.block = g ∨ w.heap.size ≤ ad.block) → Below w.heap.size w w' → wpList Try.prog ops Q rest (a.put o.dst (.slice bo l cb)) w') :
    wpList Try.prog ops Q (o :: rest) a w := by
  refine wpList_plain hg fun K hKK => ?_
  obtain ⟨bo, cb, w', hrun, h1, h2, h3⟩ := run_app_full w o.type g n xs h ao m c ys ht b
  unfold Oper.wp
  simp [execOp, hop, resolve, invoke, builtin, hs, hx, hrun, Result.andThen]
  exact hKK _ _ (hK bo _ cb w' rfl h1 h2 h3)

/-- Two rows of one number, the same. -/
theorem bsame_any (g h z : Nat) (w : World) (c0 : w.cell? ⟨g, 0, none⟩ = some (.int .i64 z)) (d0 : w.cell? ⟨h, 0, none⟩ = some (.int .i64 z)) :
    Calls Try.prog 17 #[.slice (some ⟨g, 0, none⟩) 1 1, .slice (some ⟨h, 0, none⟩) 1 1] w fun e w' => e = .returned (.bool true) ∧ Below w.heap.size w w' := by
  go_enter Try.func17, Try.ntmps17
  go_wp2
  go_loopw [5] (fun s5 wr => ∃ k : Nat, k ≤ 1 ∧ s5 = .int .i64 k ∧ Below w.heap.size w wr) (fun s5 _ => 1 - (intOf s5).toNat)
  case atStart => exact ⟨0, by omega, rfl, Below.refl _ _⟩
  case round =>
    obtain ⟨k, hk, rfl, hb⟩ := hrel
    by_cases hk0 : k = 0
    · subst hk0
      have q0 := fun d os => cell_regrown (cell_later hb c0) d os
      have q1 := fun d os => cell_regrown (cell_later hb d0) d os
      go_wp2_with fail
      refine wp_region_quiet_below (by kernel_rfl) (by kernel_rfl) ?_
      repeat (go_big_quiet_step (fail))
      (with_reducible refine wpQuiet_nil ?_)
      intro _ hw'
      obtain ⟨⟨dq, osq⟩, hw''⟩ := hw'
      subst hw''
      have hb2 := hb.trans ((below_regrown wr dq osq).mono hb.size)
      clear q0 q1
      generalize grow (redrawn wr dq) osq = V at hb2 ⊢
      go_wp2
      go_roundw
      case rel => exact ⟨1, by omega, by go_num, hb2⟩
      case measure => simp [intOf]
    · obtain rfl : k = 1 := by omega
      go_wp2
      go_ret
      exact ⟨rfl, hb⟩
end Go.Proofs.Ytjajpnlhdbcnkaa
