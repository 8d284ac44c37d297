/- The walk of slices.Insert: one file comes into the row. -/
import Derived.Test.YtgleblfkcdkaeaaDoorDLawRow
namespace Go.Proofs.YtgleblfkcdkaeaaDoor
open Go.RowKit Go.Sort

theorem run_app3 (w : World) (ty : TypeId) (v : Value) (n : Nat) (xs : List Value) (hown : w.ownsRow 0 76 3 v n xs) (vb : Nat) (nw : List Value) (hvb : Blk w vb nw) (hnl : nw.length = 3) (h1 : ∀ u ∈ nw, u.oneCell' = true) (b : n ≤ 1000000) :
    ∃ v' w', (Builtin.append_ #[71, 71] ty #[v, .slice (some ⟨vb, 0, none⟩) 1 1]).run Tryd.prog w = .ok v' w' ∧ w'.ownsRow 0 76 3 v' (n + 1) (xs ++ nw) ∧ Off (own v) w w' ∧ (∀ k ∈ own v', k ∈ own v ∨ w.heap.size ≤ k) := by
  obtain ⟨i, hi, hz0, hz1, hz2⟩ := info_parts Tryd.info76
  obtain ⟨v', w', hrun, hown', hgrow, _, hat⟩ := run_append_own_at (P := Tryd.prog) w 0 71 ty 76 i fzero 3 48 Tryd.underlying71 hi hz0 hz1 hz2 rfl (by decide) v n _ hown ⟨vb, 0, none⟩ 1 1 nw (by omega)
    (fun j u hu => by rw [Addr.add_lit, Nat.zero_add]; exact hvb.cell j u hu) h1 (by unfold maxLen; omega) (by omega) (Nat.zero_le _)
  refine ⟨v', w', hrun, hown', (Off.refl _ _).grown hgrow (fun k hk => by simp [own, hk]), fun k hk => ?_⟩
  rcases hat with e | e
  · left; unfold own at hk ⊢; rwa [e] at hk
  · right; unfold own at hk; rw [e] at hk; simp at hk; omega

theorem wpList_app3 {ops : Array Oper} {rest : List Oper} {o : Oper} {a : Act} {w : World} {Q : Exit → Act → World → Prop}
    (hg : o.guard = none) (s x : Operand) (hop : o.op = Op.call { callee := Callee.builtin Builtin.append, args := #[s, x], argTypes := #[71, 71] })
    (v : Value) (n : Nat) (xs : List Value) (hs : a.eval s = v) (hown : w.ownsRow 0 76 3 v n xs) (vb : Nat) (nw : List Value) (hx : a.eval x = .slice (some ⟨vb, 0, none⟩) 1 1) (hvb : Blk w vb nw) (hnl : nw.length = 3) (h1 : ∀ u ∈ nw, u.oneCell' = true) (b : n ≤ 1000000)
    (hK : ∀ v' w', w'.ownsRow 0 76 3 v' (n + 1) (xs ++ nw) → Off (own v) w w' → (∀ k ∈ own v', k ∈ own v ∨ w.heap.size ≤ k) → wpList Tryd.prog ops Q rest (a.put o.dst v') w') :
    wpList Tryd.prog ops Q (o :: rest) a w := by
  refine wpList_plain hg fun K hKK => ?_
  obtain ⟨v', w', hrun, hown', hoff, hsub⟩ := run_app3 w o.type v n xs hown vb nw hvb hnl h1 b
  unfold Oper.wp
  simp [execOp, hop, resolve, invoke, builtin, hs, hx, hrun, Result.andThen]
  exact hKK _ _ (hK v' w' hown' hoff hsub)

theorem wpList_copy3 (w : World) {ops : Array Oper} {rest : List Oper} {o : Oper} {a : Act} {Q : Exit → Act → World → Prop} (hgd : o.guard = none) (d s : Operand)
    (ho : o.op = .call { callee := .builtin .copy, args := #[d, s], argTypes := #[71, 71] }) (v u : Value) (hd : a.eval d = v) (hs : a.eval s = u) {v' : Value} {w' : World}
    (hr : (Builtin.copy_ #[71, 71] o.type #[v, u]).run Tryd.prog w = .ok v' w') (h : wpList Tryd.prog ops Q rest (a.put o.dst v') w') : wpList Tryd.prog ops Q (o :: rest) a w := by
  refine wpList_plain hgd fun K hK => ?_
  unfold Oper.wp execOp
  simp only [ho, resolve, invoke, builtin, Sem.run_bind, Sem.run_pure, Result.andThen_ok, List.map_toArray, List.map_cons, List.map_nil, hd, hs, hr]
  exact hK _ _ h

theorem step_copy3 {ops : Array Oper} {o : Oper} {a : Act} {w : World} {K : Act → World → Prop} {Q : Exit → Act → World → Prop} {E : Prop}
    (hg : o.guard = none) (d x : Operand) (hop : o.op = Op.call { callee := Callee.builtin Builtin.copy, args := #[d, x], argTypes := #[71, 71] })
    (v u : Value) (hd : a.eval d = v) (hx : a.eval x = u) {v' : Value} {w' : World} (hr : (Builtin.copy_ #[71, 71] o.type #[v, u]).run Tryd.prog w = .ok v' w') (hK : K (a.put o.dst v') w') :
    if Region.wanted o (yielded ops a.tmps) = true then Oper.wp Tryd.prog o a w K Q else E := by
  have hw : Region.wanted o (yielded ops a.tmps) = true := by simp [Region.wanted, hg]
  rw [if_pos hw]
  unfold Oper.wp
  simp [execOp, hop, resolve, invoke, builtin, hd, hx, hr, Result.andThen]
  exact hK

/-- At the end. -/
theorem insert_end (v : Value) (n : Nat) (xs nw : List Value) (vb : Nat) (w : World) (hown : w.ownsRow 0 76 3 v n xs) (hnl : nw.length = 3) (h1 : ∀ u ∈ nw, u.oneCell' = true) (hvb : Blk w vb nw) (hn : n ≤ 1000000) :
    Calls Tryd.prog 64 #[v, .int .i64 n, .slice (some ⟨vb, 0, none⟩) 1 1] w fun e w' => ∃ v', e = .returned v' ∧ w'.ownsRow 0 76 3 v' (n + 1) (xs ++ nw) ∧ Off (own v) w w' ∧ (∀ k ∈ own v', k ∈ own v ∨ w.heap.size ≤ k) := by
  obtain ⟨ao, cap, rfl⟩ := own_form hown
  have hcap : n ≤ cap ∧ cap ≤ maxLen := by
    rcases hown.2 with ⟨h, h'⟩ | ⟨g, c, cur, h, _, _, h3, h4, _⟩
    · simp at h; subst h'; simp [h]
    · simp at h; obtain ⟨_, rfl⟩ := h; exact ⟨h3, h4⟩
  obtain ⟨hc1, hc2⟩ := hcap
  unfold maxLen at hc2
  go_enter Tryd.func64, Tryd.ntmps64
  go_wp2_with (with_reducible show wpList _ _ _ (⟨some 25, _, _, _, _, _⟩ :: _) _ _; refine wpList_app3 rfl _ _ rfl (.slice ao n cap) n xs rfl hown vb nw rfl hvb hnl h1 hn ?_; intro v' w' hown' hoff hsub)
  all_goals
    go_ret
    refine ⟨v', rfl, hown', ?_, ?_⟩
    · first | exact hoff | (rw [own_len ao n n n cap]; exact hoff)
    · first | exact hsub | (rw [own_len ao n n n cap]; exact hsub)

theorem splice_in {L : List Value} {m i : Nat} {xs nw : List Value} (hT : L.take (m * 3) = xs) (hl : (m + 1) * 3 ≤ L.length) (hi : i ≤ m) (hnl : nw.length = 3) :
    (splice (splice L ((i + 1) * 3) (xs.drop (i * 3))) (i * 3) nw).take ((m + 1) * 3) = xs.take (i * 3) ++ nw ++ xs.drop (i * 3) := by
  have hxl : xs.length = m * 3 := by rw [← hT]; simp; omega
  have e1 : (splice L ((i + 1) * 3) (xs.drop (i * 3))).take (i * 3) = xs.take (i * 3) := by
    rw [splice, List.take_append_of_le_length (by simp; omega), List.take_take, Nat.min_eq_left (by omega), ← hT, List.take_take, Nat.min_eq_left (by omega)]
  have e2 : ((splice L ((i + 1) * 3) (xs.drop (i * 3))).drop (i * 3 + 3)).take ((m - i) * 3) = xs.drop (i * 3) := by
    rw [splice, List.drop_append_of_le_length (by simp; omega), List.drop_eq_nil_of_le (by simp; omega), List.nil_append, List.take_append_of_le_length (by simp; omega), List.take_of_length_le (by simp; omega)]
  have e3 : (m + 1) * 3 = (xs.take (i * 3)).length + (nw.length + (m - i) * 3) := by rw [List.length_take]; omega
  rw [splice, e1, hnl, e3, List.take_length_add_append, List.take_length_add_append, e2, List.append_assoc]

set_option maxHeartbeats 800000 in
set_option maxRecDepth 100000 in
/-- In the middle, with room. -/
theorem insert_shift (fb n cap i : Nat) (xs nw : List Value) (vb : Nat) (w : World) (hown : w.ownsRow 0 76 3 (.slice (some ⟨fb, 0, none⟩) n cap) n xs) (hi : i < n) (hroom : n + 1 ≤ cap) (hx1 : ∀ u ∈ xs, u.oneCell' = true) (hnl : nw.length = 3) (h1 : ∀ u ∈ nw, u.oneCell' = true) (hvb : Blk w vb nw) (hne : vb ≠ fb) (hn : n ≤ 1000000) :
    Calls Tryd.prog 64 #[.slice (some ⟨fb, 0, none⟩) n cap, .int .i64 i, .slice (some ⟨vb, 0, none⟩) 1 1] w fun e w' => ∃ v', e = .returned v' ∧ w'.ownsRow 0 76 3 v' (n + 1) (xs.take (i * 3) ++ nw ++ xs.drop (i * 3)) ∧ Off (own (.slice (some ⟨fb, 0, none⟩) n cap)) w w' ∧ (∀ k ∈ own v', k ∈ own (.slice (some ⟨fb, 0, none⟩) n cap) ∨ w.heap.size ≤ k) := by
  have hxl := hown.1
  obtain ⟨L, hB, hL, hT, hc, hm⟩ := Blk.of_own hown
  have hmx := hm
  unfold maxLen at hm
  have hov : ∀ o lb cb, (callFunc 68 #[.slice (some ⟨vb, 0, none⟩) 1 1, .slice (some ⟨fb, o, none⟩) lb cb]).run Tryd.prog w = .ok (.value (.bool false)) w := fun o lb cb => by
    rw [run_callFunc_extern Tryd.func68 (by kernel_rfl) (by kernel_rfl) (by kernel_rfl) (e := Extern.SlicesOverlaps.overlaps #[71, 71] #[4]) (by kernel_rfl),
      Lib.run_overlaps_apart w 71 4 76 Tryd.underlying71 3 Tryd.size76 ⟨vb, 0, none⟩ ⟨fb, o, none⟩ 1 1 lb cb hne 76 76 3 L.length (by unfold World.shape?; rw [hvb]; simp [hnl]) (by unfold World.shape?; rw [hB]; simp) (by omega) (hvb.free _) (hvb.free _)]
    rfl
  obtain ⟨cs, hcs⟩ : ∃ cs, Hid (cs = xs.drop (i * 3)) := ⟨_, rfl⟩
  have hcl : cs.length = (n - i) * 3 := by rw [hcs.out]; simp; omega
  have hcp1 : ∀ ty dl dc sl sc, n - i = Nat.min sl dl → (Builtin.copy_ #[71, 71] ty #[.slice (some ⟨fb, (i + 1) * 3, none⟩) dl dc, .slice (some ⟨fb, i * 3, none⟩) sl sc]).run Tryd.prog w.drew = .ok (goInt ((n - i : Nat) : Int)) (w.drew.setCells fb ((i + 1) * 3) cs) := fun ty dl dc sl sc hmin =>
    run_copy3 w.drew ty fb ((i + 1) * 3) dl dc ⟨fb, i * 3, none⟩ sl sc cs (n - i) hmin hcl
      (fun j v hj => by
        rw [Addr.add_lit]
        refine hB.drew.cell _ v ?_
        have : (L.take (n * 3))[i * 3 + j]? = some v := by rw [hT, ← List.getElem?_drop, ← hcs.out]; exact hj
        rw [List.getElem?_take] at this
        split at this
        · exact this
        · cases this)
      (fun j hj => hB.drew.there _ (by omega)) (fun j hj => hB.drew.free _) (fun v hv => hx1 v (List.mem_of_mem_drop (hcs.out ▸ hv)))
  obtain ⟨W1, hW1⟩ : ∃ W1, Hid (W1 = w.drew.setCells fb ((i + 1) * 3) cs) := ⟨_, rfl⟩
  rw [← hW1.out] at hcp1
  have hB1 : Blk W1 fb (splice L ((i + 1) * 3) cs) := by rw [hW1.out]; exact hB.drew.setCells _ _ (by omega)
  have hL1 : (splice L ((i + 1) * 3) cs).length = cap * 3 := by rw [length_splice _ _ _ (by omega)]; exact hL
  have hoff1 : Off [fb] w W1 := by rw [hW1.out]; exact off_setCells (by simp) _ _ (Off.refl _ _).drew
  have hvb1 : Blk W1 vb nw := by unfold Blk; rw [hoff1.block vb (Array.getElem?_eq_some_iff.1 hvb).1 (by simpa using hne)]; exact hvb
  have hcp2 : ∀ ty dl dc, 1 ≤ dl → (Builtin.copy_ #[71, 71] ty #[.slice (some ⟨fb, i * 3, none⟩) dl dc, .slice (some ⟨vb, 0, none⟩) 1 1]).run Tryd.prog W1 = .ok (goInt 1) (W1.setCells fb (i * 3) nw) := fun ty dl dc hdl =>
    run_copy3 W1 ty fb (i * 3) dl dc ⟨vb, 0, none⟩ 1 1 nw 1 (by simp [Nat.min_def]; omega) (by omega)
      (fun j v hj => by rw [Addr.add_lit, Nat.zero_add]; exact hvb1.cell _ v hj)
      (fun j hj => hB1.there _ (by omega)) (fun j hj => hB1.free _) h1
  have hTH : Hid (L.take (n * 3) = xs) := hT
  have hz2 : ¬ ((i : Int) = (n : Int)) := by omega
  have hz3 : ¬ ((cap : Int) < (n : Int) + 1) := by omega
  have hb2 : ¬ (cap = i + 1) := by omega
  have hb4 : ¬ (cap = i) := by omega
  have hw1 : IntKind.i64.wrap ((i : Int) + 1) = (i : Int) + 1 := by rw [IntKind.wrap_i64]; omega
  have hb1 : (0 : Int) ≤ (i : Int) + 1 := by omega
  have hin : i ≤ n := by omega
  have htn : ((i : Int) + 1).toNat = i + 1 := by omega
  have hb3 : (i : Int) ≤ (n : Int) + 1 := by omega
  have hb5 : (i : Int) + 1 ≤ (n : Int) + 1 := by omega
  clear hown hT hxl hoff1 hvb1
  go_enter Tryd.func64, Tryd.ntmps64
  go_wp2_with (simp only [hov])
  have hmin : Hid (n - i = Nat.min (n + 1 - i) (n - i)) := by show _ = _; simp [Nat.min_def]; omega
  go_region_law (refine step_copy3 rfl (.tmp 73) (.tmp 76) rfl (.slice (some ⟨fb, (i + 1) * 3, none⟩) (n - i) (cap - (i + 1))) (.slice (some ⟨fb, i * 3, none⟩) (n + 1 - i) (cap - i)) (by simp [Act.eval, Act.put]) (by simp [Act.eval, Act.put]) (hcp1 _ (n - i) (cap - (i + 1)) (n + 1 - i) (cap - i) hmin.out) ?_)
  go_wp2_with (with_reducible show wpList _ _ _ (⟨some 82, _, _, _, _, _⟩ :: _) _ _; refine wpList_copy3 _ rfl _ _ rfl _ _ rfl rfl (hcp2 _ _ _ ?_) ?_; omega)
  go_ret
  have hfin : Blk (W1.setCells fb (i * 3) nw) fb (splice (splice L ((i + 1) * 3) cs) (i * 3) nw) := hB1.setCells _ _ (by rw [hL1]; omega)
  have hown' := hfin.own (n := n + 1) (by rw [length_splice _ _ _ (by rw [hL1]; omega)]; exact hL1) hroom hmx
  refine ⟨_, rfl, ?_, ?_, fun k hk => .inl (by simpa [own, Value.ownBlock] using hk)⟩
  · rw [hcs.out, splice_in hTH.out (by omega) hin hnl] at hown'
    exact hown'
  · refine off_setCells (by simp [own, Value.ownBlock]) _ _ ?_
    rw [hW1.out]
    exact off_setCells (by simp [own, Value.ownBlock]) _ _ (Off.refl _ _).drew

set_option maxHeartbeats 1600000 in
set_option maxRecDepth 100000 in
/-- In the middle, without room: a new row. -/
theorem insert_grow (fb n i : Nat) (xs nw : List Value) (vb : Nat) (w : World) (hown : w.ownsRow 0 76 3 (.slice (some ⟨fb, 0, none⟩) n n) n xs) (hi : i < n) (hx1 : ∀ u ∈ xs, u.oneCell' = true) (hnl : nw.length = 3) (h1 : ∀ u ∈ nw, u.oneCell' = true) (hvb : Blk w vb nw) (hn : n ≤ 1000000) :
    Calls Tryd.prog 64 #[.slice (some ⟨fb, 0, none⟩) n n, .int .i64 i, .slice (some ⟨vb, 0, none⟩) 1 1] w fun e w' => ∃ v', e = .returned v' ∧ w'.ownsRow 0 76 3 v' (n + 1) (xs.take (i * 3) ++ nw ++ xs.drop (i * 3)) ∧ Below w.heap.size w w' ∧ (∀ k ∈ own v', w.heap.size ≤ k) := by
  have hxl := hown.1
  obtain ⟨L, hB, hL, hT, hc, hm⟩ := Blk.of_own hown
  unfold maxLen at hm
  have hTx : L = xs := by rw [← hT, List.take_of_length_le (by omega)]
  subst hTx
  obtain ⟨i0, hi0, hz0, hzs, hzb⟩ := info_parts Tryd.info76
  have hfbw : fb < w.heap.size := (Array.getElem?_eq_some_iff.1 hB).1
  have hvbw : vb < w.heap.size := (Array.getElem?_eq_some_iff.1 hvb).1
  have hik : i + (n + 1 - i) = n + 1 := by omega
  have hold : (Builtin.firstCells i0.size i (.slice (some ⟨fb, 0, none⟩) i n)).run Tryd.prog w.drew = .ok (L.take (i * 3)).toArray w.drew := by
    rw [hzs]
    exact run_firstCells_some w.drew 3 i ⟨fb, 0, none⟩ i n (L.take (i * 3)) (by rw [List.length_take]; omega) (fun j v hj => by
      rw [Addr.add_lit, Nat.zero_add]
      rw [List.getElem?_take] at hj
      split at hj
      · exact hB.drew.cell j v hj
      · cases hj)
  obtain ⟨G, hG⟩ : ∃ G, Hid (G = grownCap w (n + 1) n 76) := ⟨_, rfl⟩
  have hGn : n + 1 ≤ G := by rw [hG.out]; exact grownCap_ge w _ _ _
  have hGm : G ≤ maxLen := by rw [hG.out]; exact grownCap_le_maxLen w (n + 1) n 76 (by unfold maxLen; omega)
  obtain ⟨R, hR⟩ : ∃ R : List Value, Hid (R = ((L.take (i * 3)).toArray ++ Builtin.zeroCells fzero.cells (n + 1 - i) ++ Builtin.zeroCells fzero.cells (G - (n + 1))).toList) := ⟨_, rfl⟩
  have hRl : R.length = G * 3 := by
    rw [hR.out]
    simp [Builtin.zeroCells, fzero, Value.cells]
    omega
  have hRt : R.take (i * 3) = L.take (i * 3) := by
    rw [hR.out]
    simp only [Array.toList_append, List.append_assoc]
    rw [List.take_append_of_le_length (by rw [List.length_take]; omega), List.take_take, Nat.min_self]
  have hkk : (n : Int) + 1 - (i : Int) = ((n + 1 - i : Nat) : Int) := by omega
  have hrz : ∀ ty, (Builtin.append_ #[71, 3] ty #[.slice (some ⟨fb, 0, none⟩) i n, .int .i64 ((n : Int) + 1 - (i : Int))]).run Tryd.prog w = .ok (.slice (some ⟨w.heap.size, 0, none⟩) (n + 1) G) (w.drew.alloc (.cells R.toArray 76)) := fun ty => by
    have h := Lib.run_append_grow_zeros w 71 3 ty 76 i0 _ .i64 .i64 Tryd.underlying71 Tryd.underlying3 hi0 hz0 (some ⟨fb, 0, none⟩) i n (L.take (i * 3)) hold (n + 1 - i) (by omega) (by omega) (by omega) (by omega) (by rw [hzb]; omega) (by rw [hzb, hik]; exact growslice_fits (by omega) (by omega))
    rw [hik, ← hG.out] at h
    rw [hkk, hR.out, Array.toArray_toList]
    exact h
  obtain ⟨W1, hW1⟩ : ∃ W1, Hid (W1 = w.drew.alloc (.cells R.toArray 76)) := ⟨_, rfl⟩
  rw [← hW1.out] at hrz
  have hB1 : Blk W1 w.heap.size R := by rw [hW1.out]; show ((w.heap.push _)[w.heap.size]? = _); simp
  have hb1 : Below w.heap.size w W1 := by rw [hW1.out]; exact (Below.refl _ _).drew.alloc (Nat.le_refl _) _
  have hvb1 : Blk W1 vb nw := by unfold Blk; rw [hb1.block vb hvbw]; exact hvb
  have hfb1 : Blk W1 fb L := by unfold Blk; rw [hb1.block fb hfbw]; exact hB
  have hcpA : ∀ ty dl dc, 1 ≤ dl → (Builtin.copy_ #[71, 71] ty #[.slice (some ⟨w.heap.size, i * 3, none⟩) dl dc, .slice (some ⟨vb, 0, none⟩) 1 1]).run Tryd.prog W1 = .ok (goInt 1) (W1.setCells w.heap.size (i * 3) nw) := fun ty dl dc hdl =>
    run_copy3 W1 ty w.heap.size (i * 3) dl dc ⟨vb, 0, none⟩ 1 1 nw 1 (by simp [Nat.min_def]; omega) (by omega)
      (fun j v hj => by rw [Addr.add_lit, Nat.zero_add]; exact hvb1.cell _ v hj)
      (fun j hj => hB1.there _ (by omega)) (fun j hj => hB1.free _) h1
  obtain ⟨W2, hW2⟩ : ∃ W2, Hid (W2 = W1.setCells w.heap.size (i * 3) nw) := ⟨_, rfl⟩
  rw [← hW2.out] at hcpA
  have hB2 : Blk W2 w.heap.size (splice R (i * 3) nw) := by rw [hW2.out]; exact hB1.setCells _ _ (by omega)
  have hL2 : (splice R (i * 3) nw).length = G * 3 := by rw [length_splice _ _ _ (by omega)]; exact hRl
  have hoff2 : Off [w.heap.size] W1 W2 := by rw [hW2.out]; exact off_setCells (by simp) _ _ (Off.refl _ _)
  have hfb2 : Blk W2 fb L := by unfold Blk; rw [hoff2.block fb (Array.getElem?_eq_some_iff.1 hfb1).1 (by simp; omega)]; exact hfb1
  have hcpB : ∀ ty dl dc sl sc, n - i = Nat.min sl dl → (Builtin.copy_ #[71, 71] ty #[.slice (some ⟨w.heap.size, (i + 1) * 3, none⟩) dl dc, .slice (some ⟨fb, i * 3, none⟩) sl sc]).run Tryd.prog W2.drew = .ok (goInt ((n - i : Nat) : Int)) (W2.drew.setCells w.heap.size ((i + 1) * 3) (L.drop (i * 3))) := fun ty dl dc sl sc hmin =>
    run_copy3 W2.drew ty w.heap.size ((i + 1) * 3) dl dc ⟨fb, i * 3, none⟩ sl sc (L.drop (i * 3)) (n - i) hmin (by rw [List.length_drop]; omega)
      (fun j v hj => by
        rw [Addr.add_lit]
        refine hfb2.drew.cell _ v ?_
        rw [← List.getElem?_drop]; exact hj)
      (fun j hj => hB2.drew.there _ (by rw [List.length_drop] at hj; omega)) (fun j hj => hB2.drew.free _) (fun v hv => hx1 v (List.mem_of_mem_drop hv))
  obtain ⟨W3, hW3⟩ : ∃ W3, Hid (W3 = W2.drew.setCells w.heap.size ((i + 1) * 3) (L.drop (i * 3))) := ⟨_, rfl⟩
  rw [← hW3.out] at hcpB
  have hLl : (L.drop (i * 3)).length = (n - i) * 3 := by rw [List.length_drop]; omega
  have hB3 : Blk W3 w.heap.size (splice (splice R (i * 3) nw) ((i + 1) * 3) (L.drop (i * 3))) := by rw [hW3.out]; exact hB2.drew.setCells _ _ (by omega)
  have hown3 := hB3.own (n := n + 1) (cap := G) (by rw [length_splice _ _ _ (by omega)]; exact hL2) hGn hGm
  have hfin : Hid ((splice (splice R (i * 3) nw) ((i + 1) * 3) (L.drop (i * 3))).take ((n + 1) * 3) = L.take (i * 3) ++ nw ++ L.drop (i * 3)) := by
    show _ = _
    have e1 : (splice R (i * 3) nw).take ((i + 1) * 3) = L.take (i * 3) ++ nw := by
      rw [splice, hRt, ← List.append_assoc, List.take_append_of_le_length (by rw [List.length_append, List.length_take]; omega), List.take_of_length_le (by rw [List.length_append, List.length_take]; omega)]
    rw [splice, e1, ← List.append_assoc, List.take_append_of_le_length (by rw [List.length_append, List.length_append, List.length_take]; omega), List.take_of_length_le (by rw [List.length_append, List.length_append, List.length_take]; omega)]
  rw [hfin.out] at hown3
  have hbel : Below w.heap.size w W3 := by
    rw [hW3.out]
    have o3 : Off [w.heap.size] W1 (W2.drew.setCells w.heap.size ((i + 1) * 3) (L.drop (i * 3))) := off_setCells (by simp) _ _ hoff2.drew
    exact hb1.trans (o3.below (by simp) hb1.size)
  have hownH : Hid (W3.ownsRow 0 76 3 (.slice (some ⟨w.heap.size, 0, none⟩) (n + 1) G) (n + 1) (L.take (i * 3) ++ nw ++ L.drop (i * 3))) := hown3
  unfold maxLen at hGm
  have hmin : Hid (n - i = Nat.min (n - i) (n - i)) := by show _ = _; simp
  have hz2 : ¬ ((i : Int) = (n : Int)) := by omega
  have hw1 : IntKind.i64.wrap ((i : Int) + 1) = (i : Int) + 1 := by rw [IntKind.wrap_i64]; omega
  have hb1' : (0 : Int) ≤ (i : Int) + 1 := by omega
  have hin : i ≤ n := by omega
  have hin' : i ≤ n + 1 := by omega
  have htn : ((i : Int) + 1).toNat = i + 1 := by omega
  have hb3 : (i : Int) ≤ (n : Int) + 1 := by omega
  have hb5 : (i : Int) + 1 ≤ (n : Int) + 1 := by omega
  have hGi : ¬ (G = i) := by omega
  have hGim : ¬ (G = i + 1) := by omega
  have hci : ¬ (n = i) := by omega
  clear hown hT hxl hvb1 hfb1 hfb2 hB1 hB2 hB3 hown3 hfin hRt hkk hold hoff2 hb1 hRl hL2 hL hLl
  go_enter Tryd.func64, Tryd.ntmps64
  go_wp2_with (first
    | (with_reducible show wpList _ _ _ (⟨some 40, _, _, _, _, _⟩ :: _) _ _; refine Lib.wpList_append_run _ rfl _ _ _ _ rfl _ _ rfl rfl _ _ (hrz _) ?_)
    | (with_reducible show wpList _ _ _ (⟨some 45, _, _, _, _, _⟩ :: _) _ _; refine wpList_copy3 _ rfl _ _ rfl _ _ rfl rfl (hcpA _ _ _ ?_) ?_; omega))
  go_region_law (refine step_copy3 rfl (.tmp 50) (.tmp 53) rfl (.slice (some ⟨w.heap.size, (i + 1) * 3, none⟩) (n - i) (G - (i + 1))) (.slice (some ⟨fb, i * 3, none⟩) (n - i) (n - i)) (by simp [Act.eval, Act.put]) (by simp [Act.eval, Act.put]) (hcpB _ (n - i) (G - (i + 1)) (n - i) (n - i) hmin.out) ?_)
  go_wp2
  go_ret
  exact ⟨_, rfl, hownH.out, hbel, fun k hk => by simp [own, Value.ownBlock] at hk; omega⟩

end Go.Proofs.YtgleblfkcdkaeaaDoor
