/- The walk of the document's own Build of a table. The walk of the document's own May, for a table. The walk of the document's own Open. The walk of the statements' own opens. -/
import Derived.Test.YteeemfohehpaeaaTWa
import Derived.Test.YteeemfohehpaeaaBRefC
import Derived.Lib.AppendStr
import Derived.Test.YteeemfohehpaeaaBRefA
import Derived.Test.YteeemfohehpaeaaTOpenP
import Derived.Test.YteeemfohehpaeaaTRall
import Derived.Test.YteeemfohehpaeaaTGatX
namespace Go.Proofs.Yteeemfohehpaeaa

section
set_option maxRecDepth 100000
open Go.RowKit Go.Sort Go.Lib

theorem okL_nil2 {l : List Ent} {p : List Int} (h : okL p l = true) : okL [] l = true := okL_nil_of h (fun e he => ((fitsE_iff e).1 (okL_fits l p h e he)).1)
theorem blk_ok {m : List Ent} (h : okL [] m = true) (i : Nat) : okL [] (blk m i) = true := by
  rw [← List.take_append_drop (8 * i) m, okL_app, Bool.and_eq_true] at h
  have h2 := h.2
  rw [← List.take_append_drop 8 (m.drop (8 * i)), okL_app, Bool.and_eq_true] at h2
  exact okL_nil2 h2.1
theorem blk_may {m : List Ent} (h : okL [] m = true) (i : Nat) (hi : 8 * i < m.length) : mayB 255 (blk m i) = true := by
  rw [mayB_iff, blk_length]
  exact ⟨by omega, by omega, blk_ok h i⟩
theorem blk_eq {m : List Ent} {i j hi : Nat} (hij : i = 8 * j) (hh : hi = i + 8 ∨ (hi = m.length ∧ hi ≤ i + 8)) : (m.take hi).drop i = blk m j := by
  unfold blk
  subst hij
  rw [List.drop_take]
  rcases hh with rfl | ⟨rfl, h⟩
  · congr 1; omega
  · rw [List.take_of_length_le (by simp), List.take_of_length_le (by simp; omega)]
theorem body_len {m : List Ent} (h : okL [] m = true) : ∀ js : List Nat, (bodyT m js).length ≤ js.length * 34885
  | [] => by simp [bodyT]
  | i :: js => by
    have ih := body_len h js
    have h2 := block_blk m i (blk_ok h i)
    have e1 : bodyT m (i :: js) = blockL (blk m i) ++ bodyT m js := by simp [bodyT]
    rw [e1, List.length_append, List.length_cons, Nat.add_mul]; omega
theorem mari_cells : strCells { data := #[109, 97, 114, 105] } = ([109, 97, 114, 105] : List Int).map (Value.int .u8) := by rfl
theorem mari_rng : ∀ x ∈ ([109, 97, 114, 105] : List Int), 0 ≤ x ∧ x ≤ 255 := by decide
/-- 'append(out, "mari"...)'. -/
theorem wpList_mari {ops : Array Oper} {rest : List Oper} {o : Oper} {a : Act} {w : World} {Q : Exit → Act → World → Prop}
    (hg : o.guard = none) (s x : Operand) (hop : o.op = Op.call { callee := Callee.builtin Builtin.append, args := #[s, x], argTypes := #[23, 9] })
    (B : Nat) (bo : Option Addr) (n cap : Nat) (xs : List Int) (hs : a.eval s = .slice bo n cap) (h : Gr B w bo n cap xs) (b : n ≤ 1000000000) (hx : a.eval x = .string { data := #[109, 97, 114, 105] })
    (hK : ∀ bo' n' cap' w', Gr B w' bo' n' cap' (xs ++ [109, 97, 114, 105]) → Below B w w' → wpList Try.prog ops Q rest (a.put o.dst (.slice bo' n' cap')) w') :
    wpList Try.prog ops Q (o :: rest) a w := by
  refine wpList_plain hg fun K hKK => ?_
  obtain ⟨i, hi, hz0, hz1, hz2⟩ := info_parts Try.info5
  have hsz : ({ data := #[109, 97, 114, 105] } : ByteArray).size = 4 := rfl
  obtain ⟨v', w', hrun, hown, hgrow, _⟩ := run_append_own_string (P := Try.prog) (w := w) B 23 9 o.type 5 i Try.underlying23 (by kernel_rfl) hi hz0 hz1 hz2 (.slice bo n cap) n _ h.own { data := #[109, 97, 114, 105] } (by rw [hsz]; unfold maxLen; omega) (by rw [hsz]; omega) h.hB
  rw [mari_cells, ← List.map_append] at hown
  have hrng : ∀ x ∈ xs ++ ([109, 97, 114, 105] : List Int), 0 ≤ x ∧ x ≤ 255 := fun x hx => (List.mem_append.1 hx).elim (h.rng x) (mari_rng x)
  obtain ⟨ao', cap', rfl, _⟩ := Tx.own hown hrng
  have hb : Below B w w' := (Below.refl _ _).grown hgrow h.hB (fun k hk => (h.own.lt k hk).1)
  unfold Oper.wp
  simp [execOp, hop, resolve, invoke, builtin, hs, hx, hrun, Result.andThen]
  exact hKK _ _ (hK ao' _ cap' w' ⟨hown, hrng, Nat.le_trans h.hB hb.size⟩ hb)

theorem clamp4 : clampN 4 = 4 := by rfl
theorem clamp2 : clampN 2 = 2 := by rfl
set_option maxHeartbeats 8000000 in
theorem rtbuild_any (ao : Option Addr) (la ca : Nat) (m : List Ent) (w : World) (h : Lx 3 RE w ao la ca m) (hm : mayB 65535 m = true) :
    Calls Try.prog 18 #[.slice ao la ca] w fun e w' => ∃ bo lb cb, e = .returned (.slice bo lb cb) ∧ Tx w' bo lb cb (tableL m) ∧ Below w.heap.size w w' := by
  have hl := h.len_eq
  obtain ⟨m1, m2, hok'⟩ := (mayB_iff 65535 m).1 hm
  have hok : Hid (okL [] m = true) := hok'
  have hcap := h.le
  have htop := h.top
  unfold maxLen at htop
  clear hm hok'
  obtain ⟨mb, mf, rfl, _⟩ := h.headE (by omega)
  go_enter Try.func18, Try.ntmps18
  go_wp2
  go_loopw [3, 4, 5, 6, 7, 8] (fun s3 s4 s5 s6 _ _ wr => ∃ (i j : Nat) (bo : Option Addr) (bn bc : Nat) (lo : Option Addr) (ln lc : Nat), Hid (i = 8 * j) ∧ j ≤ nbl m ∧ s3 = .slice bo bn bc ∧ s4 = .slice lo ln lc ∧ s5 = .int .i64 j ∧ s6 = .int .i64 i ∧ Gr w.heap.size wr bo bn bc (bodyT m (List.range j)) ∧ Tx wr lo ln lc (lensT m (List.range j)) ∧ (∀ ad, lo = some ad → 0 < ln → ad.block ∉ own (.slice bo bn bc)) ∧ Below w.heap.size w wr) (fun _ _ _ s6 _ _ _ => la + 8 - (intOf s6).toNat)
  case atStart => exact ⟨0, 0, none, 0, 0, none, 0, 0, rfl, by omega, rfl, rfl, rfl, rfl, Gr.nil w, Tx.nil w, fun ad ha => (by cases ha), Below.refl _ _⟩
  case round =>
    obtain ⟨i, j, bo, bn, bc, lo, ln, lc, hij, hj, rfl, rfl, rfl, rfl, gB, tL, nl, hb⟩ := hrel
    have hbn : bn ≤ 300000000 := by have h1 := gB.len; have h2 := body_len hok.out (List.range j); rw [List.length_range] at h2; unfold nbl at hj; omega
    have hln : ln ≤ 40000 := by have h1 := tL.len_eq; rw [lensT_length, List.length_range] at h1; unfold nbl at hj; omega
    have hj8 : j ≤ 8192 := by unfold nbl at hj; omega
    by_cases hi2 : i < la
    · have hiI : (i : Int) < la := by omega
      by_cases hmn : la < i + 8
      · have hmnI : (la : Int) < (i : Int) + 8 := by omega
        have lx := ((h.take (la) (by omega)).toRw.drop3 i (by omega)).rw (Below.refl _ _)
        rw [blk_eq (j := j) hij.out (.inr ⟨hl.symm, by omega⟩)] at lx
        have _hd := 0
        have hbd := rbuild_any (some ⟨mb, mf + i * 3, none⟩) (la - i) (ca - i) (blk m j) wr (lx.later RE.stable hb) (blk_may hok.out j (by have := hij.out; omega))
        have hbl := block_blk m j (blk_ok hok.out j)
        have hbs : Hid (bodyT m (List.range (j + 1)) = bodyT m (List.range j) ++ blockL (blk m j)) := by show _ = _; rw [List.range_succ, bodyT_snoc]
        have hls : Hid (lensT m (List.range (j + 1)) = lensT m (List.range j) ++ low 4 ((blockL (blk m j)).length : Int)) := by show _ = _; rw [List.range_succ, lensT_snoc]
        generalize blockL (blk m j) = bl at hbd hbl hbs hls
        have hq1 : i ≤ la := by omega
        go_wp2_with fail
        with_reducible refine hbd.mono ?_
        clear hbd lx
        rintro e W1 ⟨xo, xl, xc, rfl, gX, b1⟩
        have hxl : xl ≤ 34885 := by rw [← gX.len]; exact hbl
        have hxe : Hid (bl.length = xl) := gX.len
        have gB1 := gB.later b1
        have tX := gX.tx
        have tL1 := tL.later b1
        have hw : IntKind.u64.wrap (xl : Int) = xl := by rw [IntKind.wrap_u64]; omega
        have hput := fun (W : World) (t : Tx W lo ln lc (lensT m (List.range j))) => refput_own lo ln lc (xl : Int) 4 (lensT m (List.range j)) W t (by omega) (by omega) (by omega) (by omega) (by omega)
        clear gX hbl
        go_wp2_with (with_reducible show wpList _ _ _ (⟨some 28, _, _, _, _, _⟩ :: _) _ _; refine wpList_gr rfl _ _ rfl w.heap.size bo bn bc (bodyT m (List.range j)) rfl gB1 xo xl xc bl rfl tX (by omega) ?_; intro a5 n5 c5 W2 hn5 g5 m5; clear hn5; have b2 := m5.below gB1; have tL2 := tL1.off m5.off nl)
        with_reducible refine (hput _ tL2).mono ?_
        clear hput
        rintro e W3 ⟨qo, ql, qc, rfl, gq, b3⟩
        rw [clamp4] at gq
        have b23 : Below w.heap.size w W3 := ((hb.trans (b1.mono hb.size)).trans b2).trans (b3.mono (Nat.le_trans (Nat.le_trans hb.size b1.size) b2.size))
        have g53 := g5.later b3
        have nl2 : ∀ ad, qo = some ad → 0 < ql → ad.block ∉ own (.slice a5 n5 c5) := fun ad ha _ hk => by
          have h1 := (g5.lt _ hk).1
          have h2 := (gq.lt ad.block (by rw [ha]; simp [own, Value.ownBlock])).2
          omega
        have tq := gq.tx
        clear g5 m5 gq tL1 tL2 gB1 tX
        go_wp2
        go_roundw
        case rel => exact ⟨i + 8, j + 1, a5, n5, c5, qo, ql, qc, by show _ = _; have := hij.out; omega, by have := hij.out; unfold nbl; omega, rfl, rfl, by go_num, by go_num, by rw [hbs.out]; exact g53, by rw [hls.out, hxe.out]; exact tq, nl2, b23⟩
        case measure => simp [intOf]; omega
      · have hmnI : ¬ (la : Int) < (i : Int) + 8 := by omega
        have lx := ((h.take (i + 8) (by omega)).toRw.drop3 i (by omega)).rw (Below.refl _ _)
        rw [blk_eq (j := j) hij.out (.inl rfl)] at lx
        rw [show i + 8 - i = 8 by omega] at lx
        have hbd := rbuild_any (some ⟨mb, mf + i * 3, none⟩) (8) (ca - i) (blk m j) wr (lx.later RE.stable hb) (blk_may hok.out j (by have := hij.out; omega))
        have hbl := block_blk m j (blk_ok hok.out j)
        have hbs : Hid (bodyT m (List.range (j + 1)) = bodyT m (List.range j) ++ blockL (blk m j)) := by show _ = _; rw [List.range_succ, bodyT_snoc]
        have hls : Hid (lensT m (List.range (j + 1)) = lensT m (List.range j) ++ low 4 ((blockL (blk m j)).length : Int)) := by show _ = _; rw [List.range_succ, lensT_snoc]
        generalize blockL (blk m j) = bl at hbd hbl hbs hls
        have hq1 : (i : Int) + 8 ≤ ca := by omega
        go_wp2_with fail
        with_reducible refine hbd.mono ?_
        clear hbd lx
        rintro e W1 ⟨xo, xl, xc, rfl, gX, b1⟩
        have hxl : xl ≤ 34885 := by rw [← gX.len]; exact hbl
        have hxe : Hid (bl.length = xl) := gX.len
        have gB1 := gB.later b1
        have tX := gX.tx
        have tL1 := tL.later b1
        have hw : IntKind.u64.wrap (xl : Int) = xl := by rw [IntKind.wrap_u64]; omega
        have hput := fun (W : World) (t : Tx W lo ln lc (lensT m (List.range j))) => refput_own lo ln lc (xl : Int) 4 (lensT m (List.range j)) W t (by omega) (by omega) (by omega) (by omega) (by omega)
        clear gX hbl
        go_wp2_with (with_reducible show wpList _ _ _ (⟨some 28, _, _, _, _, _⟩ :: _) _ _; refine wpList_gr rfl _ _ rfl w.heap.size bo bn bc (bodyT m (List.range j)) rfl gB1 xo xl xc bl rfl tX (by omega) ?_; intro a5 n5 c5 W2 hn5 g5 m5; clear hn5; have b2 := m5.below gB1; have tL2 := tL1.off m5.off nl)
        with_reducible refine (hput _ tL2).mono ?_
        clear hput
        rintro e W3 ⟨qo, ql, qc, rfl, gq, b3⟩
        rw [clamp4] at gq
        have b23 : Below w.heap.size w W3 := ((hb.trans (b1.mono hb.size)).trans b2).trans (b3.mono (Nat.le_trans (Nat.le_trans hb.size b1.size) b2.size))
        have g53 := g5.later b3
        have nl2 : ∀ ad, qo = some ad → 0 < ql → ad.block ∉ own (.slice a5 n5 c5) := fun ad ha _ hk => by
          have h1 := (g5.lt _ hk).1
          have h2 := (gq.lt ad.block (by rw [ha]; simp [own, Value.ownBlock])).2
          omega
        have tq := gq.tx
        clear g5 m5 gq tL1 tL2 gB1 tX
        go_wp2
        go_roundw
        case rel => exact ⟨i + 8, j + 1, a5, n5, c5, qo, ql, qc, by show _ = _; have := hij.out; omega, by have := hij.out; unfold nbl; omega, rfl, rfl, by go_num, by go_num, by rw [hbs.out]; exact g53, by rw [hls.out, hxe.out]; exact tq, nl2, b23⟩
        case measure => simp [intOf]; omega
    · have hiI : ¬ (i : Int) < la := by omega
      have hjn : j = nbl m := by have := hij.out; unfold nbl at hj ⊢; omega
      have tB := gB.tx
      have hBl := gB.len
      have hw1 : IntKind.u64.wrap (j : Int) = j := by rw [IntKind.wrap_u64]; omega
      have hw2 : IntKind.u64.wrap (bn : Int) = bn := by rw [IntKind.wrap_u64]; omega
      have hput1 := refput_own bo bn bc (j : Int) 2 (bodyT m (List.range j)) wr tB (by omega) (by omega) (by omega) (by omega) (by omega)
      rw [clamp2] at hput1
      have htab : Hid (tableL m = bodyT m (List.range j) ++ low 2 (j : Int) ++ lensT m (List.range j) ++ low 4 (bn : Int) ++ [109, 97, 114, 105]) := by
        show _ = _
        rw [← hBl, hjn]
        simp [tableL, tailT, List.append_assoc]
      clear hjn hBl
      generalize bodyT m (List.range j) = X at gB tB hput1 htab
      generalize lensT m (List.range j) = Y at tL htab
      go_wp2_with fail
      with_reducible refine hput1.mono ?_
      clear hput1
      rintro e W1 ⟨po, pl, pc, rfl, gP, b1⟩
      have tL1 := tL.later b1
      have hpl : pl ≤ 300000002 := by
        have h1 := gP.len
        have h2 := gB.len
        rw [List.length_append, length_low, h2] at h1
        omega
      go_wp2_with (with_reducible show wpList _ _ _ (⟨some 43, _, _, _, _, _⟩ :: _) _ _; refine wpList_gr rfl _ _ rfl wr.heap.size po pl pc (X ++ low 2 (j : Int)) rfl gP lo ln lc Y rfl tL1 (by omega) ?_; intro a5 n5 c5 W2 hn5 g5 m5; have b2 := m5.below gP; have hn5' : n5 ≤ 400000000 := (by have := hn5.out; omega); clear hn5)
      have hput2 := refput_own a5 n5 c5 (bn : Int) 4 _ W2 g5.tx (by omega) (by omega) (by omega) (by omega) (by omega)
      rw [clamp4] at hput2
      with_reducible refine hput2.mono ?_
      clear hput2
      rintro e W3 ⟨qo, ql, qc, rfl, gq, b3⟩
      have hql : ql ≤ 1000000000 := by
        have h1 := gq.len
        have h2 := g5.len
        rw [List.length_append, length_low, h2] at h1
        omega
      go_wp2_with (with_reducible show wpList _ _ _ (⟨some 48, _, _, _, _, _⟩ :: _) _ _; refine wpList_mari rfl _ _ rfl W2.heap.size qo ql qc _ rfl gq hql rfl ?_; intro a6 n6 c6 W4 g6 b4)
      go_ret
      have B1 := hb.trans (b1.mono hb.size)
      have B2 := B1.trans (b2.mono hb.size)
      have B3 := B2.trans (b3.mono B2.size)
      exact ⟨a6, n6, c6, rfl, by rw [htab.out]; exact g6.tx, B3.trans (b4.mono B2.size)⟩
end

section
set_option maxRecDepth 100000
open Go.RowKit Go.Sort

set_option maxHeartbeats 8000000 in
set_option maxRecDepth 100000 in
theorem rmayT_any (ao : Option Addr) (len cap : Nat) (l : List Ent) (w : World) (h : Lx 3 RE w ao len cap l) :
    Calls Try.prog 21 #[.slice ao len cap, .int .i64 65535] w fun e w' => e = .returned (.bool (mayB 65535 l)) ∧ Below w.heap.size w w' := by
  have hl := h.len_eq
  have hle := h.le
  have htop := h.top
  unfold maxLen at htop
  by_cases h0 : len < 1
  · have hm : Hid (mayB 65535 l = false) := by show _ = _; simp [mayB]; omega
    go_enter Try.func21, Try.ntmps21
    go_wp2
    go_ret
    exact ⟨ret_bool hm.out.symm, Below.refl _ _⟩
  · by_cases h9 : 65535 < len
    · have hm : Hid (mayB 65535 l = false) := by show _ = _; simp [mayB]; omega
      go_enter Try.func21, Try.ntmps21
      go_wp2
      go_ret
      exact ⟨ret_bool hm.out.symm, Below.refl _ _⟩
    · obtain ⟨b, off, rfl, hc⟩ := h.headE (by omega)
      go_enter Try.func21, Try.ntmps21
      go_wp2
      go_loopw [5] (fun i wr => ∃ k : Nat, k ≤ len ∧ i = .int .i64 k ∧ Hid (okL [] (l.take k) = true) ∧ Below w.heap.size w wr) (fun i _ => len - (intOf i).toNat)
      case atStart => exact ⟨0, by omega, rfl, rfl, Below.refl _ _⟩
      case round =>
        obtain ⟨k, hk, rfl, hok, hb⟩ := hrel
        by_cases hk2 : k < len
        · have hx : l[k]? = some (l[k]'(by omega)) := by simp
          obtain ⟨ko, kl, kc, vo, vl, vc, c0, c1, c2, tk, tv⟩ := hc k _ hx
          have hst := okL_snoc (l.take k) [] (l[k]'(by omega))
          rw [← take_snoc l k _ hx, hok.out, Bool.true_and] at hst
          have hst : Hid (okL [] (l.take (k + 1)) = (fitsE (l[k]'(by omega)) && lessB (lastK [] (l.take k)) (l[k]'(by omega)).k)) := hst
          generalize l[k]'(by omega) = e at hx c2 tk tv hst
          have hX : Hid (l[k]? = some e) := hx
          clear hx
          have hfe : Hid (fitsE e = decide (1 ≤ kl ∧ kl ≤ 255 ∧ (e.g = true ∨ vl ≤ 4095))) := fits_parts e tk tv
          have c0 := fun d os => cell_regrown (cell_later hb c0) d os
          have c1 := fun d os => cell_regrown (cell_later hb c1) d os
          have c2 := fun d os => cell_regrown (cell_later hb c2) d os
          have s1 := fun d os => ((tk.later hb).later (below_regrown wr d os)).string
          have hkt := tk.le
          have hkt2 := tk.top
          have hvt := tv.le
          have hvt2 := tv.top
          unfold maxLen at hkt2 hvt2
          have hlk := tk.len_eq
          have rk := tk.rng
          have hno : okL [] (l.take (k + 1)) = false → Hid (mayB 65535 l = false) := fun hh => ok_take l (k + 1) hh 65535
          have hyes : okL [] (l.take (k + 1)) = true → Hid (okL [] (l.take (k + 1)) = true) := fun hh => hh
          obtain ⟨G, hG⟩ : ∃ G, Hid (e.g = G) := ⟨_, rfl⟩
          rw [hG.out] at c2
          have hfe : Hid (fitsE e = decide (1 ≤ kl ∧ kl ≤ 255 ∧ (G = true ∨ vl ≤ 4095))) := by show _ = _; rw [hfe.out, hG.out]
          clear hG
          by_cases a1 : kl < 1
          · have g1 : (kl : Int) < 1 := by omega
            have g1' : decide ((kl : Int) < 1) = true := decide_eq_true g1
            have hr := hno (by rw [hst.out, hfe.out]; simp; omega)
            clear s1
            go_wp2_with fail
            refine wp_region_quiet_below (by kernel_rfl) (by kernel_rfl) ?_
            repeat (go_big_quiet_step (fail))
            (with_reducible refine wpQuiet_nil ?_)
            intro _ hw'
            obtain ⟨⟨dq, osq⟩, hw''⟩ := hw'
            subst hw''
            have hbq := hb.trans ((below_regrown wr dq osq).mono hb.size)
            go_wp2
            go_ret
            exact ⟨ret_bool hr.out.symm, hbq⟩
          · have g1 : ¬ (kl : Int) < 1 := by omega
            have g1' : decide ((kl : Int) < 1) = false := decide_eq_false g1
            by_cases a2 : 255 < kl
            · have g2 : (255 : Int) < kl := by omega
              have g2' : decide ((255 : Int) < kl) = true := decide_eq_true g2
              have hr := hno (by rw [hst.out, hfe.out]; simp; omega)
              clear s1
              go_wp2_with fail
              refine wp_region_quiet_below (by kernel_rfl) (by kernel_rfl) ?_
              repeat (go_big_quiet_step (fail))
              (with_reducible refine wpQuiet_nil ?_)
              intro _ hw'
              obtain ⟨⟨dq, osq⟩, hw''⟩ := hw'
              subst hw''
              have hbq := hb.trans ((below_regrown wr dq osq).mono hb.size)
              go_wp2
              go_ret
              exact ⟨ret_bool hr.out.symm, hbq⟩
            · have g2 : ¬ (255 : Int) < kl := by omega
              have g2' : decide ((255 : Int) < kl) = false := decide_eq_false g2
              by_cases a3 : G = false ∧ 4095 < vl
              · obtain ⟨rfl, a3⟩ := a3
                have g3 : (4095 : Int) < vl := by omega
                have g3' : decide ((4095 : Int) < vl) = true := decide_eq_true g3
                have hr := hno (by rw [hst.out, hfe.out]; simp; omega)
                clear s1
                go_wp2_with fail
                refine wp_region_quiet_below (by kernel_rfl) (by kernel_rfl) ?_
                repeat (go_big_quiet_step (fail))
                (with_reducible refine wpQuiet_nil ?_)
                intro _ hw'
                obtain ⟨⟨dq, osq⟩, hw''⟩ := hw'
                subst hw''
                have hbq := hb.trans ((below_regrown wr dq osq).mono hb.size)
                go_wp2
                go_ret
                exact ⟨ret_bool hr.out.symm, hbq⟩
              · have hfy : Hid (fitsE e = true) := by show _ = _; rw [hfe.out]; cases G <;> simp at a3 ⊢ <;> omega
                rw [hfy.out, Bool.true_and] at hst
                have hGv : (G = true) ∨ (G = false ∧ ¬ (4095 : Int) < vl ∧ decide ((4095 : Int) < vl) = false) := by cases G <;> simp at a3 ⊢ <;> omega
                clear hfe a3
                cases k with
                | zero =>
                  have hr := hyes (by rw [hst.out]; simp only [List.take_zero, lastK]; cases hkk : e.k with | nil => (rw [hkk] at hlk; simp at hlk; omega) | cons a r => simp [lessB])
                  clear s1 hst hno hyes
                  simp only [Nat.zero_mul, Nat.add_zero] at c0 c1 c2
                  rcases hGv with rfl | ⟨rfl, hv, hv'⟩
                  all_goals
                    go_wp2_with fail
                    refine wp_region_quiet_below (by kernel_rfl) (by kernel_rfl) ?_
                    repeat (go_big_quiet_step (fail))
                    (with_reducible refine wpQuiet_nil ?_)
                    intro _ hw'
                    obtain ⟨⟨dq, osq⟩, hw''⟩ := hw'
                    subst hw''
                    have hbq := hb.trans ((below_regrown wr dq osq).mono hb.size)
                    go_wp2
                    go_roundw
                    case rel => exact ⟨0 + 1, by omega, by go_num, hr, hbq⟩
                    case measure => simp [intOf]; omega
                | succ q =>
                  have hy : l[q]? = some (l[q]'(by omega)) := by simp
                  obtain ⟨jo, jl, jc, uo, ul, uc, d0, d1, d2, tj, tu⟩ := hc q _ hy
                  have hlast := lastK_take l q _ hy
                  rw [hlast] at hst
                  have d0 := fun d os => cell_regrown (cell_later hb d0) d os
                  have s2 := fun d os => ((tj.later hb).later (below_regrown wr d os)).string
                  have hsl := str_less _ _ tj.rng rk
                  have ei : ((q + 1 : Nat) : Int) - 1 = q := by omega
                  have hpos : (0 : Int) < ((q + 1 : Nat) : Int) := by omega
                  clear tj tu d1 d2 hlast
                  generalize (l[q]'(by omega)).k = pk at hst s2 hsl
                  generalize hF : lessB pk e.k = F at hst hsl
                  generalize strOfNums pk = S2 at s2 hsl
                  generalize strOfNums e.k = S1 at s1 hsl
                  clear tk hF
                  cases F with
                  | true =>
                    have hr := hyes hst.out
                    clear hst hno hyes
                    rcases hGv with rfl | ⟨rfl, hv, hv'⟩
                    all_goals
                      go_wp2_with fail
                      refine wp_region_quiet_below (by kernel_rfl) (by kernel_rfl) ?_
                      repeat (go_big_quiet_step (fail))
                      (with_reducible refine wpQuiet_nil ?_)
                      intro _ hw'
                      obtain ⟨⟨dq, osq⟩, hw''⟩ := hw'
                      subst hw''
                      have hbq := hb.trans ((below_regrown wr dq osq).mono hb.size)
                      go_wp2
                      go_roundw
                      case rel => exact ⟨q + 1 + 1, by omega, by go_num, hr, hbq⟩
                      case measure => simp [intOf]; omega
                  | false =>
                    have hr := hno hst.out
                    clear hst hno hyes
                    rcases hGv with rfl | ⟨rfl, hv, hv'⟩
                    all_goals
                      go_wp2_with fail
                      refine wp_region_quiet_below (by kernel_rfl) (by kernel_rfl) ?_
                      repeat (go_big_quiet_step (fail))
                      (with_reducible refine wpQuiet_nil ?_)
                      intro _ hw'
                      obtain ⟨⟨dq, osq⟩, hw''⟩ := hw'
                      subst hw''
                      have hbq := hb.trans ((below_regrown wr dq osq).mono hb.size)
                      go_wp2
                      go_ret
                      exact ⟨ret_bool hr.out.symm, hbq⟩
        · have hm : Hid (mayB 65535 l = true) := by
            show _ = _
            rw [mayB_iff]
            have := hok.out
            rw [List.take_of_length_le (by omega)] at this
            exact ⟨by omega, by omega, this⟩
          go_wp2
          go_ret
          exact ⟨ret_bool hm.out.symm, hb⟩
end

section
set_option maxRecDepth 100000
open Go.RowKit Go.Sort

theorem rnumG_yes (W : World) (rb : Nat) (ro : Option Addr) (rl rc : Nat) (bad : Bool) (xs : List Int) (K : Int) (k : Nat) (hK : K = (k : Int)) (hk0 : 0 < k) (hk : k ≤ 8) (f : Int) (hf : ¬ rl < k → getN xs k = f) (f0 : 0 ≤ f) (f9 : f < 4294967296) (w : World) (h : Rf W w rb ro rl rc bad xs) (sr : rl ≤ 900000000) (hs : ¬ rl < k) :
    Calls Try.prog 53 #[.pointer (some ⟨rb, 0, none⟩), .int .i64 K] w fun e w' => ∃ b o rl' rc', e = .returned (.int .i64 f) ∧ Rf W w' rb (some ⟨b, o, none⟩) rl' rc' bad (xs.drop k) ∧ Off [rb] w w' := by
  obtain ⟨b, off, rfl, _⟩ := h.tx.head (by omega)
  have hc := h.c0
  have hz := h.free 0
  have tw := h.tx.later h.bel
  have hle := h.tx.le
  have htop := h.tx.top
  have hxl := h.tx.len_eq
  unfold maxLen at htop
  have ge := rget_yes K k hK hk _ rl rc xs w tw hs (by omega)
  rw [hf hs] at ge
  subst hK
  by_cases hcap : rc = k
  · have hst := h.set (ro' := some ⟨b, off, none⟩) (rl' := rl - k) (rc' := 0) (xs' := xs.drop k) (by
      have : xs.drop k = [] := List.drop_eq_nil_of_le (by omega)
      rw [this]; exact Tx.ended _ _ _ _ (by omega) (by omega))
    have hc1 : rc ≤ k := by omega
    have hc2 : k ≤ rc := by omega
    clear hcap
    go_enter Try.func53, Try.ntmps53
    go_wp2_with (go_at_call 62; with_reducible refine ge.mono ?_; rintro e w1 ⟨rfl, rfl⟩)
    go_ret
    exact ⟨b, off, _, _, rfl, hst, (Off.refl _ _).setCell (p := ⟨rb, 0, none⟩) (by simp) _⟩
  · have hst := h.set (h.tx.drop k (by omega))
    go_enter Try.func53, Try.ntmps53
    go_wp2_with (go_at_call 62; with_reducible refine ge.mono ?_; rintro e w1 ⟨rfl, rfl⟩)
    go_ret
    exact ⟨b, off + k, _, _, rfl, hst, (Off.refl _ _).setCell (p := ⟨rb, 0, none⟩) (by simp) _⟩
theorem rnumG (W : World) (rb : Nat) (ro : Option Addr) (rl rc : Nat) (xs : List Int) (K : Int) (k : Nat) (hK : K = (k : Int)) (hk0 : 0 < k) (hk : k ≤ 8) (ht : ¬ xs.length < k → getN xs k < 4294967296) (w : World) (h : Rf W w rb ro rl rc false xs) (sr : rl ≤ 900000000) :
    Calls Try.prog 53 #[.pointer (some ⟨rb, 0, none⟩), .int .i64 K] w fun e w' => (∃ ro' rl' rc', ¬ xs.length < k ∧ e = .returned (.int .i64 (getN xs k)) ∧ Rf W w' rb ro' rl' rc' false (xs.drop k) ∧ rl' ≤ 900000000 ∧ Off [rb] w w') ∨ (xs.length < k ∧ e = .returned (.int .i64 0) ∧ Rf W w' rb none 0 0 true [] ∧ Off [rb] w w') := by
  have hl := h.tx.len_eq
  by_cases hno : rl < k
  · refine (rnum_no W rb ro rl rc false xs K k hK hk w h hno).mono ?_
    rintro e w' ⟨rfl, hR, ho⟩
    exact .inr ⟨by omega, rfl, hR, ho⟩
  · refine (rnumG_yes W rb ro rl rc false xs K k hK hk0 hk (getN xs k) (fun _ => rfl) (getN_nn _ _) (ht (by omega)) w h sr hno).mono ?_
    rintro e w' ⟨b, o, rl', rc', rfl, hR, ho⟩
    exact .inl ⟨_, rl', rc', by omega, rfl, hR, by have := hR.tx.len_eq; simp at this; omega, ho⟩

/-- What the document's Open answers. -/
def ROpen (w : World) (xs : List Int) (e : Ending) (w' : World) : Prop :=
  (∃ m bo lb cb, openT xs = some m ∧ e = .returned (.tuple #[.slice bo lb cb, .bool true]) ∧ Lx 3 RE w' bo lb cb m ∧ Below w.heap.size w w') ∨ (openT xs = none ∧ e = .returned (.tuple #[.slice none 0 0, .bool false]) ∧ Below w.heap.size w w')
theorem ropen_no {w V : World} {xs : List Int} (hb : Bytes xs) (hp : refT xs = none) (h : Below w.heap.size w V) : ROpen w xs (.returned (.tuple #[.slice none 0 0, .bool false])) V := .inr ⟨by rw [← refT_eq xs hb]; exact hp, rfl, h⟩

theorem readT_short {n : Nat} {r bl : List Int} (hn : 0 < n) (h : r.length < 4) : readT n r bl = none := by
  obtain ⟨m, rfl⟩ : ∃ m, n = m + 1 := ⟨n - 1, by omega⟩
  rw [readT, if_pos h]
theorem readT_over {n : Nat} {r bl : List Int} (hn : 0 < n) (h : (bl.length : Int) < getN r 4) : readT n r bl = none := by
  obtain ⟨m, rfl⟩ : ∃ m, n = m + 1 := ⟨n - 1, by omega⟩
  rw [readT]
  simp [h]
theorem readT_bad {n k : Nat} {r bl : List Int} (hn : 0 < n) (hk : getN r 4 = (k : Int)) (h : allB (bl.take k) = none) : readT n r bl = none := by
  obtain ⟨m, rfl⟩ : ∃ m, n = m + 1 := ⟨n - 1, by omega⟩
  rw [readT, hk]
  split
  · rfl
  split
  · rfl
  · simp only [Int.toNat_natCast, h]
theorem readT_go {n k : Nat} {r bl : List Int} {l : List Ent} (hn : 0 < n) (h4 : ¬ r.length < 4) (hk : getN r 4 = (k : Int)) (hb : ¬ bl.length < k) (h : allB (bl.take k) = some l) : readT n r bl = (readT (n - 1) (r.drop 4) (bl.drop k)).map (l ++ ·) := by
  obtain ⟨m, rfl⟩ : ∃ m, n = m + 1 := ⟨n - 1, by omega⟩
  rw [readT, hk, if_neg h4, if_neg (by omega)]
  simp only [Int.toNat_natCast, h]
  rfl
theorem allB_len {xs : List Int} {l : List Ent} (h : allB xs = some l) : l.length ≤ 255 := by
  obtain ⟨h1, _⟩ := (allB_iff xs l).1 h
  simp only [validB, Bool.and_eq_true] at h1
  have := (mayB_iff 255 l).1 (by simp_all)
  omega
theorem Lx.lessX {X Y : List Nat} (hXY : ∀ k ∈ Y, k ∈ X) {w : World} {ao : Option Addr} {len cap : Nat} {es : List Ent} (h : Lx 3 (REx X) w ao len cap es) : Lx 3 (REx Y) w ao len cap es :=
  ⟨h.len_eq, h.le, h.top, h.bare, fun ad ha j e he => by
    obtain ⟨u, h1, h2⟩ := h.cell ad ha j e he
    exact ⟨u, h1, h2.less hXY⟩⟩
/-- What stands between two blocks that the document's Open reads. -/
structure OR (w V : World) (n g : Nat) (r0 X0 : List Int) (j f : Nat) (po : Option Addr) (pn pc : Nat) (P : List Ent) (ro : Option Addr) (rl rc : Nat) : Prop where
  ls : Ls 25 3 (REx [w.heap.size]) V (w.heap.size + 1) (.slice po pn pc) P
  rf : Rf w V w.heap.size ro rl rc false (r0.drop (4 * j))
  hrl : rl ≤ 900000000
  hj : j ≤ n
  hf : f ≤ g
  hP : P.length ≤ j * 255
  hpn : pn = P.length
  rd : readT n r0 X0 = (readT (n - j) (r0.drop (4 * j)) (X0.drop f)).map (P ++ ·)
theorem OR.none {w V : World} {n g : Nat} {r0 X0 : List Int} {j f : Nat} {po : Option Addr} {pn pc : Nat} {P : List Ent} {ro : Option Addr} {rl rc : Nat} (h : OR w V n g r0 X0 j f po pn pc P ro rl rc) (hn : readT (n - j) (r0.drop (4 * j)) (X0.drop f) = none) : readT n r0 X0 = none := by rw [h.rd, hn]; rfl
theorem OR.done {w V : World} {n g : Nat} {r0 X0 : List Int} {j f : Nat} {po : Option Addr} {pn pc : Nat} {P : List Ent} {ro : Option Addr} {rl rc : Nat} (h : OR w V n g r0 X0 j f po pn pc P ro rl rc) (hn : n - j = 0) : readT n r0 X0 = some P := by rw [h.rd, hn]; simp [readT]

set_option maxHeartbeats 16000000 in
theorem ropen_any (ao : Option Addr) (la ca : Nat) (xs : List Int) (w : World) (ha : Tx w ao la ca xs) (sa : la ≤ 900000000) :
    Calls Try.prog 38 #[.slice ao la ca] w fun e w' => ROpen w xs e w' := by
  have hl := ha.len_eq
  have hle := ha.le
  have htop := ha.top
  unfold maxLen at htop
  have hby : Bytes xs := ha.rng
  by_cases h10 : la < 10
  · have hno : refT xs = none := by rw [refT, if_pos (by omega)]
    have hI : (la : Int) < 10 := by omega
    go_enter Try.func38, Try.ntmps38
    go_wp2
    go_ret2
    exact ropen_no hby hno (Below.refl _ _)
  · obtain ⟨b, off, rfl, _⟩ := ha.head (by omega)
    have hI : ¬ (la : Int) < 10 := by omega
    have hw8 : IntKind.i64.wrap ((la : Int) - 8) = (la : Int) - 8 := by rw [IntKind.wrap_i64]; omega
    have hw10 : IntKind.i64.wrap ((la : Int) - 10) = (la : Int) - 10 := by rw [IntKind.wrap_i64]; omega
    have hwu : IntKind.u64.wrap ((la : Int) - 10) = (la : Int) - 10 := by rw [IntKind.wrap_u64]; omega
    have ht8 : ((la : Int) - 8).toNat = la - 8 := by omega
    have h8a : (8 : Int) ≤ la := by omega
    have hc8 : ¬ ca = la - 8 := by omega
    have t8 := ha.drop (la - 8) (by omega)
    obtain ⟨g4, g5⟩ := low4_get (xs.drop (xs.length - 8)) (hby.drop _) (by simp; omega)
    have gnn := getN_nn (xs.drop (xs.length - 8)) 4
    have hge := refget_any (some ⟨b, off + (la - 8), none⟩) (la - (la - 8)) (ca - (la - 8)) 4 (xs.drop (la - 8)) w t8 (by omega) (by omega) (by omega)
    rw [← hl] at hge
    obtain ⟨g, hg⟩ : ∃ g : Nat, getN (xs.drop (xs.length - 8)) 4 = (g : Int) := ⟨(getN (xs.drop (xs.length - 8)) 4).toNat, by omega⟩
    rw [hl] at hge hg
    rw [hl, hg] at g5
    rw [hg] at hge
    generalize okG (xs.drop (la - 8)) 4 = OK at hge
    go_enter Try.func38, Try.ntmps38
    go_wp2_with fail
    with_reducible refine hge.mono ?_
    clear hge
    rintro e w1 ⟨rfl, rfl⟩
    by_cases hgl : la - 10 < g
    · have hno : refT xs = none := by
        rw [refT, if_neg (by omega), hl, hg, if_pos (by omega)]
      have hgI : (la : Int) - 10 < (g : Int) := by omega
      go_wp2
      go_ret2
      exact ropen_no hby hno (Below.refl _ _)
    · have hgI : ¬ (la : Int) - 10 < (g : Int) := by omega
      have tX := ha.take g (by omega)
      have tI := (ha.drop g (by omega)).take (la - 8 - g) (by omega)
      have hil : ((xs.drop g).take (la - 8 - g)).length = la - 8 - g := by rw [List.length_take, List.length_drop]; omega
      have href : refT xs = match readT (getN ((xs.drop g).take (la - 8 - g)) 2).toNat (((xs.drop g).take (la - 8 - g)).drop 2) (xs.take g) with | none => none | some m => if mayB 65535 m = true ∧ tableL m = xs then some m else none := by
        rw [refT, if_neg (by omega), hl, hg, if_neg (by omega)]
        simp only [Int.toNat_natCast]
        rfl
      have hbi : Bytes ((xs.drop g).take (la - 8 - g)) := (hby.drop _).take _
      obtain ⟨l2, l3⟩ := low2_get ((xs.drop g).take (la - 8 - g)) hbi (by omega)
      have hnn := getN_nn ((xs.drop g).take (la - 8 - g)) 2
      have hXl : (xs.take g).length = g := by rw [List.length_take]; omega
      have hXd : ∀ (f k : Nat), f + k ≤ g → (xs.take g).drop f = (xs.drop f).take (g - f) := fun f k h => by rw [List.drop_take]
      have hR0 := Rf.new w (some ⟨b, off + g, none⟩) (la - 8 - g) (ca - g) _ tI
      generalize (xs.drop g).take (la - 8 - g) = I at tI hil href hbi l2 l3 hnn hR0
      obtain ⟨n, hn⟩ : ∃ n : Nat, getN I 2 = (n : Int) := ⟨(getN I 2).toNat, by omega⟩
      rw [hn] at href l3
      simp only [Int.toNat_natCast] at href
      have hn2 := rnumG w w.heap.size _ _ _ I 2 2 rfl (by omega) (by omega) (by intro _; show getN I 2 < _; omega) _ hR0 (by omega)
      have hga : ¬ ca = g := by omega
      have hgl8 : (g : Int) ≤ (la : Int) - 8 := by omega
      have hsub8 : la - 8 - g = la - 8 - g := rfl
      clear hsub8 g4 g5 gnn t8 l2
      go_wp2_with fail
      with_reducible refine hn2.mono ?_
      clear hn2
      rintro e2 V0 h2
      obtain ⟨ro0, rl0, rc0, rfl, hRf, hrl0, hO0⟩ : ∃ ro' rl' rc', e2 = .returned (.int .i64 (n : Int)) ∧ Rf w V0 w.heap.size ro' rl' rc' false (I.drop 2) ∧ rl' ≤ 900000000 ∧ Below w.heap.size w V0 := by
        rcases h2 with ⟨ro', rl', rc', _, he, h3, h4, _⟩ | ⟨h3, _⟩
        · exact ⟨ro', rl', rc', by rw [he, show getN I ((2 : Nat) : Int) = (n : Int) from hn], h3, h4, h3.bel⟩
        · omega
      clear h2 hO0
      have hX0l := hXl
      have hstart : OR w V0 n g (I.drop 2) (xs.take g) 0 0 none 0 0 [] ro0 rl0 rc0 := ⟨Ls.nil _ _ _ _ _, by simpa using hRf, hrl0, Nat.zero_le _, Nat.zero_le _, by simp, rfl, by simp⟩
      replace href := show Hid (refT xs = match readT n (I.drop 2) (xs.take g) with | none => none | some m => if mayB 65535 m = true ∧ tableL m = xs then some m else none) from href
      replace hXd := show Hid (∀ (f k : Nat), f + k ≤ g → ((xs.take g).drop f).take k = (xs.drop f).take k) from fun f k h => by rw [List.drop_take, List.take_take, Nat.min_eq_left (by omega)]
      clear hRf
      go_wp2_with fail
      go_loopw [8, 9, 10, 11, 12, 13] (fun s8 s9 s10 _ _ _ V => ∃ (j f : Nat) (po : Option Addr) (pn pc : Nat) (P : List Ent) (ro : Option Addr) (rl rc : Nat), s10 = .int .i64 j ∧ s9 = .int .i64 f ∧ s8 = .slice po pn pc ∧ OR w V n g (I.drop 2) (xs.take g) j f po pn pc P ro rl rc) (fun _ _ s10 _ _ _ _ => n - (intOf s10).toNat)
      case atStart => exact ⟨0, 0, none, 0, 0, [], ro0, rl0, rc0, rfl, rfl, rfl, hstart⟩
      case round =>
        obtain ⟨j, f, po, pn, pc, P, ro, rl, rc, rfl, rfl, rfl, hE⟩ := hrel
        clear hstart
        have hj := hE.hj
        have hf := hE.hf
        have hP := hE.hP
        have hpn := hE.hpn
        have hrl := hE.hrl
        have Rk := hE.rf
        have c1 := Rk.c1
        have hB := Rk.bel
        by_cases hgo : j < n
        · have hjI : (j : Int) < n := by omega
          have hb4 : ¬ ((I.drop 2).drop (4 * j)).length < 4 → getN ((I.drop 2).drop (4 * j)) 4 < 4294967296 := fun h => (low4_get _ ((hbi.drop 2).drop (4 * j)) (by omega)).2
          have hv0 := getN_nn ((I.drop 2).drop (4 * j)) 4
          have n4 := rnumG w w.heap.size ro rl rc _ 4 4 rfl (by omega) (by omega) hb4 _ Rk hrl
          have hnj : 0 < n - j := by omega
          have hno1 := fun h => hE.none (readT_short (bl := (xs.take g).drop f) hnj h)
          have hno2 := fun h => hE.none (readT_over (r := (I.drop 2).drop (4 * j)) (bl := (xs.take g).drop f) hnj h)
          have hno3 := fun (k : Nat) hk h => hE.none (readT_bad (k := k) (r := (I.drop 2).drop (4 * j)) (bl := (xs.take g).drop f) hnj hk h)
          have hgo1 := fun (k : Nat) l h4 hk hb h => readT_go (k := k) (l := l) (r := (I.drop 2).drop (4 * j)) (bl := (xs.take g).drop f) hnj h4 hk hb h
          have hdl : ((xs.take g).drop f).length = g - f := by rw [List.length_drop, hXl]
          have hnone : readT n (I.drop 2) (xs.take g) = none → Hid (refT xs = none) := fun h => by show _ = _; rw [href.out, h]
          go_wp2_with fail
          with_reducible refine n4.mono ?_
          clear n4 c1
          rintro e4 V1 h4
          rcases h4 with ⟨ro1, rl1, rc1, hlen, rfl, R1, hrl1, O1⟩ | ⟨hsh, rfl, R1, _⟩
          · obtain ⟨k, hk⟩ : ∃ k : Nat, getN ((I.drop 2).drop (4 * j)) 4 = (k : Int) := ⟨(getN ((I.drop 2).drop (4 * j)) 4).toNat, by omega⟩
            have hk4 := hb4 hlen
            rw [hk] at hk4
            have e4 : getN ((I.drop 2).drop (4 * j)) ((4 : Nat) : Int) = (k : Int) := hk
            rw [e4]
            have c1 := R1.c1
            have hB1 := R1.bel
            clear hb4 hv0
            by_cases hkg : g - f < k
            · have hno := hnone (hno2 (by rw [hk, hdl]; omega))
              have hkI : (g : Int) - f < k := by omega
              clear hno1 hno2 hno3 hgo1 e4 hk
              go_wp2
              go_ret2
              exact ropen_no hby hno.out hB1
            · have hkI : ¬ (g : Int) - f < k := by omega
              have hf8 : f + k ≤ g := by omega
              have tB := ((ha.drop f (by omega)).take k (by omega)).later hB1
              have hcall := rallF_any _ _ _ _ V1 tB (by omega)
              have hcf : ¬ ca = f := by omega
              have htk : ((xs.take g).drop f).take k = (xs.drop f).take k := hXd.out f k hf8
              rw [← htk] at hcall
              clear htk
              have hno4 := fun h => hnone (hno3 k hk h)
              have hgo2 := fun l h => hgo1 k l hlen hk (by rw [hdl]; omega) h
              clear hno1 hno2 hno3 hgo1 e4 hk
              replace hno4 := (show Hid (_ → _) from hno4)
              replace hgo2 := (show Hid (∀ _, _ → _) from hgo2)
              clear hdl hXl hX0l hlen hpn
              obtain ⟨q, hq⟩ : ∃ q : Nat, Hid (q = f + k) := ⟨_, rfl⟩
              have hq' := hq.out
              have q1 : (f : Int) + (k : Int) = (q : Int) := by omega
              have q2 : f ≤ q := by omega
              have q3 : q ≤ g := by omega
              have q4 : q - f = k := by omega
              obtain ⟨d, hd⟩ : ∃ d : Nat, (g : Int) - (f : Int) = (d : Int) := ⟨g - f, by omega⟩
              have hdk : ¬ (d : Int) < (k : Int) := by omega
              have hdn : ¬ d < k := by omega
              clear hq' hf8 hkg hkI q1 q2 q4 hgl8 h8a
              go_wp2_with fail
              with_reducible refine hcall.mono ?_
              clear hcall
              rintro e5 V2 h5
              rcases h5 with ⟨es, eo, el, ec, hall, rfl, xE, b2⟩ | ⟨hall, rfl, b2⟩
              · have hl2 := allB_len hall
                have hgo3 := hgo2.out es hall
                clear hgo2 hno4
                have hel := xE.len_eq
                have hwv : wr.heap.size ≤ V1.heap.size := O1.size
                have hlt := hE.ls.lt
                have L1 : Ls 25 3 (REx [w.heap.size]) V1 (w.heap.size + 1) (.slice po pn pc) P := hE.ls.offX O1 (fun q' hq' => by have := (hlt q' hq').2; simp; omega)
                have L2 := L1.later (REx.st _) b2
                have hB2 := hB1.trans (b2.mono hB1.size)
                have hrb : w.heap.size < V1.heap.size := R1.lt
                have xE2 : Lx 3 (REx (own (.slice po pn pc) ++ [w.heap.size])) V2 eo el ec es := xE.lessX (fun q' hq' => by
                  rcases List.mem_append.1 hq' with h | h
                  · have := (L1.lt q' h).1; simp; omega
                  · simp at h; simp; omega)
                have hn5 : P.length + el ≤ 500000000 := by omega
                have hw8 : w.heap.size + 1 ≤ V2.heap.size := by have := b2.size; omega
                replace hgo3 := (show Hid (_ = _) from hgo3)
                have R2 := R1.later b2
                clear hel hl2
                go_wp2_with (with_reducible show wpList _ _ _ (⟨some 82, _, _, _, _, _⟩ :: _) _ _; refine wpList_allY rfl _ _ rfl (w.heap.size + 1) (.slice po pn pc) P rfl L2 eo el ec es rfl xE2 hn5 hw8 ?_; intro ao5 n5 c5 w5 hn5' hls5 hof5 hsub5)
                go_roundw
                case rel =>
                  have hel := xE.len_eq
                  have hl2 := allB_len hall
                  have q1 := hq.out
                  refine ⟨j + 1, q, ao5, n5, c5, P ++ es, ro1, rl1, rc1, by go_num, by go_num, rfl, ⟨hls5, ?_, hrl1, by omega, q3, ?_, ?_, ?_⟩⟩
                  · have := R2.off hof5 (fun h => by have := (L2.lt _ h).2; omega) (fun q' h => by have := (L2.lt q' h).2; omega)
                    rw [List.drop_drop] at this
                    rw [show 4 * (j + 1) = 4 * j + 4 by omega]
                    exact this
                  · rw [List.length_append]; omega
                  · rw [hn5'.out, List.length_append, hel]
                  · have e1 : List.drop (4 * (j + 1)) (List.drop 2 I) = List.drop 4 (List.drop (4 * j) (List.drop 2 I)) := by
                      rw [List.drop_drop (i := 4), show 4 * (j + 1) = 4 * j + 4 by omega]
                    have e2 : List.drop q (List.take g xs) = List.drop k (List.drop f (List.take g xs)) := by rw [List.drop_drop, q1]
                    rw [hE.rd, hgo3.out, e1, e2, show n - (j + 1) = n - j - 1 by omega, Option.map_map]
                    simp only [Function.comp_def, List.append_assoc]
                case measure => simp [intOf]; omega
              · have hno := hno4.out hall
                have hB2 := hB1.trans (b2.mono hB1.size)
                clear hno4 hgo2
                go_wp2
                go_ret2
                exact ropen_no hby hno.out hB2
          · have hno := hnone (hno1 hsh)
            have c1 := R1.c1
            have hB1 := R1.bel
            clear hno1 hno2 hno3 hgo1 hb4 hv0
            go_wp2
            go_ret2
            exact ropen_no hby hno.out hB1
        · have hnj : n - j = 0 := by omega
          have hjI : ¬ (j : Int) < n := by omega
          have hdone := hE.done hnj
          have hfin : Hid (refT xs = if mayB 65535 P = true ∧ tableL P = xs then some P else none) := by show _ = _; rw [href.out, hdone]
          have lx : Lx 3 RE wr po pn pc P := (Ls.readG hE.ls).weaken
          have tb := ha.later hB
          clear hdone href hnj hpn
          cases hmay : mayB 65535 P with
          | false =>
            have hno : refT xs = none := by rw [hfin.out]; simp [hmay]
            have hmc := fun d os => rmayT_any po pn pc P _ (lx.later RE.stable (below_regrown wr d os))
            rw [hmay] at hmc
            go_wp2_with fail
            refine wp_region_quiet_below (by kernel_rfl) (by kernel_rfl) ?_
            repeat (go_big_quiet_step ((go_at_call 21; with_reducible exact Calls.regrown_of (hmc _ _))))
            (with_reducible refine wpQuiet_nil ?_)
            intro _ hw'
            obtain ⟨⟨dq, osq⟩, hw''⟩ := hw'
            subst hw''
            have bq := below_regrown wr dq osq
            go_wp2
            go_ret2
            exact ropen_no hby hno (hB.trans (bq.mono hB.size))
          | true =>
            have hmC : ∀ (W : World), Below wr.heap.size wr W → Calls Try.prog 21 #[.slice po pn pc, .int .i64 65535] W fun e W' => e = .returned (.bool true) ∧ Below wr.heap.size wr W' := fun W hW => by
              refine (rmayT_any po pn pc P W (lx.later RE.stable hW)).mono ?_
              rintro e W' ⟨rfl, b'⟩
              exact ⟨by rw [hmay], hW.trans (b'.mono hW.size)⟩
            have hbC : ∀ (W : World), Below wr.heap.size wr W → Calls Try.prog 18 #[.slice po pn pc] W fun e W' => ∃ qo lq cq, e = .returned (.slice qo lq cq) ∧ (convert 23 9 (.slice qo lq cq)).run Try.prog W' = .ok (.string (strOfNums (tableL P))) W' ∧ (convert 23 9 (.slice (some ⟨b, off, none⟩) la ca)).run Try.prog W' = .ok (.string (strOfNums xs)) W' ∧ Bytes (tableL P) ∧ Below wr.heap.size wr W' := fun W hW => by
              refine (rtbuild_any po pn pc P W (lx.later RE.stable hW) hmay).mono ?_
              rintro e W' ⟨qo, lq, cq, rfl, g', b'⟩
              have B' := hW.trans (b'.mono hW.size)
              exact ⟨qo, lq, cq, rfl, g'.string, (tb.later B').string, g'.rng, B'⟩
            have hfin2 : Hid (refT xs = if tableL P = xs then some P else none) := by show _ = _; rw [hfin.out]; simp [hmay]
            have hsx : ∀ (W : World), Below wr.heap.size wr W → (convert 23 9 (.slice (some ⟨b, off, none⟩) la ca)).run Try.prog W = .ok (.string (strOfNums xs)) W := fun W hW => (tb.later hW).string
            have s0 := hsx wr.drew ((Below.refl _ _).drew)
            have hne := fun (h : ¬ tableL P = xs) (hb : Bytes (tableL P)) => str_ne hb ha.rng h
            clear c1
            have c1 := Rk.c1
            by_cases heq : tableL P = xs
            · have hyes : Hid (openT xs = some P) := by show _ = _; rw [← refT_eq xs hby, hfin2.out, if_pos heq]
              rw [heq] at hbC
              clear hne hfin2 hfin heq
              generalize strOfNums xs = SX at hbC s0 hsx
              go_wp2_with fail
              go_region_held (fun w' => Below wr.heap.size wr w') (first | assumption | exact (Below.refl _ _).drew) (first
                | (go_at_call 21; with_reducible refine (hmC _ ?_).mono ?_; (assumption); rintro e1 W1 ⟨rfl, B1⟩; have s1 := hsx W1 B1)
                | (go_at_call 18; with_reducible refine (hbC _ ?_).mono ?_; (assumption); rintro e1 W3 ⟨qo, lq, cq, rfl, s3, s4, _, B3⟩))
              all_goals
                try simp only [List.getElem_toArray, List.getElem_cons_succ, List.getElem_cons_zero, List.setIfInBounds_toArray, List.set_cons_zero, List.set_cons_succ]
                go_wp2
                go_ret2
                exact .inl ⟨P, po, pn, pc, hyes.out, rfl, lx.later RE.stable B3, hB.trans (B3.mono hB.size)⟩
            · have hno : refT xs = none := by rw [hfin2.out, if_neg heq]
              have hne2 := hne heq
              replace hno := (show Hid (_ = _) from hno)
              clear hne hfin2 hfin
              generalize strOfNums xs = SX at hbC s0 hne2 hsx
              generalize strOfNums (tableL P) = SE at hbC hne2
              clear heq
              go_wp2_with fail
              go_region_held (fun w' => Below wr.heap.size wr w') (first | assumption | exact (Below.refl _ _).drew) (first
                | (go_at_call 21; with_reducible refine (hmC _ ?_).mono ?_; (assumption); rintro e1 W1 ⟨rfl, B1⟩; have s1 := hsx W1 B1)
                | (go_at_call 18; with_reducible refine (hbC _ ?_).mono ?_; (assumption); rintro e1 W3 ⟨qo, lq, cq, rfl, s3, s4, hby3, B3⟩; have hn3 := hne2 hby3; have hn4 : (SE.toList == SX.toList) = false := (by simp [hn3]); have hn5 : (SE.toList != SX.toList) = true := (by simp [hn3])))
              all_goals
                try simp only [List.getElem_toArray, List.getElem_cons_succ, List.getElem_cons_zero, List.setIfInBounds_toArray, List.set_cons_zero, List.set_cons_succ]
                go_wp2
                go_ret2
                exact ropen_no hby hno.out (hB.trans (B3.mono hB.size))
end

section
set_option maxRecDepth 100000
open Go.RowKit Go.Sort

theorem ropen_yes {w w' : World} {xs : List Int} {e : Ending} {m : List Ent} (h : ROpen w xs e w') (ho : openT xs = some m) : ∃ bo lb cb, e = .returned (.tuple #[.slice bo lb cb, .bool true]) ∧ Lx 3 RE w' bo lb cb m ∧ Below w.heap.size w w' := by
  rcases h with ⟨m', bo, lb, cb, h1, h2, h3, h4⟩ | ⟨h1, _⟩
  · rw [ho] at h1; cases h1; exact ⟨bo, lb, cb, h2, h3, h4⟩
  · rw [ho] at h1; cases h1
theorem ropen_nil {w w' : World} {xs : List Int} {e : Ending} (h : ROpen w xs e w') (ho : openT xs = none) : e = .returned (.tuple #[.slice none 0 0, .bool false]) ∧ Below w.heap.size w w' := by
  rcases h with ⟨m', bo, lb, cb, h1, _⟩ | ⟨_, h2, h3⟩
  · rw [ho] at h1; cases h1
  · exact ⟨h2, h3⟩

set_option maxHeartbeats 16000000 in
theorem opens_any (ao : Option Addr) (la ca : Nat) (xs : List Int) (fo : Option Addr) (fl fc : Nat) (fs : List Int) (to : Option Addr) (tl tc : Nat) (ts : List Int) (w : World) (hA : Tx w ao la ca xs) (hf : Tx w fo fl fc fs) (ht : Tx w to tl tc ts) (sa : la ≤ 900000000) (sf : fl ≤ 900000000) (st : tl ≤ 900000000) :
    Calls Try.prog 19 #[.slice ao la ca, .slice fo fl fc, .slice to tl tc] w fun e w' => e = .returned (.bool true) ∧ Below w.heap.size w w' := by
  cases ho : openT xs with
  | some m =>
    have n1 := topen_yes ao la ca m xs w hA sa ho
    obtain ⟨hmay, _⟩ := open_inv xs m hA.rng ho
    have hm := (mayB_iff 65535 m).1 hmay
    clear hmay
    go_enter Try.func19, Try.ntmps19
    go_wp2_with fail
    with_reducible refine n1.mono ?_
    clear n1
    rintro e1 w1 ⟨pb, rfl, hT, b1⟩
    have n2 := ropen_any ao la ca xs w1 (hA.later b1) sa
    go_wp2_with fail
    with_reducible refine n2.mono ?_
    clear n2
    rintro e2 w2 p2
    obtain ⟨bo, lb, cb, rfl, x2, b2⟩ := ropen_yes p2 ho
    clear p2
    have hlb := x2.len_eq
    have hT2 := hT.later b2
    replace b2 := b1.trans (b2.mono b1.size)
    have n3 := asks_any pb bo lb cb m fo fl fc fs to tl tc ts w2 hT2 x2 (hf.later b2) (ht.later b2) (by omega) sf st (by omega)
    clear hm hlb hT b1 ho
    go_wp2_with fail
    with_reducible refine n3.mono ?_
    clear n3
    rintro e3 w3 ⟨rfl, b3⟩
    replace b3 := b2.trans (b3.mono b2.size)
    go_wp2
    go_ret
    exact ⟨rfl, b3⟩
  | none =>
    have n1 := topen_no ao la ca xs w hA sa ho
    go_enter Try.func19, Try.ntmps19
    go_wp2_with fail
    with_reducible refine n1.mono ?_
    clear n1
    rintro e1 w1 ⟨rfl, b1⟩
    have n2 := ropen_any ao la ca xs w1 (hA.later b1) sa
    go_wp2_with fail
    with_reducible refine n2.mono ?_
    clear n2
    rintro e2 w2 p2
    obtain ⟨rfl, b2⟩ := ropen_nil p2 ho
    replace b2 := b1.trans (b2.mono b1.size)
    clear p2 b1 ho
    go_wp2
    go_ret
    exact ⟨rfl, b2⟩
end

end Go.Proofs.Yteeemfohehpaeaa
