/- The document's own Decode, walked. -/
import Derived.Test.YtgleblfkcdkaeaaDoorMRefA
import Derived.Test.YtgleblfkcdkaeaaDoorFRd
import Derived.Test.YtgleblfkcdkaeaaDoorMReadM
namespace Go.Proofs.YtgleblfkcdkaeaaDoor
set_option maxRecDepth 100000
open Go.RowKit Go.Sort

theorem results_tmp4 {fn : Func} {t u v s : Tmp} (h : fn.results = #[.tmp t, .tmp u, .tmp v, .tmp s]) (tmps : Array Value) (P : Program) (w : World) :
    (results fn tmps).run P w = .ok (.tuple #[tmps.getD t undef, tmps.getD u undef, tmps.getD v undef, tmps.getD s undef]) w := by
  simp [results, h]

theorem ls_off {S : List Nat} {w w' : World} {B : Nat} {v : Value} {es : List Int} (h : Ls 3 1 RI w B v es) (ho : Off S w w') (hd : ∀ k ∈ own v, k ∉ S) : Ls 3 1 RI w' B v es := by
  obtain ⟨us, h1, h2, h3⟩ := h
  exact ⟨us, h1, rows_offB h2 ho hd, h3⟩

/-- The loop of the document's Decode: j numbers have been read, or what was there did not do. -/
def RD (xs : List Int) (N j : Nat) (bad : Bool) (ys ts : List Int) : Prop := (bad = false ∧ ys = xs.drop (1 + 3 * j) ∧ 1 + 3 * j ≤ xs.length ∧ ts = nums j (xs.drop 1)) ∨ (bad = true ∧ ys = [] ∧ xs.length < 7 + 3 * N)
theorem RD.yes {xs : List Int} {N j : Nat} {bad : Bool} {ys ts : List Int} (h : RD xs N j bad ys ts) (hl : ¬ ys.length < 3) : RD xs N (j + 1) bad (ys.drop 3) (ts ++ [num3 ys]) := by
  rcases h with ⟨h1, h2, h3, h4⟩ | ⟨_, h2, _⟩
  · left
    subst h2 h4
    simp only [List.length_drop] at hl
    refine ⟨h1, by rw [List.drop_drop]; congr 1, by omega, ?_⟩
    rw [nums_succ, List.drop_drop]
  · subst h2; simp at hl
theorem RD.no {xs : List Int} {N j : Nat} {bad : Bool} {ys ts : List Int} (h : RD xs N j bad ys ts) (hl : ys.length < 3) (hj : j < N + 2) (ts' : List Int) (j' : Nat) : RD xs N j' true [] ts' := by
  rcases h with ⟨h1, h2, h3, h4⟩ | ⟨_, h2, h3⟩
  · right
    subst h2
    simp only [List.length_drop] at hl
    exact ⟨rfl, rfl, by omega⟩
  · exact .inr ⟨rfl, rfl, h3⟩

theorem rnum3 (W : World) (rb : Nat) (ro : Option Addr) (rl rc : Nat) (bad : Bool) (ys : List Int) (w : World) (h : Rf W w rb ro rl rc bad ys) (sr : rl ≤ 900000000) :
    Calls Tryd.prog 46 #[.pointer (some ⟨rb, 0, none⟩), .int .i64 3] w fun e w' => ∃ v ro' rl' rc' bad' ys', e = .returned (.int .i64 v) ∧ Rf W w' rb ro' rl' rc' bad' ys' ∧ rl' ≤ 900000000 ∧ Off [rb] w w' ∧ i64ok v ∧
      ((¬ ys.length < 3 ∧ v = num3 ys ∧ bad' = bad ∧ ys' = ys.drop 3) ∨ (ys.length < 3 ∧ v = 0 ∧ bad' = true ∧ ys' = [])) := by
  have hr : Bytes ys → 0 ≤ num3 ys ∧ num3 ys ≤ 4294967295 := fun hb => by have := num3_rng hb; omega
  refine (rnum_any W rb ro rl rc bad ys 3 3 rfl (by omega) (by omega) num3 (fun hb hl => val3 ys hb (by omega)) hr w h sr).mono ?_
  rintro e w' (⟨v, b, o, rl', rc', hl, hv, v0, v9, rfl, hR, hrl, ho⟩ | ⟨hl, rfl, hR, ho⟩)
  · exact ⟨v, _, rl', rc', bad, _, rfl, hR, hrl, ho, by unfold i64ok; omega, .inl ⟨hl, hv.symm, rfl, rfl⟩⟩
  · exact ⟨0, _, 0, 0, true, _, rfl, hR, by omega, ho, by unfold i64ok; omega, .inr ⟨hl, rfl, rfl, rfl⟩⟩

set_option maxHeartbeats 8000000 in
theorem refdec_any (ao : Option Addr) (la ca : Nat) (xs : List Int) (w : World) (h : Tx w ao la ca xs) (hl9 : la ≤ 900000000) :
    Calls Tryd.prog 27 #[.slice ao la ca] w fun e w' => ((decM xs = none ∧ e = .returned (.tuple #[.slice none 0 0, .int .i64 0, .int .i64 0, .bool false])) ∨ (∃ m bo lb cb, decM xs = some m ∧ m.Right ∧ e = .returned (.tuple #[.slice bo lb cb, .int .i64 m.wal, .int .i64 m.nxt, .bool true]) ∧ Lx 1 RI w' bo lb cb m.ts ∧ ∀ ad, bo = some ad → w.heap.size ≤ ad.block)) ∧ Below w.heap.size w w' := by
  have e1 := h.len_eq
  have hR0 := Rf.new w ao la ca xs h
  have hnum := rnum_any w w.heap.size ao la ca false xs 1 1 rfl (by omega) (by omega) num1 (fun hb hl => num1_at xs hb hl) (fun hb => by
    match xs, hb with
    | [], _ => simp [num1]
    | x :: xs, hb => have := hb.head; simp only [num1, List.getD_cons_zero]; omega) _ hR0 hl9
  have hVb : Below w.heap.size w (w.alloc (.cells #[.slice ao la ca, .bool false] 88)) := (Below.refl _ _).alloc (Nat.le_refl _) _
  have hVs : (w.alloc (.cells #[.slice ao la ca, .bool false] 88)).heap.size = w.heap.size + 1 := by simp
  obtain ⟨V, hV⟩ : ∃ V, V = w.alloc (.cells #[.slice ao la ca, .bool false] 88) := ⟨_, rfl⟩
  rw [← hV] at hR0 hnum hVb hVs
  go_enter Tryd.func27, Tryd.ntmps27
  go_wp2_with fail
  rw [← hV]
  clear hV
  with_reducible refine hnum.mono ?_
  rintro e W1 hcase
  have h1 : ∃ (N : Nat) (ro : Option Addr) (rl rc : Nat) (bad : Bool) (ys : List Int), e = .returned (.int .i64 N) ∧ Hid (N = (num1 xs).toNat) ∧ N ≤ 255 ∧ Rf w W1 w.heap.size ro rl rc bad ys ∧ rl ≤ 900000000 ∧ Off [w.heap.size] V W1 ∧ Hid (RD xs N 0 bad ys []) := by
    rcases hcase with ⟨v, b, o, rl', rc', hl, hv, v0, v9, rfl, hR, hrl, ho⟩ | ⟨hl, rfl, hR, ho⟩
    · have hb : Bytes xs := h.rng
      have h255 : num1 xs ≤ 255 := by
        match xs, hl, hb with
        | x :: xs, _, hb => have := hb.head; simp only [num1, List.getD_cons_zero]; omega
      exact ⟨v.toNat, _, rl', rc', false, _, by rw [show ((v.toNat : Nat) : Int) = v by omega], by show _ = _; rw [hv], by omega, hR, hrl, ho, .inl ⟨rfl, rfl, by omega, rfl⟩⟩
    · have hx0 : xs = [] := List.eq_nil_of_length_eq_zero (by omega)
      exact ⟨0, _, 0, 0, true, _, rfl, by show _ = _; rw [hx0]; rfl, by omega, hR, by omega, ho, .inr ⟨rfl, rfl, by omega⟩⟩
  obtain ⟨N, ro, rl, rc, bad, ys, rfl, hN, hN255, R1, hrl, O1, hRD⟩ := h1
  clear hcase hnum hR0
  go_wp2
  go_loopw [7, 8] (fun s7 s8 wr => ∃ (j : Nat) (to ro : Option Addr) (tc rl rc : Nat) (bad : Bool) (ys ts : List Int), j ≤ N ∧ s8 = .int .i64 ((N : Int) - (j : Int)) ∧ s7 = .slice to j tc ∧ Hid (ts.length = j) ∧ Ls 3 1 RI wr (w.heap.size + 1) (.slice to j tc) ts ∧ Rf w wr w.heap.size ro rl rc bad ys ∧ rl ≤ 900000000 ∧ Hid (RD xs N j bad ys ts)) (fun _ s8 _ => (intOf s8).toNat)
  case atStart => exact ⟨0, none, ro, 0, rl, rc, bad, ys, [], by omega, by simp, rfl, rfl, Ls.nil _ _ _ _ _, R1, hrl, hRD⟩
  case round =>
    obtain ⟨j, to, ro, tc, rl, rc, bad, ys, ts, hj, rfl, rfl, htl, L, R, hrl, hRD⟩ := hrel
    have hne : ∀ k ∈ own (.slice to j tc), k ∉ [w.heap.size] := fun k hk => by have := (L.lt k hk).2; simp; omega
    by_cases hjN : j < N
    · have hg : (0 : Int) < (N : Int) - (j : Int) := by omega
      have hw : wrap64 ((N : Int) - (j : Int) - 1) = (N : Int) - ((j + 1 : Nat) : Int) := by unfold wrap64; omega
      have hn3 := rnum3 w w.heap.size ro rl rc bad ys _ R hrl
      go_wp2_with fail
      with_reducible refine hn3.mono ?_
      rintro e W2 ⟨v, ro', rl', rc', bad', ys', rfl, R2, hrl2, O2, hv, hcase⟩
      have hRD2 : Hid (RD xs N (j + 1) bad' ys' (ts ++ [v])) := by
        rcases hcase with ⟨c1, rfl, rfl, rfl⟩ | ⟨c1, rfl, rfl, rfl⟩
        · exact hRD.out.yes c1
        · exact hRD.out.no c1 (by omega) _ _
      have L2 := ls_off L O2 hne
      clear hcase hRD hn3 L R
      have hls := L2.later RI.stable ((Below.refl W2.heap.size W2).alloc (Nat.le_refl _) (.cells #[.int .i64 v] 3))
      have hxr : RI (W2.alloc (.cells #[.int .i64 v] 3)) (own (.slice to j tc)) [.int .i64 v] v := ⟨rfl, hv⟩
      have hsz := R2.lt
      have hts : ts.length ≤ 1000000000 := by have := htl.out; omega
      have hB2 : w.heap.size + 1 ≤ (W2.alloc (.cells #[.int .i64 v] 3)).heap.size := by simp; omega
      have hq : ∀ q, q = ts.length + 1 → q = j + 1 := fun q h => by rw [h, htl.out]
      have R3 := R2.later ((Below.refl W2.heap.size W2).alloc (Nat.le_refl _) (.cells #[.int .i64 v] 3))
      go_wp2_with (with_reducible show wpList _ _ _ (⟨some 24, _, _, _, _, _⟩ :: _) _ _; refine wpList_one RI.stable RI.plain Tryd.underlying22 Tryd.info3a rfl (by decide) (by decide) rfl (.tmp 20) (.tmp 23) rfl (w.heap.size + 1) (.slice to j tc) ts rfl hls ⟨W2.heap.size, 0, none⟩ 1 [.int .i64 v] v rfl (fun j y hy => lx_cell_one _ _ _ j y hy) hxr hts hB2 ?_; intro ao' n' cap' w9 hn' L9 O9 hs9; obtain rfl := hq _ hn'; clear hn')
      have R9 := R3.off O9 (fun hk => by have := (hls.lt _ hk).2; omega) (fun k hk => by have := (hls.lt _ hk).2; omega)
      go_round
      case rel => exact ⟨j + 1, ao', ro', cap', rl', rc', bad', ys', ts ++ [v], by omega, by first | rfl | (congr 1; unfold wrap64; omega) | (congr 1; omega), rfl, by show _ = _; rw [List.length_append, htl.out]; rfl, L9, R9, hrl2, hRD2⟩
      case measure => simp [intOf]; omega
    · have hjj : j = N := by omega
      have hg : ¬ (0 : Int) < (N : Int) - (j : Int) := by omega
      subst hjj
      have hn3 := rnum3 w w.heap.size ro rl rc bad ys _ R hrl
      go_wp2_with fail
      with_reducible refine hn3.mono ?_
      rintro e W2 ⟨v, ro', rl', rc', bad', ys', rfl, R2, hrl2, O2, hv, hcase⟩
      have hRD2 : Hid (RD xs j (j + 1) bad' ys' (ts ++ [v])) := by
        rcases hcase with ⟨c1, rfl, rfl, rfl⟩ | ⟨c1, rfl, rfl, rfl⟩
        · exact hRD.out.yes c1
        · exact hRD.out.no c1 (by omega) _ _
      have L2 := ls_off L O2 hne
      clear hcase hRD hn3 L R
      have hn4 := rnum3 w w.heap.size ro' rl' rc' bad' ys' _ R2 hrl2
      go_wp2_with fail
      with_reducible refine hn4.mono ?_
      rintro e W3 ⟨u, ro2, rl2, rc2, bad2, ys2, rfl, R3, hrl3, O3, hu, hcase⟩
      have hRD3 : Hid (RD xs j (j + 2) bad2 ys2 (ts ++ [v] ++ [u])) := by
        rcases hcase with ⟨c1, rfl, rfl, rfl⟩ | ⟨c1, rfl, rfl, rfl⟩
        · exact hRD2.out.yes c1
        · exact hRD2.out.no c1 (by omega) _ _
      have L3 := ls_off L2 O3 hne
      clear hcase hRD2 hn4 L2 R2
      have c0 := R3.c0
      have c1 := R3.c1
      have b3 := R3.bel
      have hyl := R3.tx.len_eq
      have hnN := hN.out
      by_cases hbad : bad2 = true
      · subst hbad
        have hnone : Hid (decM xs = none) := decM_none (fun k => by
          rcases hRD3.out with ⟨h1, _⟩ | ⟨_, _, h3⟩
          · cases h1
          · have := k.1.2; omega)
        clear hRD3 hnN hyl
        go_wp2
        try simp only [Exit.inBlock, Exit.then]
        refine bodyPost_ret (results_tmp4 rfl _ _ _) rfl ?_
        exact ⟨.inl ⟨hnone.out, rfl⟩, b3⟩
      · have hb2 : bad2 = false := by cases bad2 <;> simp_all
        subst hb2
        have hgood : ys2 = xs.drop (1 + 3 * (j + 2)) ∧ 1 + 3 * (j + 2) ≤ xs.length ∧ ts ++ [v] ++ [u] = nums (j + 2) (xs.drop 1) := by
          rcases hRD3.out with ⟨_, h2, h3, h4⟩ | ⟨h1, _⟩
          · exact ⟨h2, h3, h4⟩
          · cases h1
        obtain ⟨g1, g2, g3⟩ := hgood
        clear hRD3 hbad
        have hyy : rl2 = xs.length - (7 + 3 * j) := by rw [← hyl, g1]; simp; omega
        by_cases hrest : 0 < rl2
        · have hnone : Hid (decM xs = none) := decM_none (fun k => by have := k.1.2; omega)
          clear hnN hyl hyy g1 g2 g3
          go_wp2
          try simp only [Exit.inBlock, Exit.then]
          refine bodyPost_ret (results_tmp4 rfl _ _ _) rfl ?_
          exact ⟨.inl ⟨hnone.out, rfl⟩, b3⟩
        · have hfit : FitM xs := ⟨by omega, by omega⟩
          have hman : manOf xs = ⟨ts, v, u⟩ := by
            rw [show j + 2 = (j + 1) + 1 from rfl, nums_succ, nums_succ] at g3
            obtain ⟨q1, q2⟩ := List.append_inj' g3 rfl
            obtain ⟨q3, q4⟩ := List.append_inj' q1 rfl
            simp only [List.cons.injEq, and_true] at q2 q4
            unfold manOf
            rw [← hnN, ← q3, q4, q2, List.drop_drop, List.drop_drop]
            congr 2
            rw [show 4 + 3 * j = 1 + 3 * (j + 1) by omega]
          obtain ⟨to2, tc2, hv2, lx⟩ := L3.read RI.stable RI.plain
          rw [htl.out] at hv2 lx
          cases hv2
          have hmay := may_any to j tc ts v u W3 lx hv hu
          have hnw : ∀ ad, to = some ad → w.heap.size ≤ ad.block := fun ad ha => by have := (L3.lt ad.block (by rw [ha]; simp [own, Value.ownBlock])).2; omega
          clear hnN hyl hyy g1 g2 g3 L3
          by_cases hRR : Man.Right ⟨ts, v, u⟩
          · rw [decide_eq_true hRR] at hmay
            have hsome : Hid (decM xs = some ⟨ts, v, u⟩) := by
              have := decM_some (xs := xs) ⟨hfit, by rw [hman]; exact hRR⟩
              rw [hman] at this
              exact this
            have hT : Hid (Man.Right ⟨ts, v, u⟩) := hRR
            clear hRR
            go_wp2_with fail
            with_reducible refine hmay.mono ?_
            rintro e W4 ⟨rfl, b4⟩
            go_wp2
            try simp only [Exit.inBlock, Exit.then]
            refine bodyPost_ret (results_tmp4 rfl _ _ _) rfl ?_
            exact ⟨.inr ⟨⟨ts, v, u⟩, to, j, tc, hsome.out, hT.out, rfl, lx.later RI.stable b4, hnw⟩, b3.trans (b4.mono b3.size)⟩
          · rw [decide_eq_false hRR] at hmay
            have hnone : Hid (decM xs = none) := decM_none (fun k => hRR (by have := k.2; rwa [hman] at this))
            clear hRR
            go_wp2_with fail
            with_reducible refine hmay.mono ?_
            rintro e W4 ⟨rfl, b4⟩
            go_wp2
            try simp only [Exit.inBlock, Exit.then]
            refine bodyPost_ret (results_tmp4 rfl _ _ _) rfl ?_
            exact ⟨.inl ⟨hnone.out, rfl⟩, b3.trans (b4.mono b3.size)⟩
end Go.Proofs.YtgleblfkcdkaeaaDoor
