/- The statements' encodes and decodes. -/
import Derived.Test.YtgleblfkcdkaeaaDoorMRefB
import Derived.Test.YtgleblfkcdkaeaaDoorMBook
namespace Go.Proofs.YtgleblfkcdkaeaaDoor
set_option maxRecDepth 100000
open Go.RowKit Go.Sort

set_option maxHeartbeats 8000000 in
theorem encodes_any (ao : Option Addr) (la ca : Nat) (ts : List Int) (wal nxt : Int) (w : World) (h : Lx 1 RI w ao la ca ts) (w1 : i64ok wal) (n1 : i64ok nxt) :
    Calls Tryd.prog 8 #[.agg #[.slice ao la ca, .int .i64 wal, .int .i64 nxt]] w fun e w' => e = .returned (.bool true) ∧ Below w.heap.size w w' := by
  obtain ⟨V, hV, c0, c1, c2, hb, _, _⟩ := man_box w ao la ca wal nxt
  have hLV := h.later RI.stable hb
  by_cases hR : Man.Right ⟨ts, wal, nxt⟩
  · have hc := encode_yes ao la ca ts wal nxt V hLV w1 n1 hR
    have hmay := fun W (hB : Below V.heap.size V W) => may_any ao la ca ts wal nxt W (hLV.later RI.stable hB) w1 n1
    rw [decide_eq_true hR] at hmay
    have hre := fun W (hB : Below V.heap.size V W) => refenc_any ao la ca ts wal nxt W (hLV.later RI.stable hB) hR
    generalize Man.enc ⟨ts, wal, nxt⟩ = bs at *
    clear hR
    go_enter Tryd.func8, Tryd.ntmps8
    go_wp2_with fail
    rw [← hV]
    clear hV
    with_reducible refine hc.mono ?_
    rintro e V1 ⟨bo, lb, cb, rfl, t1, hb1⟩
    have d0 := cell_later hb1 c0
    have d1 := cell_later hb1 c1
    have d2 := cell_later hb1 c2
    go_wp2_with fail
    with_reducible refine (hmay V1 hb1).mono ?_
    rintro e V2 ⟨rfl, hb2⟩
    have hb12 := below_trans hb1 hb2
    have x0 : ∀ W, Below V2.heap.size V2 W → W.cell? ⟨w.heap.size, 0, none⟩ = some (.slice ao la ca) := fun W hB => cell_later (below_trans hb12 hB) c0
    have x1 : ∀ W, Below V2.heap.size V2 W → W.cell? ⟨w.heap.size, 1, none⟩ = some (.int .i64 wal) := fun W hB => cell_later (below_trans hb12 hB) c1
    have x2 : ∀ W, Below V2.heap.size V2 W → W.cell? ⟨w.heap.size, 2, none⟩ = some (.int .i64 nxt) := fun W hB => cell_later (below_trans hb12 hB) c2
    have hs1 : ∀ W, Below V2.heap.size V2 W → (convert 27 9 (.slice bo lb cb)).run Tryd.prog W = .ok (.string (strOfNums bs)) W := fun W hB => ((t1.later hb2).later hB).string
    have hre2 : ∀ W, Below V2.heap.size V2 W → Calls Tryd.prog 9 #[.slice ao la ca, .int .i64 wal, .int .i64 nxt] W fun e w' => ∃ bo lb cb, e = .returned (.slice bo lb cb) ∧ (convert 27 9 (.slice bo lb cb)).run Tryd.prog w' = .ok (.string (strOfNums bs)) w' ∧ Below V2.heap.size V2 w' := fun W hB =>
      (hre W (below_trans hb12 hB)).mono fun e w' ⟨bo, lb, cb, he, t, hb⟩ => ⟨bo, lb, cb, he, t.string, below_trans hB hb⟩
    have hw2 := below_trans hb hb12
    clear hre hmay hc c0 c1 c2 d0 d1 d2 t1 h hLV hb1 hb2
    generalize strOfNums bs = SB at *
    go_wp2
    go_region_held (fun W => Below V2.heap.size V2 W) (first | assumption | exact (Below.refl _ _).drew) (first
      | (go_at_call 9; with_reducible refine (hre2 _ (by assumption)).mono ?_; rintro e W ⟨ro, rl, rc, rfl, hs2, hB2⟩))
    all_goals
      go_wp2
      go_ret
      exact ⟨rfl, below_trans hw2 (by assumption)⟩
  · have hc := encode_no ao la ca ts wal nxt V hLV w1 n1 hR
    have hmay := fun W (hB : Below V.heap.size V W) => may_any ao la ca ts wal nxt W (hLV.later RI.stable hB) w1 n1
    rw [decide_eq_false hR] at hmay
    clear hR
    go_enter Tryd.func8, Tryd.ntmps8
    go_wp2_with fail
    rw [← hV]
    clear hV
    with_reducible refine hc.mono ?_
    rintro e V1 ⟨rfl, hb1⟩
    have d0 := cell_later hb1 c0
    have d1 := cell_later hb1 c1
    have d2 := cell_later hb1 c2
    go_wp2_with fail
    with_reducible refine (hmay V1 hb1).mono ?_
    rintro e V2 ⟨rfl, hb2⟩
    go_wp2
    go_ret
    exact ⟨rfl, below_trans hb (below_trans hb1 hb2)⟩

set_option maxHeartbeats 8000000 in
theorem decodes_any (ao : Option Addr) (la ca : Nat) (xs : List Int) (w : World) (h : Tx w ao la ca xs) (hl9 : la ≤ 900000000) :
    Calls Tryd.prog 10 #[.slice ao la ca] w fun e w' => e = .returned (.bool true) ∧ Below w.heap.size w w' := by
  have hd := decode_any ao la ca xs w h hl9
  unfold nilMan at hd
  have hrd := fun W (hB : Below w.heap.size w W) => refdec_any ao la ca xs W (h.later hB) hl9
  go_enter Tryd.func10, Tryd.ntmps10
  go_wp2_with fail
  with_reducible refine hd.mono ?_
  rintro e W1 ⟨hcase, b1⟩
  rcases hcase with ⟨hnone, rfl⟩ | ⟨m, v, hsome, hR, rfl, hv⟩
  · obtain ⟨V, hV, mV, bV⟩ : ∃ V, V = W1.alloc (.cells #[.slice none 0 0, .int .i64 0, .int .i64 0] 24) ∧ Mb V W1.heap.size (.slice none 0 0) (.int .i64 0) (.int .i64 0) ∧ Below W1.heap.size W1 V := ⟨_, rfl, Mb.new _ _ _ _, (Below.refl _ _).alloc (Nat.le_refl _) _⟩
    have b1V := below_trans b1 bV
    go_wp2_with fail
    rw [← hV]
    clear hV
    with_reducible refine (hrd V b1V).mono ?_
    rintro e W2 ⟨hcase, b2⟩
    rcases hcase with ⟨_, rfl⟩ | ⟨m, bo, lb, cb, hsome, _⟩
    · have m2 := mV.later b2
      have c0 := m2.c0
      have c1 := m2.c1
      have c2 := m2.c2
      have hs := same_man none none 0 0 0 0 [] [] 0 0 0 0 W2 (Lx.nil _ _ _) (Lx.nil _ _ _) (by omega) (by omega)
      rw [show (decide (([] : List Int) = []) && decide ((0 : Int) = 0) && decide ((0 : Int) = 0)) = true by decide] at hs
      clear hd hrd hnone
      go_wp2_with fail
      with_reducible refine hs.mono ?_
      rintro e W3 ⟨rfl, b3⟩
      go_wp2
      go_ret
      exact ⟨rfl, below_trans b1V (below_trans b2 b3)⟩
    · rw [hnone] at hsome; cases hsome
  · obtain ⟨bo, lb, cb, rfl, l1, _⟩ := hv
    obtain ⟨V, hV, mV, bV⟩ : ∃ V, V = W1.alloc (.cells #[.slice bo lb cb, .int .i64 m.wal, .int .i64 m.nxt] 24) ∧ Mb V W1.heap.size (.slice bo lb cb) (.int .i64 m.wal) (.int .i64 m.nxt) ∧ Below W1.heap.size W1 V := ⟨_, rfl, Mb.new _ _ _ _, (Below.refl _ _).alloc (Nat.le_refl _) _⟩
    have b1V := below_trans b1 bV
    go_wp2_with fail
    rw [← hV]
    clear hV
    with_reducible refine (hrd V b1V).mono ?_
    rintro e W2 ⟨hcase, b2⟩
    rcases hcase with ⟨hnone, _⟩ | ⟨m', ro, rl, rc, hsome', _, rfl, l2, _⟩
    · rw [hsome] at hnone; cases hnone
    · obtain rfl := Option.some.inj (hsome.symm.trans hsome')
      have m2 := mV.later b2
      have c0 := m2.c0
      have c1 := m2.c1
      have c2 := m2.c2
      have l3 := (l1.later RI.stable bV).later RI.stable b2
      have h255 := hR.1
      have hs := same_man bo ro lb cb rl rc m.ts m.ts m.wal m.nxt m.wal m.nxt W2 l3 l2 (by have := l3.len_eq; omega) (by have := l2.len_eq; omega)
      rw [show (decide (m.ts = m.ts) && decide (m.wal = m.wal) && decide (m.nxt = m.nxt)) = true by simp] at hs
      clear hd hrd hsome hsome' l1 l2 l3 mV m2 hR
      go_wp2_with fail
      with_reducible refine hs.mono ?_
      rintro e W3 ⟨rfl, b3⟩
      go_wp2
      go_ret
      exact ⟨rfl, below_trans b1V (below_trans b2 b3)⟩
end Go.Proofs.YtgleblfkcdkaeaaDoor
