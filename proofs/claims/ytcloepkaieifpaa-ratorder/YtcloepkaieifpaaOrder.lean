/- The walk of RatOrder. -/
import Derived.Test.YtcloepkaieifpaaWalksC
import Derived.Test.YtcloepkaieifpaaWalksD
import Derived.Test.YtcloepkaieifpaaWalksF
import Derived.Lib.QuietBelow
namespace Go.Proofs.Ytcloepkaieifpaa
open Go.RowKit Go.Sort

set_option maxHeartbeats 2000000 in
theorem order_walk (x y z v u t : Int) (x1 : -9223372036854775808 ≤ x) (x2 : x ≤ 9223372036854775807) (y1 : -9223372036854775808 ≤ y) (y2 : y ≤ 9223372036854775807) (z1 : -9223372036854775808 ≤ z) (z2 : z ≤ 9223372036854775807) (v1 : -9223372036854775808 ≤ v) (v2 : v ≤ 9223372036854775807) (u1 : -9223372036854775808 ≤ u) (u2 : u ≤ 9223372036854775807) (t1 : -9223372036854775808 ≤ t) (t2 : t ≤ 9223372036854775807) (w : World) :
    Calls Try.prog 5 #[.int .i64 x, .int .i64 y, .int .i64 z, .int .i64 v, .int .i64 u, .int .i64 t] w fun e w' => e = .returned (.bool true) ∧ Below w.heap.size w w' := by
  go_enter Try.func5, Try.ntmps5
  go_wp2_with (first | (go_at_call 6; with_reducible refine (rat_any x y (by omega) (by omega) (by omega) (by omega) _).mono ?_; rintro e wa ⟨an, an1, an2, ad, ad1, ad2, ha, rfl, hba⟩) | (go_at_call 6; with_reducible refine (rat_any z v (by omega) (by omega) (by omega) (by omega) _).mono ?_; rintro e wb ⟨bn, bn1, bn2, bd, bd1, bd2, hb, rfl, hbb⟩) | (go_at_call 6; with_reducible refine (rat_any u t (by omega) (by omega) (by omega) (by omega) _).mono ?_; rintro e wc ⟨cn, cn1, cn2, cd, cd1, cd2, hc, rfl, hbc⟩))
  have hB : Below w.heap.size w (((wc.alloc (Obj.cells #[Value.int IntKind.i64 an, Value.int IntKind.i64 ad] 23)).alloc (Obj.cells #[Value.int IntKind.i64 bn, Value.int IntKind.i64 bd] 23)).alloc (Obj.cells #[Value.int IntKind.i64 cn, Value.int IntKind.i64 cd] 23)) := by
    have := hba.size
    have := hbb.size
    have := hbc.size
    repeat (first | exact Below.refl _ _ | refine Below.alloc ?_ (by first | omega | (simp <;> omega)) _ | refine below_via ?_ hbc (by omega) | refine below_via ?_ hbb (by omega) | refine below_via ?_ hba (by omega))
  clear hba hbb hbc
  have hcells : ∀ W, W = (((wc.alloc (Obj.cells #[Value.int IntKind.i64 an, Value.int IntKind.i64 ad] 23)).alloc (Obj.cells #[Value.int IntKind.i64 bn, Value.int IntKind.i64 bd] 23)).alloc (Obj.cells #[Value.int IntKind.i64 cn, Value.int IntKind.i64 cd] 23)) → W.cell? ⟨wc.heap.size, 0, none⟩ = some (.int .i64 an) ∧ W.cell? ⟨wc.heap.size, 1, none⟩ = some (.int .i64 ad) ∧ W.cell? ⟨wc.heap.size + 1, 0, none⟩ = some (.int .i64 bn) ∧ W.cell? ⟨wc.heap.size + 1, 1, none⟩ = some (.int .i64 bd) ∧ W.cell? ⟨wc.heap.size + 1 + 1, 0, none⟩ = some (.int .i64 cn) ∧ W.cell? ⟨wc.heap.size + 1 + 1, 1, none⟩ = some (.int .i64 cd) := by
    rintro W rfl; simp [go_sem]
  generalize (((wc.alloc (Obj.cells #[Value.int IntKind.i64 an, Value.int IntKind.i64 ad] 23)).alloc (Obj.cells #[Value.int IntKind.i64 bn, Value.int IntKind.i64 bd] 23)).alloc (Obj.cells #[Value.int IntKind.i64 cn, Value.int IntKind.i64 cd] 23)) = W at hB hcells ⊢
  obtain ⟨k1, k2, k3, k4, k5, k6⟩ := hcells W rfl
  clear hcells
  have q1 := fun d os => cell_regrown k1 d os
  have q2 := fun d os => cell_regrown k2 d os
  have q3 := fun d os => cell_regrown k3 d os
  have q4 := fun d os => cell_regrown k4 d os
  have q5 := fun d os => cell_regrown k5 d os
  have q6 := fun d os => cell_regrown k6 d os
  have hn := cmpI_swap (an * bd) (bn * ad)
  obtain ⟨m1, m2⟩ := cmpI_bd (an * bd) (bn * ad)
  have hw : IntKind.i64.wrap (cmpI (an * bd) (bn * ad)) = cmpI (an * bd) (bn * ad) := by rw [IntKind.wrap_i64]; omega
  have cs : (an = bn ∧ ad = bd) ∨ (an = bn ∧ ¬ ad = bd) ∨ ¬ an = bn := by omega
  have hz : ¬ (an = bn ∧ ad = bd) → (cmpI (an * bd) (bn * ad) == 0) = false := fun he => by
    simp only [beq_eq_false_iff_ne, ne_eq, cmpI_zero]; exact fun h => he (right_inj ha hb h)
  rcases cs with ⟨rfl, rfl⟩ | ⟨rfl, hne⟩ | hne
  · have h0 := cmpI_self (an * ad)
    clear hz hn hw
    refine wp_region_quiet_below (by kernel_rfl) (by kernel_rfl) ?_
    repeat (quiet_step ((go_at_call 10; exact Calls.regrown_of (cmp_right _ _ _ _ (by assumption) (by assumption) _))))
    refine wpQuiet_nil ?_
    intro _ hw'
    obtain ⟨⟨dq, osq⟩, hw''⟩ := hw'
    subst hw''
    have hB2 : Below w.heap.size w (grow (redrawn W dq) osq) := below_via hB (below_regrown W dq osq) hB.size
    have g1 := q1 dq osq
    have g2 := q2 dq osq
    have g3 := q3 dq osq
    have g4 := q4 dq osq
    have g5 := q5 dq osq
    have g6 := q6 dq osq
    clear q1 q2 q3 q4 q5 q6 k1 k2 k3 k4 k5 k6 hB h0
    generalize grow (redrawn W dq) osq = W2 at hB2 g1 g2 g3 g4 g5 g6 ⊢
    have zB := hB2.size
    by_cases t1 : 0 < cmpI (an * ad) (an * ad)
    · go_wp2_with (first | (go_at_call 10; with_reducible refine (cmp_right _ _ _ _ (by assumption) (by assumption) W2).mono ?_; rintro e w1 ⟨rfl, hb1⟩; have j1 := cell_later hb1 g1; have j2 := cell_later hb1 g2; have j3 := cell_later hb1 g3; have j4 := cell_later hb1 g4; have j5 := cell_later hb1 g5; have j6 := cell_later hb1 g6; have z1 := hb1.size) | (go_at_call 10; with_reducible refine (cmp_right _ _ _ _ (by assumption) (by assumption) w1).mono ?_; rintro e w2 ⟨rfl, hb2⟩; have s1 := cell_later hb2 j1; have s2 := cell_later hb2 j2; have s3 := cell_later hb2 j3; have s4 := cell_later hb2 j4; have s5 := cell_later hb2 j5; have s6 := cell_later hb2 j6; have z2 := hb2.size) | (go_at_call 10; with_reducible refine (cmp_right _ _ _ _ (by assumption) (by assumption) w2).mono ?_; rintro e w3 ⟨rfl, hb3⟩; have z3 := hb3.size) | (go_at_call 11; refine (known_any _).mono ?_; rintro e w4 ⟨rfl, hb4⟩))
      go_ret
      exact ⟨rfl, by repeat (first | exact hB2 | refine below_via ?_ hb4 (by omega) | refine below_via ?_ hb1 (by omega))⟩
    · by_cases t2 : 0 < cmpI (an * cd) (cn * ad)
      · go_wp2_with (first | (go_at_call 10; with_reducible refine (cmp_right _ _ _ _ (by assumption) (by assumption) W2).mono ?_; rintro e w1 ⟨rfl, hb1⟩; have j1 := cell_later hb1 g1; have j2 := cell_later hb1 g2; have j3 := cell_later hb1 g3; have j4 := cell_later hb1 g4; have j5 := cell_later hb1 g5; have j6 := cell_later hb1 g6; have z1 := hb1.size) | (go_at_call 10; with_reducible refine (cmp_right _ _ _ _ (by assumption) (by assumption) w1).mono ?_; rintro e w2 ⟨rfl, hb2⟩; have s1 := cell_later hb2 j1; have s2 := cell_later hb2 j2; have s3 := cell_later hb2 j3; have s4 := cell_later hb2 j4; have s5 := cell_later hb2 j5; have s6 := cell_later hb2 j6; have z2 := hb2.size) | (go_at_call 10; with_reducible refine (cmp_right _ _ _ _ (by assumption) (by assumption) w2).mono ?_; rintro e w3 ⟨rfl, hb3⟩; have z3 := hb3.size) | (go_at_call 11; refine (known_any _).mono ?_; rintro e w4 ⟨rfl, hb4⟩))
        go_ret
        exact ⟨rfl, by repeat (first | exact hB2 | refine below_via ?_ hb4 (by omega) | refine below_via ?_ hb2 (by omega) | refine below_via ?_ hb1 (by omega))⟩
      · have t3 : cmpI (an * cd) (cn * ad) ≤ 0 := by
          have e1 := cmpI_pos (an * ad) (an * ad)
          have e2 := cmpI_pos (an * cd) (cn * ad)
          have e3 := cmpI_pos (an * cd) (cn * ad)
          have := le_trans3 (an := an) (ad := ad) (bn := an) (bd := ad) (cn := cn) (cd := cd) (by omega) (by omega) (by omega) (by omega) (by omega)
          omega
        go_wp2_with (first | (go_at_call 10; with_reducible refine (cmp_right _ _ _ _ (by assumption) (by assumption) W2).mono ?_; rintro e w1 ⟨rfl, hb1⟩; have j1 := cell_later hb1 g1; have j2 := cell_later hb1 g2; have j3 := cell_later hb1 g3; have j4 := cell_later hb1 g4; have j5 := cell_later hb1 g5; have j6 := cell_later hb1 g6; have z1 := hb1.size) | (go_at_call 10; with_reducible refine (cmp_right _ _ _ _ (by assumption) (by assumption) w1).mono ?_; rintro e w2 ⟨rfl, hb2⟩; have s1 := cell_later hb2 j1; have s2 := cell_later hb2 j2; have s3 := cell_later hb2 j3; have s4 := cell_later hb2 j4; have s5 := cell_later hb2 j5; have s6 := cell_later hb2 j6; have z2 := hb2.size) | (go_at_call 10; with_reducible refine (cmp_right _ _ _ _ (by assumption) (by assumption) w2).mono ?_; rintro e w3 ⟨rfl, hb3⟩; have z3 := hb3.size) | (go_at_call 11; refine (known_any _).mono ?_; rintro e w4 ⟨rfl, hb4⟩))
        go_ret
        exact ⟨rfl, by repeat (first | exact hB2 | refine below_via ?_ hb4 (by omega) | refine below_via ?_ hb3 (by omega) | refine below_via ?_ hb2 (by omega) | refine below_via ?_ hb1 (by omega))⟩
  · have h0 := hz (fun h => hne h.2)
    clear hz
    refine wp_region_quiet_below (by kernel_rfl) (by kernel_rfl) ?_
    repeat (quiet_step ((go_at_call 10; exact Calls.regrown_of (cmp_right _ _ _ _ (by assumption) (by assumption) _))))
    refine wpQuiet_nil ?_
    intro _ hw'
    obtain ⟨⟨dq, osq⟩, hw''⟩ := hw'
    subst hw''
    have hB2 : Below w.heap.size w (grow (redrawn W dq) osq) := below_via hB (below_regrown W dq osq) hB.size
    have g1 := q1 dq osq
    have g2 := q2 dq osq
    have g3 := q3 dq osq
    have g4 := q4 dq osq
    have g5 := q5 dq osq
    have g6 := q6 dq osq
    clear q1 q2 q3 q4 q5 q6 k1 k2 k3 k4 k5 k6 hB h0
    generalize grow (redrawn W dq) osq = W2 at hB2 g1 g2 g3 g4 g5 g6 ⊢
    have zB := hB2.size
    by_cases t1 : 0 < cmpI (an * bd) (an * ad)
    · go_wp2_with (first | (go_at_call 10; with_reducible refine (cmp_right _ _ _ _ (by assumption) (by assumption) W2).mono ?_; rintro e w1 ⟨rfl, hb1⟩; have j1 := cell_later hb1 g1; have j2 := cell_later hb1 g2; have j3 := cell_later hb1 g3; have j4 := cell_later hb1 g4; have j5 := cell_later hb1 g5; have j6 := cell_later hb1 g6; have z1 := hb1.size) | (go_at_call 10; with_reducible refine (cmp_right _ _ _ _ (by assumption) (by assumption) w1).mono ?_; rintro e w2 ⟨rfl, hb2⟩; have s1 := cell_later hb2 j1; have s2 := cell_later hb2 j2; have s3 := cell_later hb2 j3; have s4 := cell_later hb2 j4; have s5 := cell_later hb2 j5; have s6 := cell_later hb2 j6; have z2 := hb2.size) | (go_at_call 10; with_reducible refine (cmp_right _ _ _ _ (by assumption) (by assumption) w2).mono ?_; rintro e w3 ⟨rfl, hb3⟩; have z3 := hb3.size) | (go_at_call 11; refine (known_any _).mono ?_; rintro e w4 ⟨rfl, hb4⟩))
      go_ret
      exact ⟨rfl, by repeat (first | exact hB2 | refine below_via ?_ hb4 (by omega) | refine below_via ?_ hb1 (by omega))⟩
    · by_cases t2 : 0 < cmpI (an * cd) (cn * bd)
      · go_wp2_with (first | (go_at_call 10; with_reducible refine (cmp_right _ _ _ _ (by assumption) (by assumption) W2).mono ?_; rintro e w1 ⟨rfl, hb1⟩; have j1 := cell_later hb1 g1; have j2 := cell_later hb1 g2; have j3 := cell_later hb1 g3; have j4 := cell_later hb1 g4; have j5 := cell_later hb1 g5; have j6 := cell_later hb1 g6; have z1 := hb1.size) | (go_at_call 10; with_reducible refine (cmp_right _ _ _ _ (by assumption) (by assumption) w1).mono ?_; rintro e w2 ⟨rfl, hb2⟩; have s1 := cell_later hb2 j1; have s2 := cell_later hb2 j2; have s3 := cell_later hb2 j3; have s4 := cell_later hb2 j4; have s5 := cell_later hb2 j5; have s6 := cell_later hb2 j6; have z2 := hb2.size) | (go_at_call 10; with_reducible refine (cmp_right _ _ _ _ (by assumption) (by assumption) w2).mono ?_; rintro e w3 ⟨rfl, hb3⟩; have z3 := hb3.size) | (go_at_call 11; refine (known_any _).mono ?_; rintro e w4 ⟨rfl, hb4⟩))
        go_ret
        exact ⟨rfl, by repeat (first | exact hB2 | refine below_via ?_ hb4 (by omega) | refine below_via ?_ hb2 (by omega) | refine below_via ?_ hb1 (by omega))⟩
      · have t3 : cmpI (an * cd) (cn * ad) ≤ 0 := by
          have e1 := cmpI_pos (an * bd) (an * ad)
          have e2 := cmpI_pos (an * cd) (cn * bd)
          have e3 := cmpI_pos (an * cd) (cn * ad)
          have := le_trans3 (an := an) (ad := ad) (bn := an) (bd := bd) (cn := cn) (cd := cd) (by omega) (by omega) (by omega) (by omega) (by omega)
          omega
        go_wp2_with (first | (go_at_call 10; with_reducible refine (cmp_right _ _ _ _ (by assumption) (by assumption) W2).mono ?_; rintro e w1 ⟨rfl, hb1⟩; have j1 := cell_later hb1 g1; have j2 := cell_later hb1 g2; have j3 := cell_later hb1 g3; have j4 := cell_later hb1 g4; have j5 := cell_later hb1 g5; have j6 := cell_later hb1 g6; have z1 := hb1.size) | (go_at_call 10; with_reducible refine (cmp_right _ _ _ _ (by assumption) (by assumption) w1).mono ?_; rintro e w2 ⟨rfl, hb2⟩; have s1 := cell_later hb2 j1; have s2 := cell_later hb2 j2; have s3 := cell_later hb2 j3; have s4 := cell_later hb2 j4; have s5 := cell_later hb2 j5; have s6 := cell_later hb2 j6; have z2 := hb2.size) | (go_at_call 10; with_reducible refine (cmp_right _ _ _ _ (by assumption) (by assumption) w2).mono ?_; rintro e w3 ⟨rfl, hb3⟩; have z3 := hb3.size) | (go_at_call 11; refine (known_any _).mono ?_; rintro e w4 ⟨rfl, hb4⟩))
        go_ret
        exact ⟨rfl, by repeat (first | exact hB2 | refine below_via ?_ hb4 (by omega) | refine below_via ?_ hb3 (by omega) | refine below_via ?_ hb2 (by omega) | refine below_via ?_ hb1 (by omega))⟩
  · have h0 := hz (fun h => hne h.1)
    clear hz
    refine wp_region_quiet_below (by kernel_rfl) (by kernel_rfl) ?_
    repeat (quiet_step ((go_at_call 10; exact Calls.regrown_of (cmp_right _ _ _ _ (by assumption) (by assumption) _))))
    refine wpQuiet_nil ?_
    intro _ hw'
    obtain ⟨⟨dq, osq⟩, hw''⟩ := hw'
    subst hw''
    have hB2 : Below w.heap.size w (grow (redrawn W dq) osq) := below_via hB (below_regrown W dq osq) hB.size
    have g1 := q1 dq osq
    have g2 := q2 dq osq
    have g3 := q3 dq osq
    have g4 := q4 dq osq
    have g5 := q5 dq osq
    have g6 := q6 dq osq
    clear q1 q2 q3 q4 q5 q6 k1 k2 k3 k4 k5 k6 hB h0
    generalize grow (redrawn W dq) osq = W2 at hB2 g1 g2 g3 g4 g5 g6 ⊢
    have zB := hB2.size
    by_cases t1 : 0 < cmpI (an * bd) (bn * ad)
    · go_wp2_with (first | (go_at_call 10; with_reducible refine (cmp_right _ _ _ _ (by assumption) (by assumption) W2).mono ?_; rintro e w1 ⟨rfl, hb1⟩; have j1 := cell_later hb1 g1; have j2 := cell_later hb1 g2; have j3 := cell_later hb1 g3; have j4 := cell_later hb1 g4; have j5 := cell_later hb1 g5; have j6 := cell_later hb1 g6; have z1 := hb1.size) | (go_at_call 10; with_reducible refine (cmp_right _ _ _ _ (by assumption) (by assumption) w1).mono ?_; rintro e w2 ⟨rfl, hb2⟩; have s1 := cell_later hb2 j1; have s2 := cell_later hb2 j2; have s3 := cell_later hb2 j3; have s4 := cell_later hb2 j4; have s5 := cell_later hb2 j5; have s6 := cell_later hb2 j6; have z2 := hb2.size) | (go_at_call 10; with_reducible refine (cmp_right _ _ _ _ (by assumption) (by assumption) w2).mono ?_; rintro e w3 ⟨rfl, hb3⟩; have z3 := hb3.size) | (go_at_call 11; refine (known_any _).mono ?_; rintro e w4 ⟨rfl, hb4⟩))
      go_ret
      exact ⟨rfl, by repeat (first | exact hB2 | refine below_via ?_ hb4 (by omega) | refine below_via ?_ hb1 (by omega))⟩
    · by_cases t2 : 0 < cmpI (bn * cd) (cn * bd)
      · go_wp2_with (first | (go_at_call 10; with_reducible refine (cmp_right _ _ _ _ (by assumption) (by assumption) W2).mono ?_; rintro e w1 ⟨rfl, hb1⟩; have j1 := cell_later hb1 g1; have j2 := cell_later hb1 g2; have j3 := cell_later hb1 g3; have j4 := cell_later hb1 g4; have j5 := cell_later hb1 g5; have j6 := cell_later hb1 g6; have z1 := hb1.size) | (go_at_call 10; with_reducible refine (cmp_right _ _ _ _ (by assumption) (by assumption) w1).mono ?_; rintro e w2 ⟨rfl, hb2⟩; have s1 := cell_later hb2 j1; have s2 := cell_later hb2 j2; have s3 := cell_later hb2 j3; have s4 := cell_later hb2 j4; have s5 := cell_later hb2 j5; have s6 := cell_later hb2 j6; have z2 := hb2.size) | (go_at_call 10; with_reducible refine (cmp_right _ _ _ _ (by assumption) (by assumption) w2).mono ?_; rintro e w3 ⟨rfl, hb3⟩; have z3 := hb3.size) | (go_at_call 11; refine (known_any _).mono ?_; rintro e w4 ⟨rfl, hb4⟩))
        go_ret
        exact ⟨rfl, by repeat (first | exact hB2 | refine below_via ?_ hb4 (by omega) | refine below_via ?_ hb2 (by omega) | refine below_via ?_ hb1 (by omega))⟩
      · have t3 : cmpI (an * cd) (cn * ad) ≤ 0 := by
          have e1 := cmpI_pos (an * bd) (bn * ad)
          have e2 := cmpI_pos (bn * cd) (cn * bd)
          have e3 := cmpI_pos (an * cd) (cn * ad)
          have := le_trans3 (an := an) (ad := ad) (bn := bn) (bd := bd) (cn := cn) (cd := cd) (by omega) (by omega) (by omega) (by omega) (by omega)
          omega
        go_wp2_with (first | (go_at_call 10; with_reducible refine (cmp_right _ _ _ _ (by assumption) (by assumption) W2).mono ?_; rintro e w1 ⟨rfl, hb1⟩; have j1 := cell_later hb1 g1; have j2 := cell_later hb1 g2; have j3 := cell_later hb1 g3; have j4 := cell_later hb1 g4; have j5 := cell_later hb1 g5; have j6 := cell_later hb1 g6; have z1 := hb1.size) | (go_at_call 10; with_reducible refine (cmp_right _ _ _ _ (by assumption) (by assumption) w1).mono ?_; rintro e w2 ⟨rfl, hb2⟩; have s1 := cell_later hb2 j1; have s2 := cell_later hb2 j2; have s3 := cell_later hb2 j3; have s4 := cell_later hb2 j4; have s5 := cell_later hb2 j5; have s6 := cell_later hb2 j6; have z2 := hb2.size) | (go_at_call 10; with_reducible refine (cmp_right _ _ _ _ (by assumption) (by assumption) w2).mono ?_; rintro e w3 ⟨rfl, hb3⟩; have z3 := hb3.size) | (go_at_call 11; refine (known_any _).mono ?_; rintro e w4 ⟨rfl, hb4⟩))
        go_ret
        exact ⟨rfl, by repeat (first | exact hB2 | refine below_via ?_ hb4 (by omega) | refine below_via ?_ hb3 (by omega) | refine below_via ?_ hb2 (by omega) | refine below_via ?_ hb1 (by omega))⟩
end Go.Proofs.Ytcloepkaieifpaa
