/- The walk of BlockBack. -/
import Derived.Test.YtdlkakkoaelemaaBBack
import Derived.Test.YtdlkakkoaelemaaFWalksK
namespace Go.Proofs.Ytdlkakkoaelemaa
open Go.RowKit Go.Sort

set_option maxHeartbeats 16000000 in
set_option maxRecDepth 100000 in
theorem bback_walk (ao : Option Addr) (la ca : Nat) (l : List Ent) (w : World) (hl : Lx 3 RE w ao la ca l) :
    Calls Try.prog 5 #[.slice ao la ca] w fun e w' => e = .returned (.bool true) ∧ Below w.heap.size w w' := by
  have hD := drawn_rise 40 l
  have hkp := keep_any ao la ca l 40 12 20 40 12 20 rfl rfl rfl (by omega) (by omega) (by omega) w hl
  have hri := fun (bo : Option Addr) (lb cb : Nat) (W : World) (h : Lx 3 RE W bo lb cb (keepL 40 12 20 l)) => rise_any bo lb cb _ W h (by have h1 := h.len_eq; simp only [keepL, List.length_map, List.length_take] at h1; omega)
  generalize riseL (keepL 40 12 20 l) = m at hD hri
  generalize keepL 40 12 20 l = kp at hkp hri
  go_enter Try.func5, Try.ntmps5
  go_wp2_with fail
  with_reducible refine hkp.mono ?_
  rintro e W1 ⟨o1, l1, c1, rfl, x1, b1⟩
  have hri1 := hri o1 l1 c1 W1 x1
  clear hri hkp
  go_wp2_with fail
  with_reducible refine hri1.mono ?_
  rintro e W2 ⟨mo, ml, mc, rfl, x2, b2⟩
  clear hri1
  have B2 : Below w.heap.size w W2 := b1.trans (b2.mono b1.size)
  have hml := x2.len_eq
  have hm40 := hD.len
  by_cases h0 : ml = 0
  · subst h0
    go_wp2_with (go_at_call 10; with_reducible refine (known_any W2).mono ?_; rintro e W3 ⟨rfl, b3⟩)
    go_ret
    exact ⟨rfl, B2.trans (b3.mono B2.size)⟩
  · have h0b : ((ml : Int) == 0) = false := by simp [h0]
    have hback := hD.back (by omega) (by omega)
    have hblen := hD.block (by omega)
    have hbu := build_yes mo ml mc m W2 x2 hD.keys (hD.may (by omega) (by omega)) (hD.fit (by omega)) (blockL m) rfl
    generalize blockL m = bs at hback hblen hbu
    have hback : Hid (allB bs = some m) := hback
    have hself := sameL_refl m
    have hsam := fun (po : Option Addr) (lp cp : Nat) (W : World) (h1 : Lx 3 RE W po lp cp m) (h2 : Lx 3 RE W mo ml mc m) => same8_any po mo lp cp ml mc m m W h1 h2 (by have := h1.len_eq; omega) (by omega)
    rw [hself] at hsam
    go_wp2_with (first
      | (go_at_call 14; with_reducible refine hbu.mono ?_; rintro e W3 ⟨bo, lb, cb, rfl, t3, b3⟩; have hlb := t3.len_eq; have hal := all_yes [] bo lb cb bs W3 t3 (by omega) (by simp) m hback.out)
      | (go_at_call 15; with_reducible refine hal.mono ?_; rintro e W4 ⟨po, lp, cp, rfl, x4, b4⟩; have hsm := hsam po lp cp W4 x4.weaken ((x2.later RE.stable b3).later RE.stable b4))
      | (go_at_call 16; with_reducible refine hsm.mono ?_; rintro e W5 ⟨rfl, b5⟩))
    have B5 : Below W2.heap.size W2 W5 := (b3.trans (b4.mono b3.size)).trans (b5.mono (b3.trans (b4.mono b3.size)).size)
    have t5 := (t3.later b4).later b5
    clear hsam hbu t3 hal hsm
    obtain ⟨b, off, rfl, hc⟩ := x2.headE (by omega)
    go_loopw [8, 10, 12] (fun i _ _ wr => ∃ k : Nat, k ≤ ml ∧ i = .int .i64 k ∧ Below W5.heap.size W5 wr) (fun i _ _ _ => ml - (intOf i).toNat)
    case atStart => exact ⟨0, by omega, rfl, Below.refl _ _⟩
    case round =>
      obtain ⟨k, hk, rfl, hbr⟩ := hrel
      have Br : Below W2.heap.size W2 wr := B5.trans (hbr.mono B5.size)
      by_cases hk2 : k < ml
      · have hx : m[k]? = some (m[k]'(by omega)) := by simp
        obtain ⟨ko, kl, kc, vo, vl, vc, c0, c1, c2, tk, tv⟩ := hc k _ hx
        have hsm := hD.small (m[k]'(by omega)) (List.getElem_mem _)
        have hself2 := seek_self hD.ok k _ hx
        have hnext := fun x => seek_next hD.ok k _ x hx
        have hpast := seek_past hD.ok k _ hx
        have hltn := fun (x : Ent) (hx2 : m[k + 1]? = some x) => okL_lt m [] hD.ok k (k + 1) _ x (by omega) hx hx2
        generalize m[k]'(by omega) = e at c2 tk tv hsm hself2 hnext hpast hltn
        clear hx
        rw [tk.len_eq, tv.len_eq] at hsm
        have c0r := cell_later Br c0
        have hsk := seek_yes bo lb cb bs ko kl kc e.k wr (t5.later hbr) (tk.later Br) (by omega) (by omega) m hback.out e hself2
        clear hself2
        go_wp2_with fail
        with_reducible refine hsk.mono ?_
        rintro e' V1 ⟨xo, xl, xc, yo, yl, yc, rfl, tx, ty, bV1⟩
        clear hsk
        have BV1 : Below W2.heap.size W2 V1 := Br.trans (bV1.mono Br.size)
        have bx := Box.new V1 (.slice xo xl xc) (.slice yo yl yc) e.g
        have bA : Below V1.heap.size V1 (V1.alloc (.cells #[.slice xo xl xc, .slice yo yl yc, .bool e.g] 25)) := (Below.refl _ _).alloc (Nat.le_refl _) _
        go_wp2_with fail
        generalize V1.alloc (.cells #[.slice xo xl xc, .slice yo yl yc, .bool e.g] 25) = V2 at bx bA ⊢
        have BV2 := BV1.trans (bA.mono BV1.size)
        have q0 := fun d os => cell_regrown bx.c0 d os
        have q1 := fun d os => cell_regrown bx.c1 d os
        have r0 := fun d os => cell_regrown (cell_later BV2 c0) d os
        have r1 := fun d os => cell_regrown (cell_later BV2 c1) d os
        have s0 := fun d os => ((tx.later bA).later (below_regrown V2 d os)).string
        have s1 := fun d os => ((ty.later bA).later (below_regrown V2 d os)).string
        have s2 := fun d os => ((tk.later BV2).later (below_regrown V2 d os)).string
        have s3 := fun d os => ((tv.later BV2).later (below_regrown V2 d os)).string
        generalize strOfNums e.k = SK at s0 s2
        generalize strOfNums e.v = SV at s1 s3
        refine wp_region_quiet_below (by kernel_rfl) (by kernel_rfl) ?_
        repeat (go_big_quiet_step (fail))
        (with_reducible refine wpQuiet_nil ?_)
        intro _ hw'
        obtain ⟨⟨dq, osq⟩, hw''⟩ := hw'
        subst hw''
        have bq := below_regrown V2 dq osq
        clear q0 q1 r0 r1 s0 s1 s2 s3
        have BV3 := BV2.trans (bq.mono BV2.size)
        have bR3 : Below wr.heap.size wr (grow (redrawn V2 dq) osq) := (bV1.trans (bA.mono bV1.size)).trans (bq.mono (bV1.trans (bA.mono bV1.size)).size)
        generalize grow (redrawn V2 dq) osq = V3 at BV3 bR3 ⊢
        have d0 := cell_later BV3 c0
        have d0e : (V3.alloc (.cells #[] 5)).cell? ⟨b, off + k * 3, none⟩ = some (.slice ko kl kc) := cell_later ((Below.refl _ _).alloc (Nat.le_refl _) _) d0
        have g0 := own_empty2 V3
        have tk3 := (tk.later BV3).alloc (.cells #[] 5)
        have bE : Below V3.heap.size V3 (V3.alloc (.cells #[] 5)) := (Below.refl _ _).alloc (Nat.le_refl _) _
        by_cases hk3 : k + 1 < ml
        · have hy : m[k + 1]? = some (m[k + 1]'(by omega)) := by simp
          obtain ⟨jo, jl, jc, uo, ul, uc, _, _, _, tj, _⟩ := hc (k + 1) _ hy
          have hsn := hnext _ hy (fun z hz => (tj.rng z hz).1)
          have hlt := hltn _ hy
          have hless := str_less _ _ tk.rng tj.rng
          have hjr := tj.rng
          clear hnext hpast hltn hy
          generalize m[k + 1]'(by omega) = x at tj hsn hlt hless hjr
          rw [hlt] at hless
          have hback2 : lessB x.k e.k = false := by cases hh : lessB x.k e.k with | false => rfl | true => (have := lessB_trans _ _ _ hlt hh; rw [lessB_irr] at this; cases this)
          have hless2 := str_less _ _ hjr tk.rng
          rw [hback2] at hless2
          have hxe : ¬ x.k = e.k := fun hh => by rw [hh, lessB_irr] at hlt; cases hlt
          have hsne := str_ne hjr tk.rng hxe
          clear hback2 hxe hlt
          have hk3i : (k : Int) + 1 < ml := by omega
          have hk3d : decide ((k : Int) + 1 < ml) = true := decide_eq_true hk3i
          go_wp2_with (first
            | (with_reducible show wpList _ _ _ (⟨some 90, _, _, _, _, _⟩ :: _) _ _; refine wpList_gr rfl _ _ rfl V3.heap.size (some ⟨V3.heap.size, 0, none⟩) 0 0 [] rfl g0 ko kl kc e.k rfl tk3 (by omega) ?_; intro a1 n1 c1' V4 hn1 g1 m1; have q1 : n1 ≤ 12 := (by have := hn1.out; omega); have t41 := tx_one V4 0 (by omega); have g1a := g1.alloc (.cells #[.int .u8 0] 5); clear hn1)
            | (with_reducible show wpList _ _ _ (⟨some 92, _, _, _, _, _⟩ :: _) _ _; refine wpList_gr rfl _ _ rfl V3.heap.size a1 n1 c1' _ rfl g1a (some ⟨V4.heap.size, 0, none⟩) 1 1 [0] rfl t41 (by omega) ?_; intro a2 n2 c2' V5 hn2 g2 m2; have q2 : n2 ≤ 13 := (by have := hn2.out; omega); clear hn2; have bG : Below V3.heap.size V3 V5 := ((bE.trans (m1.below g0)).trans (((Below.refl V4.heap.size V4).alloc (Nat.le_refl _) _).mono g1.hB)).trans (m2.below g1a); have hs2 := seek_yes bo lb cb bs a2 n2 c2' (e.k ++ [0]) V5 (((t5.later hbr).later bR3).later bG) (by simpa using g2.tx) (by omega) (by omega) m hback.out x hsn)
            | (go_at_call 17; with_reducible refine hs2.mono ?_; rintro e' V6 ⟨zo, zl, zc, yo', yl', yc', rfl, tz, _, bV6⟩; have by6 := Box.new V6 (.slice zo zl zc) (.slice yo' yl' yc') x.g; have bA6 : Below V6.heap.size V6 (V6.alloc (.cells #[.slice zo zl zc, .slice yo' yl' yc', .bool x.g] 25)) := (Below.refl _ _).alloc (Nat.le_refl _) _))
          have BV6 : Below W2.heap.size W2 V6 := (BV3.trans (bG.mono BV3.size)).trans (bV6.mono (BV3.trans (bG.mono BV3.size)).size)
          have bR6 : Below wr.heap.size wr V6 := (bR3.trans (bG.mono bR3.size)).trans (bV6.mono (bR3.trans (bG.mono bR3.size)).size)
          generalize V6.alloc (.cells #[.slice zo zl zc, .slice yo' yl' yc', .bool x.g] 25) = V7 at by6 bA6 ⊢
          have BV7 := BV6.trans (bA6.mono BV6.size)
          have bR7 := bR6.trans (bA6.mono bR6.size)
          have q0 := fun d os => cell_regrown by6.c0 d os
          have r0 := fun d os => cell_regrown (cell_later BV7 c0) d os
          have s0 := fun d os => ((tz.later bA6).later (below_regrown V7 d os)).string
          have s2 := fun d os => ((tk.later BV7).later (below_regrown V7 d os)).string
          generalize strOfNums x.k = SX at s0 hless hless2 hsne
          generalize strOfNums e.k = SK at s2 hless hless2 hsne
          have hsne2 : (SX.toList == SK.toList) = false := by simp [hsne]
          have hsne3 : ¬ SK.toList = SX.toList := fun h => hsne h.symm
          have hsne4 : (SK.toList == SX.toList) = false := by simp [hsne3]
          refine wp_region_quiet_below (by kernel_rfl) (by kernel_rfl) ?_
          repeat (go_big_quiet_step (fail))
          (with_reducible refine wpQuiet_nil ?_)
          intro _ hw'
          obtain ⟨⟨dq, osq⟩, hw''⟩ := hw'
          subst hw''
          have hbq := hbr.trans ((bR7.trans ((below_regrown V7 dq osq).mono bR7.size)).mono hbr.size)
          go_wp2
          go_roundw
          case rel => exact ⟨k + 1, by omega, by go_num, hbq⟩
          case measure => simp [intOf]; omega
        · have hkl : k + 1 = ml := by omega
          have hsn := hpast (by omega)
          clear hnext hpast hltn
          have hk3i : ¬ (k : Int) + 1 < ml := by omega
          have hk3d : decide ((k : Int) + 1 < ml) = false := decide_eq_false hk3i
          have hkl : Hid (k + 1 = ml) := hkl
          go_wp2_with (first
            | (with_reducible show wpList _ _ _ (⟨some 90, _, _, _, _, _⟩ :: _) _ _; refine wpList_gr rfl _ _ rfl V3.heap.size (some ⟨V3.heap.size, 0, none⟩) 0 0 [] rfl g0 ko kl kc e.k rfl tk3 (by omega) ?_; intro a1 n1 c1' V4 hn1 g1 m1; have q1 : n1 ≤ 12 := (by have := hn1.out; omega); have t41 := tx_one V4 0 (by omega); have g1a := g1.alloc (.cells #[.int .u8 0] 5); clear hn1)
            | (with_reducible show wpList _ _ _ (⟨some 92, _, _, _, _, _⟩ :: _) _ _; refine wpList_gr rfl _ _ rfl V3.heap.size a1 n1 c1' _ rfl g1a (some ⟨V4.heap.size, 0, none⟩) 1 1 [0] rfl t41 (by omega) ?_; intro a2 n2 c2' V5 hn2 g2 m2; have q2 : n2 ≤ 13 := (by have := hn2.out; omega); clear hn2; have bG : Below V3.heap.size V3 V5 := ((bE.trans (m1.below g0)).trans (((Below.refl V4.heap.size V4).alloc (Nat.le_refl _) _).mono g1.hB)).trans (m2.below g1a); have hs2 := seek_no bo lb cb bs a2 n2 c2' (e.k ++ [0]) V5 (((t5.later hbr).later bR3).later bG) (by simpa using g2.tx) (by omega) (by omega) m hback.out hsn)
            | (go_at_call 17; with_reducible refine hs2.mono ?_; rintro e' V6 ⟨rfl, bV6⟩; have bA6 : Below V6.heap.size V6 (V6.alloc (.cells #[.slice none 0 0, .slice none 0 0, .bool false] 25)) := (Below.refl _ _).alloc (Nat.le_refl _) _))
          have bR6 : Below wr.heap.size wr V6 := (bR3.trans (bG.mono bR3.size)).trans (bV6.mono (bR3.trans (bG.mono bR3.size)).size)
          generalize V6.alloc (.cells #[.slice none 0 0, .slice none 0 0, .bool false] 25) = V7 at bA6 ⊢
          have bR7 := bR6.trans (bA6.mono bR6.size)
          refine wp_region_quiet_below (by kernel_rfl) (by kernel_rfl) ?_
          repeat (go_big_quiet_step (fail))
          (with_reducible refine wpQuiet_nil ?_)
          intro _ hw'
          obtain ⟨⟨dq, osq⟩, hw''⟩ := hw'
          subst hw''
          have hbq := hbr.trans ((bR7.trans ((below_regrown V7 dq osq).mono bR7.size)).mono hbr.size)
          go_wp2
          go_roundw
          case rel => exact ⟨k + 1, by have := hkl.out; omega, by go_num, hbq⟩
          case measure => simp [intOf]; omega
      · have BW : Below w.heap.size w wr := B2.trans (Br.mono B2.size)
        go_wp2_with (go_at_call 10; with_reducible refine (known_any wr).mono ?_; rintro e W6 ⟨rfl, b6⟩)
        go_ret
        exact ⟨rfl, BW.trans (b6.mono BW.size)⟩

end Go.Proofs.Ytdlkakkoaelemaa
