/- The walks of the document's May and Fits. -/
import Derived.Test.YteeemfohehpaeaaBWalksB
import Derived.Test.YteeemfohehpaeaaPB
import Derived.Test.YteeemfohehpaeaaFWalksI
namespace Go.Proofs.Yteeemfohehpaeaa
open Go.RowKit Go.Sort

theorem str_less (xs ys : List Int) (hx : ∀ n ∈ xs, 0 ≤ n ∧ n ≤ 255) (hy : ∀ n ∈ ys, 0 ≤ n ∧ n ≤ 255) : Op.bytesLess (strOfNums xs).toList (strOfNums ys).toList = lessB xs ys := by
  rw [← bytesLess_nums xs ys hx hy]; simp [ByteArray.toList_eq, strOfNums]
theorem lastK_take (l : List Ent) (q : Nat) (e : Ent) (h : l[q]? = some e) : lastK [] (l.take (q + 1)) = e.k := by rw [take_snoc l q e h, lastK_snoc]
theorem fits_parts (e : Ent) {ko vo : Option Addr} {kl kc vl vc : Nat} {w : World} (tk : Tx w ko kl kc e.k) (tv : Tx w vo vl vc e.v) : fitsE e = decide (1 ≤ kl ∧ kl ≤ 255 ∧ (e.g = true ∨ vl ≤ 4095)) := by rw [fitsE, tk.len_eq, tv.len_eq]

set_option maxHeartbeats 8000000 in
set_option maxRecDepth 100000 in
theorem rmay_any (ao : Option Addr) (len cap : Nat) (l : List Ent) (w : World) (h : Lx 3 RE w ao len cap l) :
    Calls Try.prog 21 #[.slice ao len cap, .int .i64 255] w fun e w' => e = .returned (.bool (mayB 255 l)) ∧ Below w.heap.size w w' := by
  have hl := h.len_eq
  have hle := h.le
  have htop := h.top
  unfold maxLen at htop
  by_cases h0 : len < 1
  · have hm : Hid (mayB 255 l = false) := by show _ = _; simp [mayB]; omega
    go_enter Try.func21, Try.ntmps21
    go_wp2
    go_ret
    exact ⟨ret_bool hm.out.symm, Below.refl _ _⟩
  · by_cases h9 : 255 < len
    · have hm : Hid (mayB 255 l = false) := by show _ = _; simp [mayB]; omega
      go_enter Try.func21, Try.ntmps21
      go_wp2
      go_ret
      exact ⟨ret_bool hm.out.symm, Below.refl _ _⟩
    · obtain ⟨b, off, rfl, hc⟩ := h.headE (by omega)
      go_enter Try.func21, Try.ntmps21
      go_wp2
      go_loopw [5] (fun i wr => ∃ k : Nat, k ≤ len ∧ i = .int .i64 k ∧ Hid (okL [] (l.take k) = true) ∧ Below w.heap.size w wr) (fun i _ => len - (intOf i).toNat)
      case atStart => exact ⟨0, by omega, rfl, rfl, Below.refl _ _⟩
      case round =>
        obtain ⟨k, hk, rfl, hok, hb⟩ := hrel
        by_cases hk2 : k < len
        · have hx : l[k]? = some (l[k]'(by omega)) := by simp
          obtain ⟨ko, kl, kc, vo, vl, vc, c0, c1, c2, tk, tv⟩ := hc k _ hx
          have hst := okL_snoc (l.take k) [] (l[k]'(by omega))
          rw [← take_snoc l k _ hx, hok.out, Bool.true_and] at hst
          have hst : Hid (okL [] (l.take (k + 1)) = (fitsE (l[k]'(by omega)) && lessB (lastK [] (l.take k)) (l[k]'(by omega)).k)) := hst
          generalize l[k]'(by omega) = e at hx c2 tk tv hst
          have hX : Hid (l[k]? = some e) := hx
          clear hx
          have hfe : Hid (fitsE e = decide (1 ≤ kl ∧ kl ≤ 255 ∧ (e.g = true ∨ vl ≤ 4095))) := fits_parts e tk tv
          have c0 := fun d os => cell_regrown (cell_later hb c0) d os
          have c1 := fun d os => cell_regrown (cell_later hb c1) d os
          have c2 := fun d os => cell_regrown (cell_later hb c2) d os
          have s1 := fun d os => ((tk.later hb).later (below_regrown wr d os)).string
          have hkt := tk.le
          have hkt2 := tk.top
          have hvt := tv.le
          have hvt2 := tv.top
          unfold maxLen at hkt2 hvt2
          have hlk := tk.len_eq
          have rk := tk.rng
          have hno : okL [] (l.take (k + 1)) = false → Hid (mayB 255 l = false) := fun hh => ok_take l (k + 1) hh 255
          have hyes : okL [] (l.take (k + 1)) = true → Hid (okL [] (l.take (k + 1)) = true) := fun hh => hh
          obtain ⟨G, hG⟩ : ∃ G, Hid (e.g = G) := ⟨_, rfl⟩
          rw [hG.out] at c2
          have hfe : Hid (fitsE e = decide (1 ≤ kl ∧ kl ≤ 255 ∧ (G = true ∨ vl ≤ 4095))) := by show _ = _; rw [hfe.out, hG.out]
          clear hG
          by_cases a1 : kl < 1
          · have g1 : (kl : Int) < 1 := by omega
            have g1' : decide ((kl : Int) < 1) = true := decide_eq_true g1
            have hr := hno (by rw [hst.out, hfe.out]; simp; omega)
            clear s1
            go_wp2_with fail
            refine wp_region_quiet_below (by kernel_rfl) (by kernel_rfl) ?_
            repeat (go_big_quiet_step (fail))
            (with_reducible refine wpQuiet_nil ?_)
            intro _ hw'
            obtain ⟨⟨dq, osq⟩, hw''⟩ := hw'
            subst hw''
            have hbq := hb.trans ((below_regrown wr dq osq).mono hb.size)
            go_wp2
            go_ret
            exact ⟨ret_bool hr.out.symm, hbq⟩
          · have g1 : ¬ (kl : Int) < 1 := by omega
            have g1' : decide ((kl : Int) < 1) = false := decide_eq_false g1
            by_cases a2 : 255 < kl
            · have g2 : (255 : Int) < kl := by omega
              have g2' : decide ((255 : Int) < kl) = true := decide_eq_true g2
              have hr := hno (by rw [hst.out, hfe.out]; simp; omega)
              clear s1
              go_wp2_with fail
              refine wp_region_quiet_below (by kernel_rfl) (by kernel_rfl) ?_
              repeat (go_big_quiet_step (fail))
              (with_reducible refine wpQuiet_nil ?_)
              intro _ hw'
              obtain ⟨⟨dq, osq⟩, hw''⟩ := hw'
              subst hw''
              have hbq := hb.trans ((below_regrown wr dq osq).mono hb.size)
              go_wp2
              go_ret
              exact ⟨ret_bool hr.out.symm, hbq⟩
            · have g2 : ¬ (255 : Int) < kl := by omega
              have g2' : decide ((255 : Int) < kl) = false := decide_eq_false g2
              by_cases a3 : G = false ∧ 4095 < vl
              · obtain ⟨rfl, a3⟩ := a3
                have g3 : (4095 : Int) < vl := by omega
                have g3' : decide ((4095 : Int) < vl) = true := decide_eq_true g3
                have hr := hno (by rw [hst.out, hfe.out]; simp; omega)
                clear s1
                go_wp2_with fail
                refine wp_region_quiet_below (by kernel_rfl) (by kernel_rfl) ?_
                repeat (go_big_quiet_step (fail))
                (with_reducible refine wpQuiet_nil ?_)
                intro _ hw'
                obtain ⟨⟨dq, osq⟩, hw''⟩ := hw'
                subst hw''
                have hbq := hb.trans ((below_regrown wr dq osq).mono hb.size)
                go_wp2
                go_ret
                exact ⟨ret_bool hr.out.symm, hbq⟩
              · have hfy : Hid (fitsE e = true) := by show _ = _; rw [hfe.out]; cases G <;> simp at a3 ⊢ <;> omega
                rw [hfy.out, Bool.true_and] at hst
                have hGv : (G = true) ∨ (G = false ∧ ¬ (4095 : Int) < vl ∧ decide ((4095 : Int) < vl) = false) := by cases G <;> simp at a3 ⊢ <;> omega
                clear hfe a3
                cases k with
                | zero =>
                  have hr := hyes (by rw [hst.out]; simp only [List.take_zero, lastK]; cases hkk : e.k with | nil => (rw [hkk] at hlk; simp at hlk; omega) | cons a r => simp [lessB])
                  clear s1 hst hno hyes
                  simp only [Nat.zero_mul, Nat.add_zero] at c0 c1 c2
                  rcases hGv with rfl | ⟨rfl, hv, hv'⟩
                  all_goals
                    go_wp2_with fail
                    refine wp_region_quiet_below (by kernel_rfl) (by kernel_rfl) ?_
                    repeat (go_big_quiet_step (fail))
                    (with_reducible refine wpQuiet_nil ?_)
                    intro _ hw'
                    obtain ⟨⟨dq, osq⟩, hw''⟩ := hw'
                    subst hw''
                    have hbq := hb.trans ((below_regrown wr dq osq).mono hb.size)
                    go_wp2
                    go_roundw
                    case rel => exact ⟨0 + 1, by omega, by go_num, hr, hbq⟩
                    case measure => simp [intOf]; omega
                | succ q =>
                  have hy : l[q]? = some (l[q]'(by omega)) := by simp
                  obtain ⟨jo, jl, jc, uo, ul, uc, d0, d1, d2, tj, tu⟩ := hc q _ hy
                  have hlast := lastK_take l q _ hy
                  rw [hlast] at hst
                  have d0 := fun d os => cell_regrown (cell_later hb d0) d os
                  have s2 := fun d os => ((tj.later hb).later (below_regrown wr d os)).string
                  have hsl := str_less _ _ tj.rng rk
                  have ei : ((q + 1 : Nat) : Int) - 1 = q := by omega
                  have hpos : (0 : Int) < ((q + 1 : Nat) : Int) := by omega
                  clear tj tu d1 d2 hlast
                  generalize (l[q]'(by omega)).k = pk at hst s2 hsl
                  generalize hF : lessB pk e.k = F at hst hsl
                  generalize strOfNums pk = S2 at s2 hsl
                  generalize strOfNums e.k = S1 at s1 hsl
                  clear tk hF
                  cases F with
                  | true =>
                    have hr := hyes hst.out
                    clear hst hno hyes
                    rcases hGv with rfl | ⟨rfl, hv, hv'⟩
                    all_goals
                      go_wp2_with fail
                      refine wp_region_quiet_below (by kernel_rfl) (by kernel_rfl) ?_
                      repeat (go_big_quiet_step (fail))
                      (with_reducible refine wpQuiet_nil ?_)
                      intro _ hw'
                      obtain ⟨⟨dq, osq⟩, hw''⟩ := hw'
                      subst hw''
                      have hbq := hb.trans ((below_regrown wr dq osq).mono hb.size)
                      go_wp2
                      go_roundw
                      case rel => exact ⟨q + 1 + 1, by omega, by go_num, hr, hbq⟩
                      case measure => simp [intOf]; omega
                  | false =>
                    have hr := hno hst.out
                    clear hst hno hyes
                    rcases hGv with rfl | ⟨rfl, hv, hv'⟩
                    all_goals
                      go_wp2_with fail
                      refine wp_region_quiet_below (by kernel_rfl) (by kernel_rfl) ?_
                      repeat (go_big_quiet_step (fail))
                      (with_reducible refine wpQuiet_nil ?_)
                      intro _ hw'
                      obtain ⟨⟨dq, osq⟩, hw''⟩ := hw'
                      subst hw''
                      have hbq := hb.trans ((below_regrown wr dq osq).mono hb.size)
                      go_wp2
                      go_ret
                      exact ⟨ret_bool hr.out.symm, hbq⟩
        · have hm : Hid (mayB 255 l = true) := by
            show _ = _
            rw [mayB_iff]
            have := hok.out
            rw [List.take_of_length_le (by omega)] at this
            exact ⟨by omega, by omega, this⟩
          go_wp2
          go_ret
          exact ⟨ret_bool hm.out.symm, hb⟩

end Go.Proofs.Yteeemfohehpaeaa
