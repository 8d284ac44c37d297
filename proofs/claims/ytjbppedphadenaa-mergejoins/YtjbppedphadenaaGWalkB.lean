/- container/heap over the heads: up, down, Push, Pop, Fix. -/
import Derived.Test.YtjbppedphadenaaGWalkA
namespace Go.Proofs.Ytjbppedphadenaa
set_option maxRecDepth 100000
open Go.RowKit Go.Sort

set_option maxHeartbeats 4000000 in
theorem up_any {w0 w : World} {S : List Nat} {hb : Nat} {v : Value} {hs : List Nd} (h : Hs w0 w S hb v hs) (j : Nat) (hj : j < hs.length) (hu : UpI hs hs.length j) (sm : hs.length ≤ 1000000) :
    Calls Try.prog 33 #[.iface 51 (.pointer (some ⟨hb, 0, none⟩)), .int .i64 j] w fun e w' => e = .returned (.tuple #[]) ∧ ∃ hs', Hs w0 w' S hb v hs' ∧ HeapOn hs' hs'.length ∧ hs'.Perm hs ∧ Off S w w' := by
  have nl := nil_less ⟨hb, 0, none⟩
  have ns := nil_swap ⟨hb, 0, none⟩
  go_enter Try.func33, Try.ntmps33
  go_wp2
  go_loopw [1, 4] (fun s1 _ wr => ∃ (q : Nat) (hs' : List Nd), s1 = .int .i64 q ∧ q < hs.length ∧ Hs w0 wr S hb v hs' ∧ UpI hs' hs.length q ∧ hs'.Perm hs ∧ Off S w wr) (fun s1 _ _ => (intOf s1).toNat)
  case atStart => exact ⟨j, hs, rfl, hj, h, hu, List.Perm.refl _, Off.refl _ _⟩
  case round =>
    obtain ⟨q, hs', rfl, hq, H, U, P, O⟩ := hrel
    have hlen := P.length_eq
    have ml := method_less hb v wr H.cell0.1
    by_cases h0 : q = 0
    · subst h0
      have hup : HeapOn hs' hs.length := U.stop (fun p x z hp _ => by unfold Child at hp; omega)
      go_wp2
      go_end0
      exact ⟨rfl, hs', H, by rw [hlen]; exact hup, P, O⟩
    · obtain ⟨p, hp⟩ : ∃ p, p = (q - 1) / 2 := ⟨_, rfl⟩
      have hc : Child p q := by unfold Child; omega
      have hpq : p < q := child_lt hc
      have hx : hs'[p]? = some (hs'[p]'(by omega)) := by simp
      have hy : hs'[q]? = some (hs'[q]'(by omega)) := by simp
      generalize hs'[p]'(by omega) = x at hx
      generalize hs'[q]'(by omega) = y at hy
      have hpI : Hid (((q : Int) - 1) / 2 = (p : Int)) := by show _ = _; omega
      have hpJ : Hid (((q - 1 : Nat) : Int) / 2 = (p : Int)) := by show _ = _; omega
      have hne : ((p : Int) == (q : Int)) = false := by simp; omega
      have hless := hless_any H q p y x hy hx (by omega)
      go_wp2_with fail
      simp only [hpI.out, hne]
      clear hne
      with_reducible refine hless.mono ?_
      clear hless
      rintro e V ⟨rfl, bV⟩
      have HV := H.later bV
      have OV := O.trans (Off.of_below bV)
      cases hF : ndLess y x with
      | false =>
        have hup : HeapOn hs' hs.length := U.stop (fun p' x' z hp' _ hx' hz => by
          have := child_one hp' hc
          subst this
          rw [hx] at hx'; cases hx'
          rw [hy] at hz; cases hz
          exact le_of_not hF)
        go_wp2
        go_end0
        exact ⟨rfl, hs', HV, by rw [hlen]; exact hup, P, OV⟩
      | true =>
        have hU := U.step hc hq hx hy (le_of_less hF)
        have ms := method_swap hb v V HV.cell0.1
        have hsw := hswap_any HV p q x y hx hy (by omega)
        have hP := (swapL_perm hx hy).trans P
        clear hF hx hy hc
        go_wp2_with fail
        simp only [hpJ.out]
        with_reducible refine hsw.mono ?_
        clear hsw
        rintro e V2 ⟨rfl, H2, O2⟩
        go_wp2
        go_roundw
        case rel => exact ⟨p, _, by rw [hpJ.out], by omega, H2, hU, hP, OV.trans O2⟩
        case measure => simp [intOf]; omega
/-- down: from the top, over the first n. -/
theorem child_two {q c : Nat} (h : Child q c) : c = 2 * q + 1 ∨ c = 2 * q + 1 + 1 := by unfold Child at h; omega
theorem keep_refl (hs : List Nd) (n : Nat) : Hid (∀ k, n ≤ k → hs[k]? = hs[k]?) := fun _ _ => rfl
set_option maxHeartbeats 8000000 in
theorem down_any {w0 w : World} {S : List Nat} {hb : Nat} {v : Value} {hs : List Nd} (h : Hs w0 w S hb v hs) (n : Nat) (hn : n ≤ hs.length) (hd : DownI hs n 0) (sm : hs.length ≤ 1000000) :
    Calls Try.prog 34 #[.iface 51 (.pointer (some ⟨hb, 0, none⟩)), .int .i64 0, .int .i64 n] w fun e w' => ∃ b, e = .returned (.bool b) ∧ ∃ hs', Hs w0 w' S hb v hs' ∧ HeapOn hs' n ∧ hs'.Perm hs ∧ Off S w w' ∧ Hid (∀ k, n ≤ k → hs'[k]? = hs[k]?) := by
  have nl := nil_less ⟨hb, 0, none⟩
  have ns := nil_swap ⟨hb, 0, none⟩
  go_enter Try.func34, Try.ntmps34
  go_wp2
  go_loopw [7, 8, 9, 10] (fun s7 _ _ _ wr => ∃ (q : Nat) (hs' : List Nd), s7 = .int .i64 q ∧ q ≤ n ∧ Hs w0 wr S hb v hs' ∧ DownI hs' n q ∧ hs'.Perm hs ∧ Off S w wr ∧ Hid (∀ k, n ≤ k → hs'[k]? = hs[k]?)) (fun s7 _ _ _ _ => n - (intOf s7).toNat)
  case atStart => exact ⟨0, hs, rfl, by omega, h, hd, List.Perm.refl _, Off.refl _ _, keep_refl hs n⟩
  case round =>
    obtain ⟨q, hs', rfl, hq, H, D, P, O, T⟩ := hrel
    have hlen := P.length_eq
    by_cases hj1 : 2 * q + 1 < n
    · have hx : hs'[q]? = some (hs'[q]'(by omega)) := by simp
      have hy1 : hs'[2 * q + 1]? = some (hs'[2 * q + 1]'(by omega)) := by simp
      generalize hs'[q]'(by omega) = x at hx
      generalize hs'[2 * q + 1]'(by omega) = y1 at hy1
      have g1 : ¬ ((n : Int) ≤ 2 * (q : Int) + 1) := by omega
      have g2 : ¬ (2 * (q : Int) + 1 < 0) := by omega
      have hm1 : Hid (2 * (q : Int) + 1 = ((2 * q + 1 : Nat) : Int)) := by show _ = _; omega
      have hm2 : Hid (((2 * q + 1 : Nat) : Int) + 1 = ((2 * q + 1 + 1 : Nat) : Int)) := by show _ = _; omega
      by_cases hj2 : 2 * q + 1 + 1 < n
      · have hy2 : hs'[2 * q + 1 + 1]? = some (hs'[2 * q + 1 + 1]'(by omega)) := by simp
        generalize hs'[2 * q + 1 + 1]'(by omega) = y2 at hy2
        have g3 : (2 * (q : Int) + 1 + 1 < (n : Int)) := by omega
        have hl1 := hless_any H (2 * q + 1 + 1) (2 * q + 1) y2 y1 hy2 hy1 (by omega)
        have ml1 := method_less hb v wr H.cell0.1
        go_wp2_with fail
        try simp only [hm1.out, hm2.out]
        with_reducible refine hl1.mono ?_
        clear hl1
        rintro e V7 ⟨rfl, b7⟩
        have H7 := H.later b7
        have O7 := O.trans (Off.of_below b7)
        cases hF7 : ndLess y2 y1 with
        | false =>
          have hmin : ∀ c z, Child q c → c < n → hs'[c]? = some z → NdLe y1 z := fun c z hc hcn hz => by
            rcases child_two hc with rfl | rfl
            · rw [hy1] at hz; cases hz; exact NdLe.refl _
            · rw [hy2] at hz; cases hz; exact le_of_not hF7
          have hl2 := hless_any H7 (2 * q + 1) q y1 x hy1 hx (by omega)
          have ml2 := method_less hb v V7 H7.cell0.1
          go_wp2_with fail
          try simp only [hm1.out, hm2.out]
          with_reducible refine hl2.mono ?_
          clear hl2
          rintro e V9 ⟨rfl, b9⟩
          have H9 := H7.later b9
          have O9 := O7.trans (Off.of_below b9)
          cases hF9 : ndLess y1 x with
          | false =>
            have hD : HeapOn hs' n := D.stop (fun c x' z hc' hcn hx' hz => by
              rw [hx] at hx'; cases hx'
              exact (le_of_not hF9).trans (hmin c z hc' hcn hz))
            go_wp2
            go_ret
            exact ⟨_, rfl, hs', H9, hD, P, O9, T⟩
          | true =>
            have hD := D.step (m := 2 * q + 1) (by unfold Child; omega) (by omega) hx hy1 (le_of_less hF9) hmin
            have ms := method_swap hb v V9 H9.cell0.1
            have hsw := hswap_any H9 q (2 * q + 1) x y1 hx hy1 (by omega)
            have hP := (swapL_perm hx hy1).trans P
            have hT : Hid (∀ k, n ≤ k → (swapL hs' q (2 * q + 1) x y1)[k]? = hs[k]?) := fun k hk => by rw [swapL_get hx hy1, if_neg (by omega), if_neg (by omega)]; exact T.out k hk
            clear hF9
            go_wp2_with fail
            try simp only [hm1.out, hm2.out]
            with_reducible refine hsw.mono ?_
            clear hsw
            rintro e V8 ⟨rfl, H8, O8⟩
            go_wp2
            go_roundw
            case rel => exact ⟨2 * q + 1, _, by go_num, by omega, H8, hD, hP, O9.trans O8, hT⟩
            case measure => simp [intOf]; omega
        | true =>
          have hmin : ∀ c z, Child q c → c < n → hs'[c]? = some z → NdLe y2 z := fun c z hc hcn hz => by
            rcases child_two hc with rfl | rfl
            · rw [hy1] at hz; cases hz; exact le_of_less hF7
            · rw [hy2] at hz; cases hz; exact NdLe.refl _
          have hl2 := hless_any H7 (2 * q + 1 + 1) q y2 x hy2 hx (by omega)
          have ml2 := method_less hb v V7 H7.cell0.1
          go_wp2_with fail
          try simp only [hm1.out, hm2.out]
          with_reducible refine hl2.mono ?_
          clear hl2
          rintro e V9 ⟨rfl, b9⟩
          have H9 := H7.later b9
          have O9 := O7.trans (Off.of_below b9)
          cases hF9 : ndLess y2 x with
          | false =>
            have hD : HeapOn hs' n := D.stop (fun c x' z hc' hcn hx' hz => by
              rw [hx] at hx'; cases hx'
              exact (le_of_not hF9).trans (hmin c z hc' hcn hz))
            go_wp2
            go_ret
            exact ⟨_, rfl, hs', H9, hD, P, O9, T⟩
          | true =>
            have hD := D.step (m := 2 * q + 1 + 1) (by unfold Child; omega) (by omega) hx hy2 (le_of_less hF9) hmin
            have ms := method_swap hb v V9 H9.cell0.1
            have hsw := hswap_any H9 q (2 * q + 1 + 1) x y2 hx hy2 (by omega)
            have hP := (swapL_perm hx hy2).trans P
            have hT : Hid (∀ k, n ≤ k → (swapL hs' q (2 * q + 1 + 1) x y2)[k]? = hs[k]?) := fun k hk => by rw [swapL_get hx hy2, if_neg (by omega), if_neg (by omega)]; exact T.out k hk
            clear hF9
            go_wp2_with fail
            try simp only [hm1.out, hm2.out]
            with_reducible refine hsw.mono ?_
            clear hsw
            rintro e V8 ⟨rfl, H8, O8⟩
            go_wp2
            go_roundw
            case rel => exact ⟨2 * q + 1 + 1, _, by go_num, by omega, H8, hD, hP, O9.trans O8, hT⟩
            case measure => simp [intOf]; omega
      · have g3 : ¬ (2 * (q : Int) + 1 + 1 < (n : Int)) := by omega
        have hmin : ∀ c z, Child q c → c < n → hs'[c]? = some z → NdLe y1 z := fun c z hc hcn hz => by
          rcases child_two hc with rfl | rfl
          · rw [hy1] at hz; cases hz; exact NdLe.refl _
          · omega
        have hl2 := hless_any H (2 * q + 1) q y1 x hy1 hx (by omega)
        have ml2 := method_less hb v wr H.cell0.1
        go_wp2_with fail
        try simp only [hm1.out, hm2.out]
        with_reducible refine hl2.mono ?_
        clear hl2
        rintro e V9 ⟨rfl, b9⟩
        have H9 := H.later b9
        have O9 := O.trans (Off.of_below b9)
        cases hF9 : ndLess y1 x with
        | false =>
          have hD : HeapOn hs' n := D.stop (fun c x' z hc' hcn hx' hz => by
            rw [hx] at hx'; cases hx'
            exact (le_of_not hF9).trans (hmin c z hc' hcn hz))
          go_wp2
          go_ret
          exact ⟨_, rfl, hs', H9, hD, P, O9, T⟩
        | true =>
          have hD := D.step (m := 2 * q + 1) (by unfold Child; omega) (by omega) hx hy1 (le_of_less hF9) hmin
          have ms := method_swap hb v V9 H9.cell0.1
          have hsw := hswap_any H9 q (2 * q + 1) x y1 hx hy1 (by omega)
          have hP := (swapL_perm hx hy1).trans P
          have hT : Hid (∀ k, n ≤ k → (swapL hs' q (2 * q + 1) x y1)[k]? = hs[k]?) := fun k hk => by rw [swapL_get hx hy1, if_neg (by omega), if_neg (by omega)]; exact T.out k hk
          clear hF9
          go_wp2_with fail
          try simp only [hm1.out, hm2.out]
          with_reducible refine hsw.mono ?_
          clear hsw
          rintro e V8 ⟨rfl, H8, O8⟩
          go_wp2
          go_roundw
          case rel => exact ⟨2 * q + 1, _, by go_num, by omega, H8, hD, hP, O9.trans O8, hT⟩
          case measure => simp [intOf]; omega
    · have g1 : ((n : Int) ≤ 2 * (q : Int) + 1) := by omega
      have hD : HeapOn hs' n := D.stop (fun c x z hc hcn => by have := child_two hc; omega)
      go_wp2
      go_ret
      exact ⟨_, rfl, hs', H, hD, P, O, T⟩
end Go.Proofs.Ytjbppedphadenaa
