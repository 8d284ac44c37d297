/- The walk of DiskDowns. -/
import Derived.Test.YtadnbdkbjajgdaaDowns
import Derived.Test.YtadnbdkbjajgdaaNames
namespace Go.Proofs.Ytadnbdkbjajgdaa
open Go.RowKit Go.Sort

theorem drew_below {w w' : World} (h : Below w.drew.heap.size w.drew w') : Below w.heap.size w w' := ((Below.refl w.heap.size w).drew).trans h
theorem oneA_down (xs : List Int) (s : Nat) (l : Int) (b : Bool) : (oneA xs s l b).down = b := rfl

set_option maxHeartbeats 8000000 in
set_option maxRecDepth 100000 in
theorem downs_walk (ao : Option Addr) (la ca : Nat) (xs : List Int) (n : Int) (zo : Option Addr) (lz cz : Nat) (zs : List Ask) (n1 : -9223372036854775808 ≤ n) (n2 : n ≤ 9223372036854775807) (w : World) (hx : Tx w ao la ca xs) (hz : Ax w zo lz cz zs) :
    Calls Try.prog 6 #[.slice ao la ca, .int .i64 n, .slice zo lz cz] w fun e w' => e = .returned (.bool true) ∧ Below w.heap.size w w' := by
  have hlow := hx.low
  have hX : (xs.take 50).length ≤ 50 := by simp; omega
  have e1 := oneA_create
  have e2 := oneA_append [] (xs.take 50) 0 (by simp; omega)
  rw [List.nil_append] at e2
  have f0 : (⟨1000, [], 0, false⟩ : Dm).files.length ≤ 1000000 := by simp
  obtain ⟨q1, q2⟩ := wfun_rng n 1 5 (by omega)
  obtain ⟨R, hR⟩ : ∃ R : Nat, Hid (wfun n 1 5 = (R : Int)) := ⟨(wfun n 1 5).toNat, by show _ = _; omega⟩
  have hwc := fun V => within_eq n 1 5 n1 n2 (by omega) (by omega) (by omega) V
  rw [hR.out] at hwc q1 q2
  clear hR
  have hcut := fun V => kcut_any ao la ca 50 50 rfl xs w hx (by omega) V
  generalize xs.take 50 = X at hX e2 hcut
  have hzl := hz.len_eq
  have hzc := hz.le
  have hzt := hz.top
  unfold maxLen at hzt
  go_enter Try.func6, Try.ntmps6
  go_wp2_with (first
    | (go_at_call 9; with_reducible refine (new_l 1000 1000 rfl (by omega) w).mono ?_; rintro e w1 ⟨rfl, k1, b1⟩)
    | (go_at_call 17; with_reducible refine (create_l k1 anm _ 0 e1 f0 (by decide)).mono ?_; rintro e w2 ⟨rfl, k2, b2⟩; have B2 := b1.trans b2)
    | (go_at_call 16; with_reducible refine (hcut w2).mono ?_; rintro e v ⟨l3, rfl, hl3, t3, rfl⟩)
    | (go_at_call 18; with_reducible refine (append_l k2 anm ao l3 ca X w2 (Below.refl _ _) (t3.later B2) (fun ad hd h0 => .inl (t3.low ad hd h0)) (by omega) _ 0 e2 (oneA_files _ _ _ _)).mono ?_; rintro e w4 ⟨rfl, k4, b4⟩; have B4 := B2.trans b4)
    | (go_at_call 15; with_reducible refine (hwc w4).mono ?_; rintro e v ⟨rfl, rfl⟩)
    | (go_at_call 12; with_reducible refine (arm_l k4 R (by omega) (by omega)).mono ?_; rintro e w5 ⟨rfl, k5, b5⟩; have B5 := B4.trans b5))
  rw [oneA_arm] at k5
  clear hcut hwc k1 k2 k4 e1 e2
  go_loopw [10] (fun i wr => ∃ j s : Nat, j ≤ R ∧ i = .int .i64 j ∧ Dl w.heap.size wr w.heap.size (oneA X s ((R : Int) - (j : Int)) (decide (j = R))) ∧ Below w.heap.size w wr) (fun i _ => R - (intOf i).toNat)
  case atStart => exact ⟨0, 0, by omega, rfl, by rw [show decide (0 = R) = false by simp; omega]; simpa using k5, B5⟩
  case round =>
    obtain ⟨j, s, hj, rfl, Kr, hb⟩ := hrel
    by_cases hj2 : j < R
    · have hdn : decide (j = R) = false := by simp; omega
      rw [hdn] at Kr
      by_cases hj3 : j + 1 = R
      · have he : (R : Int) - (j : Int) = 1 := by omega
        rw [he] at Kr
        have hno : ¬ (j : Int) < (R : Int) - 1 := by omega
        go_wp2_with (go_at_call 19; with_reducible refine (sync_l Kr anm _ 13 (oneA_last X s) (oneA_files _ _ _ _)).mono ?_; rintro e w6 ⟨rfl, k6, b6⟩)
        go_roundw
        case rel => exact ⟨j + 1, s, by omega, by go_num, by rw [show decide (j + 1 = R) = true by simp; omega, show (R : Int) - ((j + 1 : Nat) : Int) = 0 by omega]; exact k6, hb.trans b6⟩
        case measure => simp [intOf]; omega
      · have hyes : (j : Int) < (R : Int) - 1 := by omega
        have hsy := oneA_sync X s ((R : Int) - (j : Int)) (by omega)
        go_wp2_with (go_at_call 19; with_reducible refine (sync_l Kr anm _ 0 hsy (oneA_files _ _ _ _)).mono ?_; rintro e w6 ⟨rfl, k6, b6⟩)
        go_roundw
        case rel => exact ⟨j + 1, X.length, by omega, by go_num, by rw [show decide (j + 1 = R) = false by simp; omega, show (R : Int) - ((j + 1 : Nat) : Int) = (R : Int) - (j : Int) - 1 by omega]; exact k6, hb.trans b6⟩
        case measure => simp [intOf]; omega
    · have hjr : j = R := by omega
      rw [show decide (j = R) = true by simp [hjr], show (R : Int) - (j : Int) = 0 by omega] at Kr
      have hst := oneA_still X s
      have hus := oneA_used X s 0 true
      have hln := oneA_len X s 0 true
      have hnm := oneA_names X s 0 true
      have hfl := oneA_files X s 0 true
      have hdd := oneA_down X s 0 true
      obtain ⟨Y, t, hY, hcr⟩ := oneA_crash X s 0 true
      have hap := oneA_append Y [] t (by simp; omega)
      generalize oneA X s 0 true = D at Kr hst hus hln hnm hfl hdd hcr
      go_wp2_with (first
        | (go_at_call 23; with_reducible refine (names_n Kr 1 [anm] hln hnm (by omega) (by omega)).mono ?_; rintro e w7 ⟨nb, nof, nc, rfl, sx7, nb1, nb2, b7⟩; have K7 := Kr.later b7)
        | (go_at_call 24; with_reducible refine (used_l K7 X.length hus hfl).mono ?_; rintro e w8 ⟨rfl, k8, b8⟩))
      have N8 : Dn w.heap.size [nb] w8 w.heap.size D := (Dn.more (X := []) (by obtain ⟨fv, vs, S, K, hS, hB⟩ := Kr; exact ⟨fv, vs, S, K, hS, hB, by simp⟩) b7 nb nb1 nb2).later b8
      have sx8 := sx7.later b8
      have B8 := (hb.trans (b7.mono hb.size)).trans (b8.mono (Nat.le_trans hb.size b7.size))
      clear Kr K7 k8 k5
      go_loopw [13, 14, 15] (fun i _ _ wr => ∃ k : Nat, k ≤ lz ∧ k ≤ 15 ∧ i = .int .i64 k ∧ Dn w.heap.size [nb] wr w.heap.size D ∧ Sx wr (some ⟨nb, nof, none⟩) 1 nc [anm] ∧ Below w.heap.size w wr) (fun i _ _ _ => lz - (intOf i).toNat)
      case atStart => exact ⟨0, by omega, by omega, rfl, N8, sx8, B8⟩
      case round =>
        obtain ⟨k, hkl, hk15, rfl, Nr, sr, br⟩ := hrel
        by_cases hk : k < lz ∧ k < 15
        · obtain ⟨zb, zof, rfl, hcz⟩ := hz.head (by omega)
          have hzk : zs[k]? = some (zs[k]'(by omega)) := by simp
          obtain ⟨hok, c0, c1, c2, c3, ⟨bo, bl, bc, c4, tb⟩, c5⟩ := hcz k _ hzk
          generalize zs[k]'(by omega) = A at hok c0 c1 c2 c3 c4 c5 tb
          clear hcz hzk
          obtain ⟨ak, af, ag, an, ab, as_⟩ := A
          simp only at c0 c1 c2 c3 c4 c5 tb
          have hblow := tb.low
          have hk1' : (k : Int) < (lz : Int) := by omega
          have hk2' : (k : Int) < 15 := by omega
          have c0r := cell_later br c0
          by_cases hge : ak < 7
          · have bV : Below wr.heap.size wr (wr.alloc (.cells #[.slice none 0 0, .int .i64 0, .int .i64 0, .bool false] 30)) := (Below.refl _ _).alloc (Nat.le_refl _) _
            have KV := Nr.more bV wr.heap.size (Nat.le_refl _) (by simp)
            have mV : (wr.alloc (.cells #[.slice none 0 0, .int .i64 0, .int .i64 0, .bool false] 30)).cell? ⟨wr.heap.size, 3, none⟩ = some (.bool false) := by rw [cell_of_row _ wr.heap.size 3 _ 30 (0, 0) (heap_alloc_new wr _)]; rfl
            have BV := br.trans (bV.mono br.size)
            have sV := sr.later bV
            go_wp2_with fail
            generalize wr.alloc (.cells #[.slice none 0 0, .int .i64 0, .int .i64 0, .bool false] 30) = V at bV KV mV BV sV ⊢
            have r1 := fun d os => cell_regrown (cell_later BV c1) d os
            have r5 := fun d os => cell_regrown (cell_later BV c5) d os
            have HF : ∀ d os, Calls Try.prog 25 #[.int .i64 af, .string as_] (grow (redrawn V d) os) fun e w' => e = .returned (.string (fname af as_)) ∧ Below (grow (redrawn V d) os).heap.size (grow (redrawn V d) os) w' := fun d os => file_any af as_ hok.f.1 hok.f.2 hok.s _
            refine wp_region_quiet_below (by kernel_rfl) (by kernel_rfl) ?_
            repeat (quiet_step ((go_at_call 25; exact Calls.regrown_of (HF _ _))))
            refine wpQuiet_nil ?_
            intro _ hw'
            obtain ⟨⟨dq, osq⟩, hw''⟩ := hw'
            subst hw''
            have b2 := below_regrown V dq osq
            generalize grow (redrawn V dq) osq = W2 at b2 ⊢
            have K2 := KV.later b2
            have mc := cell_later b2 mV
            have s2 := sV.later b2
            have B2 := BV.trans (b2.mono BV.size)
            have hfs := fname_size af as_ hok.s
            have hn1 : -9223372036854775808 ≤ an := hok.n.1
            have hn2 : an ≤ 9223372036854775807 := hok.n.2
            have c0 := cell_later B2 c0
            have c2 := cell_later B2 c2
            have c3 := cell_later B2 c3
            have c4 := cell_later B2 c4
            have c5 := cell_later B2 c5
            have tb2 := tb.later B2
            clear r1 r5 HF KV mV sV c0r N8 sx8 Nr sr
            by_cases hk1 : ak = 1
            · obtain rfl := hk1
              go_wp2_with (first
                | (go_at_call 17; with_reducible refine (create_n K2 hst hfl (fname af as_) hfs).mono ?_; rintro e w9 ⟨r, rfl, K9, kp, b9⟩; have m9 := kp.cell mc (by simp); have s9 := kp.sx s2 (by simp); have B9 := B2.trans b9)
                | (go_at_call 28; with_reducible refine (down_l K9.dl true hdd).mono ?_; rintro e v ⟨rfl, rfl⟩)
                | (go_at_call 24; with_reducible refine (used_l K9.dl X.length hus hfl).mono ?_; rintro e w10 ⟨rfl, k10, b10⟩)
                | (go_at_call 23; with_reducible refine (names_n k10 1 [anm] hln hnm (by omega) (by omega)).mono ?_; rintro e w11 ⟨ob, oof, oc, rfl, sx11, ob1, ob2, b11⟩; have s11 := (s9.later b10).later b11)
                | (go_at_call 29; with_reducible refine (same_yes _ _ 1 oc nc [anm] w11 sx11 s11 (by omega)).mono ?_; rintro e w12 ⟨rfl, b12⟩))
              go_roundw
              case rel => exact ⟨k + 1, by omega, by omega, by go_num, ((K9.less.later b10).later b11).later b12, s11.later b12, ((B9.trans (b10.mono B9.size)).trans (b11.mono (Nat.le_trans B9.size b10.size))).trans (b12.mono (Nat.le_trans B9.size (Nat.le_trans b10.size b11.size)))⟩
              case measure => simp [intOf]; omega
            · by_cases hk2 : ak = 2
              · obtain rfl := hk2
                go_wp2_with (first
                  | (go_at_call 16; with_reducible refine (kcut_any bo bl bc 20 20 rfl ab W2 tb2 (by omega) W2).mono ?_; rintro e v ⟨l9, rfl, hl9, t9, rfl⟩; have hl9b : l9 ≤ bl := (by have q1 := t9.len_eq; have q2 := tb2.len_eq; rw [List.length_take] at q1; omega))
                  | (go_at_call 18; with_reducible refine (append_n K2 hst hfl (fname af as_) bo l9 bc (ab.take 20) t9 (fun ad hd h0 => hblow ad hd (by omega)) (by omega)).mono ?_; rintro e w9 ⟨r, rfl, K9, kp, b9⟩; have m9 := kp.cell mc (by simp); have s9 := kp.sx s2 (by simp); have B9 := B2.trans b9)
                  | (go_at_call 28; with_reducible refine (down_l K9.dl true hdd).mono ?_; rintro e v ⟨rfl, rfl⟩)
                  | (go_at_call 24; with_reducible refine (used_l K9.dl X.length hus hfl).mono ?_; rintro e w10 ⟨rfl, k10, b10⟩)
                  | (go_at_call 23; with_reducible refine (names_n k10 1 [anm] hln hnm (by omega) (by omega)).mono ?_; rintro e w11 ⟨ob, oof, oc, rfl, sx11, ob1, ob2, b11⟩; have s11 := (s9.later b10).later b11)
                  | (go_at_call 29; with_reducible refine (same_yes _ _ 1 oc nc [anm] w11 sx11 s11 (by omega)).mono ?_; rintro e w12 ⟨rfl, b12⟩))
                go_roundw
                case rel => exact ⟨k + 1, by omega, by omega, by go_num, ((K9.less.later b10).later b11).later b12, s11.later b12, ((B9.trans (b10.mono B9.size)).trans (b11.mono (Nat.le_trans B9.size b10.size))).trans (b12.mono (Nat.le_trans B9.size (Nat.le_trans b10.size b11.size)))⟩
                case measure => simp [intOf]; omega
              · by_cases hk3 : ak = 3
                · obtain rfl := hk3
                  go_wp2_with (first
                    | (go_at_call 19; with_reducible refine (sync_n K2 hst hfl (fname af as_)).mono ?_; rintro e w9 ⟨r, rfl, K9, kp, b9⟩; have m9 := kp.cell mc (by simp); have s9 := kp.sx s2 (by simp); have B9 := B2.trans b9)
                    | (go_at_call 28; with_reducible refine (down_l K9.dl true hdd).mono ?_; rintro e v ⟨rfl, rfl⟩)
                    | (go_at_call 24; with_reducible refine (used_l K9.dl X.length hus hfl).mono ?_; rintro e w10 ⟨rfl, k10, b10⟩)
                    | (go_at_call 23; with_reducible refine (names_n k10 1 [anm] hln hnm (by omega) (by omega)).mono ?_; rintro e w11 ⟨ob, oof, oc, rfl, sx11, ob1, ob2, b11⟩; have s11 := (s9.later b10).later b11)
                    | (go_at_call 29; with_reducible refine (same_yes _ _ 1 oc nc [anm] w11 sx11 s11 (by omega)).mono ?_; rintro e w12 ⟨rfl, b12⟩))
                  go_roundw
                  case rel => exact ⟨k + 1, by omega, by omega, by go_num, ((K9.less.later b10).later b11).later b12, s11.later b12, ((B9.trans (b10.mono B9.size)).trans (b11.mono (Nat.le_trans B9.size b10.size))).trans (b12.mono (Nat.le_trans B9.size (Nat.le_trans b10.size b11.size)))⟩
                  case measure => simp [intOf]; omega
                · by_cases hk4 : ak = 4
                  · obtain rfl := hk4
                    go_wp2_with (first
                      | (go_at_call 26; with_reducible refine (cut_n K2 hst hfl (fname af as_) an hn1 hn2).mono ?_; rintro e w9 ⟨r, rfl, K9, kp, b9⟩; have m9 := kp.cell mc (by simp); have s9 := kp.sx s2 (by simp); have B9 := B2.trans b9)
                      | (go_at_call 28; with_reducible refine (down_l K9.dl true hdd).mono ?_; rintro e v ⟨rfl, rfl⟩)
                      | (go_at_call 24; with_reducible refine (used_l K9.dl X.length hus hfl).mono ?_; rintro e w10 ⟨rfl, k10, b10⟩)
                      | (go_at_call 23; with_reducible refine (names_n k10 1 [anm] hln hnm (by omega) (by omega)).mono ?_; rintro e w11 ⟨ob, oof, oc, rfl, sx11, ob1, ob2, b11⟩; have s11 := (s9.later b10).later b11)
                      | (go_at_call 29; with_reducible refine (same_yes _ _ 1 oc nc [anm] w11 sx11 s11 (by omega)).mono ?_; rintro e w12 ⟨rfl, b12⟩))
                    go_roundw
                    case rel => exact ⟨k + 1, by omega, by omega, by go_num, ((K9.less.later b10).later b11).later b12, s11.later b12, ((B9.trans (b10.mono B9.size)).trans (b11.mono (Nat.le_trans B9.size b10.size))).trans (b12.mono (Nat.le_trans B9.size (Nat.le_trans b10.size b11.size)))⟩
                    case measure => simp [intOf]; omega
                  · by_cases hk5 : ak = 5
                    · obtain rfl := hk5
                      have HG := fun V => file_any ag as_ hok.g.1 hok.g.2 hok.s V
                      have hgs := fname_size ag as_ hok.s
                      go_wp2_with fail
                      go_region_with (first | (go_at_call 25; with_reducible refine (HG _).mono ?_; rintro e w8' ⟨rfl, b8'⟩; have bb := drew_below b8'; have K8 := K2.later bb; have mc := cell_later bb mc; have s2 := s2.later bb; have B2 := B2.trans (bb.mono B2.size)) | (go_at_call 20; with_reducible refine (rename_n K8 hst hfl (fname af as_) (fname ag as_) hgs).mono ?_; rintro e w9 ⟨r, rfl, K9, kp, b9⟩; have m9 := kp.cell mc (by simp); have s9 := kp.sx s2 (by simp); have B9 := B2.trans b9))
                      all_goals
                        go_wp2_with (first
                          | (go_at_call 28; with_reducible refine (down_l K9.dl true hdd).mono ?_; rintro e v ⟨rfl, rfl⟩)
                          | (go_at_call 24; with_reducible refine (used_l K9.dl X.length hus hfl).mono ?_; rintro e w10 ⟨rfl, k10, b10⟩)
                          | (go_at_call 23; with_reducible refine (names_n k10 1 [anm] hln hnm (by omega) (by omega)).mono ?_; rintro e w11 ⟨ob, oof, oc, rfl, sx11, ob1, ob2, b11⟩; have s11 := (s9.later b10).later b11)
                          | (go_at_call 29; with_reducible refine (same_yes _ _ 1 oc nc [anm] w11 sx11 s11 (by omega)).mono ?_; rintro e w12 ⟨rfl, b12⟩))
                        go_roundw
                        case rel => exact ⟨k + 1, by omega, by omega, by go_num, ((K9.less.later b10).later b11).later b12, s11.later b12, ((B9.trans (b10.mono B9.size)).trans (b11.mono (Nat.le_trans B9.size b10.size))).trans (b12.mono (Nat.le_trans B9.size (Nat.le_trans b10.size b11.size)))⟩
                        case measure => simp [intOf]; omega
                    · by_cases hk6 : ak = 6
                      · obtain rfl := hk6
                        go_wp2_with (first
                          | (go_at_call 27; with_reducible refine (remove_n K2 hst hfl (fname af as_)).mono ?_; rintro e w9 ⟨r, rfl, K9, kp, b9⟩; have m9 := kp.cell mc (by simp); have s9 := kp.sx s2 (by simp); have B9 := B2.trans b9)
                          | (go_at_call 28; with_reducible refine (down_l K9.dl true hdd).mono ?_; rintro e v ⟨rfl, rfl⟩)
                          | (go_at_call 24; with_reducible refine (used_l K9.dl X.length hus hfl).mono ?_; rintro e w10 ⟨rfl, k10, b10⟩)
                          | (go_at_call 23; with_reducible refine (names_n k10 1 [anm] hln hnm (by omega) (by omega)).mono ?_; rintro e w11 ⟨ob, oof, oc, rfl, sx11, ob1, ob2, b11⟩; have s11 := (s9.later b10).later b11)
                          | (go_at_call 29; with_reducible refine (same_yes _ _ 1 oc nc [anm] w11 sx11 s11 (by omega)).mono ?_; rintro e w12 ⟨rfl, b12⟩))
                        go_roundw
                        case rel => exact ⟨k + 1, by omega, by omega, by go_num, ((K9.less.later b10).later b11).later b12, s11.later b12, ((B9.trans (b10.mono B9.size)).trans (b11.mono (Nat.le_trans B9.size b10.size))).trans (b12.mono (Nat.le_trans B9.size (Nat.le_trans b10.size b11.size)))⟩
                        case measure => simp [intOf]; omega
                      · have K9 := K2
                        have m9 := mc
                        have s9 := s2
                        have B9 := B2
                        go_wp2_with (first
                          | (go_at_call 28; with_reducible refine (down_l K9.dl true hdd).mono ?_; rintro e v ⟨rfl, rfl⟩)
                          | (go_at_call 24; with_reducible refine (used_l K9.dl X.length hus hfl).mono ?_; rintro e w10 ⟨rfl, k10, b10⟩)
                          | (go_at_call 23; with_reducible refine (names_n k10 1 [anm] hln hnm (by omega) (by omega)).mono ?_; rintro e w11 ⟨ob, oof, oc, rfl, sx11, ob1, ob2, b11⟩; have s11 := (s9.later b10).later b11)
                          | (go_at_call 29; with_reducible refine (same_yes _ _ 1 oc nc [anm] w11 sx11 s11 (by omega)).mono ?_; rintro e w12 ⟨rfl, b12⟩))
                        go_roundw
                        case rel => exact ⟨k + 1, by omega, by omega, by go_num, ((K9.less.later b10).later b11).later b12, s11.later b12, ((B9.trans (b10.mono B9.size)).trans (b11.mono (Nat.le_trans B9.size b10.size))).trans (b12.mono (Nat.le_trans B9.size (Nat.le_trans b10.size b11.size)))⟩
                        case measure => simp [intOf]; omega
          · go_wp2
            go_roundw
            case rel => exact ⟨k + 1, by omega, by omega, by go_num, Nr, sr, br⟩
            case measure => simp [intOf]; omega
        · have hq : (k : Int) < (lz : Int) → ¬ (k : Int) < 15 := by omega
          have hk9 := Nr.dl
          go_wp2_with (first
            | (go_at_call 21; with_reducible refine (crash_l hk9 0 hfl (by omega) (by omega)).mono ?_; rintro e w20 ⟨rfl, k20, b20⟩; rw [hcr] at k20; have B20 := br.trans b20)
            | (go_at_call 28; with_reducible refine (down_l k20 false (oneA_down _ _ _ _)).mono ?_; rintro e v ⟨rfl, rfl⟩)
            | (go_at_call 18; with_reducible refine (append_l k20 anm none 0 0 [] w20 (Below.refl _ _) (Tx.nil _) (fun ad hd h0 => by cases hd) (by omega) _ 0 hap (oneA_files _ _ _ _)).mono ?_; rintro e w21 ⟨rfl, k21, b21⟩; have B21 := B20.trans b21)
            | (go_at_call 14; with_reducible refine (known_any w21).mono ?_; rintro e w22 ⟨rfl, b22⟩))
          all_goals go_ret
          all_goals exact ⟨rfl, B21.trans (b22.mono B21.size)⟩

end Go.Proofs.Ytadnbdkbjajgdaa
