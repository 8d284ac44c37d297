/- The walk of the document's Entries. -/
import Derived.Test.YtondfbjldonogaaWalksS
namespace Go.Proofs.Ytondfbjldonogaa
open Go.RowKit

theorem parse_no3 {r : List Int} {v : Int} (h : takeT v.toNat ((r.drop 1).drop 1) = none) (hv : num1 (r.drop 1) = v) : parseE r = none := by
  cases h1 : takeN 1 num1 0 1 r with
  | none => simp only [parseE, h1]
  | some p =>
    obtain ⟨v1, q⟩ := p
    have e : q = r.drop 1 := by
      unfold takeN at h1
      split at h1
      · cases h1
      · cases h1; rfl
    subst e
    cases h2 : takeN 1 num1 1 255 (r.drop 1) with
    | none => simp only [parseE, h1, h2]
    | some p2 =>
      obtain ⟨v2, q2⟩ := p2
      have e2 : v2 = v ∧ q2 = (r.drop 1).drop 1 := by
        unfold takeN at h2
        split at h2
        · cases h2
        · cases h2; exact ⟨hv, rfl⟩
      obtain ⟨rfl, rfl⟩ := e2
      simp only [parseE, h1, h2, h]

set_option maxHeartbeats 16000000 in
set_option maxRecDepth 100000 in
theorem rents_any (ao : Option Addr) (la ca : Nat) (xs : List Int) (w : World) (ha : Tx w ao la ca xs) (sa : la ≤ 900000000) :
    Calls Try.prog 29 #[.slice ao la ca] w fun e w' => REnts w xs e w' := by
  have R0 := Rf.new w ao la ca xs ha
  have hl := ha.len_eq
  have hby : Bytes xs := ha.rng
  have B0 : Below w.heap.size w (w.alloc (.cells #[.slice ao la ca, .bool false] 75)) := (Below.refl _ _).alloc (Nat.le_refl _) _
  have hsz0 : w.heap.size + 1 ≤ (w.alloc (.cells #[.slice ao la ca, .bool false] 75)).heap.size := by simp
  by_cases hl2 : la < 2
  · have hpn : entriesL xs = none := by
      have : takeN 2 num2 0 8191 xs = none := by rw [takeN, if_pos (.inl (by omega))]
      simp only [entriesL, this]
    have hcs : la = 0 ∨ la = 1 := by omega
    rcases hcs with rfl | rfl
    all_goals
      go_enter Try.func29, Try.ntmps29
      go_wp2_with fail
      generalize (w.alloc (.cells #[.slice ao _ ca, .bool false] 75)) = V0 at R0 B0 hsz0 ⊢
      refine wp_region_quiet_below (by kernel_rfl) (by kernel_rfl) ?_
      repeat (go_big_quiet_step (fail))
      (with_reducible refine wpQuiet_nil ?_)
      intro _ hw'
      obtain ⟨⟨dq, osq⟩, hw''⟩ := hw'
      subst hw''
      have b1 := below_regrown V0 dq osq
      replace R0 := R0.later b1
      generalize Go.Sort.grow (redrawn V0 dq) osq = V1 at b1 R0 ⊢
      have n1 := rnum_no w w.heap.size ao _ ca false xs 2 2 rfl (by omega) V1 R0 hl2
      go_wp2_with (go_at_call 45; with_reducible refine n1.mono ?_; rintro e w1 ⟨rfl, R1, O1⟩)
      have c1 := R1.c1
      have B1 := R1.bel
      refine wp_loop_rounds 1 ?_
      rw [rounds_succ]
      go_wp2
      go_ret2
      exact rents_no hpn B1
  · obtain ⟨b, off, rfl, hc⟩ := ha.head (by omega)
    obtain ⟨g1, g2⟩ := num2_rng hby
    have d0 := cell_later B0 (hc 0 (by omega))
    have d1 := cell_later B0 (hc 1 (by omega))
    have hn2 : num2 xs = xs.getD 0 0 * 256 + xs.getD 1 0 := rfl
    have e0 := getD_byte hby 0
    have e1 := getD_byte hby 1
    generalize xs.getD 0 0 = x0 at d0 hn2 e0
    generalize xs.getD 1 0 = x1 at d1 hn2 e1
    rw [Nat.add_zero] at d0
    have d0 := fun d os => cell_regrown d0 d os
    have d1 := fun d os => cell_regrown d1 d os
    have hge : (2 : Int) ≤ (la : Int) := by omega
    by_cases hbig : 8191 < x0 * 256 + x1
    · have hpn : entriesL xs = none := by
        have : takeN 2 num2 0 8191 xs = none := by rw [takeN, if_pos (.inr (.inr (by omega)))]
        simp only [entriesL, this]
      clear hn2
      go_enter Try.func29, Try.ntmps29
      go_wp2_with fail
      generalize (w.alloc (.cells #[.slice (some ⟨b, off, none⟩) la ca, .bool false] 75)) = V0 at R0 B0 hsz0 d0 d1 ⊢
      refine wp_region_quiet_below (by kernel_rfl) (by kernel_rfl) ?_
      repeat (go_big_quiet_step (fail))
      (with_reducible refine wpQuiet_nil ?_)
      intro _ hw'
      obtain ⟨⟨dq, osq⟩, hw''⟩ := hw'
      subst hw''
      have b1 := below_regrown V0 dq osq
      go_wp2
      go_ret2
      exact rents_no hpn (B0.trans (b1.mono B0.size))
    · obtain ⟨N, hN⟩ : ∃ N : Nat, Hid (num2 xs = (N : Int)) := ⟨(num2 xs).toNat, by show _ = _; omega⟩
      have hN9 : N ≤ 8191 := by have := hN.out; omega
      have hpar : Hid (takeN 2 num2 0 8191 xs = some ((N : Int), xs.drop 2)) := by
        show _ = _
        rw [takeN, if_neg (by have := hN.out; omega), hN.out]
      clear hn2
      go_enter Try.func29, Try.ntmps29
      go_wp2_with fail
      generalize (w.alloc (.cells #[.slice (some ⟨b, off, none⟩) la ca, .bool false] 75)) = V0 at R0 B0 hsz0 d0 d1 ⊢
      refine wp_region_quiet_below (by kernel_rfl) (by kernel_rfl) ?_
      repeat (go_big_quiet_step (fail))
      (with_reducible refine wpQuiet_nil ?_)
      intro _ hw'
      obtain ⟨⟨dq, osq⟩, hw''⟩ := hw'
      subst hw''
      have b1 := below_regrown V0 dq osq
      replace R0 := R0.later b1
      have hsz1 := Nat.le_trans hsz0 b1.size
      generalize Go.Sort.grow (redrawn V0 dq) osq = V1 at b1 R0 hsz1 ⊢
      have n1 := rnum_yes w w.heap.size _ la ca false xs 2 2 rfl (by omega) (by omega) (num2 xs) (fun h => num2_get xs hby (by omega)) g1 (by omega) V1 R0 sa hl2
      rw [hN.out] at n1
      clear d0 d1 hc ha B0 hN
      go_wp2_with (go_at_call 45; with_reducible refine n1.mono ?_; rintro e w1 ⟨b1', o1, rl1, rc1, rfl, R1, O1⟩)
      have hs1 : rl1 ≤ 900000000 := by have := R1.tx.len_eq; simp at this; omega
      have hsz2 := Nat.le_trans hsz1 O1.size
      have Bw1 := R1.bel
      generalize xs.drop 2 = r1 at R1 hpar
      go_loopw [5, 6] (fun o i V => ∃ (k m : Nat) (bo : Option Addr) (cb : Nat) (es : List Ent), k ≤ N ∧ i = .int .i64 ((N : Int) - (k : Int)) ∧ o = .slice bo m cb ∧ RRel w V N r1 k bo m cb es) (fun _ i _ => (intOf i).toNat)
      case atStart => exact ⟨0, 0, none, 0, [], by omega, by go_num, rfl, ⟨Ls.nil _ _ _ _ _, rfl, Bw1, hsz2, .inl ⟨_, _, _, _, _, R1, hs1, Came.start N r1⟩⟩⟩
      case round =>
        obtain ⟨k, m, bo, cb, es, hk, rfl, rfl, hE⟩ := hrel
        rcases hE.rd with ⟨b2, o2, rl2, rc2, r, Rk, sk, hcame⟩ | ⟨Rk, hpN⟩
        rotate_left
        · have hpn : entriesL xs = none := entriesL_no hpar.out hpN
          have c0 := Rk.c0
          have c1 := Rk.c1
          have hB := hE.bel
          by_cases hkN : (0 : Int) < (N : Int) - (k : Int)
          · go_wp2
            go_ret2
            exact rents_no hpn hB
          · go_wp2
            go_ret2
            exact rents_no hpn hB
        · have c0 := Rk.c0
          have c1 := Rk.c1
          have hB := hE.bel
          have hes9 : es.length ≤ 1000000000 := by have := hE.len; omega
          by_cases hkN : (0 : Int) < (N : Int) - (k : Int)
          · have hk2 : k < N := by omega
            have hnoN : parseE r = none → entriesL xs = none := fun h => entriesL_no hpar.out (hcame.no hk2 h)
            have m1 := rnum_any w w.heap.size _ rl2 rc2 false r 1 1 rfl (by omega) (by omega) num1 (num1_get r) (fun hb => by have := num1_rng hb; omega) wr Rk sk
            go_wp2_with fail
            with_reducible refine m1.mono ?_
            clear m1
            rintro e wa (⟨va, ba, oa, rla, rca, la1, va1, va2, va3, rfl, Ra, sa1, Oa⟩ | ⟨la1, rfl, Ra, Oa⟩)
            rotate_left
            · have hpn := hnoN (parse_no1 la1)
              have m2 := rnum_no w w.heap.size none 0 0 true [] 1 1 rfl (by omega) wa Ra (by omega)
              go_wp2_with (first | (go_at_call 45; with_reducible refine m2.mono ?_; rintro e wb ⟨rfl, Rb, Ob⟩; have m3 := rsome_no w w.heap.size none 0 0 true [] 0 0 rfl wb Rb (.inl rfl)) | (go_at_call 46; with_reducible refine m3.mono ?_; rintro e wc ⟨rfl, Rc, Oc⟩; have Bc := Rc.bel))
              go_ret2
              exact rents_no hpn (Bc.alloc Bc.size _)
            · have m2 := rnum_any w w.heap.size _ rla rca false (r.drop 1) 1 1 rfl (by omega) (by omega) num1 (num1_get _) (fun hb => by have := num1_rng hb; omega) wa Ra sa1
              go_wp2_with fail
              with_reducible refine m2.mono ?_
              clear m2
              rintro e wb (⟨vb, bb, ob, rlb, rcb, lb1, vb1, vb2, vb3, rfl, Rb, sb1, Ob⟩ | ⟨lb1, rfl, Rb, Ob⟩)
              rotate_left
              · have hpn := hnoN (parse_no2 (.inl lb1))
                have m3 := rsome_no w w.heap.size none 0 0 true [] 0 0 rfl wb Rb (.inl rfl)
                by_cases hv : 1 < va
                · go_wp2_with (go_at_call 46; with_reducible refine m3.mono ?_; rintro e wc ⟨rfl, Rc, Oc⟩; have Bc := Rc.bel)
                  go_ret2
                  exact rents_no hpn (Bc.alloc Bc.size _)
                · go_wp2_with (go_at_call 46; with_reducible refine m3.mono ?_; rintro e wc ⟨rfl, Rc, Oc⟩; have Bc := Rc.bel)
                  go_ret2
                  exact rents_no hpn (Bc.alloc Bc.size _)
              · have m3 := rsome_any w w.heap.size bb ob rlb rcb _ vb vb2 vb3 wb Rb sb1
                go_wp2_with fail
                with_reducible refine m3.mono ?_
                clear m3
                rintro e wc (⟨x3, r3, ko, kl, kc, b3, o3, rl3, rc3, p3, x3l, rfl, tk, fk, Rc, sc1, Oc⟩ | ⟨p3, rfl, Rc, Oc⟩)
                rotate_left
                · have hpn := hnoN (parse_no3 p3 vb1)
                  by_cases hv : 1 < va
                  · go_wp2
                    go_ret2
                    exact rents_no hpn (Rc.bel.alloc Rc.bel.size _)
                  · go_wp2
                    go_ret2
                    exact rents_no hpn (Rc.bel.alloc Rc.bel.size _)
                · have hklx := tk.len_eq
                  have Owc := (Oa.trans Ob).trans Oc
                  have hsa := Oa.size
                  have hsb := Ob.size
                  have hsc := Oc.size
                  have fkw : ∀ ad, ko = some ad → wr.heap.size ≤ ad.block := fun ad hd => by have := fk ad hd; omega
                  have hXs : ∀ q ∈ [w.heap.size], q < wr.heap.size := by have := hE.size; simp; omega
                  have hbr : Bytes r := Rk.tx.rng
                  have hrng := num1_rng (hbr.drop 1)
                  by_cases hv1 : 1 < va
                  · have hpn := hnoN (parse_no1b (by omega))
                    go_wp2
                    go_ret2
                    exact rents_no hpn (Rc.bel.alloc Rc.bel.size _)
                  · by_cases hvb : vb = 0
                    · have hpn := hnoN (parse_no2 (.inr (by omega)))
                      have hk0 : kl = 0 := by rw [← hklx, x3l, hvb]; rfl
                      subst hk0
                      have hv1' : ¬ 1 < va := hv1
                      go_wp2
                      go_ret2
                      exact rents_no hpn (Rc.bel.alloc Rc.bel.size _)
                    · have hk1 : ((kl : Int) == 0) = false := by simp; omega
                      have q1 : takeN 1 num1 0 1 r = some (va, r.drop 1) := by rw [takeN, if_neg (by omega), va1]
                      have q2 : takeN 1 num1 1 255 (r.drop 1) = some (vb, (r.drop 1).drop 1) := by rw [takeN, if_neg (by omega), vb1]
                      have hva : va = 0 ∨ va = 1 := by omega
                      rcases hva with rfl | rfl
                      · have hpe : parseE r = some (⟨x3, [], true⟩, r3) := by simp only [parseE, q1, q2, p3, if_true]
                        clear q1 q2
                        have OX : Off [w.heap.size] wr (wc.alloc (.cells #[.slice ko kl kc, .slice none 0 0, .bool true] 28)) := Owc.alloc _
                        have tkX : Tx (wc.alloc (.cells #[.slice ko kl kc, .slice none 0 0, .bool true] 28)) ko kl kc x3 := tk.alloc _
                        have tvX : Tx (wc.alloc (.cells #[.slice ko kl kc, .slice none 0 0, .bool true] 28)) none 0 0 [] := Tx.nil _
                        have RX := Rc.later ((Below.refl _ _).alloc (Nat.le_refl _) (.cells #[.slice ko kl kc, .slice none 0 0, .bool true] 28))
                        have L3 := r_over hE.ls OX
                        have HL := L3.later (REx.st _) ((Below.refl _ _).alloc (Nat.le_refl _) (.cells #[.slice ko kl kc, .slice none 0 0, .bool true] 28))
                        have HB : w.heap.size + 1 ≤ ((wc.alloc (.cells #[.slice ko kl kc, .slice none 0 0, .bool true] 28)).alloc (.cells #[.slice ko kl kc, .slice none 0 0, .bool true] 28)).heap.size := by have := OX.size; have := hE.size; simp; omega
                        have HR := rex_new hE.ls (en := ⟨x3, [], true⟩) (G := true) rfl tkX tvX fkw (fun _ h => by cases h) hXs (.cells #[.slice ko kl kc, .slice none 0 0, .bool true] 28)
                        go_wp2_with (with_reducible show wpList _ _ _ (⟨some 72, _, _, _, _, _⟩ :: _) _ _; refine wpList_one (REx.st _) (REx.pl _) Try.underlying29 Try.info28 rfl (by omega) (by omega) rfl _ _ rfl (w.heap.size + 1) (.slice bo m cb) es rfl HL ⟨wc.heap.size + 1, 0, none⟩ 1 [.slice ko kl kc, .slice none 0 0, .bool true] ⟨x3, [], true⟩ rfl (cells3_at _ (wc.heap.size + 1) (by simp) _ _ _) HR hes9 HB ?_; intro ao5 n5 c5 w5 hn5 hls5 hof5 hsub5; clear hn5)
                        go_roundw
                        case rel => exact ⟨k + 1, n5, ao5, c5, _, by omega, by go_num, rfl, r_good hE hk2 hcame hpe L3 hls5 hof5 RX sc1⟩
                        case measure => simp [intOf]; omega
                      · have bx0 := Boxf.new' wc (.slice ko kl kc) (.slice none 0 0) false
                        have RcA := Rc.later ((Below.refl _ _).alloc (Nat.le_refl _) (.cells #[.slice ko kl kc, .slice none 0 0, .bool false] 28))
                        have tkA := tk.alloc (.cells #[.slice ko kl kc, .slice none 0 0, .bool false] 28)
                        have OwA : Off [w.heap.size] wr (wc.alloc (.cells #[.slice ko kl kc, .slice none 0 0, .bool false] 28)) := Owc.alloc _
                        have hszA : wc.heap.size < (wc.alloc (.cells #[.slice ko kl kc, .slice none 0 0, .bool false] 28)).heap.size := by simp
                        have hbxr : wc.heap.size ∉ [w.heap.size] := by have := Rc.lt; simp; omega
                        have m4 := rnum_any w w.heap.size _ rl3 rc3 false r3 2 2 rfl (by omega) (by omega) num2 (num2_get _) (fun hb => num2_rng hb) _ RcA sc1
                        have hkne : ∀ ad, ko = some ad → 0 < kl → ad.block ∉ [w.heap.size] := fun ad hd _ hk => by have := fkw ad hd; have := hE.size; simp at hk; omega
                        go_wp2_with fail
                        with_reducible refine m4.mono ?_
                        clear m4
                        rintro e wd (⟨vd, bd, od, rld, rcd, ld1, vd1, vd2, vd3, rfl, RD, sd1, Od⟩ | ⟨ld1, rfl, RD, Od⟩)
                        rotate_left
                        · have hpe : parseE r = none := by
                            have q4 : takeN 2 num2 0 4095 r3 = none := by rw [takeN, if_pos (.inl ld1)]
                            simp only [parseE, q1, q2, p3, q4, show ((1 : Int) = 0) = False by simp, if_false]
                          have bxd := bx0.off Od hbxr
                          have m5 := rsome_no w w.heap.size none 0 0 true [] 0 0 rfl wd RD (.inl rfl)
                          go_wp2_with fail
                          with_reducible refine m5.mono ?_
                          rintro e we ⟨rfl, RE', Oe⟩
                          have bxe := bxd.off Oe hbxr
                          have tke := (tkA.off Od hkne).off Oe hkne
                          have Owe := (OwA.trans Od).trans Oe
                          have hsze := Nat.le_trans Od.size Oe.size
                          obtain ⟨w0, w1', w2', wz⟩ := bxe
                          have wz1 := wz 1
                          have wz0 := wz 0
                          have wz2 := wz 2
                          have OX : Off [w.heap.size] wr (we.setCell ⟨wc.heap.size, 1, none⟩ (.slice none 0 0)) := Owe.setNew (p := ⟨wc.heap.size, 1, none⟩) (by have := Owc.size; simpa using this) _
                          have tkX : Tx (we.setCell ⟨wc.heap.size, 1, none⟩ (.slice none 0 0)) ko kl kc x3 := tx_beside tke (fun ad hd h0 e => by have := tk.lt ad hd h0; omega) _
                          have tvX : Tx (we.setCell ⟨wc.heap.size, 1, none⟩ (.slice none 0 0)) none 0 0 [] := Tx.nil _
                          have RX := RE'.off ((Off.refl [wc.heap.size] we).setCell (p := ⟨wc.heap.size, 1, none⟩) (by simp) (.slice none 0 0)) (by have := Rc.lt; simp; omega) (by have := Rc.bel.size; simpa using this)
                          have L3 := r_over hE.ls OX
                          have HL := L3.later (REx.st _) ((Below.refl _ _).alloc (Nat.le_refl _) (.cells #[.slice ko kl kc, .slice none 0 0, .bool false] 28))
                          have HB : w.heap.size + 1 ≤ ((we.setCell ⟨wc.heap.size, 1, none⟩ (.slice none 0 0)).alloc (.cells #[.slice ko kl kc, .slice none 0 0, .bool false] 28)).heap.size := by have := OX.size; have := hE.size; simp; omega
                          have HR := rex_new hE.ls (en := ⟨x3, [], false⟩) (G := false) rfl tkX tvX fkw (fun _ h => by cases h) hXs (.cells #[.slice ko kl kc, .slice none 0 0, .bool false] 28)
                          go_wp2_with (with_reducible show wpList _ _ _ (⟨some 72, _, _, _, _, _⟩ :: _) _ _; refine wpList_one (REx.st _) (REx.pl _) Try.underlying29 Try.info28 rfl (by omega) (by omega) rfl _ _ rfl (w.heap.size + 1) (.slice bo m cb) es rfl HL ⟨we.heap.size, 0, none⟩ 1 [.slice ko kl kc, .slice none 0 0, .bool false] ⟨x3, [], false⟩ rfl (cells3_at _ (we.heap.size) (by simp [World.setCell]) _ _ _) HR hes9 HB ?_; intro ao5 n5 c5 w5 hn5 hls5 hof5 hsub5; clear hn5)
                          go_roundw
                          case rel => exact ⟨k + 1, n5, ao5, c5, _, by omega, by go_num, rfl, r_bad hE hk2 hcame hpe L3 hls5 hof5 RX⟩
                          case measure => simp [intOf]; omega
                        · by_cases hvd : 4095 < vd
                          · have hpn := hnoN (by
                              have q4 : takeN 2 num2 0 4095 r3 = none := by rw [takeN, if_pos (.inr (.inr (by omega)))]
                              simp only [parseE, q1, q2, p3, q4, show ((1 : Int) = 0) = False by simp, if_false])
                            have hBd := RD.bel
                            go_wp2
                            go_ret2
                            exact rents_no hpn hBd
                          · have q4 : takeN 2 num2 0 4095 r3 = some (vd, r3.drop 2) := by rw [takeN, if_neg (by omega), vd1]
                            have bxd := bx0.off Od hbxr
                            have m5 := rsome_any w w.heap.size bd od rld rcd _ vd vd2 vd3 wd RD sd1
                            go_wp2_with fail
                            with_reducible refine m5.mono ?_
                            clear m5
                            rintro e we (⟨x5, r5, vo, vl, vc, b5, o5, rl5, rc5, p5, x5l, rfl, tv, fv, RE', se1, Oe⟩ | ⟨p5, rfl, RE', Oe⟩)
                            rotate_left
                            · have hpe : parseE r = none := by simp only [parseE, q1, q2, p3, q4, p5, show ((1 : Int) = 0) = False by simp, if_false]
                              have bxe := bxd.off Oe hbxr
                              have tke := (tkA.off Od hkne).off Oe hkne
                              have Owe := (OwA.trans Od).trans Oe
                              have hsze := Nat.le_trans Od.size Oe.size
                              obtain ⟨w0, w1', w2', wz⟩ := bxe
                              have wz1 := wz 1
                              have wz0 := wz 0
                              have wz2 := wz 2
                              have OX : Off [w.heap.size] wr (we.setCell ⟨wc.heap.size, 1, none⟩ (.slice none 0 0)) := Owe.setNew (p := ⟨wc.heap.size, 1, none⟩) (by have := Owc.size; simpa using this) _
                              have tkX : Tx (we.setCell ⟨wc.heap.size, 1, none⟩ (.slice none 0 0)) ko kl kc x3 := tx_beside tke (fun ad hd h0 e => by have := tk.lt ad hd h0; omega) _
                              have tvX : Tx (we.setCell ⟨wc.heap.size, 1, none⟩ (.slice none 0 0)) none 0 0 [] := Tx.nil _
                              have RX := RE'.off ((Off.refl [wc.heap.size] we).setCell (p := ⟨wc.heap.size, 1, none⟩) (by simp) (.slice none 0 0)) (by have := Rc.lt; simp; omega) (by have := Rc.bel.size; simpa using this)
                              have L3 := r_over hE.ls OX
                              have HL := L3.later (REx.st _) ((Below.refl _ _).alloc (Nat.le_refl _) (.cells #[.slice ko kl kc, .slice none 0 0, .bool false] 28))
                              have HB : w.heap.size + 1 ≤ ((we.setCell ⟨wc.heap.size, 1, none⟩ (.slice none 0 0)).alloc (.cells #[.slice ko kl kc, .slice none 0 0, .bool false] 28)).heap.size := by have := OX.size; have := hE.size; simp; omega
                              have HR := rex_new hE.ls (en := ⟨x3, [], false⟩) (G := false) rfl tkX tvX fkw (fun _ h => by cases h) hXs (.cells #[.slice ko kl kc, .slice none 0 0, .bool false] 28)
                              go_wp2_with (with_reducible show wpList _ _ _ (⟨some 72, _, _, _, _, _⟩ :: _) _ _; refine wpList_one (REx.st _) (REx.pl _) Try.underlying29 Try.info28 rfl (by omega) (by omega) rfl _ _ rfl (w.heap.size + 1) (.slice bo m cb) es rfl HL ⟨we.heap.size, 0, none⟩ 1 [.slice ko kl kc, .slice none 0 0, .bool false] ⟨x3, [], false⟩ rfl (cells3_at _ (we.heap.size) (by simp [World.setCell]) _ _ _) HR hes9 HB ?_; intro ao5 n5 c5 w5 hn5 hls5 hof5 hsub5; clear hn5)
                              go_roundw
                              case rel => exact ⟨k + 1, n5, ao5, c5, _, by omega, by go_num, rfl, r_bad hE hk2 hcame hpe L3 hls5 hof5 RX⟩
                              case measure => simp [intOf]; omega
                            · have hpe : parseE r = some (⟨x3, x5, false⟩, r5) := by simp only [parseE, q1, q2, p3, q4, p5, show ((1 : Int) = 0) = False by simp, if_false]
                              have bxe := bxd.off Oe hbxr
                              have tke := (tkA.off Od hkne).off Oe hkne
                              have Owe := (OwA.trans Od).trans Oe
                              have hsze := Nat.le_trans Od.size Oe.size
                              have hsd := Od.size
                              have fvw : ∀ ad, vo = some ad → wr.heap.size ≤ ad.block := fun ad hd => by have := fv ad hd; omega
                              obtain ⟨w0, w1', w2', wz⟩ := bxe
                              have wz1 := wz 1
                              have wz0 := wz 0
                              have wz2 := wz 2
                              have OX : Off [w.heap.size] wr (we.setCell ⟨wc.heap.size, 1, none⟩ (.slice vo vl vc)) := Owe.setNew (p := ⟨wc.heap.size, 1, none⟩) (by have := Owc.size; simpa using this) _
                              have tkX : Tx (we.setCell ⟨wc.heap.size, 1, none⟩ (.slice vo vl vc)) ko kl kc x3 := tx_beside tke (fun ad hd h0 e => by have := tk.lt ad hd h0; omega) _
                              have tvX : Tx (we.setCell ⟨wc.heap.size, 1, none⟩ (.slice vo vl vc)) vo vl vc x5 := tx_beside tv (fun ad hd _ e => by have := fv ad hd; omega) _
                              have RX := RE'.off ((Off.refl [wc.heap.size] we).setCell (p := ⟨wc.heap.size, 1, none⟩) (by simp) (.slice vo vl vc)) (by have := Rc.lt; simp; omega) (by have := Rc.bel.size; simpa using this)
                              have L3 := r_over hE.ls OX
                              have HL := L3.later (REx.st _) ((Below.refl _ _).alloc (Nat.le_refl _) (.cells #[.slice ko kl kc, .slice vo vl vc, .bool false] 28))
                              have HB : w.heap.size + 1 ≤ ((we.setCell ⟨wc.heap.size, 1, none⟩ (.slice vo vl vc)).alloc (.cells #[.slice ko kl kc, .slice vo vl vc, .bool false] 28)).heap.size := by have := OX.size; have := hE.size; simp; omega
                              have HR := rex_new hE.ls (en := ⟨x3, x5, false⟩) (G := false) rfl tkX tvX fkw fvw hXs (.cells #[.slice ko kl kc, .slice vo vl vc, .bool false] 28)
                              go_wp2_with (with_reducible show wpList _ _ _ (⟨some 72, _, _, _, _, _⟩ :: _) _ _; refine wpList_one (REx.st _) (REx.pl _) Try.underlying29 Try.info28 rfl (by omega) (by omega) rfl _ _ rfl (w.heap.size + 1) (.slice bo m cb) es rfl HL ⟨we.heap.size, 0, none⟩ 1 [.slice ko kl kc, .slice vo vl vc, .bool false] ⟨x3, x5, false⟩ rfl (cells3_at _ (we.heap.size) (by simp [World.setCell]) _ _ _) HR hes9 HB ?_; intro ao5 n5 c5 w5 hn5 hls5 hof5 hsub5; clear hn5)
                              go_roundw
                              case rel => exact ⟨k + 1, n5, ao5, c5, _, by omega, by go_num, rfl, r_good hE hk2 hcame hpe L3 hls5 hof5 RX se1⟩
                              case measure => simp [intOf]; omega
          · have hdone := hcame.done (by omega)
            by_cases hr : r = []
            · subst hr
              have hpn : entriesL xs = some es := entriesL_yes hpar.out hdone
              have hrl0 := Rk.tx.len_eq
              simp at hrl0
              subst hrl0
              obtain ⟨ao9, cap9, e9, hx9⟩ := hE.ls.read (REx.st _) (REx.pl _)
              simp only [Value.slice.injEq] at e9
              obtain ⟨rfl, e10, rfl⟩ := e9
              rw [← e10] at hx9
              have hx9 := hx9.weaken
              clear e10 hdone
              go_wp2
              go_ret2
              exact .inl ⟨es, bo, m, cb, hpn, rfl, hx9, hB⟩
            · have hpn : entriesL xs = none := entriesL_more hr hpar.out hdone
              have hrl0 := Rk.tx.len_eq
              have hrl1 : 0 < rl2 := by rw [← hrl0]; exact List.length_pos_iff.2 hr
              go_wp2
              go_ret2
              exact rents_no hpn hB

end Go.Proofs.Ytondfbjldonogaa
