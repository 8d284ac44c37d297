/- The walk of BlockNumbers. -/
import Derived.Test.YteeemfohehpaeaaBNumA
import Derived.Test.YteeemfohehpaeaaBReads
import Derived.Test.YteeemfohehpaeaaBBuilds
import Derived.Test.YteeemfohehpaeaaBRise
import Derived.Test.YteeemfohehpaeaaBRefC
import Derived.Test.YteeemfohehpaeaaPE
import Derived.Test.YteeemfohehpaeaaBReg33
import Derived.Deep.RegionHeld3
namespace Go.Proofs.Yteeemfohehpaeaa
set_option maxRecDepth 100000
open Go.RowKit Go.Sort
abbrev keyB : ByteArray := { data := #[107, 101, 121] }
abbrev alfB : ByteArray := { data := #[97, 98, 99, 100, 101, 102, 103, 104, 105, 106, 107, 108, 109, 110, 111, 112, 113, 114, 115, 116, 117, 118, 119, 120, 121, 122] }
theorem kcut : ∀ r, r < 3 → (keyB.extract 0 (1 + r)).size = 1 + r := by decide
theorem acut : ∀ i, i < 20 → (alfB.extract i (i + 3)).size = 3 := by decide
set_option maxHeartbeats 40000000 in
theorem bnumbers_walk (w : World) : Calls Try.prog 3 #[] w fun e w' => e = .returned (.bool true) ∧ Below w.heap.size w w' := by
  go_enter Try.func3, Try.ntmps3
  go_wp2
  go_loopw [1, 2] (fun s1 s2 wr => ∃ (i n : Nat) (lo : Option Addr) (lc : Nat) (acc : List Ent), i ≤ 20 ∧ s2 = .int .i64 i ∧ s1 = .slice lo n lc ∧ Hid (n = acc.length) ∧ Hid (acc.length = i) ∧ Hid (Sm acc) ∧ Ls 25 3 RE wr w.heap.size (.slice lo n lc) acc ∧ Below w.heap.size w wr) (fun _ s2 _ => 20 - (intOf s2).toNat)
  case atStart => exact ⟨0, 0, none, 0, [], by omega, rfl, rfl, rfl, rfl, Sm.nil, Ls.nil _ _ _ _ _, Below.refl _ _⟩
  case round =>
    obtain ⟨i, n, lo, lc, acc, hi, rfl, rfl, hn, hac, hsm, hls, hb⟩ := hrel
    by_cases hi2 : i < 20
    · have hiI : (i : Int) < 20 := by omega
      have b0 : Below wr.heap.size wr wr.drew := (Below.refl _ _).drew
      have hal : ∀ (W : World) (o : Obj), Below wr.heap.size wr W → Below wr.heap.size wr (W.alloc o) := fun W o h => h.alloc h.size _
      obtain ⟨R, hR⟩ : ∃ R, Hid (i % 3 = R) := ⟨_, rfl⟩
      obtain ⟨Z, hZ⟩ : ∃ Z, Hid (i % 5 = Z) := ⟨_, rfl⟩
      have eR := hR.out
      have eZ := hZ.out
      have ht1 : (i : Int).tmod 3 = (R : Int) := by rw [Int.tmod_eq_emod_of_nonneg (by omega)]; omega
      have hw1 : IntKind.i64.wrap (1 + (R : Int)) = 1 + (R : Int) := by rw [IntKind.wrap_i64]; omega
      have hw2 : IntKind.i64.wrap ((i : Int) + 3) = (i : Int) + 3 := by rw [IntKind.wrap_i64]; omega
      have ht5 : (i : Int).tmod 5 = (Z : Int) := by rw [Int.tmod_eq_emod_of_nonneg (by omega)]; omega
      have hR3 : R < 3 := by omega
      have hR4 : 1 + (R : Int) ≤ 3 := by omega
      have hR5 : 0 ≤ 1 + (R : Int) := by omega
      have hi26 : (i : Int) + 3 ≤ 26 := by omega
      have hi27 : (i : Int) ≤ (i : Int) + 3 := by omega
      clear eR eZ
      obtain ⟨G, hG⟩ : ∃ G, ((Z : Int) == 2) = G := ⟨_, rfl⟩
      have sT : ((({ data := #[107, 101, 121] } : ByteArray).extract 0 (1 + R) ++ ({ data := #[97, 98, 99, 100, 101, 102, 103, 104, 105, 106, 107, 108, 109, 110, 111, 112, 113, 114, 115, 116, 117, 118, 119, 120, 121, 122] } : ByteArray).extract i (i + 3))).size = 1 + R + 3 := by rw [ByteArray.size_append, kcut _ hR3, acut _ hi2]
      obtain ⟨NN, hNN⟩ : ∃ NN, Hid (1 + R + 3 = NN) := ⟨_, rfl⟩
      have hNN1 : 1 ≤ NN ∧ NN ≤ 12 := by have := hNN.out; omega
      obtain ⟨KK, hKK⟩ : ∃ KK, numsOf ((({ data := #[107, 101, 121] } : ByteArray).extract 0 (1 + R) ++ ({ data := #[97, 98, 99, 100, 101, 102, 103, 104, 105, 106, 107, 108, 109, 110, 111, 112, 113, 114, 115, 116, 117, 118, 119, 120, 121, 122] } : ByteArray).extract i (i + 3))) = KK := ⟨_, rfl⟩
      have hKl : Hid (KK.length = NN) := by show _ = _; rw [← hKK, numsOf_len, sT, hNN.out]
      obtain ⟨cp, bw, hcv⟩ := conv_fn ((({ data := #[107, 101, 121] } : ByteArray).extract 0 (1 + R) ++ ({ data := #[97, 98, 99, 100, 101, 102, 103, 104, 105, 106, 107, 108, 109, 110, 111, 112, 113, 114, 115, 116, 117, 118, 119, 120, 121, 122] } : ByteArray).extract i (i + 3))) (by rw [sT]; omega) NN (by rw [sT, hNN.out]) KK hKK
      obtain ⟨mw, hmw⟩ := make_fn i (by omega)
      have rcv := fun W => (hcv W).1
      have rmk := fun W => (hmw W).1
      have s1 : wr.heap.size ≤ (bw wr.drew).heap.size := (hcv wr.drew).2.2.size
      have s2 : wr.heap.size ≤ (mw wr.drew).heap.size := (hmw wr.drew).2.2.size
      have hout : ∀ k, wr.heap.size ≤ k → k ∉ own (.slice lo n lc) := fun k hk hm => by have := (hls.lt k hm).1; omega
      have tk0 : Tx (bw wr.drew) (some ⟨wr.heap.size, 0, none⟩) NN (cp wr.drew) (KK) := (hcv wr.drew).2.1
      have tv0 : Tx (mw wr.drew) (some ⟨wr.heap.size, 0, none⟩) i i (List.replicate i 0) := (hmw wr.drew).2.1
      have hfarL : ∀ k ∈ own (.slice lo n lc), w.heap.size ≤ k := fun k hk => (hls.lt k hk).2
      have B1 : Below wr.heap.size wr (mw (bw wr.drew)) := b0.trans (((hcv wr.drew).2.2.mono b0.size).trans ((hmw (bw wr.drew)).2.2.mono (Nat.le_trans b0.size (hcv wr.drew).2.2.size)))
      have tK1 : Tx (mw (bw wr.drew)) (some ⟨wr.heap.size, 0, none⟩) NN (cp wr.drew) (KK) := tk0.later (hmw (bw wr.drew)).2.2
      have tV1 : Tx (mw (bw wr.drew)) (some ⟨(bw wr.drew).heap.size, 0, none⟩) i i (List.replicate i 0) := (hmw (bw wr.drew)).2.1
      have A1 : Below (mw (bw wr.drew)).heap.size (mw (bw wr.drew)) ((mw (bw wr.drew)).alloc (.cells #[.slice (some ⟨wr.heap.size, 0, none⟩) NN (cp wr.drew), .slice (some ⟨(bw wr.drew).heap.size, 0, none⟩) i i, .bool G] 25)) := (Below.refl _ _).alloc (Nat.le_refl _) _
      have HL1 := (hls.later RE.stable B1).later RE.stable A1
      have HR1 : RE ((mw (bw wr.drew)).alloc (.cells #[.slice (some ⟨wr.heap.size, 0, none⟩) NN (cp wr.drew), .slice (some ⟨(bw wr.drew).heap.size, 0, none⟩) i i, .bool G] 25)) (own (.slice lo n lc)) [.slice (some ⟨wr.heap.size, 0, none⟩) NN (cp wr.drew), .slice (some ⟨(bw wr.drew).heap.size, 0, none⟩) i i, .bool G] ⟨KK, List.replicate i 0, G⟩ :=
        ⟨_, _, rfl, (tK1.later A1).at _ (fun ad ha _ hk => by cases ha; exact hout _ (by first | exact Nat.le_refl _ | exact s1 | exact s2) hk), (tV1.later A1).at _ (fun ad ha _ hk => by cases ha; exact hout _ (by first | exact Nat.le_refl _ | exact s1 | exact s2) hk)⟩
      have hC1 := cells3_at (mw (bw wr.drew)) (mw (bw wr.drew)).heap.size rfl (.slice (some ⟨wr.heap.size, 0, none⟩) NN (cp wr.drew)) (.slice (some ⟨(bw wr.drew).heap.size, 0, none⟩) i i) (.bool G)
      have hW1 : w.heap.size ≤ ((mw (bw wr.drew)).alloc (.cells #[.slice (some ⟨wr.heap.size, 0, none⟩) NN (cp wr.drew), .slice (some ⟨(bw wr.drew).heap.size, 0, none⟩) i i, .bool G] 25)).heap.size := Nat.le_trans hb.size (Nat.le_trans B1.size A1.size)
      have bE1 := (hb.trans (B1.mono hb.size)).trans (A1.mono (Nat.le_trans hb.size B1.size))
      have B2 : Below wr.heap.size wr (bw (mw wr.drew)) := b0.trans (((hmw wr.drew).2.2.mono b0.size).trans ((hcv (mw wr.drew)).2.2.mono (Nat.le_trans b0.size (hmw wr.drew).2.2.size)))
      have tK2 : Tx (bw (mw wr.drew)) (some ⟨(mw wr.drew).heap.size, 0, none⟩) NN (cp (mw wr.drew)) (KK) := (hcv (mw wr.drew)).2.1
      have tV2 : Tx (bw (mw wr.drew)) (some ⟨wr.heap.size, 0, none⟩) i i (List.replicate i 0) := tv0.later (hcv (mw wr.drew)).2.2
      have A2 : Below (bw (mw wr.drew)).heap.size (bw (mw wr.drew)) ((bw (mw wr.drew)).alloc (.cells #[.slice (some ⟨(mw wr.drew).heap.size, 0, none⟩) NN (cp (mw wr.drew)), .slice (some ⟨wr.heap.size, 0, none⟩) i i, .bool G] 25)) := (Below.refl _ _).alloc (Nat.le_refl _) _
      have HL2 := (hls.later RE.stable B2).later RE.stable A2
      have HR2 : RE ((bw (mw wr.drew)).alloc (.cells #[.slice (some ⟨(mw wr.drew).heap.size, 0, none⟩) NN (cp (mw wr.drew)), .slice (some ⟨wr.heap.size, 0, none⟩) i i, .bool G] 25)) (own (.slice lo n lc)) [.slice (some ⟨(mw wr.drew).heap.size, 0, none⟩) NN (cp (mw wr.drew)), .slice (some ⟨wr.heap.size, 0, none⟩) i i, .bool G] ⟨KK, List.replicate i 0, G⟩ :=
        ⟨_, _, rfl, (tK2.later A2).at _ (fun ad ha _ hk => by cases ha; exact hout _ (by first | exact Nat.le_refl _ | exact s1 | exact s2) hk), (tV2.later A2).at _ (fun ad ha _ hk => by cases ha; exact hout _ (by first | exact Nat.le_refl _ | exact s1 | exact s2) hk)⟩
      have hC2 := cells3_at (bw (mw wr.drew)) (bw (mw wr.drew)).heap.size rfl (.slice (some ⟨(mw wr.drew).heap.size, 0, none⟩) NN (cp (mw wr.drew))) (.slice (some ⟨wr.heap.size, 0, none⟩) i i) (.bool G)
      have hW2 : w.heap.size ≤ ((bw (mw wr.drew)).alloc (.cells #[.slice (some ⟨(mw wr.drew).heap.size, 0, none⟩) NN (cp (mw wr.drew)), .slice (some ⟨wr.heap.size, 0, none⟩) i i, .bool G] 25)).heap.size := Nat.le_trans hb.size (Nat.le_trans B2.size A2.size)
      have bE2 := (hb.trans (B2.mono hb.size)).trans (A2.mono (Nat.le_trans hb.size B2.size))
      have hb0 : Below w.heap.size w wr.drew := hb.drew
      have hal2 : ∀ (W : World) (o : Obj), Below w.heap.size w W → Below w.heap.size w (W.alloc o) := fun W o h => h.alloc h.size _
      have kbw : ∀ W, Below w.heap.size w W → Below w.heap.size w (bw W) := fun W h => below_tr2 h (hcv W).2.2
      have kmw : ∀ W, Below w.heap.size w W → Below w.heap.size w (mw W) := fun W h => below_tr2 h (hmw W).2.2
      have hacc : acc.length ≤ 1000000000 := by rw [hac.out]; omega
      clear sT hKK
      go_wp2_with fail
      go_region_held_law (fun w' => Below w.heap.size w w') (first | assumption | exact hal2 _ _ (by assumption) | exact kbw _ (by assumption) | exact kmw _ (by assumption)) (
        first
        | (refine step_one RE.stable RE.plain Try.underlying22 Try.info25 rfl (by omega) (by omega) rfl (.tmp 15) (.tmp 32) rfl w.heap.size (.slice lo n lc) acc (by simp [Act.eval]) HL1 ⟨(mw (bw wr.drew)).heap.size, 0, none⟩ 1 [.slice (some ⟨wr.heap.size, 0, none⟩) NN (cp wr.drew), .slice (some ⟨(bw wr.drew).heap.size, 0, none⟩) i i, .bool G] ⟨KK, List.replicate i 0, G⟩ (by simp [Act.eval]) hC1 HR1 hacc hW1 ?_; intro ao5 n5 c5 w5 hn5 hls5 hof5 hsub5; have bW5 := bE1.trans (hof5.below hfarL hW1))
        | (refine step_one RE.stable RE.plain Try.underlying22 Try.info25 rfl (by omega) (by omega) rfl (.tmp 15) (.tmp 32) rfl w.heap.size (.slice lo n lc) acc (by simp [Act.eval]) HL2 ⟨(bw (mw wr.drew)).heap.size, 0, none⟩ 1 [.slice (some ⟨(mw wr.drew).heap.size, 0, none⟩) NN (cp (mw wr.drew)), .slice (some ⟨wr.heap.size, 0, none⟩) i i, .bool G] ⟨KK, List.replicate i 0, G⟩ (by simp [Act.eval]) hC2 HR2 hacc hW2 ?_; intro ao5 n5 c5 w5 hn5 hls5 hof5 hsub5; have bW5 := bE2.trans (hof5.below hfarL hW2)))
      all_goals
        try simp only [List.getElem_toArray, List.getElem_cons_succ, List.getElem_cons_zero, List.setIfInBounds_toArray, List.set_cons_zero, List.set_cons_succ]
        have hn5' := hid_eqT hn5
        clear hn5
        clear HL1 HL2 HR1 HR2 hC1 hC2 hW1 hW2 bE1 bE2 B1 B2 tK1 tK2 tV1 tV2 A1 A2 hcv hmw rcv rmk kbw kmw tk0 tv0 s1 s2 hout hfarL hls hof5 hsub5
        have hsm5 : Hid (Sm (acc ++ [⟨KK, List.replicate i 0, G⟩])) := hsm.out.snoc (by show 1 ≤ KK.length; rw [hKl.out]; omega) (by show KK.length ≤ 12; rw [hKl.out]; omega) (by show (List.replicate i (0 : Int)).length ≤ 20; rw [List.length_replicate]; omega)
        have hal5 : Hid ((acc ++ [(⟨KK, List.replicate i 0, G⟩ : Ent)]).length = i + 1) := by show _ = _; rw [List.length_append, hac.out]; rfl
        have hln5 : Hid (acc.length + 1 = (acc ++ [(⟨KK, List.replicate i 0, G⟩ : Ent)]).length) := by show _ = _; rw [List.length_append]; rfl
        obtain rfl := hn5'.out
        clear hn5' hKl hNN hNN1
        generalize acc ++ [(⟨KK, List.replicate i 0, G⟩ : Ent)] = acc5 at hsm5 hal5 hln5 hls5
        go_wp2
        go_roundw
        case rel => exact ⟨i + 1, acc.length + 1, _, _, acc5, by omega, by go_num, rfl, hln5, hal5, hsm5, hls5, bW5⟩
        case measure => simp [intOf]; omega
    · have hiI : ¬ (i : Int) < 20 := by omega
      obtain rfl : i = 20 := by omega
      obtain rfl : n = 20 := by rw [hn.out, hac.out]
      clear hn hi hi2
      go_wp2
      go_loopw [3] (fun s3 wr => ∃ (i : Nat) (acc : List Ent), i ≤ 20 ∧ s3 = .int .i64 i ∧ Hid (acc.length = 20) ∧ Hid (Sm acc) ∧ Ls 25 3 RE wr w.heap.size (.slice lo 20 lc) acc ∧ Below w.heap.size w wr) (fun s3 _ => 20 - (intOf s3).toNat)
      case atStart => exact ⟨0, acc, by omega, rfl, hac, hsm, hls, hb⟩
      case round =>
        clear hls hb hac hsm acc
        obtain ⟨i, acc, hi, rfl, hac, hsm, hls, hb⟩ := hrel
        by_cases hi2 : i < 20
        · have hiI : (i : Int) < 20 := by omega
          obtain ⟨es1, e, es2, rfl, hil⟩ := mid_split acc i (by rw [hac.out]; exact hi2)
          obtain ⟨g, vv, rfl, y1, y2, z1, hg⟩ := mid_cells hls
          have hnil := ls_val hls
          have hsv := hsm.out.val
          have halv : Hid ((es1 ++ (⟨e.k, [], e.g⟩ : Ent) :: es2).length = 20) := by have := hac.out; show _ = _; rw [← this]; simp
          have e3 : es1.length * 3 + 1 = i * 3 + 1 := by rw [hil]
          have e4 : es1.length * 3 + 2 = i * 3 + 2 := by rw [hil]
          rw [e3] at y1 z1 hnil
          rw [e4] at y2
          clear e3 e4 hil
          have bN := hb.setCell (p := ⟨g, i * 3 + 1, none⟩) hg (.slice none 0 0)
          cases hG : e.g with
          | true =>
            rw [hG] at y2
            generalize es1 ++ (⟨e.k, [], e.g⟩ : Ent) :: es2 = acv at hnil hsv halv
            go_wp2
            go_roundw
            case rel => exact ⟨i + 1, acv, by omega, by go_num, halv, hsv, hnil, bN⟩
            case measure => simp [intOf]; omega
          | false =>
            rw [hG] at y2
            go_wp2
            go_roundw
            case rel => exact ⟨i + 1, _, by omega, by go_num, hac, hsm, hls, hb⟩
            case measure => simp [intOf]; omega
        · have hiI : ¬ (i : Int) < 20 := by omega
          obtain rfl : i = 20 := by omega
          have hx := ls_readN hls
          have hri := rise_any _ _ _ _ _ hx (by omega)
          have hmay := hsm.out.may (by rw [hac.out]; omega) (by rw [hac.out]; omega)
          have hrl : Hid ((riseL acc).length ≤ 20) := by have h1 := rise_len acc; rw [hac.out] at h1; exact h1
          have hrp : Hid (1 ≤ (riseL acc).length) := rise_pos acc (by rw [hac.out]; omega)
          have hsr := hsm.out.rise
          obtain ⟨w2, hw2⟩ : ∃ W, W = wr := ⟨_, rfl⟩
          subst hw2
          clear hls hx hac hsm hi hi2
          generalize riseL acc = m at hri hmay hrl hrp hsr
          have hbl := hsr.block (by have := hrl.out; omega)
          go_wp2_with fail
          with_reducible refine hri.mono ?_
          rintro x W3 ⟨mo, ml, mc, rfl, x3, b3⟩
          clear hri
          have B3 := below_tr2 hb b3
          have hml := x3.len_eq
          have hml1 : 1 ≤ ml := by have := hrp.out; omega
          have hml2 : ml ≤ 20 := by have := hrl.out; omega
          have hrb := rbuild_any _ _ _ _ _ x3 hmay
          generalize blockL m = xs at hrb hbl
          go_wp2_with fail
          with_reducible refine hrb.mono ?_
          rintro x W4 ⟨bo, bl, bc, rfl, g4, b4⟩
          clear hrb
          have B4 := below_tr2 B3 b4
          have t4 := g4.tx
          have x4 := x3.later RE.stable b4
          have hbl2 := t4.len_eq
          have hbl3 : bl ≤ 20000 := by omega
          have hbc := t4.le
          clear g4 hbl hbl2 x3 hrl hrp
          go_wp2
          go_loopw [5] (fun s5 wr => ∃ k : Nat, k ≤ bl + 1 ∧ s5 = .int .i64 k ∧ Below W4.heap.size W4 wr) (fun s5 _ => bl + 1 - (intOf s5).toNat)
          case atStart => exact ⟨0, by omega, rfl, Below.refl _ _⟩
          case round =>
            obtain ⟨k, hk, rfl, hb5⟩ := hrel
            by_cases hk2 : k ≤ bl
            · have hkI : (k : Int) ≤ bl := by omega
              have hkc : (k : Int) ≤ bc := by omega
              have t5 := (t4.later hb5).take k hk2
              go_wp2_with (with_reducible show wpList _ _ _ (⟨some 63, _, _, _, _, _⟩ :: _) _ _; refine wpList_convs rfl _ rfl wr wr.heap.size #[.int .u8 107] [107] 1 rfl rfl rfl rfl rfl (by omega) (by simp) ?_; intro Wk t1 bA; have hrd := reads_any _ _ _ _ _ _ _ _ _ (t5.later bA) t1 (by omega) (by omega))
              with_reducible refine hrd.mono ?_
              rintro x V ⟨rfl, bV⟩
              have bG := below_tr2 hb5 (below_tr2 bA bV)
              go_wp2
              go_roundw
              case rel => exact ⟨k + 1, by omega, by go_num, bG⟩
              case measure => simp [intOf]; omega
            · have hkI : ¬ (k : Int) ≤ bl := by omega
              obtain ⟨W5, hW5⟩ : ∃ W, W = wr := ⟨_, rfl⟩
              subst hW5
              have x5 := x4.later RE.stable hb5
              have t5 := t4.later hb5
              have B5 := below_tr2 B4 hb5
              obtain ⟨lb, loff, rfl, hc⟩ := x5.headE (by omega)
              clear x4 t4
              go_wp2
              go_loopw [6] (fun s6 wr => ∃ k : Nat, k ≤ ml ∧ s6 = .int .i64 k ∧ Below W5.heap.size W5 wr) (fun s6 _ => ml - (intOf s6).toNat)
              case atStart => exact ⟨0, by omega, rfl, Below.refl _ _⟩
              case round =>
                obtain ⟨k, hk, rfl, hb6⟩ := hrel
                by_cases hk2 : k < ml
                · have hkI : (k : Int) < ml := by omega
                  have hx : m[k]? = some (m[k]'(by omega)) := by simp
                  obtain ⟨ko, kl, kc, vo, vl, vc, c0, _, _, tk, _⟩ := hc k _ hx
                  have hse := hsr (m[k]'(by omega)) (List.getElem_mem _)
                  generalize m[k]'(by omega) = e at tk hse
                  have hkl := tk.len_eq
                  have hkl2 : kl ≤ 12 := by omega
                  clear hx hkl hse
                  have c0r := cell_later hb6 c0
                  have tkr := tk.later hb6
                  have hr1 := reads_any _ _ _ _ _ _ _ _ _ (t5.later hb6) tkr (by omega) (by omega)
                  go_wp2_with fail
                  with_reducible refine hr1.mono ?_
                  rintro x V1 ⟨rfl, v1⟩
                  clear hr1
                  have b61 := below_tr2 hb6 v1
                  have bE : Below V1.heap.size V1 (V1.alloc (.cells #[] 5)) := (Below.refl _ _).alloc (Nat.le_refl _) _
                  have d0e : (V1.alloc (.cells #[] 5)).cell? ⟨lb, loff + k * 3, none⟩ = some (.slice ko kl kc) := cell_later bE (cell_later b61 c0)
                  have g0 := own_empty2 V1
                  have tk1 := (tkr.later v1).later bE
                  have t51 := t5.later b61
                  go_wp2_with (first
                    | (with_reducible show wpList _ _ _ (⟨some 88, _, _, _, _, _⟩ :: _) _ _; refine wpList_unguard (by first | rfl | kernel_rfl | simp [Region.wanted, yielded]) ?_; refine wpList_gr rfl _ _ rfl V1.heap.size (some ⟨V1.heap.size, 0, none⟩) 0 0 [] rfl g0 ko kl kc e.k rfl tk1 (by omega) ?_; intro a1 n1 c1 V4 hn1 g1 m1; have q1 : n1 ≤ 12 := (by have := hn1.out; omega); have t41 := tx_one V4 0 (by omega); have g1a := g1.alloc (.cells #[.int .u8 0] 5); clear hn1)
                    | (with_reducible show wpList _ _ _ (⟨some 90, _, _, _, _, _⟩ :: _) _ _; refine wpList_unguard (by first | rfl | kernel_rfl | simp [Region.wanted, yielded]) ?_; refine wpList_gr rfl _ _ rfl V1.heap.size a1 n1 c1 _ rfl g1a (some ⟨V4.heap.size, 0, none⟩) 1 1 [0] rfl t41 (by omega) ?_; intro a2 n2 c2 V5 hn2 g2 m2; have q2 : n2 ≤ 13 := (by have := hn2.out; omega); clear hn2; have bG : Below V1.heap.size V1 V5 := ((bE.trans (m1.below g0)).trans (((Below.refl V4.heap.size V4).alloc (Nat.le_refl _) _).mono g1.hB)).trans (m2.below g1a); have hr2 := reads_any _ _ _ _ _ _ _ _ _ (t51.later bG) g2.tx (by omega) (by omega))
                    | (go_at_call 11; with_reducible refine hr2.mono ?_; rintro e' V6 ⟨rfl, bV6⟩))
                  have bR := below_tr2 (below_tr2 b61 bG) bV6
                  go_wp2
                  go_roundw
                  case rel => exact ⟨k + 1, by omega, by go_num, bR⟩
                  case measure => simp [intOf]; omega
                · have hkI : ¬ (k : Int) < ml := by omega
                  obtain ⟨W6, hW6⟩ : ∃ W, W = wr := ⟨_, rfl⟩
                  subst hW6
                  have x6 := x5.later RE.stable hb6
                  have B6 := below_tr2 B5 hb6
                  clear x5 t5 hc hk hk2 hb6
                  go_wp2
                  go_loopw [7, 8] (fun s7 s8 wr => ∃ (i n : Nat) (ao : Option Addr) (ac : Nat) (acc : List Ent), i ≤ 256 ∧ s8 = .int .i64 i ∧ s7 = .slice ao n ac ∧ Hid (n = acc.length) ∧ Hid (acc.length = i) ∧ Hid (Kl acc) ∧ Ls 25 3 RE wr W6.heap.size (.slice ao n ac) acc ∧ Below W6.heap.size W6 wr) (fun _ s8 _ => 256 - (intOf s8).toNat)
                  case atStart => exact ⟨0, 0, none, 0, [], by omega, rfl, rfl, rfl, rfl, Kl.nil, Ls.nil _ _ _ _ _, Below.refl _ _⟩
                  case round =>
                    obtain ⟨i, n, ao, ac, acc, hi, rfl, rfl, hn, hac, hkl, hls, hb⟩ := hrel
                    by_cases hi2 : i < 256
                    · have hiI : (i : Int) < 256 := by omega
                      have hw8 : IntKind.u8.wrap (i : Int) = i := by rw [IntKind.wrap_u8]; omega
                      have ta := tx_one wr i (by omega)
                      have hX : Below wr.heap.size wr (wr.alloc (.cells #[.int .u8 i] 5)) := (Below.refl _ _).alloc (Nat.le_refl _) _
                      have HL := ls_ent hls hX (.cells #[.slice (some ⟨wr.heap.size, 0, none⟩) 1 1, .slice none 0 0, .bool false] 25)
                      have HR := re_ent (e := ⟨[(i : Int)], [], false⟩) (G := false) hls rfl ta (Tx.nil _) (fun ad ha _ => .inr (by cases ha; exact Nat.le_refl _)) (fun ad ha _ => by cases ha) (.cells #[.slice (some ⟨wr.heap.size, 0, none⟩) 1 1, .slice none 0 0, .bool false] 25)
                      have hm8 : acc.length ≤ 1000000000 := by rw [hac.out]; omega
                      have hw8b := size_ent (.cells #[.slice (some ⟨wr.heap.size, 0, none⟩) 1 1, .slice none 0 0, .bool false] 25) hb hX
                      have hC := cells3_at (wr.alloc (.cells #[.int .u8 i] 5)) (wr.heap.size + 1) (by simp) (.slice (some ⟨wr.heap.size, 0, none⟩) 1 1) (.slice none 0 0) (.bool false)
                      have hk5 : Hid (Kl (acc ++ [⟨[(i : Int)], [], false⟩])) := hkl.out.snoc (show 1 ≤ 12 by omega)
                      have hal5 : Hid ((acc ++ [(⟨[(i : Int)], [], false⟩ : Ent)]).length = i + 1) := by show _ = _; rw [List.length_append, hac.out]; rfl
                      clear ta
                      go_wp2_with (with_reducible show wpList _ _ _ (⟨some 104, _, _, _, _, _⟩ :: _) _ _; refine wpList_one RE.stable RE.plain Try.underlying22 Try.info25 rfl (by omega) (by omega) rfl _ _ rfl W6.heap.size (.slice ao n ac) acc rfl HL ⟨wr.heap.size + 1, 0, none⟩ 1 [.slice (some ⟨wr.heap.size, 0, none⟩) 1 1, .slice none 0 0, .bool false] _ rfl hC HR hm8 hw8b ?_; intro ao5 n5 c5 w5 hn5 hls5 hof5 hsub5; have hn6 := hid_eqT hn5; clear hn5; have b5 := below_ent hls hb hX hof5; clear HL HR hC hw8b)
                      go_roundw
                      case rel => exact ⟨i + 1, n5, ao5, c5, _, by omega, by go_num, rfl, by show _ = _; rw [hn6.out, List.length_append]; rfl, hal5, hk5, hls5, b5⟩
                      case measure => simp [intOf]; omega
                    · have hiI : ¬ (i : Int) < 256 := by omega
                      obtain rfl : i = 256 := by omega
                      obtain rfl : n = 256 := by rw [hn.out, hac.out]
                      obtain ⟨W7, hW7⟩ : ∃ W, W = wr := ⟨_, rfl⟩
                      subst hW7
                      have y7 := ls_readN hls
                      have hyl := y7.le
                      have x7 := x6.later RE.stable hb
                      have B7 := below_tr2 B6 hb
                      have hky := hkl
                      clear x6 hls hn hac hkl hb hi hi2
                      go_wp2
                      go_loopw [9, 10] (fun s9 s10 wr => ∃ (i n : Nat) (bo : Option Addr) (bc : Nat) (bcc : List Ent), i ≤ 20 ∧ s10 = .int .i64 i ∧ s9 = .slice bo n bc ∧ Hid (n = bcc.length) ∧ Hid (bcc.length = i) ∧ Hid (Kl bcc) ∧ Ls 25 3 RE wr W7.heap.size (.slice bo n bc) bcc ∧ Below W7.heap.size W7 wr) (fun _ s10 _ => 20 - (intOf s10).toNat)
                      case atStart => exact ⟨0, 0, none, 0, [], by omega, rfl, rfl, rfl, rfl, Kl.nil, Ls.nil _ _ _ _ _, Below.refl _ _⟩
                      case round =>
                        obtain ⟨i, n, bo, bc, bcc, hi, rfl, rfl, hn, hac, hkl, hls, hb⟩ := hrel
                        by_cases hi2 : i < 20
                        · have hiI : (i : Int) < 20 := by omega
                          have hw8 : IntKind.u8.wrap (i : Int) = i := by rw [IntKind.wrap_u8]; omega
                          have ta := tx_one wr i (by omega)
                          have hX0 : Below wr.heap.size wr (wr.alloc (.cells #[.int .u8 i] 5)) := (Below.refl _ _).alloc (Nat.le_refl _) _
                          have hz : (wr.alloc (.cells #[.int .u8 i] 5)).heap.size = wr.heap.size + 1 := by simp
                          have hm8 : bcc.length ≤ 1000000000 := by rw [hac.out]; omega
                          have hk5 : Hid (Kl (bcc ++ [⟨[(i : Int)], zerosN 4095, false⟩])) := hkl.out.snoc (show 1 ≤ 12 by omega)
                          have hal5 : Hid ((bcc ++ [(⟨[(i : Int)], zerosN 4095, false⟩ : Ent)]).length = i + 1) := by show _ = _; rw [List.length_append, hac.out]; rfl
                          go_wp2_with (first
                            | (with_reducible show wpList _ _ _ (⟨some 113, _, _, _, _, _⟩ :: _) _ _; refine wpList_zeros (wr.alloc (.cells #[.int .u8 i] 5)) rfl _ _ rfl .i64 .i64 4095 4095 4095 rfl rfl rfl rfl (by omega) ?_; intro V tv bv; have hX := below_tr2 hX0 bv; have hge : wr.heap.size ≤ wr.heap.size + 1 := Nat.le_succ _; rw [hz] at tv; have HL := ls_ent hls hX (.cells #[.slice (some ⟨wr.heap.size, 0, none⟩) 1 1, .slice (some ⟨wr.heap.size + 1, 0, none⟩) 4095 4095, .bool false] 25); have HR := re_ent (e := ⟨[(i : Int)], zerosN 4095, false⟩) (G := false) hls rfl (ta.later bv) tv (fun ad ha _ => .inr (by cases ha; exact Nat.le_refl _)) (fun ad ha _ => .inr (by cases ha; exact hge)) (.cells #[.slice (some ⟨wr.heap.size, 0, none⟩) 1 1, .slice (some ⟨wr.heap.size + 1, 0, none⟩) 4095 4095, .bool false] 25); have hw8b := size_ent (.cells #[.slice (some ⟨wr.heap.size, 0, none⟩) 1 1, .slice (some ⟨wr.heap.size + 1, 0, none⟩) 4095 4095, .bool false] 25) hb hX; have hC := cells3_at V V.heap.size rfl (.slice (some ⟨wr.heap.size, 0, none⟩) 1 1) (.slice (some ⟨wr.heap.size + 1, 0, none⟩) 4095 4095) (.bool false))
                            | (with_reducible show wpList _ _ _ (⟨some 116, _, _, _, _, _⟩ :: _) _ _; refine wpList_one RE.stable RE.plain Try.underlying22 Try.info25 rfl (by omega) (by omega) rfl _ _ rfl W7.heap.size (.slice bo n bc) bcc rfl HL ⟨V.heap.size, 0, none⟩ 1 [.slice (some ⟨wr.heap.size, 0, none⟩) 1 1, .slice (some ⟨wr.heap.size + 1, 0, none⟩) 4095 4095, .bool false] _ rfl hC HR hm8 hw8b ?_; intro ao5 n5 c5 w5 hn5 hls5 hof5 hsub5; have hn6 := hid_eqT hn5; clear hn5; have b5 := below_ent hls hb hX hof5; clear HL HR hC hw8b))
                          go_roundw
                          case rel => exact ⟨i + 1, n5, ao5, c5, _, by omega, by go_num, rfl, by show _ = _; rw [hn6.out, List.length_append]; rfl, hal5, hk5, hls5, b5⟩
                          case measure => simp [intOf]; omega
                        · have hiI : ¬ (i : Int) < 20 := by omega
                          obtain rfl : i = 20 := by omega
                          obtain rfl : n = 20 := by rw [hn.out, hac.out]
                          obtain ⟨W8, hW8⟩ : ∃ W, W = wr := ⟨_, rfl⟩
                          subst hW8
                          have z8 := ls_readN hls
                          have hzl := z8.le
                          have x8 := x7.later RE.stable hb
                          have y8 := y7.later RE.stable hb
                          have B8 := below_tr2 B7 hb
                          clear x7 y7 hls hn hac hb hi hi2
                          have hyl2 : (255 : Int) ≤ ac := by omega
                          have hzl2 : (16 : Int) ≤ bc := by omega
                          have b0 : Below W8.heap.size W8 W8.drew := (Below.refl _ _).drew
                          have hal : ∀ (W : World) (o : Obj), Below W8.heap.size W8 W → Below W8.heap.size W8 (W.alloc o) := fun W o h => h.alloc h.size _
                          obtain ⟨mA, hmA⟩ := make_fn 256 (by omega)
                          obtain ⟨mB, hmB⟩ := make_fn 255 (by omega)
                          obtain ⟨mC, hmC⟩ := make_fn 4096 (by omega)
                          have rA : ∀ W, (Instr.makeSlice 23 (.int .i64 256) (.int .i64 256)).run Try.prog W = .ok (.slice (some ⟨W.heap.size, 0, none⟩) 256 256) (mA W) := fun W => (hmA W).1
                          have rB : ∀ W, (Instr.makeSlice 23 (.int .i64 255) (.int .i64 255)).run Try.prog W = .ok (.slice (some ⟨W.heap.size, 0, none⟩) 255 255) (mB W) := fun W => (hmB W).1
                          have rC : ∀ W, (Instr.makeSlice 23 (.int .i64 4096) (.int .i64 4096)).run Try.prog W = .ok (.slice (some ⟨W.heap.size, 0, none⟩) 4096 4096) (mC W) := fun W => (hmC W).1
                          have kA : ∀ W, Below W8.heap.size W8 W → Below W8.heap.size W8 (mA W) := fun W h => below_tr2 h (hmA W).2.2
                          have kB : ∀ W, Below W8.heap.size W8 W → Below W8.heap.size W8 (mB W) := fun W h => below_tr2 h (hmB W).2.2
                          have kC : ∀ W, Below W8.heap.size W8 W → Below W8.heap.size W8 (mC W) := fun W h => below_tr2 h (hmC W).2.2
                          have q1 : ∀ W, Below W8.heap.size W8 W → Calls Try.prog 12 #[.slice (some ⟨lb, loff, none⟩) ml mc] W fun x W' => x = .returned (.bool true) ∧ Below W8.heap.size W8 W' := fun W h =>
                            (builds_any _ _ _ _ _ (x8.later RE.stable h) (fun e he => by have := hsr e he; omega)).mono fun x W' ⟨h1, h2⟩ => ⟨h1, below_tr2 h h2⟩
                          have q2 : ∀ W, Below W8.heap.size W8 W → Calls Try.prog 12 #[.slice ao 256 ac] W fun x W' => x = .returned (.bool true) ∧ Below W8.heap.size W8 W' := fun W h =>
                            (builds_any _ _ _ _ _ (y8.later RE.stable h) hky.out.keys).mono fun x W' ⟨h1, h2⟩ => ⟨h1, below_tr2 h h2⟩
                          have q3 : ∀ W, Below W8.heap.size W8 W → Calls Try.prog 12 #[.slice ao 255 ac] W fun x W' => x = .returned (.bool true) ∧ Below W8.heap.size W8 W' := fun W h =>
                            (builds_any _ _ _ _ _ ((y8.later RE.stable h).take 255 (by omega)) (hky.out.take 255)).mono fun x W' ⟨h1, h2⟩ => ⟨h1, below_tr2 h h2⟩
                          have q4 : ∀ W, Below W8.heap.size W8 W → Calls Try.prog 12 #[.slice bo 20 bc] W fun x W' => x = .returned (.bool true) ∧ Below W8.heap.size W8 W' := fun W h =>
                            (builds_any _ _ _ _ _ (z8.later RE.stable h) hkl.out.keys).mono fun x W' ⟨h1, h2⟩ => ⟨h1, below_tr2 h h2⟩
                          have q5 : ∀ W, Below W8.heap.size W8 W → Calls Try.prog 12 #[.slice bo 16 bc] W fun x W' => x = .returned (.bool true) ∧ Below W8.heap.size W8 W' := fun W h =>
                            (builds_any _ _ _ _ _ ((z8.later RE.stable h).take 16 (by omega)) (hkl.out.take 16)).mono fun x W' ⟨h1, h2⟩ => ⟨h1, below_tr2 h h2⟩
                          have q6 : ∀ W, Below W8.heap.size W8 W → Calls Try.prog 12 #[.slice (some ⟨W.heap.size, 0, none⟩) 1 1] (W.alloc (.cells #[.slice none 0 0, .slice none 0 0, .bool false] 25)) fun x W' => x = .returned (.bool true) ∧ Below W8.heap.size W8 W' := fun W h => build1 h (Tx.nil _) (Tx.nil _) (show 0 ≤ 4096 by omega)
                          have q7 : ∀ W, Below W8.heap.size W8 W → Calls Try.prog 12 #[.slice (some ⟨(mA W).heap.size, 0, none⟩) 1 1] ((mA W).alloc (.cells #[.slice (some ⟨W.heap.size, 0, none⟩) 256 256, .slice none 0 0, .bool false] 25)) fun x W' => x = .returned (.bool true) ∧ Below W8.heap.size W8 W' := fun W h => build1 (kA W h) (hmA W).2.1 (Tx.nil _) (by rw [List.length_replicate]; omega)
                          have q8 : ∀ W, Below W8.heap.size W8 W → Calls Try.prog 12 #[.slice (some ⟨(mC (mB W)).heap.size, 0, none⟩) 1 1] ((mC (mB W)).alloc (.cells #[.slice (some ⟨W.heap.size, 0, none⟩) 255 255, .slice (some ⟨(mB W).heap.size, 0, none⟩) 4096 4096, .bool false] 25)) fun x W' => x = .returned (.bool true) ∧ Below W8.heap.size W8 W' := fun W h => build1 (kC _ (kB W h)) ((hmB W).2.1.later (hmC (mB W)).2.2) (hmC (mB W)).2.1 (by rw [List.length_replicate]; omega)
                          have q9 : ∀ W, Below W8.heap.size W8 W → Calls Try.prog 12 #[.slice (some ⟨(mB (mC W)).heap.size, 0, none⟩) 1 1] ((mB (mC W)).alloc (.cells #[.slice (some ⟨(mC W).heap.size, 0, none⟩) 255 255, .slice (some ⟨W.heap.size, 0, none⟩) 4096 4096, .bool false] 25)) fun x W' => x = .returned (.bool true) ∧ Below W8.heap.size W8 W' := fun W h => build1 (kB _ (kC W h)) (hmB (mC W)).2.1 ((hmC W).2.1.later (hmB (mC W)).2.2) (by rw [List.length_replicate]; omega)
                          have qx : ∀ W, Below W8.heap.size W8 W → ∀ a b : Int, 0 ≤ a ∧ a ≤ 255 → 0 ≤ b ∧ b ≤ 255 → Calls Try.prog 12 #[.slice (some ⟨W.heap.size + 2, 0, none⟩) 2 2] (((W.alloc (.cells #[.int .u8 a] 5 (1, 2))).alloc (.cells #[.int .u8 b] 5 (1, 2))).alloc (.cells #[.slice (some ⟨W.heap.size, 0, none⟩) 1 1, .slice none 0 0, .bool false, .slice (some ⟨W.heap.size + 1, 0, none⟩) 1 1, .slice none 0 0, .bool false] 25)) fun x W' => x = .returned (.bool true) ∧ Below W8.heap.size W8 W' := fun W h a b ha hb => build2 h ha hb
                          have qy : ∀ W, Below W8.heap.size W8 W → ∀ a b : Int, 0 ≤ a ∧ a ≤ 255 → 0 ≤ b ∧ b ≤ 255 → Calls Try.prog 12 #[.slice (some ⟨W.heap.size + 2, 0, none⟩) 2 2] (((W.alloc (.cells #[.int .u8 a] 5 (1, 2))).alloc (.cells #[.int .u8 b] 5 (1, 2))).alloc (.cells #[.slice (some ⟨W.heap.size + 1, 0, none⟩) 1 1, .slice none 0 0, .bool false, .slice (some ⟨W.heap.size, 0, none⟩) 1 1, .slice none 0 0, .bool false] 25)) fun x W' => x = .returned (.bool true) ∧ Below W8.heap.size W8 W' := fun W h a b ha hb => build2s h ha hb
                          have qk : ∀ W, Below W8.heap.size W8 W → Calls Try.prog 13 #[] W fun x W' => x = .returned (.bool true) ∧ Below W8.heap.size W8 W' := fun W h =>
                            (known_any W).mono fun x W' ⟨h1, h2⟩ => ⟨h1, below_tr2 h h2⟩
                          have F1 := conv_f1
                          have F2 := conv_f2
                          have F3 := conv_f3
                          clear x8 y8 z8 hky hkl hsr hmA hmB hmC hmay hml hml1 hml2
                          go_wp2_with fail
                          refine Code.wp_mono (Q := Fin33 W8) ?hpost ?hreg
                          case hpost =>
                            intro e a w' h
                            cases e <;> try exact False.elim h
                            obtain ⟨us, rfl, hB⟩ := h
                            go_wp2
                            go_ret
                            exact ⟨rfl, below_tr2 B8 hB⟩
                          exact region33 W8 mA mB mC lb loff ml mc ao bo ac bc hyl2 hzl2 rA rB rC kA kB kC q1 q2 q3 q4 q5 q6 q7 q8 q9 qx qy qk hal _ _ _ _ _ _ _ _ _ _ _ _ _ _ _ _ _ _ _ _ _ _ _ _ _ _ _ _ _ _ _ _ _ _ _ _ _ _ _ _ _ _ _ _ _ _ _ _ _ _ _ _ _ _ _ _ _ _ _ _ _ _ _ _ _ _ _ _ _ _ _ _ _ _ _ _ _ _ _ _ _ _ _ _ _ _ _ _ _ _ _ _ _ _ _ _ _ _ _ _ _ _ _ _ _ _ _ _ _ _ _ _ _ _ _ _ _ _ _ _ _ _ _ _ _ _ _ _ _ _ _ _ _ _ _ _ _ _ _ _ _ _ _ _ _ _ _ _ _ _ _ _ _ _ _ _ _ _ _ _ _ _ _ _ _ _ _ _ _ _ _ _ _ _ _
end Go.Proofs.Yteeemfohehpaeaa
