/- The walk of TableNumbers. -/
import Derived.Test.YteeemfohehpaeaaTNumA
import Derived.Test.YteeemfohehpaeaaTWb
import Derived.Test.YteeemfohehpaeaaTRanges
namespace Go.Proofs.Yteeemfohehpaeaa
set_option maxRecDepth 100000
open Go.RowKit Go.Sort

theorem tbuild_no (ao : Option Addr) (len cap : Nat) (m : List Ent) (w : World) (h : Lx 3 RE w ao len cap m) (hs : ∀ e ∈ m, e.k.length ≤ 1000000000000) (hm : mayB 65535 m = false) :
    Calls Try.prog 17 #[.slice ao len cap] w fun e w' => e = .returned (.tuple #[.slice none 0 0, .int .i64 1]) ∧ Below w.heap.size w w' := by
  refine (tbuild_any ao len cap m w h hs).mono ?_
  rintro e w' (⟨h1, _⟩ | ⟨_, h2, h3⟩)
  · rw [hm] at h1; cases h1
  · exact ⟨h2, h3⟩
theorem lT_drawn (n : Nat) (hn : n ≤ 40) : Drawn 255 (lT n) := by
  have hm : ∀ e ∈ lT n, ∃ q, e = entT q := fun e he => by
    obtain ⟨q, _, rfl⟩ := List.mem_map.1 he
    exact ⟨q, rfl⟩
  refine ⟨by rw [lT_len]; omega, lT_ok n hn, fun e he => ?_, fun e he => ?_⟩
  · obtain ⟨q, rfl⟩ := hm e he
    refine ⟨Nat.le_add_left 1 2, show 3 ≤ 12 by omega, ?_⟩
    show (if q % 7 = 3 then ([] : List Int) else List.replicate (q % 4) 0).length ≤ 20
    split
    · simp
    · rw [List.length_replicate]; omega
  · obtain ⟨q, rfl⟩ := hm e he
    by_cases h : q % 7 = 3 <;> simp [entT, norm, h]
set_option maxHeartbeats 40000000 in
theorem tnumbers_walk (w : World) : Calls Try.prog 5 #[] w fun e w' => e = .returned (.bool true) ∧ Below w.heap.size w w' := by
  go_enter Try.func5, Try.ntmps5
  go_wp2
  go_loopw [1, 2] (fun s1 s2 wr => ∃ (i n : Nat) (lo : Option Addr) (lc : Nat), i ≤ 40 ∧ s2 = .int .i64 i ∧ s1 = .slice lo n lc ∧ Hid (n = i) ∧ Ls 25 3 RE wr w.heap.size (.slice lo n lc) (lT i) ∧ Below w.heap.size w wr) (fun _ s2 _ => 40 - (intOf s2).toNat)
  case atStart => exact ⟨0, 0, none, 0, by omega, rfl, rfl, rfl, Ls.nil _ _ _ _ _, Below.refl _ _⟩
  case round =>
    obtain ⟨i, n, lo, lc, hi, rfl, rfl, hn, hls, hb⟩ := hrel
    by_cases hi2 : i < 40
    · have hiI : (i : Int) < 40 := by omega
      have b0 : Below wr.heap.size wr wr.drew := (Below.refl _ _).drew
      have hal : ∀ (W : World) (o : Obj), Below wr.heap.size wr W → Below wr.heap.size wr (W.alloc o) := fun W o h => h.alloc h.size _
      obtain ⟨D, hD⟩ : ∃ D, Hid (i / 10 = D) := ⟨_, rfl⟩
      obtain ⟨R, hR⟩ : ∃ R, Hid (i % 10 = R) := ⟨_, rfl⟩
      obtain ⟨M, hM⟩ : ∃ M, Hid (i % 4 = M) := ⟨_, rfl⟩
      obtain ⟨Z, hZ⟩ : ∃ Z, Hid (i % 7 = Z) := ⟨_, rfl⟩
      have eD := hD.out
      have eR := hR.out
      have eM := hM.out
      have eZ := hZ.out
      have hw1 : IntKind.i64.wrap ((i : Int) / 10) = (D : Int) := by rw [IntKind.wrap_i64]; omega
      have hw2 : IntKind.i64.wrap ((D : Int) + 1) = (D : Int) + 1 := by rw [IntKind.wrap_i64]; omega
      have ht1 : (i : Int).tmod 10 = (R : Int) := by rw [Int.tmod_eq_emod_of_nonneg (by omega)]; omega
      have hw3 : IntKind.i64.wrap ((R : Int) + 1) = (R : Int) + 1 := by rw [IntKind.wrap_i64]; omega
      have ht4 : (i : Int).tmod 4 = (M : Int) := by rw [Int.tmod_eq_emod_of_nonneg (by omega)]; omega
      have ht7 : (i : Int).tmod 7 = (Z : Int) := by rw [Int.tmod_eq_emod_of_nonneg (by omega)]; omega
      have h10 : D < 10 := by omega
      have h11 : R < 10 := by omega
      have hM4 : M ≤ 3 := by omega
      have sT : (({ data := #[107] } : ByteArray) ++ ({ data := #[97, 98, 99, 100, 101, 102, 103, 104, 105, 106] } : ByteArray).extract D (D + 1) ++ ({ data := #[97, 98, 99, 100, 101, 102, 103, 104, 105, 106] } : ByteArray).extract R (R + 1)).size = 3 := by rw [ByteArray.size_append, ByteArray.size_append, size_cut _ h10, size_cut _ h11]; rfl
      have nT : numsOf (({ data := #[107] } : ByteArray) ++ ({ data := #[97, 98, 99, 100, 101, 102, 103, 104, 105, 106] } : ByteArray).extract D (D + 1) ++ ({ data := #[97, 98, 99, 100, 101, 102, 103, 104, 105, 106] } : ByteArray).extract R (R + 1)) = keyT i := by rw [nums_app, nums_app, nums_cut _ h10, nums_cut _ h11]; unfold keyT; rw [eD, eR]; rfl
      clear eD eR eM eZ
      obtain ⟨G, hG⟩ : ∃ G, ((Z : Int) == 3) = G := ⟨_, rfl⟩
      obtain ⟨cp, bw, hcv⟩ := conv_fn (({ data := #[107] } : ByteArray) ++ ({ data := #[97, 98, 99, 100, 101, 102, 103, 104, 105, 106] } : ByteArray).extract D (D + 1) ++ ({ data := #[97, 98, 99, 100, 101, 102, 103, 104, 105, 106] } : ByteArray).extract R (R + 1)) (by rw [sT]; omega) 3 sT (keyT i) nT
      obtain ⟨mw, hmw⟩ := make_fn M (by omega)
      have rcv := fun W => (hcv W).1
      have rmk := fun W => (hmw W).1
      have s1 : wr.heap.size ≤ (bw wr.drew).heap.size := (hcv wr.drew).2.2.size
      have s2 : wr.heap.size ≤ (mw wr.drew).heap.size := (hmw wr.drew).2.2.size
      have hout : ∀ k, wr.heap.size ≤ k → k ∉ own (.slice lo n lc) := fun k hk hm => by have := (hls.lt k hm).1; omega
      have tk0 : Tx (bw wr.drew) (some ⟨wr.heap.size, 0, none⟩) 3 (cp wr.drew) (keyT i) := (hcv wr.drew).2.1
      have tv0 : Tx (mw wr.drew) (some ⟨wr.heap.size, 0, none⟩) M M (List.replicate M 0) := (hmw wr.drew).2.1
      have hfarL : ∀ k ∈ own (.slice lo n lc), w.heap.size ≤ k := fun k hk => (hls.lt k hk).2
      have B1 : Below wr.heap.size wr (mw (bw wr.drew)) := b0.trans (((hcv wr.drew).2.2.mono b0.size).trans ((hmw (bw wr.drew)).2.2.mono (Nat.le_trans b0.size (hcv wr.drew).2.2.size)))
      have tK1 : Tx (mw (bw wr.drew)) (some ⟨wr.heap.size, 0, none⟩) 3 (cp wr.drew) (keyT i) := tk0.later (hmw (bw wr.drew)).2.2
      have tV1 : Tx (mw (bw wr.drew)) (some ⟨(bw wr.drew).heap.size, 0, none⟩) M M (List.replicate M 0) := (hmw (bw wr.drew)).2.1
      have A1 : Below (mw (bw wr.drew)).heap.size (mw (bw wr.drew)) ((mw (bw wr.drew)).alloc (.cells #[.slice (some ⟨wr.heap.size, 0, none⟩) 3 (cp wr.drew), .slice (some ⟨(bw wr.drew).heap.size, 0, none⟩) M M, .bool G] 25)) := (Below.refl _ _).alloc (Nat.le_refl _) _
      have HL1 := (hls.later RE.stable B1).later RE.stable A1
      have HR1 : RE ((mw (bw wr.drew)).alloc (.cells #[.slice (some ⟨wr.heap.size, 0, none⟩) 3 (cp wr.drew), .slice (some ⟨(bw wr.drew).heap.size, 0, none⟩) M M, .bool G] 25)) (own (.slice lo n lc)) [.slice (some ⟨wr.heap.size, 0, none⟩) 3 (cp wr.drew), .slice (some ⟨(bw wr.drew).heap.size, 0, none⟩) M M, .bool G] ⟨keyT i, List.replicate M 0, G⟩ :=
        ⟨_, _, rfl, (tK1.later A1).at _ (fun ad ha _ hk => by cases ha; exact hout _ (by first | exact Nat.le_refl _ | exact s1 | exact s2) hk), (tV1.later A1).at _ (fun ad ha _ hk => by cases ha; exact hout _ (by first | exact Nat.le_refl _ | exact s1 | exact s2) hk)⟩
      have hC1 := cells3_at (mw (bw wr.drew)) (mw (bw wr.drew)).heap.size rfl (.slice (some ⟨wr.heap.size, 0, none⟩) 3 (cp wr.drew)) (.slice (some ⟨(bw wr.drew).heap.size, 0, none⟩) M M) (.bool G)
      have hW1 : w.heap.size ≤ ((mw (bw wr.drew)).alloc (.cells #[.slice (some ⟨wr.heap.size, 0, none⟩) 3 (cp wr.drew), .slice (some ⟨(bw wr.drew).heap.size, 0, none⟩) M M, .bool G] 25)).heap.size := Nat.le_trans hb.size (Nat.le_trans B1.size A1.size)
      have bE1 := (hb.trans (B1.mono hb.size)).trans (A1.mono (Nat.le_trans hb.size B1.size))
      have B2 : Below wr.heap.size wr (bw (mw wr.drew)) := b0.trans (((hmw wr.drew).2.2.mono b0.size).trans ((hcv (mw wr.drew)).2.2.mono (Nat.le_trans b0.size (hmw wr.drew).2.2.size)))
      have tK2 : Tx (bw (mw wr.drew)) (some ⟨(mw wr.drew).heap.size, 0, none⟩) 3 (cp (mw wr.drew)) (keyT i) := (hcv (mw wr.drew)).2.1
      have tV2 : Tx (bw (mw wr.drew)) (some ⟨wr.heap.size, 0, none⟩) M M (List.replicate M 0) := tv0.later (hcv (mw wr.drew)).2.2
      have A2 : Below (bw (mw wr.drew)).heap.size (bw (mw wr.drew)) ((bw (mw wr.drew)).alloc (.cells #[.slice (some ⟨(mw wr.drew).heap.size, 0, none⟩) 3 (cp (mw wr.drew)), .slice (some ⟨wr.heap.size, 0, none⟩) M M, .bool G] 25)) := (Below.refl _ _).alloc (Nat.le_refl _) _
      have HL2 := (hls.later RE.stable B2).later RE.stable A2
      have HR2 : RE ((bw (mw wr.drew)).alloc (.cells #[.slice (some ⟨(mw wr.drew).heap.size, 0, none⟩) 3 (cp (mw wr.drew)), .slice (some ⟨wr.heap.size, 0, none⟩) M M, .bool G] 25)) (own (.slice lo n lc)) [.slice (some ⟨(mw wr.drew).heap.size, 0, none⟩) 3 (cp (mw wr.drew)), .slice (some ⟨wr.heap.size, 0, none⟩) M M, .bool G] ⟨keyT i, List.replicate M 0, G⟩ :=
        ⟨_, _, rfl, (tK2.later A2).at _ (fun ad ha _ hk => by cases ha; exact hout _ (by first | exact Nat.le_refl _ | exact s1 | exact s2) hk), (tV2.later A2).at _ (fun ad ha _ hk => by cases ha; exact hout _ (by first | exact Nat.le_refl _ | exact s1 | exact s2) hk)⟩
      have hC2 := cells3_at (bw (mw wr.drew)) (bw (mw wr.drew)).heap.size rfl (.slice (some ⟨(mw wr.drew).heap.size, 0, none⟩) 3 (cp (mw wr.drew))) (.slice (some ⟨wr.heap.size, 0, none⟩) M M) (.bool G)
      have hW2 : w.heap.size ≤ ((bw (mw wr.drew)).alloc (.cells #[.slice (some ⟨(mw wr.drew).heap.size, 0, none⟩) 3 (cp (mw wr.drew)), .slice (some ⟨wr.heap.size, 0, none⟩) M M, .bool G] 25)).heap.size := Nat.le_trans hb.size (Nat.le_trans B2.size A2.size)
      have bE2 := (hb.trans (B2.mono hb.size)).trans (A2.mono (Nat.le_trans hb.size B2.size))
      have hb0 : Below w.heap.size w wr.drew := hb.drew
      have hal2 : ∀ (W : World) (o : Obj), Below w.heap.size w W → Below w.heap.size w (W.alloc o) := fun W o h => h.alloc h.size _
      have kbw : ∀ W, Below w.heap.size w W → Below w.heap.size w (bw W) := fun W h => below_tr2 h (hcv W).2.2
      have kmw : ∀ W, Below w.heap.size w W → Below w.heap.size w (mw W) := fun W h => below_tr2 h (hmw W).2.2
      have haccl : Hid ((lT i).length = i) := lT_len i
      have hGt : G = true → Hid (lT (i + 1) = lT i ++ [⟨keyT i, [], true⟩]) := fun h => by
        show _ = _
        have h7 : i % 7 = 3 := by have h2 := hZ.out; rw [h] at hG; simp at hG; omega
        rw [lT_succ, entT, if_pos h7, decide_eq_true h7]
      have hGf : G = false → Hid (lT (i + 1) = lT i ++ [⟨keyT i, List.replicate M 0, false⟩]) := fun h => by
        show _ = _
        have h7 : ¬ i % 7 = 3 := by have h2 := hZ.out; rw [h] at hG; simp at hG; omega
        rw [lT_succ, entT, if_neg h7, decide_eq_false h7, hM.out]
      have hacc : (lT i).length ≤ 1000000000 := by unfold lT; rw [List.length_map, List.length_range]; omega
      generalize lT i = acc at *
      clear nT sT
      go_wp2_with fail
      go_region_held_law (fun w' => Below w.heap.size w w') (first | assumption | exact hal2 _ _ (by assumption) | exact kbw _ (by assumption) | exact kmw _ (by assumption)) (
        first
        | (refine step_one RE.stable RE.plain Try.underlying22 Try.info25 rfl (by omega) (by omega) rfl (.tmp 16) (.tmp 39) rfl w.heap.size (.slice lo n lc) acc (by simp [Act.eval]) HL1 ⟨(mw (bw wr.drew)).heap.size, 0, none⟩ 1 [.slice (some ⟨wr.heap.size, 0, none⟩) 3 (cp wr.drew), .slice (some ⟨(bw wr.drew).heap.size, 0, none⟩) M M, .bool G] ⟨keyT i, List.replicate M 0, G⟩ (by simp [Act.eval]) hC1 HR1 hacc hW1 ?_; intro ao5 n5 c5 w5 hn5 hls5 hof5 hsub5; have bW5 := bE1.trans (hof5.below hfarL hW1))
        | (refine step_one RE.stable RE.plain Try.underlying22 Try.info25 rfl (by omega) (by omega) rfl (.tmp 16) (.tmp 39) rfl w.heap.size (.slice lo n lc) acc (by simp [Act.eval]) HL2 ⟨(bw (mw wr.drew)).heap.size, 0, none⟩ 1 [.slice (some ⟨(mw wr.drew).heap.size, 0, none⟩) 3 (cp (mw wr.drew)), .slice (some ⟨wr.heap.size, 0, none⟩) M M, .bool G] ⟨keyT i, List.replicate M 0, G⟩ (by simp [Act.eval]) hC2 HR2 hacc hW2 ?_; intro ao5 n5 c5 w5 hn5 hls5 hof5 hsub5; have bW5 := bE2.trans (hof5.below hfarL hW2)))
      all_goals
        try simp only [List.getElem_toArray, List.getElem_cons_succ, List.getElem_cons_zero, List.setIfInBounds_toArray, List.set_cons_zero, List.set_cons_succ]
        have hn5' := hid_eqT hn5
        clear hn5
        obtain ⟨g5, vv, rfl, hn7, y1, y2, z1, hg5, hcp5, hct5⟩ := last_at hls5
        subst hn7
        have hnil := ls_nilv hls5
        have e3 : acc.length * 3 + 1 = i * 3 + 1 := by rw [haccl.out]
        have e4 : acc.length * 3 + 2 = i * 3 + 2 := by rw [haccl.out]
        rw [e3] at y1 z1 hnil
        rw [e4] at y2
        clear e3 e4
        have bN := bW5.setCell (p := ⟨g5, i * 3 + 1, none⟩) hg5 (.slice none 0 0)
        unfold maxLen at hct5
        have hii : (i : Int) < (i : Int) + 1 := by omega
        have hii2 : (i : Int) < (acc.length : Int) + 1 := by rw [haccl.out]; omega
        have hii3 : (i : Int) < ((acc.length + 1 : Nat) : Int) := by rw [haccl.out]; omega
        have hii4 : ((acc.length : Nat) : Int) + 1 ≤ c5 := by omega
        clear hn5' HL1 HL2 HR1 HR2 hC1 hC2 hW1 hW2 bE1 bE2 B1 B2 tK1 tK2 tV1 tV2 A1 A2 hcv hmw rcv rmk kbw kmw tk0 tv0 s1 s2 hout hfarL hls hof5 hsub5
        cases G with
        | true =>
          have hst := hGt rfl
          go_wp2
          go_roundw
          case rel => exact ⟨i + 1, acc.length + 1, _, c5, by omega, by go_num, rfl, by show _ = _; rw [haccl.out], by rw [hst.out]; exact hnil, bN⟩
          case measure => simp [intOf]; omega
        | false =>
          have hst := hGf rfl
          go_wp2
          go_roundw
          case rel => exact ⟨i + 1, acc.length + 1, _, c5, by omega, by go_num, rfl, by show _ = _; rw [haccl.out], by rw [hst.out]; exact hls5, bW5⟩
          case measure => simp [intOf]; omega
    · have hiI : ¬ (i : Int) < 40 := by omega
      obtain rfl : i = 40 := by omega
      obtain rfl : n = 40 := hn.out
      obtain ⟨ao9, cap9, e9, hl40⟩ := hls.read RE.stable RE.plain
      simp only [Value.slice.injEq] at e9
      obtain ⟨rfl, e10, rfl⟩ := e9
      rw [← e10] at hl40
      clear e10 hls hn
      obtain ⟨W2, hW2⟩ : ∃ W, W = wr := ⟨_, rfl⟩
      subst hW2
      obtain ⟨lb, loff, rfl, hc⟩ := hl40.headE (by omega)
      have hlc := hl40.le
      have hlt := hl40.top
      unfold maxLen at hlt
      go_wp2
      go_loopw [3, 4, 5] (fun s3 _ _ wr => ∃ k : Nat, k ≤ 41 ∧ s3 = .int .i64 k ∧ Below W2.heap.size W2 wr) (fun s3 _ _ _ => 41 - (intOf s3).toNat)
      case atStart => exact ⟨0, by omega, rfl, Below.refl _ _⟩
      case round =>
        obtain ⟨k, hk, rfl, hb2⟩ := hrel
        by_cases hk2 : k ≤ 40
        · have hkI : (k : Int) ≤ 40 := by omega
          have hkc : (k : Int) ≤ lc := by omega
          have hlk := (hl40.later RE.stable hb2).take k hk2
          rw [lT_take k hk2] at hlk
          by_cases h0 : k = 0
          · subst h0
            have hbd := tbuild_no _ _ _ _ _ hlk (fun e he => by have := lT_key 0 e he; omega) rfl
            go_wp2_with fail
            with_reducible refine hbd.mono ?_
            clear hbd
            rintro x V ⟨rfl, bV⟩
            have bE := below_tr2 hb2 bV
            go_wp2
            go_roundw
            case rel => exact ⟨1, by omega, by go_num, bE⟩
            case measure => simp [intOf]
          · have h0b : ((k : Int) == 0) = false := by simp; omega
            have hm := lT_may k (by omega) hk2
            have hkeys : ∀ e ∈ lT k, e.k.length ≤ 1000000000000 := fun e he => by have := lT_key k e he; omega
            have hbd := tbuild_yes _ _ _ _ _ hlk hkeys hm
            have hdr := lT_drawn k hk2
            have htl := hdr.table (by omega)
            obtain ⟨P, hP⟩ : ∃ P, Hid (k = P + 1) := ⟨k - 1, by show _ = _; omega⟩
            obtain ⟨H, hH⟩ : ∃ H, Hid (k / 2 = H) := ⟨_, rfl⟩
            have eP := hP.out
            have eH := hH.out
            have hwP : IntKind.i64.wrap ((k : Int) - 1) = (P : Int) := by rw [IntKind.wrap_i64]; omega
            have hwH : IntKind.i64.wrap ((k : Int) / 2) = (H : Int) := by rw [IntKind.wrap_i64]; omega
            have hwH2 : IntKind.i64.wrap (H : Int) = (H : Int) := by rw [IntKind.wrap_i64]; omega
            have htH : (k : Int).tdiv 2 = (H : Int) := by rw [Int.tdiv_eq_ediv_of_nonneg (by omega)]; omega
            have hPl : P < 40 := by omega
            have hHl : H < 40 := by omega
            have hPI : (P : Int) < 40 := by omega
            have hHI : (H : Int) < 40 := by omega
            have hxP : (lT 40)[P]? = some (entT P) := by simp [lT, hPl]
            have hxH : (lT 40)[H]? = some (entT H) := by simp [lT, hHl]
            obtain ⟨po, pl, pc, _, _, _, p0, _, _, tp, _⟩ := hc P _ hxP
            obtain ⟨qo, ql, qc, _, _, _, q0, _, _, tq, _⟩ := hc H _ hxH
            have spl : pl = 3 := by rw [← tp.len_eq]; rfl
            have sql : ql = 3 := by rw [← tq.len_eq]; rfl
            have spl' := hid_eqT spl
            have sql' := hid_eqT sql
            clear spl sql eP eH hxP hxH
            go_wp2_with fail
            with_reducible refine hbd.mono ?_
            clear hbd
            rintro x V ⟨bo, lb', cb', rfl, tB, bV⟩
            have bE := below_tr2 hb2 bV
            have hxl := tB.len_eq
            have hlV := hl40.later RE.stable bE
            have p0V := cell_later bE p0
            have q0V := cell_later bE q0
            have tpV := tp.later bE
            have tqV := tq.later bE
            have hlkV := hlk.later RE.stable bV
            have hbC : ∀ (W : World), Below V.heap.size V W → Calls Try.prog 18 #[.slice (some ⟨lb, loff, none⟩) k lc] W fun e W' => ∃ ro lr cr, e = .returned (.slice ro lr cr) ∧ (convert 23 9 (.slice ro lr cr)).run Try.prog W' = .ok (.string (strOfNums (tableL (lT k)))) W' ∧ (convert 23 9 (.slice bo lb' cb')).run Try.prog W' = .ok (.string (strOfNums (tableL (lT k)))) W' ∧ Below V.heap.size V W' := fun W hW => by
              refine (rtbuild_any _ k lc _ W (hlkV.later RE.stable hW) hm).mono ?_
              rintro e W' ⟨ro, lr, cr, rfl, g', b'⟩
              have B' := hW.trans (b'.mono hW.size)
              exact ⟨ro, lr, cr, rfl, g'.string, (tB.later B').string, B'⟩
            have hoC : ∀ (W : World), Below V.heap.size V W → Calls Try.prog 19 #[.slice bo lb' cb', .slice qo ql qc, .slice po pl pc] W fun e W' => e = .returned (.bool true) ∧ Below V.heap.size V W' := fun W hW => by
              refine (opens_any bo lb' cb' _ qo ql qc _ po pl pc _ W (tB.later hW) (tqV.later hW) (tpV.later hW) (by omega) (by have := sql'.out; omega) (by have := spl'.out; omega)).mono ?_
              rintro e W' ⟨rfl, b'⟩
              exact ⟨rfl, hW.trans (b'.mono hW.size)⟩
            have hsx : ∀ (W : World), Below V.heap.size V W → (convert 23 9 (.slice bo lb' cb')).run Try.prog W = .ok (.string (strOfNums (tableL (lT k)))) W := fun W hW => (tB.later hW).string
            have s0 := hsx V.drew ((Below.refl _ _).drew)
            have hP0 : ∀ (W : World), Below V.heap.size V W → W.cell? ⟨lb, loff + P * 3, none⟩ = some (.slice po pl pc) := fun W hW => cell_later hW p0V
            have hQ0 : ∀ (W : World), Below V.heap.size V W → W.cell? ⟨lb, loff + H * 3, none⟩ = some (.slice qo ql qc) := fun W hW => cell_later hW q0V
            have dP := hP0 V.drew ((Below.refl _ _).drew)
            have dQ := hQ0 V.drew ((Below.refl _ _).drew)
            generalize strOfNums (tableL (lT k)) = SX at hbC hsx s0
            clear hlk hlkV hlV p0 q0 tp tq p0V q0V htl hxl hdr
            go_wp2_with fail
            go_region_held (fun w' => Below V.heap.size V w') (first | assumption | exact (Below.refl _ _).drew) (first
              | (go_at_call 18; with_reducible refine (hbC _ ?_).mono ?_; (assumption); rintro e1 W8 ⟨xo, xq, xc, rfl, s1, s2, C1⟩; have dP2 := hP0 W8 C1; have dQ2 := hQ0 W8 C1)
              | (go_at_call 19; with_reducible refine (hoC _ ?_).mono ?_; (assumption); rintro e1 W9 ⟨rfl, C2⟩))
            all_goals
              try simp only [List.getElem_toArray, List.getElem_cons_succ, List.getElem_cons_zero, List.setIfInBounds_toArray, List.set_cons_zero, List.set_cons_succ]
              clear hbC hoC hsx hP0 hQ0 dP dQ dP2 dQ2 s0 s1 s2
              have bF := below_tr2 bE C2
              go_wp2
              go_roundw
              case rel => exact ⟨k + 1, by omega, by go_num, bF⟩
              case measure => simp [intOf]; omega
        · have hkI : ¬ (k : Int) ≤ 40 := by omega
          have hk11 : (11 : Int) ≤ lc := by omega
          obtain ⟨W3, hW3⟩ : ∃ W, W = wr := ⟨_, rfl⟩
          subst hW3
          have hl3 := hl40.later RE.stable hb2
          have hl11 := hl3.take 11 (by omega)
          rw [lT_take 11 (by omega)] at hl11
          have hbr := rtbuild_any _ _ _ _ _ hl11 (lT_may 11 (by omega) (by omega))
          have htl := (lT_drawn 11 (by omega)).table (by omega)
          go_wp2_with fail
          with_reducible refine hbr.mono ?_
          clear hbr
          rintro x W4 ⟨bo, bl, bc, rfl, tB, b4⟩
          have B4 := below_tr2 hb2 b4
          have hbl := tB.len_eq
          have hblc := tB.le
          have hbct := tB.top
          unfold maxLen at hbct
          generalize tableL (lT 11) = xs at tB htl hbl
          go_wp2
          go_loopw [7] (fun s7 wr => ∃ k : Nat, k ≤ bl ∧ s7 = .int .i64 k ∧ Below W4.heap.size W4 wr) (fun s7 _ => bl - (intOf s7).toNat)
          case atStart => exact ⟨0, by omega, rfl, Below.refl _ _⟩
          case round =>
            obtain ⟨k2, hk4, rfl, hb5⟩ := hrel
            by_cases hk5 : k2 < bl
            · have hkI2 : (k2 : Int) < bl := by omega
              have hkI3 : (k2 : Int) ≤ bl := by omega
              have hkI4 : (k2 : Int) ≤ bc := by omega
              have hne : ¬ bc = k2 := by omega
              have hne2 : ¬ k2 = bc := by omega
              have t1 := (tB.later hb5).take k2 (by omega)
              obtain ⟨xb, xoff, rfl, _⟩ := tB.head (by omega)
              have t2 := (tB.later hb5).drop k2 (by omega)
              have ho1 := opens_any _ k2 bc _ none 0 0 [] none 0 0 [] wr t1 (Tx.nil _) (Tx.nil _) (by omega) (by omega) (by omega)
              go_wp2_with fail
              with_reducible refine ho1.mono ?_
              clear ho1
              rintro x V ⟨rfl, bV⟩
              have ho2 := opens_any _ (bl - k2) (bc - k2) _ none 0 0 [] none 0 0 [] V (t2.later bV) (Tx.nil _) (Tx.nil _) (by omega) (by omega) (by omega)
              have bF := below_tr2 hb5 bV
              clear t1 t2
              go_wp2_with fail
              with_reducible refine ho2.mono ?_
              clear ho2
              rintro x V2 ⟨rfl, bV2⟩
              have bG := below_tr2 bF bV2
              go_wp2
              go_roundw
              case rel => exact ⟨k2 + 1, by omega, by go_num, bG⟩
              case measure => simp [intOf]; omega
            · have hkI2 : ¬ (k2 : Int) < bl := by omega
              obtain ⟨V, hV⟩ : ∃ W, W = wr := ⟨_, rfl⟩
              subst hV
              have BV := below_tr2 B4 hb5
              obtain ⟨ko, kl, kc, vo, vl, vc, c0, c1, c2, tk, tv⟩ := hc 0 (entT 0) rfl
              obtain ⟨jo, jl, jc, uo, ul, uc, d0, d1, d2, tj, tu⟩ := hc 1 (entT 1) rfl
              rw [show (entT 0).g = false from rfl] at c2
              rw [show (entT 1).g = false from rfl] at d2
              simp only [Nat.zero_mul, Nat.add_zero, Nat.one_mul] at c0 c1 c2 d0 d1 d2
              have c0 := cell_later BV c0
              have c1 := cell_later BV c1
              have c2 := cell_later BV c2
              have d0 := cell_later BV d0
              have d1 := cell_later BV d1
              have d2 := cell_later BV d2
              have tk := tk.later BV
              have tv := tv.later BV
              have tj := tj.later BV
              have tu := tu.later BV
              have n0 : ∀ (W : World) (ao : Option Addr) (l c : Nat) (xs : List Int), Tx W ao l c xs → BytesAt W [] (.slice ao l c) xs := fun W ao l c xs t => t.at [] (by simp)
              have hcells : ∀ W, Below V.heap.size V W → (W.cell? ⟨lb, loff, none⟩ = some (.slice ko kl kc) ∧ W.cell? ⟨lb, loff + 1, none⟩ = some (.slice vo vl vc) ∧ W.cell? ⟨lb, loff + 2, none⟩ = some (.bool false)) ∧ W.cell? ⟨lb, loff + 3, none⟩ = some (.slice jo jl jc) ∧ W.cell? ⟨lb, loff + 3 + 1, none⟩ = some (.slice uo ul uc) ∧ W.cell? ⟨lb, loff + 3 + 2, none⟩ = some (.bool false) := fun W hW =>
                ⟨⟨cell_later hW c0, cell_later hW c1, cell_later hW c2⟩, cell_later hW d0, cell_later hW d1, cell_later hW d2⟩
              obtain ⟨⟨e0, e1, e2⟩, f0, f1, f2⟩ := hcells V.drew (Below.refl _ _).drew
              have b0 : Below V.heap.size V V.drew := (Below.refl _ _).drew
              have hal : ∀ (W : World) (o : Obj), Below V.heap.size V W → Below V.heap.size V (W.alloc o) := fun W o h => h.alloc h.size _
              have hbd2 : ∀ U : World, Below (V.alloc (.cells #[.slice jo jl jc, .slice uo ul uc, .bool false, .slice ko kl kc, .slice vo vl vc, .bool false] 25)).heap.size (V.alloc (.cells #[.slice jo jl jc, .slice uo ul uc, .bool false, .slice ko kl kc, .slice vo vl vc, .bool false] 25)) U → Calls Try.prog 17 #[.slice (some ⟨V.heap.size, 0, none⟩) 2 2] U fun x w' => x = .returned (.tuple #[.slice none 0 0, .int .i64 1]) ∧ Below V.heap.size V w' := fun U hU => by
                have hl2 := (lx_ent_two V (e := entT 1) (e2 := entT 0) (n0 _ _ _ _ _ tj) (n0 _ _ _ _ _ tu) (n0 _ _ _ _ _ tk) (n0 _ _ _ _ _ tv) false false rfl rfl).1.later RE.stable hU
                refine (tbuild_no _ _ _ _ _ hl2 (by intro e he; simp at he; rcases he with rfl | rfl <;> (simp [entT, keyT])) (by decide)).mono ?_
                rintro x w' ⟨rfl, b'⟩
                exact ⟨rfl, below_tr2 (below_tr2 ((Below.refl _ _).alloc (Nat.le_refl _) _) hU) b'⟩
              have hlcI : (1 : Int) < 40 := by omega
              go_wp2_with fail
              go_region_held (fun w' => Below V.heap.size V w' ∧ (w'.cell? ⟨lb, loff, none⟩ = some (.slice ko kl kc) ∧ w'.cell? ⟨lb, loff + 1, none⟩ = some (.slice vo vl vc) ∧ w'.cell? ⟨lb, loff + 2, none⟩ = some (.bool false)) ∧ w'.cell? ⟨lb, loff + 3, none⟩ = some (.slice jo jl jc) ∧ w'.cell? ⟨lb, loff + 3 + 1, none⟩ = some (.slice uo ul uc) ∧ w'.cell? ⟨lb, loff + 3 + 2, none⟩ = some (.bool false)) (first | assumption | exact ⟨b0, hcells _ b0⟩ | exact ⟨hal _ _ b0, hcells _ (hal _ _ b0)⟩ | exact ⟨C9, hcells _ C9⟩)
                (first
                | (go_at_call 17; with_reducible refine (hbd2 _ (by first | exact (Below.refl _ _).drew | exact Below.refl _ _)).mono ?_; rintro x W9 ⟨rfl, C9⟩))
              all_goals
                try simp only [List.getElem_toArray, List.getElem_cons_succ, List.getElem_cons_zero, List.setIfInBounds_toArray, List.set_cons_zero, List.set_cons_succ]
                clear hbd2 hcells
                have bz : Below W9.heap.size W9 (W9.alloc (.cells #[.slice none 0 0, .slice none 0 0, .bool false] 25)) := (Below.refl _ _).alloc (Nat.le_refl _) _
                have hl1 := lx_ent_one W9 (e := ⟨[], [], false⟩) (n0 _ _ _ _ _ (Tx.nil W9)) (n0 _ _ _ _ _ (Tx.nil W9)) false rfl
                have hb1 := tbuild_no _ _ _ _ _ hl1.1 (by simp) (by decide)
                have BZ := below_tr2 (below_tr2 hb (below_tr2 BV C9)) bz
                go_wp2_with fail
                with_reducible refine hb1.mono ?_
                clear hb1 hl1
                rintro x W10 ⟨rfl, b10⟩
                have B10 := below_tr2 BZ b10
                go_wp2_with fail
                with_reducible refine (tknown_any W10).mono ?_
                rintro x W11 ⟨rfl, b11⟩
                have B11 := below_tr2 B10 b11
                go_wp2
                go_ret
                exact ⟨rfl, B11⟩
end Go.Proofs.Yteeemfohehpaeaa
