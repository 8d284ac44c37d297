/- The walk of MemRanges. -/
import Derived.Test.YtjajpnlhdbcnkaaMTells
import Derived.Test.YtjajpnlhdbcnkaaMKnown
import Derived.Test.YtjajpnlhdbcnkaaMKeep
import Derived.Test.YtjajpnlhdbcnkaaMLaw
import Derived.Test.YtjajpnlhdbcnkaaMRngM
namespace Go.Proofs.Ytjajpnlhdbcnkaa
set_option maxRecDepth 100000
open Go.RowKit Go.Sort

theorem kept_fits (n K V : Nat) (hK : 1 ≤ K) (hK2 : K ≤ 12) (hV : V ≤ 20) (l : List Ent) : (∀ e ∈ keepL n K V l, fitsE e = true ∧ e.k.length ≤ 1000000 ∧ e.v.length ≤ 1000000 ∧ norm e = e) ∧ (keepL n K V l).length ≤ n := by
  refine ⟨fun e he => ?_, by simp only [keepL, List.length_map, List.length_take]; omega⟩
  simp only [keepL, List.mem_map] at he
  obtain ⟨x, _, rfl⟩ := he
  obtain ⟨h1, h2, h3, h4⟩ := cut_parts2 K V hK x
  exact ⟨(fitsE_iff _).2 ⟨h1, by omega, .inr (by omega)⟩, by omega, by omega, h4⟩
theorem own_one5 (w : World) (x : Int) (h : 0 ≤ x ∧ x ≤ 255) : Gr w.heap.size (w.alloc (.cells #[.int .u8 x] 5)) (some ⟨w.heap.size, 0, none⟩) 1 1 [x] :=
  ⟨⟨rfl, .inr ⟨w.heap.size, 1, #[.int .u8 x], rfl, Nat.le_refl _, heap_alloc_new w _, Nat.le_refl _, by unfold maxLen; omega, rfl, rfl⟩⟩, by simpa using h, by simp⟩
theorem Ls.toX {B : Nat} {w : World} {v : Value} {es : List Ent} (h : Ls 27 3 RE w B v es) : Ls 27 3 (REx []) w B v es := by
  obtain ⟨us, h1, h2, h3⟩ := h
  exact ⟨us, h1, h2, fun i u e a b => by have := h3 i u e a b; simpa [REx] using this⟩
theorem Ls.ofX {B : Nat} {w : World} {v : Value} {es : List Ent} (h : Ls 27 3 (REx []) w B v es) : Ls 27 3 RE w B v es := by
  obtain ⟨us, h1, h2, h3⟩ := h
  exact ⟨us, h1, h2, fun i u e a b => by have := h3 i u e a b; simpa [REx] using this⟩
theorem Lv.toX {Y : List Nat} {w : World} {ao : Option Addr} {n cap : Nat} {es : List Ent} (h : Lv 3 RE Y w ao n cap es) : Lx 3 (REx (Y ++ [])) w ao n cap es := by
  rw [List.append_nil]; exact h.lx

set_option maxHeartbeats 16000000 in
theorem ranges_walk (ao : Option Addr) (la ca : Nat) (l : List Ent) (bo : Option Addr) (lb cb : Nat) (bs : List Int) (w : World) (hl : Lx 3 RE w ao la ca l) (hx : Tx w bo lb cb bs) :
    Calls Try.prog 6 #[.slice ao la ca, .slice bo lb cb] w fun e w' => e = .returned (.bool true) ∧ Below w.heap.size w w' := by
  obtain ⟨hks, hkn⟩ := kept_fits 30 4 9 (by omega) (by omega) (by omega) l
  have hkp := keep_any ao la ca l 30 4 9 30 4 9 rfl rfl rfl (by omega) (by omega) (by omega) w hl
  generalize keepL 30 4 9 l = x at hkp hks hkn
  go_enter Try.func6, Try.ntmps6
  go_wp2_with fail
  with_reducible refine hkp.mono ?_
  clear hkp
  rintro e V1 ⟨xo, xl, xc, rfl, lx1, b1⟩
  go_wp2_with fail
  with_reducible refine (new_any V1).mono ?_
  rintro e W0 ⟨mb, rfl, M0, hmb, b0⟩
  have lv0 := (lx1.low [mb] (by simp; omega)).later RE.stable b0
  have B0 := below_tr2 b1 b0
  have hxl := lx1.len_eq
  have hpt := mput_any mb [mb] [] 0 xo xl xc x W0 M0 Held.nil lv0 (fun e he => (hks e he).1) (by omega) (fun e he => ⟨(hks e he).2.1, (hks e he).2.2.1⟩)
  have hH : Held 30 (putL [] x) := (Held.nil.put x (fun e he => (hks e he).1)).mono (by omega)
  have hgot := put_got x
  go_wp2_with fail
  with_reducible refine hpt.mono ?_
  clear hpt
  rintro e V2 ⟨rfl, S2, M2, of2, sub2⟩
  have hws := b1.size
  have B2 : Below w.heap.size w V2 := B0.trans (of2.below (by simp; omega) B0.size)
  have lx2 := (lv0.off RE.stable RE.plain (by omega) of2 sub2).read RE.stable
  have hgotx : ∀ (i : Nat) (y : Ent), x[i]? = some y → (∃ z, getL (putL [] x) y.k = some z) ∧ ((∀ (k : Nat) (z : Ent), i < k → k < xl → x[k]? = some z → ¬ z.k = y.k) → getL (putL [] x) y.k = some y) := fun i y hy => by
    have hi := (List.getElem?_eq_some_iff.1 hy).1
    have := hgot i y hy x.length hi (Nat.le_refl _)
    rw [List.take_of_length_le (Nat.le_refl _), (hks y (List.mem_of_getElem? hy)).2.2.2, hxl] at this
    exact this
  clear hgot M0 lv0 lx1 B0 of2 sub2 b0 b1
  generalize putL [] x = es at M2 hH hgotx
  have hel := hH.len
  have hal := mall_any mb S2 es 30 V2 M2 hH (by omega)
  go_wp2_with fail
  with_reducible refine hal.mono ?_
  clear hal
  rintro e V3 ⟨yo, yc, rfl, ls3, b3⟩
  have lx3 := (ls3.weak (_n := 0)).lx
  have hmeet := ranges_meet hH.rises
  have B3 := B2.trans (b3.mono B2.size)
  have M3 := M2.later b3
  have lxx := lx2.later RE.stable b3
  clear ls3 M2 lx2 B2 b3
  go_wp2
  go_loopw [8] (fun s8 wr => ∃ i : Nat, 1 ≤ i ∧ i ≤ 31 ∧ s8 = .int .i64 i ∧ Below V3.heap.size V3 wr) (fun s8 _ => 31 - (intOf s8).toNat)
  case atStart => exact ⟨1, by omega, by omega, rfl, Below.refl _ _⟩
  case round =>
    obtain ⟨i, hi1, hi31, rfl, hb⟩ := hrel
    by_cases hi2 : i < es.length
    · obtain ⟨g, o, rfl, hc⟩ := lx3.headE (by omega)
      have hx1 : es[i - 1]? = some (es[i - 1]'(by omega)) := by simp
      have hx2 : es[i]? = some (es[i]'(by omega)) := by simp
      have hless := hH.rises (i - 1) i _ _ (by omega) hx1 hx2
      obtain ⟨ko, kl, kc, _, _, _, c0, _, _, tk, _⟩ := hc _ _ hx1
      obtain ⟨ko2, kl2, kc2, _, _, _, d0, _, _, tk2, _⟩ := hc _ _ hx2
      generalize es[i - 1]'(by omega) = x1 at tk hless
      generalize es[i]'(by omega) = x2 at tk2 hless
      have hs := str_less x1.k x2.k tk.rng tk2.rng
      rw [hless] at hs
      have q0 := fun d os => cell_regrown (cell_later hb c0) d os
      have q1 := fun d os => cell_regrown (cell_later hb d0) d os
      have s0 := fun d os => ((tk.later hb).later (below_regrown wr d os)).string
      have s1 := fun d os => ((tk2.later hb).later (below_regrown wr d os)).string
      generalize strOfNums x1.k = SA at s0 hs
      generalize strOfNums x2.k = SB at s1 hs
      have hiI : (i : Int) < es.length := by omega
      have hw1 : IntKind.i64.wrap ((i : Int) - 1) = (i : Int) - 1 := by rw [IntKind.wrap_i64]; omega
      have ht1 : ((i : Int) - 1).toNat = i - 1 := by omega
      have hg1 : (1 : Int) ≤ (i : Int) := by omega
      have hl1 : ((i : Int) - 1) < es.length := by omega
      have hlt1 : i - 1 < es.length := by omega
      clear hc hx1 hx2 c0 d0
      go_wp2_with fail
      refine wp_region_quiet_below (by kernel_rfl) (by kernel_rfl) ?_
      repeat (go_big_quiet_step (fail))
      (with_reducible refine wpQuiet_nil ?_)
      intro _ hw'
      obtain ⟨⟨dq, osq⟩, hw''⟩ := hw'
      subst hw''
      have hb2 := hb.trans ((below_regrown wr dq osq).mono hb.size)
      clear q0 q1 s0 s1
      generalize grow (redrawn wr dq) osq = V at hb2 ⊢
      go_wp2
      go_roundw
      case rel => exact ⟨i + 1, by omega, by omega, by go_num, hb2⟩
      case measure => simp [intOf]; omega
    · have hiI : ¬ (i : Int) < es.length := by omega
      have B4 := B3.trans (hb.mono B3.size)
      have M4 := M3.later hb
      have lx4 := lxx.later RE.stable hb
      have ly4 := lx3.later RE.stable hb
      have hx4 := hx.later B4
      clear hl hx M3 lxx lx3 B3
      generalize wr = V4 at B4 M4 lx4 ly4 hx4 ⊢
      have g0 := own_one5 V4 97 (by omega)
      have bA : Below V4.heap.size V4 (V4.alloc (.cells #[.int .u8 97] 5)) := (Below.refl _ _).alloc (Nat.le_refl _) _
      have hcut := cut_at bo lb cb 3 3 bs _ rfl (hx4.later bA) (by omega)
      have hes9 : es.length ≤ 30 := hel
      go_wp2_with fail
      with_reducible refine hcut.mono ?_
      clear hcut
      rintro e V5' ⟨l2, rfl, hl2, t5, rfl⟩
      go_wp2_with (with_reducible show wpList _ _ _ (⟨some 48, _, _, _, _, _⟩ :: _) _ _; refine wpList_gr rfl _ _ rfl V4.heap.size (some ⟨V4.heap.size, 0, none⟩) 1 1 [97] rfl g0 bo l2 cb (bs.take 3) rfl t5 (by omega) ?_; intro a9 n9 c9 V5 hn9 g9 m9; have b5 := bA.trans (m9.below g0); have hn9' : n9 ≤ 4 := (by have := hn9.out; omega); clear hn9)
      have tc := g9.tx
      have B5 := B4.trans (b5.mono B4.size)
      have M5 := M4.later b5
      have lx5 := lx4.later RE.stable b5
      have ly5 := ly4.later RE.stable b5
      have hcp : 0 < ([97] ++ bs.take 3).length := by simp
      have hmt := hmeet ([97] ++ bs.take 3) hcp
      clear g9 m9 g0 t5 bA M4 lx4 ly4 hx4 B4 hmeet b5 hb
      generalize [97] ++ bs.take 3 = cs at tc hmt hcp
      have hr1 := mrange_any mb S2 es 30 none 0 0 [] a9 n9 c9 cs V5 M5 hH (by omega) (Tx.nil V5) tc (by omega) (by omega)
      with_reducible refine hr1.mono ?_
      clear hr1
      rintro e V6 ⟨r1, r1l, r1c, rfl, ls6, hr1l, b6⟩
      replace hr1l : Hid (r1l = (es.filter (fun e => !delK [] cs e.k)).length) := hr1l
      have hr2 := mrange_any mb S2 es 30 a9 n9 c9 cs none 0 0 [] V6 (M5.later b6) hH (by omega) (tc.later b6) (Tx.nil V6) (by omega) (by omega)
      go_wp2_with fail
      with_reducible refine hr2.mono ?_
      clear hr2
      rintro e V7 ⟨r2, r2l, r2c, rfl, ls7, hr2l, b7⟩
      replace hr2l : Hid (r2l = (es.filter (fun e => !delK cs [] e.k)).length) := hr2l
      have h6lt := ls6.lt
      have lv7 := (ls7.lvn (own (.slice r1 r1l r1c)) (fun k hk => (h6lt k hk).1)).toX
      have lx6 := ((ls6.weak (_n := 0)).later RE.stable b7).toX
      have hlen7 : ((es.filter (fun e => !delK [] cs e.k)).length + r2l) ≤ 1000 := by
        have h1 := List.length_filter_le (fun e => !delK [] cs e.k) es
        have h2 := List.length_filter_le (fun e => !delK cs [] e.k) es
        have h3 := hr2l.out
        omega
      have hB7 : V5.heap.size ≤ V7.heap.size := Nat.le_trans b6.size b7.size
      have hlen7H : Hid (((es.filter (fun e => !delK [] cs e.k)).length + r2l) ≤ 1000) := hlen7
      clear hlen7
      have ly7 := (ly5.later RE.stable b6).later RE.stable b7
      have lxx7 := (lx5.later RE.stable b6).later RE.stable b7
      have M7 := (M5.later b6).later b7
      have B7 := (B5.trans (b6.mono B5.size)).trans (b7.mono (Nat.le_trans B5.size b6.size))
      clear ls6 ls7
      generalize es.filter (fun e => !delK [] cs e.k) = F1 at lx6 hr1l hmt hlen7H
      generalize es.filter (fun e => !delK cs [] e.k) = F2 at lv7 hr2l hmt
      have hmtH : Hid (F1 ++ F2 = es) := hmt
      clear hmt hr1l hr2l
      go_wp2_with (with_reducible show wpList _ _ _ (⟨some 55, _, _, _, _, _⟩ :: _) _ _; refine wpList_allY rfl _ _ rfl V5.heap.size (.slice r1 r1l r1c) F1 rfl lx6 r2 r2l r2c F2 rfl lv7 (Nat.le_trans hlen7H.out (by omega)) hB7 ?_; intro a8 n8 c8 V8 hn8 ls8 of8 sub8 ne8)
      have b8 : Below V5.heap.size V7 V8 := of8.below (fun k hk => (h6lt k hk).2) hB7
      have B8 : Below w.heap.size w V8 := B7.trans (b8.mono B5.size)
      have b58 : Below V5.heap.size V5 V8 := (b6.trans (b7.mono b6.size)).trans b8
      have M8 := M5.later b58
      have lx8 := lx5.later RE.stable b58
      have ly8 := ly5.later RE.stable b58
      have la8 := ls8.ofX.lx
      have h8n : n8 ≤ 1000000 := by have := hn8.out; have := hlen7H.out; omega
      have hsm := same8_any a8 yo n8 c8 es.length yc (F1 ++ F2) es V8 la8 ly8 h8n (by omega)
      rw [hmtH.out, sameL_refl] at hsm
      with_reducible refine hsm.mono ?_
      clear hsm la8 ls8 of8 sub8 ne8 hn8 ly8 M7 lx6 lv7 ly7 lxx7 M5 lx5 ly5 B5 B7 hB7 h6lt hmtH hlen7H b8 b7 b6 tc b58 hcp
      rintro e V9 ⟨rfl, b9⟩
      have M9 := M8.later b9
      have lx9 := lx8.later RE.stable b9
      have B9 := B8.trans (b9.mono B8.size)
      clear M8 lx8 B8 b9
      have hxl30 : xl ≤ 30 := by omega
      have hw10 : IntKind.i64.wrap ((xl : Int) - 1) = (xl : Int) - 1 := by rw [IntKind.wrap_i64]; omega
      go_wp2
      go_loopw [10, 11, 12, 13, 14] (fun s10 _ _ _ _ wr => ∃ j : Nat, j ≤ xl ∧ s10 = .int .i64 ((j : Int) - 1) ∧ Below V9.heap.size V9 wr) (fun s10 _ _ _ _ _ => (intOf s10 + 1).toNat)
      case atStart => exact ⟨xl, by omega, rfl, Below.refl _ _⟩
      case round =>
        obtain ⟨j, hj, rfl, hb⟩ := hrel
        by_cases hj0 : j = 0
        · subst hj0
          have hz : ¬ ((0 : Int) ≤ ((0 : Nat) : Int) - 1) := by omega
          have hz2 : ((0 : Nat) : Int) - 1 = -1 := by omega
          rw [hz2]
          go_wp2_with (go_at_call 11; with_reducible refine (known_any wr).mono ?_; rintro e W9 ⟨rfl, b9⟩)
          go_ret
          exact ⟨rfl, (B9.trans (hb.mono B9.size)).trans (b9.mono (Nat.le_trans B9.size hb.size))⟩
        · obtain ⟨i, rfl⟩ : ∃ i, j = i + 1 := ⟨j - 1, by omega⟩
          have hsi : ((i + 1 : Nat) : Int) - 1 = (i : Int) := by omega
          rw [hsi]
          have hiI : (i : Int) < xl := by omega
          have hi0 : (0 : Int) ≤ (i : Int) := by omega
          have hwi : IntKind.i64.wrap ((i : Int) - 1) = (i : Int) - 1 := by rw [IntKind.wrap_i64]; omega
          obtain ⟨xb, xf, rfl, hcx⟩ := lx9.headE (by omega)
          have hy : x[i]? = some (x[i]'(by omega)) := by simp
          obtain ⟨ko, kl, kc, vo, vl, vc, c0, c1, c2, tk, tv⟩ := hcx i _ hy
          obtain ⟨hex, hlast⟩ := hgotx i _ hy
          have hfe := (hks _ (List.getElem_mem (l := x) (n := i) (by omega))).2.1
          generalize x[i]'(by omega) = e at hy c2 tk tv hex hlast hfe
          obtain ⟨G, hG⟩ : ∃ G, Hid (e.g = G) := ⟨_, rfl⟩
          rw [hG.out] at c2
          have hlastH : Hid ((∀ (k : Nat) (z : Ent), i < k → k < xl → x[k]? = some z → ¬ z.k = e.k) → getL es e.k = some e) := hlast
          clear hlast hy
          revert hb
          generalize wr = W1
          intro hb
          have d0 := cell_later hb c0
          have hmg := mget_any mb S2 es 30 ko kl kc e.k W1 (M9.later hb) hH (by omega) (tk.later hb) (by rw [← tk.len_eq]; omega)
          go_wp2_with fail
          with_reducible refine hmg.mono ?_
          clear hmg
          rintro r W2 ⟨(⟨en, eo, el, ec, fo, fl, fc, hsome, rfl, tk2, tv2⟩ | ⟨hnone, rfl⟩), b2⟩
          rotate_left
          · obtain ⟨z, hz⟩ := hex
            rw [hz] at hnone; cases hnone
          clear hex
          have bB : Below W2.heap.size W2 (W2.alloc (.cells #[.slice eo el ec, .slice fo fl fc, .bool en.g] 27)) := (Below.refl _ _).alloc (Nat.le_refl _) _
          have x1 := Box.new W2 (.slice eo el ec) (.slice fo fl fc) en.g
          have B1 := (hb.trans (b2.mono hb.size)).trans (bB.mono (Nat.le_trans hb.size b2.size))
          have tv3 := tv2.later bB
          have hsomeH : Hid (getL es e.k = some en) := hsome
          have hwi1 : IntKind.i64.wrap ((i : Int) + 1) = (i : Int) + 1 := by rw [IntKind.wrap_i64]; omega
          clear tk2 tv2 hsome b2 d0 bB
          obtain ⟨GN, hGN⟩ : ∃ GN, Hid (en.g = GN) := ⟨_, rfl⟩
          rw [hGN.out] at B1 x1 tv3 ⊢
          go_wp2
          generalize W2.alloc (.cells #[.slice eo el ec, .slice fo fl fc, .bool GN] 27) = W3 at B1 x1 tv3 ⊢
          go_loopw [13, 14] (fun s13 s14 wz => ∃ (k : Nat) (lt : Bool), i + 1 ≤ k ∧ k ≤ xl ∧ s14 = .int .i64 k ∧ s13 = .bool lt ∧ Hid (lt = false → ∀ (q : Nat) (z : Ent), i < q → q < k → x[q]? = some z → ¬ z.k = e.k) ∧ Below W3.heap.size W3 wz) (fun _ s14 _ => xl - (intOf s14).toNat)
          case atStart => exact ⟨i + 1, false, by omega, by omega, by go_num, rfl, fun _ q z h1 h2 => (by omega), Below.refl _ _⟩
          case round =>
            obtain ⟨k, lt, hk1, hk2, rfl, rfl, hlt, hbz⟩ := hrel
            have hBz := B1.trans (hbz.mono B1.size)
            by_cases hkx : k < xl
            · have hkI : (k : Int) < xl := by omega
              have hkI2 : ¬ (xl : Int) ≤ (k : Int) := by omega
              cases lt with
              | true =>
                go_wp2_with fail
                refine wp_region_quiet_below (by kernel_rfl) (by kernel_rfl) ?_
                repeat (go_big_quiet_step (fail))
                (with_reducible refine wpQuiet_nil ?_)
                intro _ hw'
                obtain ⟨⟨dq, osq⟩, hw''⟩ := hw'
                subst hw''
                have hb4 := hbz.trans ((below_regrown wr dq osq).mono hbz.size)
                generalize grow (redrawn wr dq) osq = V at hb4 ⊢
                go_wp2
                go_roundw
                case rel => exact ⟨k + 1, true, by omega, by omega, by go_num, rfl, fun h => (by cases h), hb4⟩
                case measure => simp [intOf]; omega
              | false =>
                have hz : x[k]? = some (x[k]'(by omega)) := by simp
                obtain ⟨ko3, kl3, kc3, _, _, _, e0, _, _, tk3, _⟩ := hcx k _ hz
                generalize x[k]'(by omega) = z at hz tk3
                have q0 := fun d os => cell_regrown (cell_later hBz e0) d os
                have q1 := fun d os => cell_regrown (cell_later hBz c0) d os
                have s0 := fun d os => ((tk3.later hBz).later (below_regrown wr d os)).string
                have s1 := fun d os => ((tk.later hBz).later (below_regrown wr d os)).string
                have hZ : Hid (x[k]? = some z) := hz
                clear hz
                by_cases hzk : z.k = e.k
                · have hss : strOfNums z.k = strOfNums e.k := by rw [hzk]
                  rw [hss] at s0
                  generalize strOfNums e.k = SA at s0 s1
                  have hSe : (SA.toList == SA.toList) = true := by simp
                  go_wp2_with fail
                  refine wp_region_quiet_below (by kernel_rfl) (by kernel_rfl) ?_
                  repeat (go_big_quiet_step (fail))
                  (with_reducible refine wpQuiet_nil ?_)
                  intro _ hw'
                  obtain ⟨⟨dq, osq⟩, hw''⟩ := hw'
                  subst hw''
                  have hb4 := hbz.trans ((below_regrown wr dq osq).mono hbz.size)
                  clear q0 q1 s0 s1
                  generalize grow (redrawn wr dq) osq = V at hb4 ⊢
                  go_wp2
                  go_roundw
                  case rel => exact ⟨k + 1, true, by omega, by omega, by go_num, rfl, fun h => (by cases h), hb4⟩
                  case measure => simp [intOf]; omega
                · have hne := str_ne tk3.rng tk.rng hzk
                  have hnx : Hid (false = false → ∀ (q : Nat) (z : Ent), i < q → q < k + 1 → x[q]? = some z → ¬ z.k = e.k) := fun _ q y h1 h2 hy => by
                    by_cases hqk : q = k
                    · subst hqk; rw [hZ.out] at hy; cases hy; exact hzk
                    · exact hlt.out rfl q y h1 (by omega) hy
                  generalize strOfNums z.k = SA at s0 hne
                  generalize strOfNums e.k = SB at s1 hne
                  have hne2 : (SA.toList == SB.toList) = false := by simp [hne]
                  go_wp2_with fail
                  refine wp_region_quiet_below (by kernel_rfl) (by kernel_rfl) ?_
                  repeat (go_big_quiet_step (fail))
                  (with_reducible refine wpQuiet_nil ?_)
                  intro _ hw'
                  obtain ⟨⟨dq, osq⟩, hw''⟩ := hw'
                  subst hw''
                  have hb4 := hbz.trans ((below_regrown wr dq osq).mono hbz.size)
                  clear q0 q1 s0 s1
                  generalize grow (redrawn wr dq) osq = V at hb4 ⊢
                  go_wp2
                  go_roundw
                  case rel => exact ⟨k + 1, false, by omega, by omega, by go_num, rfl, (fun _ => hnx.out trivial), hb4⟩
                  case measure => simp [intOf]; omega
            · have hkI : ¬ (k : Int) < xl := by omega
              have hkx2 : k = xl := by omega
              cases lt with
              | true =>
                go_wp2_with fail
                refine wp_region_quiet_below (by kernel_rfl) (by kernel_rfl) ?_
                repeat (go_big_quiet_step (fail))
                (with_reducible refine wpQuiet_nil ?_)
                intro _ hw'
                obtain ⟨⟨dq, osq⟩, hw''⟩ := hw'
                subst hw''
                have hb4 := hBz.trans ((below_regrown wr dq osq).mono hBz.size)
                generalize grow (redrawn wr dq) osq = V at hb4 ⊢
                go_wp2
                go_roundw
                case rel => exact ⟨i, by omega, rfl, hb4⟩
                case measure => simp [intOf] <;> omega
              | false =>
                have hsame : getL es e.k = some e := hlastH.out (fun q z h1 h2 hz => hlt.out rfl q z h1 (by omega) hz)
                have hen : en = e := by rw [hsomeH.out] at hsame; exact Option.some.inj hsame
                have hGG : GN = G := by rw [← hGN.out, hen, hG.out]
                rw [hen] at tv3
                subst hGG
                have x1z := x1.later hbz
                have q1 := fun d os => cell_regrown x1z.c1 d os
                have q2 := fun d os => cell_regrown x1z.c2 d os
                have r1 := fun d os => cell_regrown (cell_later hBz c1) d os
                have r2 := fun d os => cell_regrown (cell_later hBz c2) d os
                have s0 := fun d os => ((tv3.later hbz).later (below_regrown wr d os)).string
                have s1 := fun d os => ((tv.later hBz).later (below_regrown wr d os)).string
                generalize strOfNums e.v = SA at s0 s1
                have hSe : (SA.toList == SA.toList) = true := by simp
                clear hsame hen hGN hG hlastH hsomeH
                go_wp2_with fail
                refine wp_region_quiet_below (by kernel_rfl) (by kernel_rfl) ?_
                repeat (go_big_quiet_step (fail))
                (with_reducible refine wpQuiet_nil ?_)
                intro _ hw'
                obtain ⟨⟨dq, osq⟩, hw''⟩ := hw'
                subst hw''
                have hb4 := hBz.trans ((below_regrown wr dq osq).mono hBz.size)
                clear q1 q2 r1 r2 s0 s1 x1z
                generalize grow (redrawn wr dq) osq = V at hb4 ⊢
                go_wp2
                go_roundw
                case rel => exact ⟨i, by omega, rfl, hb4⟩
                case measure => simp [intOf] <;> omega
end Go.Proofs.Ytjajpnlhdbcnkaa
