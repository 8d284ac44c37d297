/- The walk of ManifestReads. -/
import Derived.Test.YtgleblfkcdkaeaaDoorMOwn
import Derived.Test.YtgleblfkcdkaeaaDoorMBig
import Derived.Test.YtgleblfkcdkaeaaDoorMOn
import Derived.Test.YtgleblfkcdkaeaaDoorMCrash
import Derived.Test.YtgleblfkcdkaeaaDoorFWalksH
namespace Go.Proofs.YtgleblfkcdkaeaaDoor
set_option maxRecDepth 100000
open Go.RowKit Go.Sort

theorem Lx.ltK {w : World} {ao : Option Addr} {len cap : Nat} {ts : List Int} (h : Lx 1 RI w ao len cap ts) (ad : Addr) (ha : ao = some ad) (h0 : 0 < len) : ad.block < w.heap.size := by
  obtain ⟨u, h1, rfl, _⟩ := h.cell ad ha 0 (ts[0]'(by have := h.len_eq; omega)) (List.getElem?_eq_getElem _)
  have := World.block_lt_of_cell? _ _ (h1 0 _ rfl)
  rwa [add_block] at this
theorem Lx.offK {S : List Nat} {w w' : World} {ao : Option Addr} {len cap : Nat} {ts : List Int} (h : Lx 1 RI w ao len cap ts) (ho : Off S w w') (hz : ∀ ad, ao = some ad → 0 < len → ad.block ∉ S) : Lx 1 RI w' ao len cap ts :=
  ⟨h.len_eq, h.le, h.top, h.bare, fun ad ha j e he => by
    obtain ⟨u, h1, h2⟩ := h.cell ad ha j e he
    have hl : 0 < len := by have := (List.getElem?_eq_some_iff.1 he).1; have := h.len_eq; omega
    exact ⟨u, fun i x hx => ho.cell (h1 i x hx) (by rw [add_block]; exact hz ad ha hl), h2⟩⟩

/-- Four texts in a row. -/
structure Four (V : World) (g : Nat) (f : Nat → Option Addr × Nat × Nat × List Int) : Prop where
  cell : ∀ j, j < 4 → V.cell? ⟨g, j, none⟩ = some (.slice (f j).1 (f j).2.1 (f j).2.2.1)
  tx : ∀ j, j < 4 → Tx V (f j).1 (f j).2.1 (f j).2.2.1 (f j).2.2.2

set_option maxHeartbeats 16000000 in
theorem reads_walk (ao : Option Addr) (la ca : Nat) (xs : List Int) (wal more : Int) (bo : Option Addr) (lb cb : Nat) (bs : List Int) (at_ turn : Int) (w1 : -9223372036854775808 ≤ wal) (w2 : wal ≤ 9223372036854775807) (m1 : -9223372036854775808 ≤ more) (m2 : more ≤ 9223372036854775807) (a1 : -9223372036854775808 ≤ at_) (a2 : at_ ≤ 9223372036854775807) (_u1 : 0 ≤ turn) (_u2 : turn ≤ 255) (w : World) (ha : Lx 1 RI w ao la ca xs) (hb : Tx w bo lb cb bs) (hb9 : lb ≤ 140737488351232) :
    Calls Tryd.prog 5 #[.slice ao la ca, .int .i64 wal, .int .i64 more, .slice bo lb cb, .int .i64 at_, .int .u8 turn] w fun e w' => e = .returned (.bool true) ∧ Below w.heap.size w w' := by
  have hmade := made_any ao la ca xs wal more w ha ⟨w1, w2⟩ ⟨m1, m2⟩
  go_enter Tryd.func5, Tryd.ntmps5
  go_wp2_with fail
  with_reducible refine hmade.mono ?_
  rintro e W1 ⟨⟨m, v, rfl, hm, hR, h12, _⟩, b1⟩
  obtain ⟨mo, ml, mc, rfl, lm, _⟩ := hm
  obtain ⟨V1, hV1, mm, bV1⟩ : ∃ V1, V1 = W1.alloc (.cells #[.slice mo ml mc, .int .i64 m.wal, .int .i64 m.nxt] 24) ∧ Mb V1 W1.heap.size (.slice mo ml mc) (.int .i64 m.wal) (.int .i64 m.nxt) ∧ Below W1.heap.size W1 V1 := ⟨_, rfl, Mb.new _ _ _ _, (Below.refl _ _).alloc (Nat.le_refl _) _⟩
  have bwV1 : Below w.heap.size w V1 := below_trans b1 bV1
  have hre := refenc_any mo ml mc m.ts m.wal m.nxt V1 (lm.later RI.stable bV1) hR
  have henc : m.enc.length = 7 + 3 * m.ts.length := m.enc_len
  clear hmade lm
  go_wp2_with fail
  rw [← hV1]
  clear hV1
  with_reducible refine hre.mono ?_
  rintro e W2 ⟨eo, el, ec, rfl, te, b2⟩
  have hel : m.enc.length = el := te.len_eq
  have bw2 := below_trans bwV1 b2
  go_wp2_with fail
  with_reducible refine (rput_any none eo 0 0 el ec [] m.enc W2 (Tx.nil W2) te (by omega) (by omega)).mono ?_
  rintro e W3 ⟨xo, xl, xc, rfl, tx, b3⟩
  rw [List.nil_append] at tx
  have hxl : (recL m.enc).length = xl := tx.len_eq
  rw [length_recL] at hxl
  have bw3 := below_trans bw2 b3
  have hx1 : 0 < xl := by omega
  have hx2 : xl ≤ 49 := by omega
  clear hxl hel henc te hre mm hR m1 m2
  generalize recL m.enc = X at tx
  have g0 := own_empty2 W3
  have tX1 := tx.alloc (.cells #[] 5)
  have bz : Below W3.heap.size W3 (W3.alloc (.cells #[] 5)) := (Below.refl _ _).alloc (Nat.le_refl _) _
  have hxx : 0 + xl ≤ 140737488355328 := by omega
  go_wp2_with (with_reducible show wpList _ _ _ (⟨some 45, _, _, _, _, _⟩ :: _) _ _; refine wpList_grX rfl _ _ rfl W3.heap.size (some ⟨W3.heap.size, 0, none⟩) 0 0 [] rfl g0 xo xl xc X rfl tX1 hxx ?_; intro yo yl yc w3 hl3 gY m3; rw [List.nil_append] at gY; have b4 := bz.trans (m3.below g0); obtain rfl : yl = xl := (by have := hl3.out; omega); clear hl3)
  have bw4 := below_trans bw3 b4
  have tx4 := tx.later b4
  have tb4 := hb.later bw4
  obtain ⟨yg, rfl, hyg, hcy, hzy, hsy⟩ := gY.head hx1
  obtain ⟨r1, r2⟩ := wfun_rng at_ 0 ((yl : Int) - 1) (by omega)
  obtain ⟨R, hRR⟩ : ∃ R : Nat, Hid (wfun at_ 0 ((yl : Int) - 1) = (R : Int)) := ⟨(wfun at_ 0 ((yl : Int) - 1)).toNat, by show _ = _; omega⟩
  have hwi := within_eq at_ 0 ((yl : Int) - 1) a1 a2 (by omega) (by omega) (by omega) w3
  rw [hRR.out] at hwi r1 r2
  have cR := hcy R (by omega)
  generalize X.getD R 0 = xr at cR
  have zR := hzy R
  have hRl : R < yl := by omega
  go_wp2_with fail
  with_reducible refine hwi.mono ?_
  rintro e W4 ⟨rfl, rfl⟩
  have gY2 := hsy R _ (xor_rng xr turn)
  have hO5 : Off [yg] w3 (w3.setCell ⟨yg, R, none⟩ (.int .u8 (bits .xor .u8 xr turn))) := (Off.refl _ _).setCell (p := ⟨yg, R, none⟩) (by simp) _
  have hs3 := bw3.size
  have tx5 := tx4.off hO5 (fun ad h h0 hi => by have := tx.lt ad h h0; simp at hi; omega)
  have tb5 := tb4.off hO5 (fun ad h h0 hi => by have := hb.lt ad h h0; simp at hi; omega)
  have bw5 := bw4.trans (hO5.below (by simp; omega) bw4.size)
  have tY := gY2.tx
  clear hzy hcy gY hwi hRR gY2 hsy b4 bz g0 tX1 m3 tx4 tb4
  generalize X.set R (bits .xor .u8 xr turn) = Y at tY
  have g0 : Gr w3.heap.size ((w3.setCell ⟨yg, R, none⟩ (.int .u8 (bits .xor .u8 xr turn))).alloc (.cells #[] 5)) (some ⟨w3.heap.size, 0, none⟩) 0 0 [] := by have := own_empty2 (w3.setCell ⟨yg, R, none⟩ (.int .u8 (bits .xor .u8 xr turn))); simpa using this
  have tX1 : Tx ((w3.setCell ⟨yg, R, none⟩ (.int .u8 (bits .xor .u8 xr turn))).alloc (.cells #[] 5)) xo yl xc X := tx5.alloc (.cells #[] 5)
  have bz : Below w3.heap.size (w3.setCell ⟨yg, R, none⟩ (.int .u8 (bits .xor .u8 xr turn))) ((w3.setCell ⟨yg, R, none⟩ (.int .u8 (bits .xor .u8 xr turn))).alloc (.cells #[] 5)) := by have : Below (w3.setCell ⟨yg, R, none⟩ (.int .u8 (bits .xor .u8 xr turn))).heap.size (w3.setCell ⟨yg, R, none⟩ (.int .u8 (bits .xor .u8 xr turn))) ((w3.setCell ⟨yg, R, none⟩ (.int .u8 (bits .xor .u8 xr turn))).alloc (.cells #[] 5)) := (Below.refl _ _).alloc (Nat.le_refl _) _; simpa using this
  have hxx : 0 + yl ≤ 140737488355328 := by omega
  have hyb : yl + lb ≤ 140737488355328 := by omega
  have hnx : ∀ ad, xo = some ad → 0 < yl → ad.block < w3.heap.size := fun ad h h0 => by have := tx5.lt ad h h0; simpa using this
  have hss : (w3.setCell ⟨yg, R, none⟩ (.int .u8 (bits .xor .u8 xr turn))).heap.size = w3.heap.size := by simp
  clear hO5 hss
  go_wp2_with (first
    | (with_reducible show wpList _ _ _ (⟨some 62, _, _, _, _, _⟩ :: _) _ _; refine wpList_grX rfl _ _ rfl w3.heap.size (some ⟨w3.heap.size, 0, none⟩) 0 0 [] rfl g0 xo yl xc X rfl tX1 hxx ?_; intro zo zl zc w6 hl6 gZ m6; rw [List.nil_append] at gZ; have b6 := bz.trans (m6.below g0); obtain rfl : zl = yl := (by have := hl6.out; omega); clear hl6; have tb6 := tb5.later (b6.mono (by simp)))
    | (with_reducible show wpList _ _ _ (⟨some 64, _, _, _, _, _⟩ :: _) _ _; refine wpList_grX rfl _ _ rfl w3.heap.size zo zl zc X rfl gZ bo lb cb bs rfl tb6 hyb ?_; intro qo ql qc w7 hl7 gQ m7; have b7 := b6.trans (m7.below gZ)))
  have b7' : Below (w3.setCell ⟨yg, R, none⟩ (.int .u8 (bits .xor .u8 xr turn))).heap.size (w3.setCell ⟨yg, R, none⟩ (.int .u8 (bits .xor .u8 xr turn))) w7 := by rw [show (w3.setCell ⟨yg, R, none⟩ (.int .u8 (bits .xor .u8 xr turn))).heap.size = w3.heap.size by simp]; exact b7
  obtain ⟨V, hV, hF, bV⟩ : ∃ V, V = w7.alloc (.cells #[.slice xo zl xc, .slice (some ⟨yg, 0, none⟩) zl yc, .slice bo lb cb, .slice qo ql qc] 27) ∧ Four V w7.heap.size (fun j => match j with | 0 => (xo, zl, xc, X) | 1 => (some ⟨yg, 0, none⟩, zl, yc, Y) | 2 => (bo, lb, cb, bs) | _ => (qo, ql, qc, X ++ bs)) ∧ Below w.heap.size w V := by
    have bn : Below w7.heap.size w7 (w7.alloc (.cells #[.slice xo zl xc, .slice (some ⟨yg, 0, none⟩) zl yc, .slice bo lb cb, .slice qo ql qc] 27)) := (Below.refl _ _).alloc (Nat.le_refl _) _
    refine ⟨_, rfl, ⟨fun j hj => ?_, fun j hj => ?_⟩, bw5.trans ((below_trans b7' bn).mono bw5.size)⟩
    · rw [cell_of_row _ _ _ _ 27 (0, 0) (heap_alloc_new w7 _)]
      match j, hj with
      | 0, _ => rfl
      | 1, _ => rfl
      | 2, _ => rfl
      | 3, _ => rfl
    · match j, hj with
      | 0, _ => exact (tx5.later b7').later bn
      | 1, _ => exact (tY.later b7').later bn
      | 2, _ => exact (tb5.later b7').later bn
      | 3, _ => exact gQ.tx.later bn
  rw [← hV]
  clear hV tx5 tY tb5 gQ gZ tX1 b7 b7' b6 g0 bz m6 m7 tb6 hl7 hxx hyb hnx tx bw5 bw4 bw3 bw2 hx1 hx2 cR zR hRl r1 r2 hb hb9 b3 b2 b1 bV1 bwV1 ha
  generalize (fun j => match j with | 0 => (xo, zl, xc, X) | 1 => (some (⟨yg, 0, none⟩ : Addr), zl, yc, Y) | 2 => (bo, lb, cb, bs) | _ => (qo, ql, qc, X ++ bs) : Nat → Option Addr × Nat × Nat × List Int) = F at hF
  generalize w7.heap.size = g at *
  go_loopw [67] (fun i wr => ∃ k : Nat, k ≤ 4 ∧ i = .int .i64 k ∧ Below V.heap.size V wr) (fun i _ => 4 - (intOf i).toNat)
  case atStart => exact ⟨0, by omega, rfl, Below.refl _ _⟩
  case round =>
    obtain ⟨k, hk, rfl, bwr⟩ := hrel
    by_cases hk4 : k < 4
    · have c0 := cell_later bwr (hF.cell k hk4)
      have tz := (hF.tx k hk4).later bwr
      generalize F k = Fk at c0 tz
      obtain ⟨zo, zl, zc, zs⟩ := Fk
      simp only at c0 tz
      clear hF
      go_wp2_with fail
      with_reducible refine (cut_at zo zl zc 200 200 zs wr rfl tz (by omega)).mono ?_
      rintro e W1' ⟨l, rfl, hl200, tu, rfl⟩
      have hul := tu.len_eq
      go_wp2_with fail
      with_reducible refine (on_x zo l zc (zs.take 200) wr tu (by omega)).mono ?_
      rintro e D1 ⟨rfl, x1, b1⟩
      go_wp2_with fail
      with_reducible refine (readm_some x1 (by simp) (get_l1 _ _) (by rw [fL_data]; omega)).mono ?_
      rintro e D2 ⟨hcase, b2⟩
      rw [fL_data] at hcase
      have b12 := below_trans b1 b2
      clear x1
      have hcut := fun W (hB : Below wr.heap.size wr W) => cut_at zo zl zc 200 200 zs W rfl (tz.later hB) (by omega)
      have hall := fun W (hB : Below wr.heap.size wr W) (l2 : Nat) (t2 : Tx W zo l2 zc (zs.take 200)) => rall_any zo l2 zc (zs.take 200) W t2 (by have := t2.len_eq; omega)
      obtain ⟨A, hA⟩ : ∃ A, Hid (allL (zs.take 200) = A) := ⟨_, rfl⟩
      have hrl : readL (zs.take 200) = if A.2.2 = true ∧ A.2.1 = (zs.take 200).length ∧ A.1.length = 1 then decM (A.1.getD 0 []) else none := by unfold readL; rw [hA.out]
      have hsm : ∀ y ∈ A.1, y.length ≤ 1048576 := by have := (allL_small _ (zs.take 200) (Nat.le_refl _)).1; rw [hA.out] at this; exact this
      rw [hA.out] at hall
      obtain ⟨recs, n, ok⟩ := A
      simp only at hall hrl hsm
      rw [hul] at hrl
      have hH : Hid (readL (zs.take 200) = if ok = true ∧ n = l ∧ recs.length = 1 then decM (recs.getD 0 []) else none) := hrl
      clear hrl hA
      have hbV := fun W (hB : Below wr.heap.size wr W) => below_trans bwr hB
      by_cases hgood : ok = true ∧ n = l ∧ recs.length = 1
      · obtain ⟨rfl, rfl, hone⟩ := hgood
        have hE : Hid (readL (zs.take 200) = decM (recs.getD 0 [])) := by show _ = _; rw [hH.out, if_pos ⟨rfl, rfl, hone⟩]
        clear hH
        rcases hcase with ⟨hn, rfl⟩ | ⟨m, v, hm, hR, rfl, hv⟩
        · unfold nilMan
          obtain ⟨U, hU, mU, bU⟩ : ∃ U, U = D2.alloc (.cells #[.slice none 0 0, .int .i64 0, .int .i64 0] 24) ∧ Mb U D2.heap.size (.slice none 0 0) (.int .i64 0) (.int .i64 0) ∧ Below D2.heap.size D2 U := ⟨_, rfl, Mb.new _ _ _ _, (Below.refl _ _).alloc (Nat.le_refl _) _⟩
          have b2U := below_trans b12 bU
          go_wp2_with fail
          rw [← hU]
          clear hU
          with_reducible refine (hcut U b2U).mono ?_
          rintro e U' ⟨l2, rfl, _, t2, rfl⟩
          obtain rfl : l2 = n := by have := t2.len_eq; omega
          go_wp2_with fail
          with_reducible refine (hall U b2U _ t2).mono ?_
          rintro e U2 ⟨ro, rl, rc, rfl, L2, b3⟩
          have b2U2 := below_trans b2U b3
          have hrlen := L2.len_eq
          have mU2 := mU.later b3
          clear mU
          obtain rfl : rl = 1 := by omega
          obtain ⟨rb, rf, rfl, hrc⟩ := L2.headB (by omega)
          have hy : recs[0]? = some (recs.getD 0 []) := by
            match recs, hrlen with
            | [y], _ => rfl
          obtain ⟨eo, el, ec, r0, t3⟩ := hrc 0 _ hy
          rw [Nat.add_zero] at r0
          have hel : el ≤ 900000000 := by have := t3.len_eq; have := hsm _ (List.mem_of_getElem? hy); omega
          go_wp2_with fail
          with_reducible refine (hcut U2 b2U2).mono ?_
          rintro e U2' ⟨l3, rfl, _, t4, rfl⟩
          obtain rfl : l3 = l2 := by have := t4.len_eq; have := t2.len_eq; omega
          obtain ⟨X1, hX1, mX, bX⟩ : ∃ X1, X1 = U2.alloc (.cells #[.slice none 0 0, .int .i64 0, .int .i64 0] 24) ∧ Mb X1 U2.heap.size (.slice none 0 0) (.int .i64 0) (.int .i64 0) ∧ Below U2.heap.size U2 X1 := ⟨_, rfl, Mb.new _ _ _ _, (Below.refl _ _).alloc (Nat.le_refl _) _⟩
          have mU3 := mU2.later bX
          have b2X := below_trans b2U2 bX
          have r1 := fun o => cell_later ((Below.refl U2.heap.size U2).alloc (Nat.le_refl _) o) r0
          have hrd := refdec_any eo el ec _ X1 (t3.later bX) hel
          rw [← hE.out] at hrd
          rw [hn] at hrd
          have hne0 : ¬ D2.heap.size = U2.heap.size := by have := mU2.lt; omega
          clear hrc r0 t2 t3 t4 L2 hall hcut hrlen hsm hone hy hE mU2
          go_wp2_with fail
          rw [← hX1]
          clear hX1 r1
          with_reducible refine hrd.mono ?_
          rintro e Y ⟨hc2, b4⟩
          rcases hc2 with ⟨_, rfl⟩ | ⟨m', bo', lb', cb', hs', _⟩
          case inr => cases hs'
          case inl =>
            have mX4 := mX.later b4
            have mU4 := mU3.later b4
            have hne : ¬ D2.heap.size = U2.heap.size := hne0
            have c0 := mX4.c0
            have c1 := mX4.c1
            have c2 := mX4.c2
            have z0 := mX4.z 0
            have z1 := mX4.z 1
            have z2 := mX4.z 2
            have hOY := three_off U2.heap.size Y (.slice none 0 0) (.int .i64 0) (.int .i64 0)
            have mX5 := ((mX4.set0 (.slice none 0 0)).set1 (.int .i64 0)).set2 (.int .i64 0)
            have mU5 := mU4.off hOY (by simp; omega)
            obtain ⟨Y2, hY2⟩ : ∃ Y2, Y2 = ((Y.setCell ⟨U2.heap.size, 0, none⟩ (.slice none 0 0)).setCell ⟨U2.heap.size, 1, none⟩ (.int .i64 0)).setCell ⟨U2.heap.size, 2, none⟩ (.int .i64 0) := ⟨_, rfl⟩
            have bY : Below wr.heap.size wr Y2 := by
              rw [hY2]
              have h1 := below_trans b2X b4
              exact h1.trans (hOY.below (by simp; have := b2U2.size; omega) h1.size)
            rw [← hY2] at mX5 mU5
            have u0 := mU4.c0
            have u1 := mU4.c1
            have u2 := mU4.c2
            have hs := same_man none none 0 0 0 0 [] [] 0 0 0 0 Y2 (Lx.nil _ _ _) (Lx.nil _ _ _) (by omega) (by omega)
            rw [show (decide (([] : List Int) = []) && decide ((0 : Int) = 0) && decide ((0 : Int) = 0)) = true by simp] at hs
            clear mX4 mU4 hOY mX5 mU5 b4
            go_wp2_with fail
            rw [← hY2]
            clear hY2 c0 c1 c2 z0 z1 z2 u0 u1 u2
            with_reducible refine hs.mono ?_
            rintro e Y3 ⟨rfl, b5⟩
            have bY3 := below_trans bY b5
            go_wp2
            go_round
            case rel => exact ⟨k + 1, by omega, by go_num, hbV _ bY3⟩
            case measure => simp [intOf]; omega
        · obtain ⟨go, gl, gc, rfl, lg, hgn⟩ := hv
          have hgl : gl ≤ 255 := by have := lg.len_eq; have := hR.1; omega
          obtain ⟨U, hU, mU, bU⟩ : ∃ U, U = D2.alloc (.cells #[.slice go gl gc, .int .i64 m.wal, .int .i64 m.nxt] 24) ∧ Mb U D2.heap.size (.slice go gl gc) (.int .i64 m.wal) (.int .i64 m.nxt) ∧ Below D2.heap.size D2 U := ⟨_, rfl, Mb.new _ _ _ _, (Below.refl _ _).alloc (Nat.le_refl _) _⟩
          have b2U := below_trans b12 bU
          go_wp2_with fail
          rw [← hU]
          clear hU
          with_reducible refine (hcut U b2U).mono ?_
          rintro e U' ⟨l2, rfl, _, t2, rfl⟩
          obtain rfl : l2 = n := by have := t2.len_eq; omega
          go_wp2_with fail
          with_reducible refine (hall U b2U _ t2).mono ?_
          rintro e U2 ⟨ro, rl, rc, rfl, L2, b3⟩
          have b2U2 := below_trans b2U b3
          have hrlen := L2.len_eq
          have mU2 := mU.later b3
          clear mU
          obtain rfl : rl = 1 := by omega
          obtain ⟨rb, rf, rfl, hrc⟩ := L2.headB (by omega)
          have hy : recs[0]? = some (recs.getD 0 []) := by
            match recs, hrlen with
            | [y], _ => rfl
          obtain ⟨eo, el, ec, r0, t3⟩ := hrc 0 _ hy
          rw [Nat.add_zero] at r0
          have hel : el ≤ 900000000 := by have := t3.len_eq; have := hsm _ (List.mem_of_getElem? hy); omega
          go_wp2_with fail
          with_reducible refine (hcut U2 b2U2).mono ?_
          rintro e U2' ⟨l3, rfl, _, t4, rfl⟩
          obtain rfl : l3 = l2 := by have := t4.len_eq; have := t2.len_eq; omega
          obtain ⟨X1, hX1, mX, bX⟩ : ∃ X1, X1 = U2.alloc (.cells #[.slice none 0 0, .int .i64 0, .int .i64 0] 24) ∧ Mb X1 U2.heap.size (.slice none 0 0) (.int .i64 0) (.int .i64 0) ∧ Below U2.heap.size U2 X1 := ⟨_, rfl, Mb.new _ _ _ _, (Below.refl _ _).alloc (Nat.le_refl _) _⟩
          have mU3 := mU2.later bX
          have b2X := below_trans b2U2 bX
          have r1 := fun o => cell_later ((Below.refl U2.heap.size U2).alloc (Nat.le_refl _) o) r0
          have hrd := refdec_any eo el ec _ X1 (t3.later bX) hel
          rw [← hE.out] at hrd
          rw [hm] at hrd
          have hne0 : ¬ D2.heap.size = U2.heap.size := by have := mU2.lt; omega
          have lg3 := ((lg.later RI.stable bU).later RI.stable b3).later RI.stable bX
          clear hrc r0 t2 t3 t4 L2 hall hcut hrlen hsm hone hy hE mU2
          go_wp2_with fail
          rw [← hX1]
          clear hX1 r1
          with_reducible refine hrd.mono ?_
          rintro e Y ⟨hc2, b4⟩
          rcases hc2 with ⟨hs', _⟩ | ⟨m', wo, wl, wc, hs', _, rfl, lw, hlw⟩
          case inl => cases hs'
          case inr =>
            obtain rfl := Option.some.inj hs'
            have hwl : wl ≤ 255 := by have := lw.len_eq; have := hR.1; omega
            have mX4 := mX.later b4
            have mU4 := mU3.later b4
            have hne : ¬ D2.heap.size = U2.heap.size := hne0
            have c0 := mX4.c0
            have c1 := mX4.c1
            have c2 := mX4.c2
            have z0 := mX4.z 0
            have z1 := mX4.z 1
            have z2 := mX4.z 2
            have hOY := three_off U2.heap.size Y (.slice wo wl wc) (.int .i64 m.wal) (.int .i64 m.nxt)
            have mX5 := ((mX4.set0 (.slice wo wl wc)).set1 (.int .i64 m.wal)).set2 (.int .i64 m.nxt)
            have mU5 := mU4.off hOY (by simp; omega)
            obtain ⟨Y2, hY2⟩ : ∃ Y2, Y2 = ((Y.setCell ⟨U2.heap.size, 0, none⟩ (.slice wo wl wc)).setCell ⟨U2.heap.size, 1, none⟩ (.int .i64 m.wal)).setCell ⟨U2.heap.size, 2, none⟩ (.int .i64 m.nxt) := ⟨_, rfl⟩
            have bY : Below wr.heap.size wr Y2 := by
              rw [hY2]
              have h1 := below_trans b2X b4
              exact h1.trans (hOY.below (by simp; have := b2U2.size; omega) h1.size)
            have lg5 : Lx 1 RI Y2 go gl gc m.ts := by rw [hY2]; exact (lg3.later RI.stable b4).offK hOY (fun ad h h0 hi => by have := lg.ltK ad h h0; have := bU.size; have := b3.size; simp at hi; omega)
            have lw5 : Lx 1 RI Y2 wo wl wc m.ts := by rw [hY2]; exact lw.offK hOY (fun ad h h0 hi => by have := hlw ad h; have := mX.lt; simp at hi; omega)
            rw [← hY2] at mX5 mU5
            have u0 := mU4.c0
            have u1 := mU4.c1
            have u2 := mU4.c2
            have hs := same_man go wo gl gc wl wc m.ts m.ts m.wal m.nxt m.wal m.nxt Y2 lg5 lw5 (by omega) (by omega)
            rw [show (decide (m.ts = m.ts) && decide (m.wal = m.wal) && decide (m.nxt = m.nxt)) = true by simp] at hs
            clear mX4 mU4 hOY mX5 mU5 b4
            go_wp2_with fail
            rw [← hY2]
            clear hY2 c0 c1 c2 z0 z1 z2 u0 u1 u2
            with_reducible refine hs.mono ?_
            rintro e Y3 ⟨rfl, b5⟩
            have bY3 := below_trans bY b5
            go_wp2
            go_round
            case rel => exact ⟨k + 1, by omega, by go_num, hbV _ bY3⟩
            case measure => simp [intOf]; omega
      · have hE : Hid (readL (zs.take 200) = none) := by show _ = _; rw [hH.out, if_neg hgood]
        clear hH
        rcases hcase with ⟨hn, rfl⟩ | ⟨m, v, hm, hR, rfl, hv⟩
        · clear hn
          unfold nilMan
          obtain ⟨U, hU, mU, bU⟩ : ∃ U, U = D2.alloc (.cells #[.slice none 0 0, .int .i64 0, .int .i64 0] 24) ∧ Mb U D2.heap.size (.slice none 0 0) (.int .i64 0) (.int .i64 0) ∧ Below D2.heap.size D2 U := ⟨_, rfl, Mb.new _ _ _ _, (Below.refl _ _).alloc (Nat.le_refl _) _⟩
          have b2U := below_trans b12 bU
          go_wp2_with fail
          rw [← hU]
          clear hU
          with_reducible refine (hcut U b2U).mono ?_
          rintro e U' ⟨l2, rfl, _, t2, rfl⟩
          obtain rfl : l2 = l := by have := t2.len_eq; omega
          go_wp2_with fail
          with_reducible refine (hall U b2U _ t2).mono ?_
          rintro e U2 ⟨ro, rl, rc, rfl, L2, b3⟩
          have b2U2 := below_trans b2U b3
          have hrlen := L2.len_eq
          have mU2 := mU.later b3
          clear mU
          cases ok with
          | false =>
            obtain ⟨X1, hX1, mX, bX⟩ : ∃ X1, X1 = U2.alloc (.cells #[.slice none 0 0, .int .i64 0, .int .i64 0] 24) ∧ Mb X1 U2.heap.size (.slice none 0 0) (.int .i64 0) (.int .i64 0) ∧ Below U2.heap.size U2 X1 := ⟨_, rfl, Mb.new _ _ _ _, (Below.refl _ _).alloc (Nat.le_refl _) _⟩
            have mU3 := mU2.later bX
            have b2X := below_trans b2U2 bX
            have hs := same_man none none 0 0 0 0 [] [] 0 0 0 0 X1 (Lx.nil _ _ _) (Lx.nil _ _ _) (by omega) (by omega)
            rw [show (decide (([] : List Int) = []) && decide ((0 : Int) = 0) && decide ((0 : Int) = 0)) = true by decide] at hs
            have p0 := fun o => cell_later ((Below.refl U2.heap.size U2).alloc (Nat.le_refl _) o) mU2.c0
            have p1 := fun o => cell_later ((Below.refl U2.heap.size U2).alloc (Nat.le_refl _) o) mU2.c1
            have p2 := fun o => cell_later ((Below.refl U2.heap.size U2).alloc (Nat.le_refl _) o) mU2.c2
            clear hgood t2 L2 hall hcut hrlen hE hsm
            go_wp2_with fail
            rw [← hX1]
            clear hX1 p0 p1 p2
            with_reducible refine hs.mono ?_
            rintro e X2 ⟨rfl, b4⟩
            have b2X2 := below_trans b2X b4
            go_wp2
            go_round
            case rel => exact ⟨k + 1, by omega, by go_num, hbV _ b2X2⟩
            case measure => simp [intOf]; omega
          | true =>
            by_cases h1 : rl = 1
            · have hn : ¬ n = l2 := fun h => hgood ⟨rfl, by omega, by omega⟩
              subst h1
              go_wp2_with fail
              with_reducible refine (hcut U2 b2U2).mono ?_
              rintro e U2' ⟨l3, rfl, _, t3, rfl⟩
              obtain rfl : l3 = l2 := by have := t3.len_eq; have := t2.len_eq; omega
              obtain ⟨X1, hX1, mX, bX⟩ : ∃ X1, X1 = U2.alloc (.cells #[.slice none 0 0, .int .i64 0, .int .i64 0] 24) ∧ Mb X1 U2.heap.size (.slice none 0 0) (.int .i64 0) (.int .i64 0) ∧ Below U2.heap.size U2 X1 := ⟨_, rfl, Mb.new _ _ _ _, (Below.refl _ _).alloc (Nat.le_refl _) _⟩
              have mU3 := mU2.later bX
              have b2X := below_trans b2U2 bX
              have hs := same_man none none 0 0 0 0 [] [] 0 0 0 0 X1 (Lx.nil _ _ _) (Lx.nil _ _ _) (by omega) (by omega)
              rw [show (decide (([] : List Int) = []) && decide ((0 : Int) = 0) && decide ((0 : Int) = 0)) = true by decide] at hs
              have p0 := fun o => cell_later ((Below.refl U2.heap.size U2).alloc (Nat.le_refl _) o) mU2.c0
              have p1 := fun o => cell_later ((Below.refl U2.heap.size U2).alloc (Nat.le_refl _) o) mU2.c1
              have p2 := fun o => cell_later ((Below.refl U2.heap.size U2).alloc (Nat.le_refl _) o) mU2.c2
              clear hgood t2 t3 L2 hall hcut hrlen hE hsm
              go_wp2_with fail
              rw [← hX1]
              clear hX1 p0 p1 p2
              with_reducible refine hs.mono ?_
              rintro e X2 ⟨rfl, b4⟩
              have b2X2 := below_trans b2X b4
              go_wp2
              go_round
              case rel => exact ⟨k + 1, by omega, by go_num, hbV _ b2X2⟩
              case measure => simp [intOf]; omega
            · clear hgood
              obtain ⟨X1, hX1, mX, bX⟩ : ∃ X1, X1 = U2.alloc (.cells #[.slice none 0 0, .int .i64 0, .int .i64 0] 24) ∧ Mb X1 U2.heap.size (.slice none 0 0) (.int .i64 0) (.int .i64 0) ∧ Below U2.heap.size U2 X1 := ⟨_, rfl, Mb.new _ _ _ _, (Below.refl _ _).alloc (Nat.le_refl _) _⟩
              have mU3 := mU2.later bX
              have b2X := below_trans b2U2 bX
              have hs := same_man none none 0 0 0 0 [] [] 0 0 0 0 X1 (Lx.nil _ _ _) (Lx.nil _ _ _) (by omega) (by omega)
              rw [show (decide (([] : List Int) = []) && decide ((0 : Int) = 0) && decide ((0 : Int) = 0)) = true by decide] at hs
              have p0 := fun o => cell_later ((Below.refl U2.heap.size U2).alloc (Nat.le_refl _) o) mU2.c0
              have p1 := fun o => cell_later ((Below.refl U2.heap.size U2).alloc (Nat.le_refl _) o) mU2.c1
              have p2 := fun o => cell_later ((Below.refl U2.heap.size U2).alloc (Nat.le_refl _) o) mU2.c2
              clear t2 L2 hall hcut hrlen hE hsm
              go_wp2_with fail
              rw [← hX1]
              clear hX1 p0 p1 p2
              with_reducible refine hs.mono ?_
              rintro e X2 ⟨rfl, b4⟩
              have b2X2 := below_trans b2X b4
              go_wp2
              go_round
              case rel => exact ⟨k + 1, by omega, by go_num, hbV _ b2X2⟩
              case measure => simp [intOf]; omega
        · rw [hE.out] at hm; cases hm
    · have hkk : ¬ k < 4 := hk4
      go_wp2_with fail
      with_reducible refine (known_any wr).mono ?_
      rintro e W9 ⟨rfl, b9⟩
      go_wp2
      go_ret
      exact ⟨rfl, bV.trans ((below_trans bwr b9).mono bV.size)⟩
end Go.Proofs.YtgleblfkcdkaeaaDoor
