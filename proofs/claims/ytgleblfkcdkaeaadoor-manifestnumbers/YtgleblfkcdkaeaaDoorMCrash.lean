/- The walk of ManifestCrashes: power that goes at any call of a Write. -/
import Derived.Test.YtgleblfkcdkaeaaDoorMMade
namespace Go.Proofs.YtgleblfkcdkaeaaDoor
set_option maxRecDepth 100000
open Go.RowKit Go.Sort

theorem fL_data (x : List Int) (s : Nat) : (fL x s).data = x := rfl
theorem rec_len (m : Man) (h : m.ts.length ≤ 12) : (recL m.enc).length ≤ 49 := by rw [length_recL, Man.enc_len]; omega
theorem right_i64 {m : Man} (h : m.Right) : i64ok m.wal ∧ i64ok m.nxt := by obtain ⟨_, h1, h2, h3, _⟩ := h; unfold i64ok; omega
theorem wrap_ok (n : Int) : i64ok (wrap64 n) := by unfold i64ok wrap64; omega

/-- Two variables, each with a list of tables. -/
theorem two_boxes (W : World) (a b c a' b' c' : Value) : ∃ V, V = (W.alloc (.cells #[a, b, c] 24)).alloc (.cells #[a', b', c'] 24) ∧ Mb V W.heap.size a b c ∧ Mb V (W.heap.size + 1) a' b' c' ∧ Below W.heap.size W V := by
  have b1 : Below W.heap.size W (W.alloc (.cells #[a, b, c] 24)) := (Below.refl _ _).alloc (Nat.le_refl _) _
  have m1 := (Mb.new W a b c).later ((Below.refl _ _).alloc (Nat.le_refl _) (.cells #[a', b', c'] 24))
  have m2 := Mb.new (W.alloc (.cells #[a, b, c] 24)) a' b' c'
  rw [show (W.alloc (.cells #[a, b, c] 24)).heap.size = W.heap.size + 1 by simp] at m2
  exact ⟨_, rfl, m1, m2, below_trans b1 ((Below.refl _ _).alloc (Nat.le_refl _) _)⟩

set_option maxHeartbeats 16000000 in
theorem crashes_walk (ao : Option Addr) (la ca : Nat) (xs : List Int) (bo : Option Addr) (lb cb : Nat) (ys : List Int) (wal arm keep : Int) (w1 : -9223372036854775808 ≤ wal) (w2 : wal ≤ 9223372036854775807) (a1 : -9223372036854775808 ≤ arm) (a2 : arm ≤ 9223372036854775807) (k1 : -9223372036854775808 ≤ keep) (k2 : keep ≤ 9223372036854775807) (w : World) (ha : Lx 1 RI w ao la ca xs) (hb : Lx 1 RI w bo lb cb ys) :
    Calls Tryd.prog 6 #[.slice ao la ca, .slice bo lb cb, .int .i64 wal, .int .i64 arm, .int .i64 keep] w fun e w' => e = .returned (.bool true) ∧ Below w.heap.size w w' := by
  have hm1 := made_any ao la ca xs wal 1 w ha ⟨w1, w2⟩ (by decide)
  have hm2 := fun W (hB : Below w.heap.size w W) => made_any bo lb cb ys (wrap64 (wal + 1)) 2 W (hb.later RI.stable hB) (wrap_ok _) (by decide)
  go_enter Tryd.func6, Tryd.ntmps6
  go_wp2_with fail
  with_reducible refine hm1.mono ?_
  rintro e W1 ⟨⟨x, v1, rfl, hx, hxR, hx12, _⟩, b1⟩
  go_wp2_with fail
  with_reducible refine (hm2 W1 b1).mono ?_
  rintro e W2 ⟨⟨y, v2, rfl, hy, hyR, hy12, _⟩, b2⟩
  have hx := hx.later b2
  obtain ⟨xo, xl, xc, rfl, lx, _⟩ := hx
  obtain ⟨yo, yl, yc, rfl, ly, _⟩ := hy
  obtain ⟨V, hV, mx, my, bV⟩ := two_boxes W2 (.slice xo xl xc) (.int .i64 x.wal) (.int .i64 x.nxt) (.slice yo yl yc) (.int .i64 y.wal) (.int .i64 y.nxt)
  have lx := lx.later RI.stable bV
  have ly := ly.later RI.stable bV
  have bwV := below_trans b1 (below_trans b2 bV)
  obtain ⟨xw1, xn1⟩ := right_i64 hxR
  obtain ⟨yw1, yn1⟩ := right_i64 hyR
  clear hm1 hm2 ha hb
  go_wp2_with fail
  rw [← hV]
  clear hV
  have hXr := rec_len x hx12
  have hYr := rec_len y hy12
  have hreadX := readL_rec x hxR
  have hreadY := readL_rec y hyR
  have hwX := wrote_calm 16777216 [] none st_none (recL x.enc) (by simp [len0]; omega) (by omega)
  obtain ⟨p1, p2⟩ := wfun_rng arm 0 6 (by omega)
  have wi := fun W => within_eq arm 0 6 a1 a2 (by omega) (by omega) (by omega) W
  generalize wfun arm 0 6 = k at *
  with_reducible refine (fresh_x V).mono ?_
  rintro e W3 ⟨rfl, d0, b3⟩
  have x0 := (mx.later b3).c0
  have x1 := (mx.later b3).c1
  have x2 := (mx.later b3).c2
  have y0 := (my.later b3).c0
  have y1 := (my.later b3).c1
  have y2 := (my.later b3).c2
  go_wp2_with fail
  with_reducible refine (write_x d0 (by simp) xo xl xc x.ts x.wal x.nxt (lx.later RI.stable b3) xw1 xn1 hxR _ 0 hwX).mono ?_
  rintro e W4 ⟨rfl, d1, q4⟩
  have b4 := b3.trans (q4.below d0.size)
  clear x0 x1 x2 y0 y1 y2
  have x0 := (mx.later b4).c0
  have x1 := (mx.later b4).c1
  have x2 := (mx.later b4).c2
  have y0 := (my.later b4).c0
  have y1 := (my.later b4).c1
  have y2 := (my.later b4).c2
  go_wp2_with fail
  with_reducible refine (wi W4).mono ?_
  rintro e W4' ⟨rfl, rfl⟩
  go_wp2_with fail
  with_reducible refine (arm_x d1 k (by omega) (by omega)).mono ?_
  rintro e W5 ⟨rfl, d2, q5⟩
  have b5 := b4.trans (q5.below d1.size)
  rw [show (⟨16777216, [fL (recL x.enc) (recL x.enc).length], 0, false⟩ : Dm).arm k = ⟨16777216, [fL (recL x.enc) (recL x.enc).length], k, false⟩ from rfl] at d2
  clear x0 x1 x2 y0 y1 y2 d1 hwX wi
  have x0 := (mx.later b5).c0
  have x1 := (mx.later b5).c1
  have x2 := (mx.later b5).c2
  have y0 := (my.later b5).c0
  have y1 := (my.later b5).c1
  have y2 := (my.later b5).c2
  have hsx := fun W (hB : Below V.heap.size V W) mo ml mc (lm : Lx 1 RI W mo ml mc x.ts) => same_man mo xo ml mc xl xc x.ts x.ts x.wal x.nxt x.wal x.nxt W lm (lx.later RI.stable hB) (by have := lm.len_eq; omega) (by have := lx.len_eq; omega)
  have hsy := fun W (hB : Below V.heap.size V W) mo ml mc (lm : Lx 1 RI W mo ml mc y.ts) => same_man mo yo ml mc yl yc y.ts y.ts y.wal y.nxt y.wal y.nxt W lm (ly.later RI.stable hB) (by have := lm.len_eq; omega) (by have := ly.len_eq; omega)
  rw [show (decide (x.ts = x.ts) && decide (x.wal = x.wal) && decide (x.nxt = x.nxt)) = true by simp] at hsx
  rw [show (decide (y.ts = y.ts) && decide (y.wal = y.wal) && decide (y.nxt = y.nxt)) = true by simp] at hsy
  rcases wrote_any (lim := 16777216) (k := k) (b := recL y.enc) (st_one (recL x.enc) (recL x.enc).length) p1 (by simp [len0]; omega) (by omega) with ⟨j, hw, _, _⟩ | ⟨l', hst, hw, _, _⟩
  · clear p1 p2
    go_wp2_with fail
    with_reducible refine (write_x d2 (by simp) yo yl yc y.ts y.wal y.nxt (ly.later RI.stable b5) yw1 yn1 hyR _ 0 hw).mono ?_
    rintro e W6 ⟨rfl, d3, q6⟩
    have b6 := b5.trans (q6.below d2.size)
    clear x0 x1 x2 y0 y1 y2 hw d2
    go_wp2_with fail
    with_reducible refine (crash_x d3 keep (by simp) k1 k2).mono ?_
    rintro e W7 ⟨rfl, d4, q7⟩
    have b7 := b6.trans (q7.below d3.size)
    have hst2 := crash_st (st_one (recL y.enc) (recL y.enc).length) keep
    have hlen2 := st_length hst2
    have hget := get_st_list hst2
    unfold Dm.crash at d4
    clear d3
    simp only at d4
    go_wp2_with fail
    with_reducible refine (readm_some d4 (by simp only; omega) hget (by rw [fL_data]; omega)).mono ?_
    rintro e W8 ⟨hcase, b8⟩
    rcases hcase with ⟨hn, _⟩ | ⟨m, v, hm, _, rfl, hv⟩
    · exact absurd (hn.symm.trans hreadY) (by simp)
    obtain rfl := Option.some.inj (hreadY.symm.trans hm)
    obtain ⟨mo, ml, mc, rfl, lm, _⟩ := hv
    have d8 := d4.later b8
    have b8' := b7.trans (b8.mono b7.size)
    obtain ⟨U, hU, mU, bU⟩ : ∃ U, U = W8.alloc (.cells #[.slice mo ml mc, .int .i64 y.wal, .int .i64 y.nxt] 24) ∧ Mb U W8.heap.size (.slice mo ml mc) (.int .i64 y.wal) (.int .i64 y.nxt) ∧ Below W8.heap.size W8 U := ⟨_, rfl, Mb.new _ _ _ _, (Below.refl _ _).alloc (Nat.le_refl _) _⟩
    have bVU := b8'.trans (bU.mono b8'.size)
    have dU := d8.later bU
    have lmU := lm.later RI.stable bU
    have u0 := mU.c0
    have u1 := mU.c1
    have u2 := mU.c2
    have b8q := b8'
    clear hm lm d8 d4 b8 b8'
    have x0 := fun o => cell_later ((Below.refl W8.heap.size W8).alloc (Nat.le_refl _) o) (mx.later b8q).c0
    have x1 := fun o => cell_later ((Below.refl W8.heap.size W8).alloc (Nat.le_refl _) o) (mx.later b8q).c1
    have x2 := fun o => cell_later ((Below.refl W8.heap.size W8).alloc (Nat.le_refl _) o) (mx.later b8q).c2
    have y0 := fun o => cell_later ((Below.refl W8.heap.size W8).alloc (Nat.le_refl _) o) (my.later b8q).c0
    have y1 := fun o => cell_later ((Below.refl W8.heap.size W8).alloc (Nat.le_refl _) o) (my.later b8q).c1
    have y2 := fun o => cell_later ((Below.refl W8.heap.size W8).alloc (Nat.le_refl _) o) (my.later b8q).c2
    go_wp2_with fail
    rw [← hU]
    clear x0 x1 x2 y0 y1 y2
    with_reducible refine (hsy U bVU mo ml mc lmU).mono ?_
    rintro e U1 ⟨rfl, b9⟩
    have bU1 := bVU.trans (b9.mono bVU.size)
    have dU1 := dU.later b9
    clear hU
    have x0 := (mx.later bU1).c0
    have x1 := (mx.later bU1).c1
    have x2 := (mx.later bU1).c2
    have y0 := (my.later bU1).c0
    have y1 := (my.later bU1).c1
    have y2 := (my.later bU1).c2
    have hcalm := wrote_calm 16777216 _ _ hst2 (recL y.enc) (by simp [len0]; omega) (by omega)
    go_wp2_with fail
    with_reducible refine (write_x dU1 (by simp only; omega) yo yl yc y.ts y.wal y.nxt (ly.later RI.stable bU1) yw1 yn1 hyR _ 0 hcalm).mono ?_
    rintro e U2 ⟨rfl, d9, q9⟩
    have bU2 := bU1.trans (q9.below dU1.size)
    clear x0 x1 x2 y0 y1 y2 u0 u1 u2 hcalm d9 dU1 dU lmU
    go_wp2_with fail
    with_reducible refine (known_any U2).mono ?_
    rintro e U3 ⟨rfl, b10⟩
    go_wp2
    go_ret
    exact ⟨rfl, bwV.trans ((bU2.trans (b10.mono bU2.size)).mono bwV.size)⟩
  · clear p1 p2
    go_wp2_with fail
    with_reducible refine (write_x d2 (by simp) yo yl yc y.ts y.wal y.nxt (ly.later RI.stable b5) yw1 yn1 hyR _ 13 hw).mono ?_
    rintro e W6 ⟨rfl, d3, q6⟩
    have b6 := b5.trans (q6.below d2.size)
    clear x0 x1 x2 y0 y1 y2 hw d2
    go_wp2_with fail
    with_reducible refine (crash_x d3 keep (st_length hst |> fun h => by simp only; omega) k1 k2).mono ?_
    rintro e W7 ⟨rfl, d4, q7⟩
    have b7 := b6.trans (q7.below d3.size)
    have hst2 := crash_st hst keep
    have hlen2 := st_length hst2
    have hget := get_st_list hst2
    unfold Dm.crash at d4
    clear d3
    simp only at d4
    go_wp2_with fail
    with_reducible refine (readm_some d4 (by simp only; omega) hget (by rw [fL_data]; omega)).mono ?_
    rintro e W8 ⟨hcase, b8⟩
    rcases hcase with ⟨hn, _⟩ | ⟨m, v, hm, _, rfl, hv⟩
    · exact absurd (hn.symm.trans hreadX) (by simp)
    obtain rfl := Option.some.inj (hreadX.symm.trans hm)
    obtain ⟨mo, ml, mc, rfl, lm, _⟩ := hv
    have d8 := d4.later b8
    have b8' := b7.trans (b8.mono b7.size)
    obtain ⟨U, hU, mU, bU⟩ : ∃ U, U = W8.alloc (.cells #[.slice mo ml mc, .int .i64 x.wal, .int .i64 x.nxt] 24) ∧ Mb U W8.heap.size (.slice mo ml mc) (.int .i64 x.wal) (.int .i64 x.nxt) ∧ Below W8.heap.size W8 U := ⟨_, rfl, Mb.new _ _ _ _, (Below.refl _ _).alloc (Nat.le_refl _) _⟩
    have bVU := b8'.trans (bU.mono b8'.size)
    have dU := d8.later bU
    have lmU := lm.later RI.stable bU
    have u0 := mU.c0
    have u1 := mU.c1
    have u2 := mU.c2
    have b8q := b8'
    clear hm lm d8 d4 b8 b8'
    have x0 := fun o => cell_later ((Below.refl W8.heap.size W8).alloc (Nat.le_refl _) o) (mx.later b8q).c0
    have x1 := fun o => cell_later ((Below.refl W8.heap.size W8).alloc (Nat.le_refl _) o) (mx.later b8q).c1
    have x2 := fun o => cell_later ((Below.refl W8.heap.size W8).alloc (Nat.le_refl _) o) (mx.later b8q).c2
    have y0 := fun o => cell_later ((Below.refl W8.heap.size W8).alloc (Nat.le_refl _) o) (my.later b8q).c0
    have y1 := fun o => cell_later ((Below.refl W8.heap.size W8).alloc (Nat.le_refl _) o) (my.later b8q).c1
    have y2 := fun o => cell_later ((Below.refl W8.heap.size W8).alloc (Nat.le_refl _) o) (my.later b8q).c2
    go_wp2_with fail
    rw [← hU]
    clear x0 x1 x2 y0 y1 y2
    with_reducible refine (hsx U bVU mo ml mc lmU).mono ?_
    rintro e U1 ⟨rfl, b9⟩
    have bU1 := bVU.trans (b9.mono bVU.size)
    have dU1 := dU.later b9
    clear hU
    have x0 := (mx.later bU1).c0
    have x1 := (mx.later bU1).c1
    have x2 := (mx.later bU1).c2
    have y0 := (my.later bU1).c0
    have y1 := (my.later bU1).c1
    have y2 := (my.later bU1).c2
    have hcalm := wrote_calm 16777216 _ _ hst2 (recL y.enc) (by simp [len0]; omega) (by omega)
    go_wp2_with fail
    with_reducible refine (write_x dU1 (by simp only; omega) yo yl yc y.ts y.wal y.nxt (ly.later RI.stable bU1) yw1 yn1 hyR _ 0 hcalm).mono ?_
    rintro e U2 ⟨rfl, d9, q9⟩
    have bU2 := bU1.trans (q9.below dU1.size)
    clear x0 x1 x2 y0 y1 y2 u0 u1 u2 hcalm d9 dU1 dU lmU
    go_wp2_with fail
    with_reducible refine (known_any U2).mono ?_
    rintro e U3 ⟨rfl, b10⟩
    go_wp2
    go_ret
    exact ⟨rfl, bwV.trans ((bU2.trans (b10.mono bU2.size)).mono bwV.size)⟩
end Go.Proofs.YtgleblfkcdkaeaaDoor
