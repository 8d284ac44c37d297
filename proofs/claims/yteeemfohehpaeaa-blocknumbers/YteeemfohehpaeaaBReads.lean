/- The walk of the statements' own 'reads': All, Seek and Restarts against the document's. -/
import Derived.Test.YteeemfohehpaeaaBRest
import Derived.Test.YteeemfohehpaeaaPD
namespace Go.Proofs.Yteeemfohehpaeaa
set_option maxRecDepth 100000
open Go.RowKit Go.Sort

theorem below_tr2 {a b c : World} (h : Below a.heap.size a b) (k : Below b.heap.size b c) : Below a.heap.size a c := h.trans (k.mono h.size)

set_option maxHeartbeats 8000000 in
theorem reads_no (bo : Option Addr) (lb cb : Nat) (xs : List Int) (ko : Option Addr) (lk ck : Nat) (ks : List Int) (w : World) (tb : Tx w bo lb cb xs) (tk : Tx w ko lk ck ks) (sb : lb ≤ 900000000) (sk : lk ≤ 900000000) (h : allB xs = none) :
    Calls Try.prog 11 #[.slice bo lb cb, .slice ko lk ck] w fun e w' => e = .returned (.bool true) ∧ Below w.heap.size w w' := by
  have hA := all_nope bo lb cb xs w tb sb h
  have hR := fun (W : World) (hW : Below w.heap.size w W) => rall_nope bo lb cb xs W (tb.later hW) sb h
  have hS := fun (W : World) (hW : Below w.heap.size w W) => seek_nope bo lb cb xs ko lk ck ks W (tb.later hW) (tk.later hW) sb sk h
  have hT := fun (W : World) (hW : Below w.heap.size w W) => restarts_no bo lb cb xs W (tb.later hW) sb h
  have hM := fun (W : World) => same8_any none none 0 0 0 0 [] [] W (Lx.nil _ _ _) (Lx.nil _ _ _) (by omega) (by omega)
  go_enter Try.func11, Try.ntmps11
  go_wp2_with (first
    | (go_at_call 28; with_reducible refine hA.mono ?_; rintro e W1 ⟨rfl, b1⟩; have hR1 := hR W1 b1)
    | (go_at_call 29; with_reducible refine hR1.mono ?_; rintro e W2 ⟨rfl, b2⟩; have B2 := below_tr2 b1 b2; have hS2 := hS W2 B2)
    | (go_at_call 30; with_reducible refine hS2.mono ?_; rintro e W3 ⟨rfl, b3⟩; have B3 := below_tr2 B2 b3))
  have bx := Box.new W3 (.slice none 0 0) (.slice none 0 0) false
  have b4 : Below W3.heap.size W3 (W3.alloc (.cells #[.slice none 0 0, .slice none 0 0, .bool false] 25)) := (Below.refl _ _).alloc (Nat.le_refl _) _
  have hs4 : (W3.alloc (.cells #[.slice none 0 0, .slice none 0 0, .bool false] 25)).heap.size = W3.heap.size + 1 := by simp
  generalize W3.alloc (.cells #[.slice none 0 0, .slice none 0 0, .bool false] 25) = W4 at bx b4 hs4 ⊢
  rw [← hs4]
  clear hs4
  have B4 := below_tr2 B3 b4
  have by5 := Box.new W4 (.slice none 0 0) (.slice none 0 0) false
  have b5 : Below W4.heap.size W4 (W4.alloc (.cells #[.slice none 0 0, .slice none 0 0, .bool false] 25)) := (Below.refl _ _).alloc (Nat.le_refl _) _
  generalize W4.alloc (.cells #[.slice none 0 0, .slice none 0 0, .bool false] 25) = W5 at by5 b5 ⊢
  have B5 := below_tr2 B4 b5
  have bx5 := bx.later b5
  have hT5 := hT W5 B5
  refine wp_loop_rounds 1 ?_
  rw [rounds_succ]
  have hs := sameL_refl []
  rw [hs] at hM
  go_wp2_with (first
    | (go_at_call 31; with_reducible refine hT5.mono ?_; rintro e W6 ⟨rfl, b6⟩; have hM6 := hM W6)
    | (go_at_call 24; with_reducible refine hM6.mono ?_; rintro e W7 ⟨rfl, b7⟩; have B7 := below_tr2 b6 b7; have bx7 := bx5.later B7; have by7 := by5.later B7; have x0 := bx7.c0; have x1 := bx7.c1; have x2 := bx7.c2; have y0 := by7.c0; have y1 := by7.c1; have y2 := by7.c2; have s0 := (Tx.nil W7).string))

  go_ret
  exact ⟨rfl, below_tr2 B5 B7⟩



/-- What Seek answers, and what the document's loop has found. -/
def Ans (W : World) (es : List Ent) (ks : List Int) (F : Bool) (xo : Option Addr) (xl xc : Nat) (yo : Option Addr) (yl yc : Nat) (G : Bool) : Prop :=
  ∃ k v, Tx W xo xl xc k ∧ Tx W yo yl yc v ∧ ((F = true ∧ ∃ e, seekL es ks = some e ∧ k = e.k ∧ v = e.v ∧ G = e.g) ∨ (F = false ∧ seekL es ks = none ∧ k = [] ∧ v = [] ∧ G = false))
theorem Ans.later {W W' : World} {es : List Ent} {ks : List Int} {F G : Bool} {xo yo : Option Addr} {xl xc yl yc : Nat} (h : Ans W es ks F xo xl xc yo yl yc G) (hb : Below W.heap.size W W') : Ans W' es ks F xo xl xc yo yl yc G := by
  obtain ⟨k, v, t1, t2, h3⟩ := h
  exact ⟨k, v, t1.later hb, t2.later hb, h3⟩
theorem Ans.same {W : World} {es : List Ent} {ks : List Int} {F G F' G' : Bool} {xo yo xo' yo' : Option Addr} {xl xc yl yc xl' xc' yl' yc' : Nat} (h : Ans W es ks F xo xl xc yo yl yc G) (h' : Ans W es ks F' xo' xl' xc' yo' yl' yc' G') :
    F' = F ∧ G' = G ∧ ∃ k v, Tx W xo xl xc k ∧ Tx W yo yl yc v ∧ Tx W xo' xl' xc' k ∧ Tx W yo' yl' yc' v := by
  obtain ⟨k, v, t1, t2, h3⟩ := h
  obtain ⟨k', v', t1', t2', h3'⟩ := h'
  rcases h3 with ⟨rfl, e, h4, rfl, rfl, rfl⟩ | ⟨rfl, h4, rfl, rfl, rfl⟩ <;> rcases h3' with ⟨rfl, e', h5, rfl, rfl, rfl⟩ | ⟨rfl, h5, rfl, rfl, rfl⟩
  · rw [h4] at h5; cases h5; exact ⟨rfl, rfl, _, _, t1, t2, t1', t2'⟩
  · rw [h4] at h5; cases h5
  · rw [h4] at h5; cases h5
  · exact ⟨rfl, rfl, _, _, t1, t2, t1', t2'⟩
theorem seek_ans (ao : Option Addr) (la ca : Nat) (xs : List Int) (bo : Option Addr) (lb cb : Nat) (ks : List Int) (w : World) (ha : Tx w ao la ca xs) (hk : Tx w bo lb cb ks) (sa : la ≤ 900000000) (sk : lb ≤ 900000000) (m : List Ent) (hm : allB xs = some m) :
    Calls Try.prog 30 #[.slice ao la ca, .slice bo lb cb] w fun e w' => ∃ F xo xl xc yo yl yc G, e = .returned (.tuple #[.agg #[.slice xo xl xc, .slice yo yl yc, .bool G], .bool F]) ∧ Ans w' m ks F xo xl xc yo yl yc G ∧ Below w.heap.size w w' := by
  refine (seek_any ao la ca xs bo lb cb ks w ha hk sa sk).mono ?_
  have he : entsOf xs = m := by unfold entsOf; rw [hm]; rfl
  rintro e w' ⟨⟨en', ko, kl, kc, vo, vl, vc, h1, rfl, tk, tv⟩ | ⟨h1, rfl⟩, hb⟩
  · rw [he] at h1; exact ⟨true, ko, kl, kc, vo, vl, vc, en'.g, rfl, ⟨_, _, tk, tv, .inl ⟨rfl, en', h1, rfl, rfl, rfl⟩⟩, hb⟩
  · rw [he] at h1; exact ⟨false, none, 0, 0, none, 0, 0, false, rfl, ⟨[], [], Tx.nil _, Tx.nil _, .inr ⟨rfl, h1, rfl, rfl, rfl⟩⟩, hb⟩
theorem Boxf.set (w : World) (bx : Nat) (k v a b : Value) (h : Boxf w bx a b false) (c : Bool) : Boxf (((w.setCell ⟨bx, 0, none⟩ k).setCell ⟨bx, 1, none⟩ v).setCell ⟨bx, 2, none⟩ (.bool c)) bx k v c := by
  obtain ⟨q0, q1, q2⟩ := box_set w bx k v a b h (.bool c)
  exact ⟨q0, q1, q2, fun j => by rw [World.frozen?_setCell, World.frozen?_setCell, World.frozen?_setCell]; exact h.z j⟩

set_option maxHeartbeats 16000000 in
theorem reads_yes (bo : Option Addr) (lb cb : Nat) (xs : List Int) (ko : Option Addr) (lk ck : Nat) (ks : List Int) (w : World) (tb : Tx w bo lb cb xs) (tk : Tx w ko lk ck ks) (sb : lb ≤ 900000000) (sk : lk ≤ 900000000) (es : List Ent) (h : allB xs = some es) :
    Calls Try.prog 11 #[.slice bo lb cb, .slice ko lk ck] w fun e w' => e = .returned (.bool true) ∧ Below w.heap.size w w' := by
  obtain ⟨l1, l255, hok⟩ := all_len h
  have hA := all_yes [] bo lb cb xs w tb sb (by simp) es h
  have hR := fun (W : World) (hW : Below w.heap.size w W) => rall_yes bo lb cb xs W (tb.later hW) sb es h
  have hS := fun (W : World) (hW : Below w.heap.size w W) => seek_ans bo lb cb xs ko lk ck ks W (tb.later hW) (tk.later hW) sb sk es h
  have hT := fun (W : World) (hW : Below w.heap.size w W) => restarts_yes bo lb cb xs W (tb.later hW) sb es h
  have hM := fun (po : Option Addr) (lp cp : Nat) (W : World) (h1 : Lx 3 RE W po lp cp es) (mo : Option Addr) (lm cm : Nat) (h2 : Lx 3 RE W mo lm cm es) => same8_any po mo lp cp lm cm es es W h1 h2 (by have := h1.len_eq; omega) (by have := h2.len_eq; omega)
  rw [sameL_refl es] at hM
  have hseek := fun k e => seek_at es ks k e
  have hnone := seek_none es ks
  have hcnt : cntB es = (es.length + 3) / 4 := rfl
  generalize cntB es = C at hT hcnt
  go_enter Try.func11, Try.ntmps11
  go_wp2_with (first
    | (go_at_call 28; with_reducible refine hA.mono ?_; rintro e W1 ⟨po, lp, cp, rfl, x1, b1⟩; have hR1 := hR W1 b1)
    | (go_at_call 29; with_reducible refine hR1.mono ?_; rintro e W2 ⟨mo, lm, cm, rfl, x2, b2⟩; have B2 := below_tr2 b1 b2; have hS2 := hS W2 B2)
    | (go_at_call 30; with_reducible refine hS2.mono ?_; rintro e W3 ⟨F, xo, xl, xc, yo, yl, yc, G, rfl, hx3, b3⟩; have B3 := below_tr2 B2 b3))
  have x1 := x1.weaken
  clear hA hR hR1 hS hS2
  have hlm := x2.len_eq
  have hlp := x1.len_eq
  have bx := Boxf.new' W3 (.slice xo xl xc) (.slice yo yl yc) G
  have b4 : Below W3.heap.size W3 (W3.alloc (.cells #[.slice xo xl xc, .slice yo yl yc, .bool G] 25)) := (Below.refl _ _).alloc (Nat.le_refl _) _
  have hs4 : (W3.alloc (.cells #[.slice xo xl xc, .slice yo yl yc, .bool G] 25)).heap.size = W3.heap.size + 1 := by simp
  generalize W3.alloc (.cells #[.slice xo xl xc, .slice yo yl yc, .bool G] 25) = W4 at bx b4 hs4 ⊢
  rw [← hs4]
  clear hs4
  have B4 := below_tr2 B3 b4
  have B4' : Below W2.heap.size W2 W4 := below_tr2 b3 b4
  have hx5 := hx3.later b4
  have bx4 := bx
  have by5 := Boxf.new' W4 (.slice none 0 0) (.slice none 0 0) false
  have b5 : Below W4.heap.size W4 (W4.alloc (.cells #[.slice none 0 0, .slice none 0 0, .bool false] 25)) := (Below.refl _ _).alloc (Nat.le_refl _) _
  have hsz := Nat.le_refl W4.heap.size
  generalize W4.alloc (.cells #[.slice none 0 0, .slice none 0 0, .bool false] 25) = W5 at by5 b5 ⊢
  have B5 : Below w.heap.size w W4 := B4
  obtain ⟨mb, mf, rfl, hc⟩ := (x2.later RE.stable B4').headE (by omega)
  have tkW := tk.later B4
  have hC : ((lm : Int) + 3) / 4 = (C : Int) := by omega
  have hC2 : ((lm : Int) + 3).tdiv 4 = (C : Int) := by rw [Int.tdiv_eq_ediv_of_nonneg (by omega)]; exact hC
  clear hcnt
  have hdone : ∀ (k : Nat) (e : Ent), es[k]? = some e → (∀ (j : Nat) (y : Ent), j < k → es[j]? = some y → lessB y.k ks = true) → lessB e.k ks = false → ∀ {o1 o2 : Option Addr} {n1 c1 n2 c2 : Nat}, Tx W4 o1 n1 c1 e.k → Tx W4 o2 n2 c2 e.v → Ans W4 es ks true o1 n1 c1 o2 n2 c2 e.g :=
    fun k e hk hbef hle _ _ _ _ _ _ t1 t2 => ⟨_, _, t1, t2, .inl ⟨rfl, e, hseek k e hk hbef hle, rfl, rfl, rfl⟩⟩
  have hmiss : (∀ (j : Nat) (y : Ent), j < es.length → es[j]? = some y → lessB y.k ks = true) → Ans W4 es ks false none 0 0 none 0 0 false :=
    fun hh => ⟨[], [], Tx.nil _, Tx.nil _, .inr ⟨rfl, hnone hh, rfl, rfl, rfl⟩⟩
  clear hseek hnone
  go_loopw [12, 13] (fun s12 s13 wr => ∃ k : Nat, k ≤ lm ∧ s13 = .int .i64 k ∧ Below W4.heap.size W4 wr ∧ ((s12 = .bool false ∧ Hid (∀ (j : Nat) (y : Ent), j < k → es[j]? = some y → lessB y.k ks = true) ∧ Boxf wr W4.heap.size (.slice none 0 0) (.slice none 0 0) false) ∨ (s12 = .bool true ∧ ∃ o1 n1 c1 o2 n2 c2 gg, Ans W4 es ks true o1 n1 c1 o2 n2 c2 gg ∧ Boxf wr W4.heap.size (.slice o1 n1 c1) (.slice o2 n2 c2) gg))) (fun _ s13 _ => lm - (intOf s13).toNat)
  case atStart => exact ⟨0, by omega, rfl, b5, .inl ⟨rfl, fun j y hj => (by omega), by5⟩⟩
  case round =>
    obtain ⟨k, hk, rfl, hb, hcase⟩ := hrel
    rcases hcase with ⟨rfl, hbef, byr⟩ | ⟨rfl, o1, n1, c1, o2, n2, c2, gg, ha9, byr⟩
    · by_cases hk2 : k < lm
      · have hx : es[k]? = some (es[k]'(by omega)) := by simp
        obtain ⟨jo, jl, jc, uo, ul, uc, c0, c1, c2, tj, tv⟩ := hc k _ hx
        have hd := fun hle => hdone k _ hx hbef.out hle tj tv
        have hless := str_less _ _ tj.rng tkW.rng
        have hX : Hid (es[k]? = some (es[k]'(by omega))) := hx
        generalize es[k]'(by omega) = en at c2 tj tv hd hless hX
        clear hx hdone hmiss
        obtain ⟨gg, hgg⟩ : ∃ gg, Hid (en.g = gg) := ⟨_, rfl⟩
        rw [hgg.out] at c2
        have q0 := fun d os => cell_regrown (cell_later hb c0) d os
        have s0 := fun d os => ((tj.later hb).later (below_regrown wr d os)).string
        have s1 := fun d os => ((tkW.later hb).later (below_regrown wr d os)).string
        generalize strOfNums en.k = SK at s0 hless
        generalize strOfNums ks = SV at s1 hless
        have hki : (k : Int) < lm := by omega
        obtain ⟨Fl, hFl⟩ : ∃ Fl, Hid (lessB en.k ks = Fl) := ⟨_, rfl⟩
        rw [hFl.out] at hless
        cases Fl with
        | true =>
          go_wp2_with fail
          refine wp_region_quiet_below (by kernel_rfl) (by kernel_rfl) ?_
          repeat (go_big_quiet_step (fail))
          (with_reducible refine wpQuiet_nil ?_)
          intro _ hw'
          obtain ⟨⟨dq, osq⟩, hw''⟩ := hw'
          subst hw''
          have bq := below_regrown wr dq osq
          have hb2 := hb.trans (bq.mono hb.size)
          have byq := byr.off (S := []) (.of_below bq) (by simp)
          clear q0 s0 s1
          go_wp2
          go_roundw
          case rel =>
            exact ⟨k + 1, by omega, by go_num, hb2, .inl ⟨rfl, fun j y hj hy => by
              by_cases hjk : j = k
              · subst hjk; rw [hX.out] at hy; cases hy; exact hFl.out
              · exact hbef.out j y (by omega) hy, byq⟩⟩
          case measure => simp [intOf]; omega
        | false =>
          have ha9 := hd hFl.out
          rw [hgg.out] at ha9
          clear hd
          go_wp2_with fail
          refine wp_region_quiet_below (by kernel_rfl) (by kernel_rfl) ?_
          repeat (go_big_quiet_step (fail))
          (with_reducible refine wpQuiet_nil ?_)
          intro _ hw'
          obtain ⟨⟨dq, osq⟩, hw''⟩ := hw'
          subst hw''
          have bq := below_regrown wr dq osq
          have hb2 := hb.trans (bq.mono hb.size)
          have byq := byr.off (S := []) (.of_below bq) (by simp)
          clear q0 s0 s1
          generalize grow (redrawn wr dq) osq = V at hb2 byq ⊢
          have d0 := cell_later hb2 c0
          have d1 := cell_later hb2 c1
          have d2 := cell_later hb2 c2
          have x0 := byq.c0
          have x1' := byq.c1
          have x2' := byq.c2
          have z0 := byq.z 0
          have z1 := byq.z 1
          have z2 := byq.z 2
          have hset := Boxf.set V W4.heap.size (.slice jo jl jc) (.slice uo ul uc) _ _ byq gg
          have hb3 := ((hb2.setCell (p := ⟨W4.heap.size, 0, none⟩) (Nat.le_refl _) (.slice jo jl jc)).setCell (p := ⟨W4.heap.size, 1, none⟩) (Nat.le_refl _) (.slice uo ul uc)).setCell (p := ⟨W4.heap.size, 2, none⟩) (Nat.le_refl _) (.bool gg)
          go_wp2
          go_roundw
          case rel => exact ⟨k + 1, by omega, by go_num, hb3, .inr ⟨rfl, _, _, _, _, _, _, _, ha9, hset⟩⟩
          case measure => simp [intOf]; omega
      · have ha9 := hmiss (fun j y hj hy => hbef.out j y (by omega) hy)
        clear hdone hmiss
        have hki : ¬ (k : Int) < lm := by omega
        obtain ⟨e1, e2, kk, vv, tx, ty, ux, uy⟩ := hx5.same ha9
        subst e1 e2
        obtain rfl : kk = [] := List.eq_nil_of_length_eq_zero ux.len_eq
        obtain rfl : vv = [] := List.eq_nil_of_length_eq_zero uy.len_eq
        have BW : Below w.heap.size w wr := B5.trans (hb.mono (Nat.le_trans B4.size hsz))
        have hT5 := hT wr BW
        have bxr := bx4.off (S := []) (.of_below hb) (by simp)
        have hM7 := hM
        go_wp2_with (first
          | (go_at_call 31; with_reducible refine hT5.mono ?_; rintro e W6 ⟨ro, rc, rfl, ⟨rg, rf, rfl, rcell⟩, b6⟩; have hM6 := hM po lp cp W6 (((x1.later RE.stable (b2.trans (B4'.mono b2.size))).later RE.stable hb).later RE.stable b6) _ lm cm (((x2.later RE.stable B4').later RE.stable hb).later RE.stable b6))
          | (go_at_call 24; with_reducible refine hM6.mono ?_; rintro e W7 ⟨rfl, b7⟩; have B7 := below_tr2 b6 b7; have bx7 := bxr.off (S := []) (.of_below B7) (by simp); have by7 := byr.off (S := []) (.of_below B7) (by simp); have q0 := bx7.c0; have q1 := bx7.c1; have q2 := bx7.c2; have y0 := by7.c0; have y1 := by7.c1; have y2 := by7.c2; have s0 := ((tx.later hb).later B7).string; have s1 := ((ty.later hb).later B7).string; have s2 := ((ux.later hb).later B7).string; have s3 := ((uy.later hb).later B7).string))
        all_goals
          go_ret
          exact ⟨rfl, below_tr2 BW B7⟩
    · clear hdone hmiss
      by_cases hk2 : k < lm
      · have hki : (k : Int) < lm := by omega
        obtain ⟨e1, e2, kk, vv, tx, ty, ux, uy⟩ := hx5.same ha9
        subst e1 e2
        have BW : Below w.heap.size w wr := B5.trans (hb.mono (Nat.le_trans B4.size hsz))
        have hT5 := hT wr BW
        have bxr := bx4.off (S := []) (.of_below hb) (by simp)
        have hM7 := hM
        go_wp2_with (first
          | (go_at_call 31; with_reducible refine hT5.mono ?_; rintro e W6 ⟨ro, rc, rfl, ⟨rg, rf, rfl, rcell⟩, b6⟩; have hM6 := hM po lp cp W6 (((x1.later RE.stable (b2.trans (B4'.mono b2.size))).later RE.stable hb).later RE.stable b6) _ lm cm (((x2.later RE.stable B4').later RE.stable hb).later RE.stable b6))
          | (go_at_call 24; with_reducible refine hM6.mono ?_; rintro e W7 ⟨rfl, b7⟩; have B7 := below_tr2 b6 b7; have bx7 := bxr.off (S := []) (.of_below B7) (by simp); have by7 := byr.off (S := []) (.of_below B7) (by simp); have q0 := bx7.c0; have q1 := bx7.c1; have q2 := bx7.c2; have y0 := by7.c0; have y1 := by7.c1; have y2 := by7.c2; have s0 := ((tx.later hb).later B7).string; have s1 := ((ty.later hb).later B7).string; have s2 := ((ux.later hb).later B7).string; have s3 := ((uy.later hb).later B7).string))
        all_goals
          go_ret
          exact ⟨rfl, below_tr2 BW B7⟩
      · have hki : ¬ (k : Int) < lm := by omega
        obtain ⟨e1, e2, kk, vv, tx, ty, ux, uy⟩ := hx5.same ha9
        subst e1 e2
        have BW : Below w.heap.size w wr := B5.trans (hb.mono (Nat.le_trans B4.size hsz))
        have hT5 := hT wr BW
        have bxr := bx4.off (S := []) (.of_below hb) (by simp)
        have hM7 := hM
        go_wp2_with (first
          | (go_at_call 31; with_reducible refine hT5.mono ?_; rintro e W6 ⟨ro, rc, rfl, ⟨rg, rf, rfl, rcell⟩, b6⟩; have hM6 := hM po lp cp W6 (((x1.later RE.stable (b2.trans (B4'.mono b2.size))).later RE.stable hb).later RE.stable b6) _ lm cm (((x2.later RE.stable B4').later RE.stable hb).later RE.stable b6))
          | (go_at_call 24; with_reducible refine hM6.mono ?_; rintro e W7 ⟨rfl, b7⟩; have B7 := below_tr2 b6 b7; have bx7 := bxr.off (S := []) (.of_below B7) (by simp); have by7 := byr.off (S := []) (.of_below B7) (by simp); have q0 := bx7.c0; have q1 := bx7.c1; have q2 := bx7.c2; have y0 := by7.c0; have y1 := by7.c1; have y2 := by7.c2; have s0 := ((tx.later hb).later B7).string; have s1 := ((ty.later hb).later B7).string; have s2 := ((ux.later hb).later B7).string; have s3 := ((uy.later hb).later B7).string))
        all_goals
          go_ret
          exact ⟨rfl, below_tr2 BW B7⟩

theorem reads_any (bo : Option Addr) (lb cb : Nat) (xs : List Int) (ko : Option Addr) (lk ck : Nat) (ks : List Int) (w : World) (tb : Tx w bo lb cb xs) (tk : Tx w ko lk ck ks) (sb : lb ≤ 900000000) (sk : lk ≤ 900000000) :
    Calls Try.prog 11 #[.slice bo lb cb, .slice ko lk ck] w fun e w' => e = .returned (.bool true) ∧ Below w.heap.size w w' := by
  cases h : allB xs with
  | none => exact reads_no bo lb cb xs ko lk ck ks w tb tk sb sk h
  | some es => exact reads_yes bo lb cb xs ko lk ck ks w tb tk sb sk es h

end Go.Proofs.Yteeemfohehpaeaa
