/- The walk of FrameTells. -/
import Derived.Test.YtondfbjldonogaaAll
import Derived.Test.YtondfbjldonogaaKnown
import Derived.Laws.BitsLemmas
import Derived.Deep.RegionHeld3
namespace Go.Proofs.Ytondfbjldonogaa
open Go.RowKit Go.Sort

theorem rowL_len : ∀ (l : List (List Int)) (m : Nat), (∀ x ∈ l, x.length ≤ m) → (rowL l).length ≤ l.length * (m + 6)
  | [], m, _ => by simp [rowL]
  | x :: l, m, h => by
    have h1 := h x (by simp)
    have h2 := rowL_len l m (fun y hy => h y (by simp [hy]))
    have e : rowL (x :: l) = recL x ++ rowL l := rfl
    rw [e, List.length_append, length_recL, List.length_cons, Nat.add_mul]
    omega
theorem few_small (n m : Nat) (l : List (List Int)) : (fewL n m l).length ≤ n ∧ ∀ x ∈ fewL n m l, x.length ≤ m := by
  refine ⟨by simp [fewL]; omega, fun x hx => ?_⟩
  obtain ⟨y, _, rfl⟩ := List.mem_map.1 hx
  simp; omega

/-- A row of its own: what it holds, and what a store makes of it. -/
theorem Gr.head {B : Nat} {w : World} {ao : Option Addr} {n cap : Nat} {xs : List Int} (h : Gr B w ao n cap xs) (h0 : 0 < n) :
    ∃ g, ao = some ⟨g, 0, none⟩ ∧ B ≤ g ∧ (∀ j, j < n → w.cell? ⟨g, j, none⟩ = some (.int .u8 (xs.getD j 0))) ∧ (∀ j, w.frozen? ⟨g, j, none⟩ = false) ∧
      ∀ j v, 0 ≤ v ∧ v ≤ 255 → Gr B (w.setCell ⟨g, j, none⟩ (.int .u8 v)) (some ⟨g, 0, none⟩) n cap (xs.set j v) := by
  have t := h.tx
  rcases h.own.2 with ⟨h', _⟩ | ⟨g, cap', cur, h', hb, hg, hn, hm, hs, ht⟩
  · cases h'; omega
  · simp only [Value.slice.injEq] at h'
    obtain ⟨rfl, _, rfl⟩ := h'
    refine ⟨g, rfl, hb, fun j hj => ?_, fun j => frozen_of_row w g j _ 5 hg, fun j v hv => ⟨⟨by simp [h.len], .inr ⟨g, cap, _, rfl, hb, heap_setCell_same w g j _ 5 _ hg, hn, hm, by simpa using hs, ?_⟩⟩, fun x hx => ?_, by simpa [World.setCell] using h.hB⟩⟩
    · have := t.cell _ rfl j hj
      rwa [Addr.add_lit, Nat.zero_add] at this
    · rw [Array.toList_setIfInBounds, List.take_set, ht, List.map_set]
    · rcases List.mem_or_eq_of_mem_set hx with hx | rfl
      · exact h.rng x hx
      · exact hv

theorem xor_rng (a b : Int) : 0 ≤ bits .xor .u8 a b ∧ bits .xor .u8 a b ≤ 255 := by
  have h : bits .xor .u8 a b = IntKind.u8.wrap ((BitVec.ofInt IntKind.u8.bits a ^^^ BitVec.ofInt IntKind.u8.bits b).toNat : Int) := rfl
  rw [h, IntKind.wrap_u8]; omega

theorem below_trans {w W w1 : World} (h : Below w.heap.size w W) (h2 : Below W.heap.size W w1) : Below w.heap.size w w1 := h.trans (h2.mono h.size)




set_option maxHeartbeats 8000000 in
set_option maxRecDepth 100000 in
theorem tells_walk (ao : Option Addr) (la ca : Nat) (l : List (List Int)) (bo : Option Addr) (lb cb : Nat) (bs : List Int) (at_ turn cut : Int) (a1 : -9223372036854775808 ≤ at_) (a2 : at_ ≤ 9223372036854775807) (_u1 : 0 ≤ turn) (_u2 : turn ≤ 255) (c1 : -9223372036854775808 ≤ cut) (c2 : cut ≤ 9223372036854775807) (w : World) (hl : Lx 1 RB w ao la ca l) (hx : Tx w bo lb cb bs) :
    Calls Try.prog 4 #[.slice ao la ca, .slice bo lb cb, .int .i64 at_, .int .u8 turn, .int .i64 cut] w fun e w' => e = .returned (.bool true) ∧ Below w.heap.size w w' := by
  obtain ⟨f1, f2⟩ := few_small 8 60 l
  have hrl := rowL_len (fewL 8 60 l) 60 f2
  have k1 := few_any ao la ca l 8 60 8 60 rfl rfl (by omega) (by omega) w hl
  generalize fewL 8 60 l = L at f1 f2 hrl k1
  have hrl' : (rowL L).length ≤ 528 := by
    have := Nat.mul_le_mul_right 66 f1
    omega
  clear hrl
  have k2 := fun V so sl sc (h : Lx 1 RB V so sl sc L) => row_any so sl sc L V h (fun x hx => by have := f2 x hx; omega) (by omega) (by have := h.len_eq; omega)
  generalize rowL L = X at hrl' k2
  clear hl f1 f2
  go_enter Try.func4, Try.ntmps4
  go_wp2_with (first
    | (go_at_call 15; with_reducible refine k1.mono ?_; rintro e w1 ⟨po, lo, pc, rfl, x1, b1⟩)
    | (go_at_call 8; with_reducible refine (k2 w1 po lo pc x1).mono ?_; rintro e w2 ⟨xo, xl, xc, rfl, tX, b2⟩; have B2 := b1.trans (b2.mono b1.size); have hxl := tX.len_eq; have hxl' : xl ≤ 528 := (by omega); have g0 := own_empty2 w2; have tX1 := tX.alloc (.cells #[] 5); have bz : Below w2.heap.size w2 (w2.alloc (.cells #[] 5)) := (Below.refl _ _).alloc (Nat.le_refl _) _)
    | (with_reducible show wpList _ _ _ (⟨some 22, _, _, _, _, _⟩ :: _) _ _; refine wpList_gr rfl _ _ rfl w2.heap.size (some ⟨w2.heap.size, 0, none⟩) 0 0 [] rfl g0 xo xl xc X rfl tX1 (by omega) ?_; intro yo yl yc w3 hl3 gY m3; rw [List.nil_append] at gY; have b3 := bz.trans (m3.below g0); have B3 := B2.trans (b3.mono B2.size); have hyl : yl ≤ 528 := (by have := hl3.out; omega)))
  all_goals (first
    | (have hy0 : 0 < yl := by omega
       obtain ⟨yg, rfl, hyg, hcy, hzy, hsy⟩ := gY.head hy0
       obtain ⟨r1, r2⟩ := wfun_rng at_ 0 ((yl : Int) - 1) (by omega)
       obtain ⟨R, hR⟩ : ∃ R : Nat, Hid (wfun at_ 0 ((yl : Int) - 1) = (R : Int)) := ⟨(wfun at_ 0 ((yl : Int) - 1)).toNat, by show _ = _; omega⟩
       have hwi := within_eq at_ 0 ((yl : Int) - 1) a1 a2 (by omega) (by omega) (by omega) w3
       rw [hR.out] at hwi r1 r2
       have cR := hcy R (by omega)
       generalize X.getD R 0 = xr at cR
       clear hcy
       have zR := hzy R
       have hRl : R < yl := by omega
       go_wp2_with (go_at_call 16; with_reducible refine hwi.mono ?_; rintro e v ⟨rfl, rfl⟩)
       have gY2 := hsy R _ (xor_rng xr turn)
       have BY := B3.setCell (p := ⟨yg, R, none⟩) (Nat.le_trans B2.size hyg) (.int .u8 (bits .xor .u8 xr turn))
       have tX3 := (tX.later b3).off ((Off.refl [yg] w3).setCell (p := ⟨yg, R, none⟩) (by simp) (.int .u8 (bits .xor .u8 xr turn))) (fun ad ha h0 hk => by have := tX.lt ad ha h0; simp at hk; omega)
       have tY := gY2.tx
       clear gY2 hsy hzy cR zR gY hR r1 r2 hwi
       generalize X.set R (bits .xor .u8 xr turn) = Y at tY
       generalize w3.setCell ⟨yg, R, none⟩ (.int .u8 (bits .xor .u8 xr turn)) = wY at BY tX3 tY ⊢
       generalize (some (⟨yg, 0, none⟩ : Addr)) = yo at tY ⊢)
    | (have tY := gY.tx
       have BY := B3
       have tX3 := tX.later b3
       clear gY
       obtain ⟨Y, hY⟩ : ∃ Y, Hid (X = Y) := ⟨_, rfl⟩
       rw [hY.out] at tY
       clear hY
       generalize w3 = wY at BY tX3 tY ⊢
       skip))
  all_goals
    obtain ⟨q1, q2⟩ := wfun_rng cut 0 (xl : Int) (by omega)
    obtain ⟨R2, hR2⟩ : ∃ R2 : Nat, Hid (wfun cut 0 (xl : Int) = (R2 : Int)) := ⟨(wfun cut 0 (xl : Int)).toNat, by show _ = _; omega⟩
    have hwc := fun V => within_eq cut 0 (xl : Int) c1 c2 (by omega) (by omega) (by omega) V
    rw [hR2.out] at hwc q1 q2
    have hR2l : R2 ≤ xl := by omega
    have hxc := tX.le
    clear tX
    go_wp2_with (first
      | (go_at_call 17; with_reducible refine (cut_at bo lb cb 100 100 bs wY rfl (hx.later BY) (by omega)).mono ?_; rintro e w4 ⟨l4, rfl, hl4, tB, rfl⟩)
      | (go_at_call 18; with_reducible refine (roomy_any bo l4 cb (bs.take 100) wY tB (by omega)).mono ?_; rintro e w5 ⟨g5, N5, rfl, hN5, tF, b5⟩; have B5 := BY.trans (b5.mono BY.size); have tB5 := tB.later b5; have tX5 := tX3.later b5; have tY5 := tY.later b5; have hN51 : N5 ≤ l4 + 80 := (Nat.le_of_eq hN5.out); have hN52 : l4 + 80 ≤ N5 := (Nat.le_of_eq hN5.out.symm); have tH := full_head tF tB5 hN5.out)
      | (go_at_call 17; with_reducible refine (cut_at xo xl xc 50 50 X w5 rfl tX5 (by omega)).mono ?_; rintro e w6 ⟨l6, rfl, hl6, tC, rfl⟩)
      | (go_at_call 13; with_reducible refine (fput_any bo xo l4 cb l6 xc (bs.take 100) (X.take 50) w5 tB5 tC (by omega) (by omega)).mono ?_; rintro e w7 ⟨qo, ql, qc, rfl, tP, b7⟩; have B7 := B5.trans (b7.mono B5.size); have tB7 := tB5.later b7; have tX7 := tX5.later b7; have tY7 := tY5.later b7; have tF7 := tF.later b7; have tH7 := tH.later b7))
    clear tB tF tB5 tX5 tY5 tH tC tX3 tY k1 k2
    have gp0 := (tP.later ((Below.refl _ _).drew)).string
    go_region_held (fun w' => Below w7.heap.size w7 w') (first | assumption | exact (Below.refl _ _).drew) (first
      | (go_at_call 9; with_reducible refine (all_any xo xl xc X _ ?_ (by omega)).mono ?_; exact tX7.later (by assumption); rintro e v1 ⟨rfl, d1⟩; have D1 := below_trans (w := w7) (by assumption) d1; have gp := (tP.later D1).string)
      | (go_at_call 9; with_reducible refine (all_any yo yl yc Y _ ?_ (by omega)).mono ?_; exact tY7.later (by assumption); rintro e v1 ⟨rfl, d1⟩; have D1 := below_trans (w := w7) (by assumption) d1; have gp := (tP.later D1).string)
      | (go_at_call 9; with_reducible refine (all_any xo R2 xc (X.take R2) _ ?_ (by omega)).mono ?_; exact (tX7.take R2 hR2l).later (by assumption); rintro e v1 ⟨rfl, d1⟩; have D1 := below_trans (w := w7) (by assumption) d1; have gp := (tP.later D1).string)
      | (go_at_call 9; with_reducible refine (all_any (some ⟨g5, 0, none⟩) l4 N5 (bs.take 100) _ ?_ (by omega)).mono ?_; exact tH7.later (by assumption); rintro e v1 ⟨rfl, d1⟩; have D1 := below_trans (w := w7) (by assumption) d1; have gp := (tP.later D1).string)
      | (go_at_call 16; with_reducible refine (hwc _).mono ?_; rintro e v1 ⟨rfl, rfl⟩)
      | (go_at_call 17; with_reducible refine (cut_at xo xl xc 50 50 X _ rfl ?_ (by omega)).mono ?_; exact tX7.later (by assumption); rintro e v1 ⟨l9, rfl, hl9, tC9, rfl⟩)
      | (go_at_call 19; with_reducible refine (rput_any bo xo l4 cb l9 xc (bs.take 100) (X.take 50) _ ?_ ?_ (by omega) (by omega)).mono ?_; exact tB7.later (by assumption); exact tC9; rintro e v1 ⟨zo, zl, zc, rfl, tZ, d1⟩; have D1 := below_trans (w := w7) (by assumption) d1; have gp := (tP.later D1).string; have gz := tZ.string)
      | (go_at_call 20; with_reducible refine (intact_any g5 N5 bo l4 cb (bs.take 100) _ hN5 ?_ ?_ (by omega)).mono ?_; exact tF7.later (by assumption); exact tB7.later (by assumption); rintro e v1 ⟨rfl, d1⟩; have D1 := below_trans (w := w7) (by assumption) d1)
      | (go_at_call 14; with_reducible refine (known_any _).mono ?_; rintro e v1 ⟨rfl, d1⟩; have D1 := below_trans (w := w7) (by assumption) d1))
    all_goals go_wp2
    all_goals go_ret
    all_goals exact ⟨rfl, below_trans B7 (by assumption)⟩

end Go.Proofs.Ytondfbjldonogaa
