/- The walk of WalOpens. -/
import Derived.Test.YtkbhhidmndhnoaaWGood
import Derived.Laws.BitsLemmas
namespace Go.Proofs.Ytkbhhidmndhnoaa
open Go.RowKit Go.Sort

theorem Gr.head {B : Nat} {w : World} {ao : Option Addr} {n cap : Nat} {xs : List Int} (h : Gr B w ao n cap xs) (h0 : 0 < n) :
    ∃ g, ao = some ⟨g, 0, none⟩ ∧ B ≤ g ∧ (∀ j, j < n → w.cell? ⟨g, j, none⟩ = some (.int .u8 (xs.getD j 0))) ∧ (∀ j, w.frozen? ⟨g, j, none⟩ = false) ∧
      ∀ j v, 0 ≤ v ∧ v ≤ 255 → Gr B (w.setCell ⟨g, j, none⟩ (.int .u8 v)) (some ⟨g, 0, none⟩) n cap (xs.set j v) := by
  have t := h.tx
  rcases h.own.2 with ⟨h', _⟩ | ⟨g, cap', cur, h', hb, hg, hn, hm, hs, ht⟩
  · cases h'; omega
  · simp only [Value.slice.injEq] at h'
    obtain ⟨rfl, _, rfl⟩ := h'
    refine ⟨g, rfl, hb, fun j hj => ?_, fun j => frozen_of_row w g j _ 5 hg, fun j v hv => ⟨⟨by simp [h.len], .inr ⟨g, cap, _, rfl, hb, heap_setCell_same w g j _ 5 _ hg, hn, hm, by simpa using hs, ?_⟩⟩, fun x hx => ?_, by simpa [World.setCell] using h.hB⟩⟩
    · have := t.cell _ rfl j hj
      rwa [Addr.add_lit, Nat.zero_add] at this
    · rw [Array.toList_setIfInBounds, List.take_set, ht, List.map_set]
    · rcases List.mem_or_eq_of_mem_set hx with hx | rfl
      · exact h.rng x hx
      · exact hv

theorem xor_rng (a b : Int) : 0 ≤ bits .xor .u8 a b ∧ bits .xor .u8 a b ≤ 255 := by
  have h : bits .xor .u8 a b = IntKind.u8.wrap ((BitVec.ofInt IntKind.u8.bits a ^^^ BitVec.ofInt IntKind.u8.bits b).toNat : Int) := rfl
  rw [h, IntKind.wrap_u8]; omega

theorem below_trans {w W w1 : World} (h : Below w.heap.size w W) (h2 : Below W.heap.size W w1) : Below w.heap.size w w1 := h.trans (h2.mono h.size)

set_option maxHeartbeats 8000000 in
set_option maxRecDepth 100000 in
theorem opens_walk (ao : Option Addr) (la ca : Nat) (l : List (List Ent)) (bo : Option Addr) (lb cb : Nat) (bs : List Int) (at_ turn cut : Int) (a1 : -9223372036854775808 ≤ at_) (a2 : at_ ≤ 9223372036854775807) (_u1 : 0 ≤ turn) (_u2 : turn ≤ 255) (c1 : -9223372036854775808 ≤ cut) (c2 : cut ≤ 9223372036854775807) (w : World) (hl : Lx 1 RL w ao la ca l) (hx : Tx w bo lb cb bs) :
    Calls Try.prog 4 #[.slice ao la ca, .slice bo lb cb, .int .i64 at_, .int .u8 turn, .int .i64 cut] w fun e w' => e = .returned (.bool true) ∧ Below w.heap.size w w' := by
  have f1 := batchesL_len 6 l
  have f2 := batchesL_fine 6 l
  have hrl := rowB_length (batchesL 6 l) f2
  have k1 := batches_any ao la ca l 6 6 rfl (by omega) w hl
  generalize batchesL 6 l = L at f1 f2 hrl k1
  have hrl' : (rowB L).length ≤ 6036 := by omega
  clear hrl
  have k2 := fun V so sl sc (h : Lx 1 RL V so sl sc L) => laid_any so sl sc L V h f2 (by have := h.len_eq; omega)
  generalize rowB L = X at hrl' k2
  clear hl f1 f2
  go_enter Try.func4, Try.ntmps4
  go_wp2_with (first
    | (go_at_call 15; with_reducible refine k1.mono ?_; rintro e w1 ⟨po, lo, pc, rfl, x1, b1⟩)
    | (go_at_call 8; with_reducible refine (k2 w1 po lo pc x1).mono ?_; rintro e w2 ⟨xo, xl, xc, rfl, tX, b2⟩; have B2 := b1.trans (b2.mono b1.size); have hxl := tX.len_eq; have hxl' : xl ≤ 6036 := (by omega); have g0 := own_empty2 w2; have tX1 := tX.alloc (.cells #[] 5); have bz : Below w2.heap.size w2 (w2.alloc (.cells #[] 5)) := (Below.refl _ _).alloc (Nat.le_refl _) _)
    | (with_reducible show wpList _ _ _ (⟨some 18, _, _, _, _, _⟩ :: _) _ _; refine wpList_gr rfl _ _ rfl w2.heap.size (some ⟨w2.heap.size, 0, none⟩) 0 0 [] rfl g0 xo xl xc X rfl tX1 (by omega) ?_; intro yo yl yc w3 hl3 gY m3; rw [List.nil_append] at gY; have b3 := bz.trans (m3.below g0); have B3 := B2.trans (b3.mono B2.size); have hyl : yl ≤ 6036 := (by have := hl3.out; omega)))
  all_goals (first
    | (have hy0 : 0 < yl := by omega
       obtain ⟨yg, rfl, hyg, hcy, hzy, hsy⟩ := gY.head hy0
       obtain ⟨r1, r2⟩ := wfun_rng at_ 0 ((yl : Int) - 1) (by omega)
       obtain ⟨R, hR⟩ : ∃ R : Nat, Hid (wfun at_ 0 ((yl : Int) - 1) = (R : Int)) := ⟨(wfun at_ 0 ((yl : Int) - 1)).toNat, by show _ = _; omega⟩
       have hwi := within_eq at_ 0 ((yl : Int) - 1) a1 a2 (by omega) (by omega) (by omega) w3
       rw [hR.out] at hwi r1 r2
       have cR := hcy R (by omega)
       generalize X.getD R 0 = xr at cR
       clear hcy
       have zR := hzy R
       have hRl : R < yl := by omega
       go_wp2_with (go_at_call 16; with_reducible refine hwi.mono ?_; rintro e v ⟨rfl, rfl⟩)
       have gY2 := hsy R _ (xor_rng xr turn)
       have BY := B3.setCell (p := ⟨yg, R, none⟩) (Nat.le_trans B2.size hyg) (.int .u8 (bits .xor .u8 xr turn))
       have tX3 := (tX.later b3).off ((Off.refl [yg] w3).setCell (p := ⟨yg, R, none⟩) (by simp) (.int .u8 (bits .xor .u8 xr turn))) (fun ad ha h0 hk => by have := tX.lt ad ha h0; simp at hk; omega)
       have tY := gY2.tx
       clear gY2 hsy hzy cR zR gY hR r1 r2 hwi
       generalize X.set R (bits .xor .u8 xr turn) = Y at tY
       generalize w3.setCell ⟨yg, R, none⟩ (.int .u8 (bits .xor .u8 xr turn)) = wY at BY tX3 tY ⊢
       generalize (some (⟨yg, 0, none⟩ : Addr)) = yo at tY ⊢)
    | (have tY := gY.tx
       have BY := B3
       have tX3 := tX.later b3
       clear gY
       obtain ⟨Y, hY⟩ : ∃ Y, Hid (X = Y) := ⟨_, rfl⟩
       rw [hY.out] at tY
       clear hY
       generalize w3 = wY at BY tX3 tY ⊢
       skip))
  all_goals
    obtain ⟨q1, q2⟩ := wfun_rng cut 0 (xl : Int) (by omega)
    obtain ⟨R2, hR2⟩ : ∃ R2 : Nat, Hid (wfun cut 0 (xl : Int) = (R2 : Int)) := ⟨(wfun cut 0 (xl : Int)).toNat, by show _ = _; omega⟩
    have hwc := fun V => within_eq cut 0 (xl : Int) c1 c2 (by omega) (by omega) (by omega) V
    rw [hR2.out] at hwc q1 q2
    have hR2l : R2 ≤ xl := by omega
    have hxc := tX.le
    have o1 := opens_any xo xl xc X wY tX3 (by omega)
    have o2 := fun V (b : Below wY.heap.size wY V) => opens_any yo yl yc Y V (tY.later b) (by omega)
    have o3 := fun V (b : Below wY.heap.size wY V) => opens_any xo R2 xc (X.take R2) V ((tX3.take R2 hR2l).later b) (by omega)
    have o4 := fun V (b : Below wY.heap.size wY V) (l4 : Nat) (hl4 : l4 ≤ 80) (t : Tx V bo l4 cb (bs.take 80)) => opens_any bo l4 cb (bs.take 80) V t (by omega)
    clear tX tX3 tY
    go_wp2_with (first
      | (go_at_call 9; with_reducible refine o1.mono ?_; rintro e v1 ⟨rfl, d1⟩)
      | (go_at_call 9; with_reducible refine (o2 v1 d1).mono ?_; rintro e v2 ⟨rfl, d2⟩; have D2 := below_trans d1 d2)
      | (go_at_call 16; with_reducible refine (hwc v2).mono ?_; rintro e v ⟨rfl, rfl⟩)
      | (go_at_call 9; with_reducible refine (o3 v2 D2).mono ?_; rintro e v3 ⟨rfl, d3⟩; have D3 := below_trans D2 d3)
      | (go_at_call 17; with_reducible refine (cut_at bo lb cb 80 80 bs v3 rfl (hx.later (below_trans BY D3)) (by omega)).mono ?_; rintro e v ⟨l4, rfl, hl4, tB, rfl⟩)
      | (go_at_call 9; with_reducible refine (o4 v3 D3 l4 hl4 tB).mono ?_; rintro e v4 ⟨rfl, d4⟩; have D4 := below_trans D3 d4)
      | (go_at_call 14; with_reducible refine (known_any v4).mono ?_; rintro e v5 ⟨rfl, d5⟩))
    go_ret
    exact ⟨rfl, below_trans BY (below_trans D4 d5)⟩

end Go.Proofs.Ytkbhhidmndhnoaa
