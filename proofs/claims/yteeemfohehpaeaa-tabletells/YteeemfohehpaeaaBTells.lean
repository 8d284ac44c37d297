/- The walk of BlockTells: blocks are built, read and asked as the document says. -/
import Derived.Test.YteeemfohehpaeaaBReads
import Derived.Test.YteeemfohehpaeaaBBuilds
import Derived.Test.YteeemfohehpaeaaBRise
import Derived.Test.YteeemfohehpaeaaPE
namespace Go.Proofs.Yteeemfohehpaeaa
set_option maxRecDepth 100000
open Go.RowKit Go.Sort

/-- A row of its own: what it holds, and what a store makes of it. -/
theorem Gr.at {B : Nat} {w : World} {ao : Option Addr} {n cap : Nat} {xs : List Int} (h : Gr B w ao n cap xs) (h0 : 0 < n) :
    ∃ g, ao = some ⟨g, 0, none⟩ ∧ B ≤ g ∧ g < w.heap.size ∧ (∀ j, j < n → w.cell? ⟨g, j, none⟩ = some (.int .u8 (xs.getD j 0))) ∧ (∀ j, w.frozen? ⟨g, j, none⟩ = false) ∧
      ∀ j v, 0 ≤ v ∧ v ≤ 255 → Gr B (w.setCell ⟨g, j, none⟩ (.int .u8 v)) (some ⟨g, 0, none⟩) n cap (xs.set j v) := by
  have t := h.tx
  rcases h.own.2 with ⟨h', _⟩ | ⟨g, cap', cur, h', hb, hg, hn, hm, hs, ht⟩
  · cases h'; omega
  · simp only [Value.slice.injEq] at h'
    obtain ⟨rfl, _, rfl⟩ := h'
    refine ⟨g, rfl, hb, (Array.getElem?_eq_some_iff.1 hg).1, fun j hj => ?_, fun j => frozen_of_row w g j _ 5 hg, fun j v hv => ⟨⟨by simp [h.len], .inr ⟨g, cap, _, rfl, hb, heap_setCell_same w g j _ 5 _ hg, hn, hm, by simpa using hs, ?_⟩⟩, fun x hx => ?_, by simpa [World.setCell] using h.hB⟩⟩
    · have := t.cell _ rfl j hj
      rwa [Addr.add_lit, Nat.zero_add] at this
    · rw [Array.toList_setIfInBounds, List.take_set, ht, List.map_set]
    · rcases List.mem_or_eq_of_mem_set hx with hx | rfl
      · exact h.rng x hx
      · exact hv
theorem xor_byte (a b : Int) : 0 ≤ bits .xor .u8 a b ∧ bits .xor .u8 a b ≤ 255 := by
  have h : bits .xor .u8 a b = IntKind.u8.wrap ((BitVec.ofInt IntKind.u8.bits a ^^^ BitVec.ofInt IntKind.u8.bits b).toNat : Int) := rfl
  rw [h, IntKind.wrap_u8]; omega
theorem keep_keys (n k v : Nat) (l : List Ent) (hk : 1 ≤ k) : ∀ e ∈ keepL n k v l, e.k.length ≤ k := by
  intro e he
  simp only [keepL, List.mem_map] at he
  obtain ⟨x, _, rfl⟩ := he
  show (if (x.k.take k).length = 0 then [107] else x.k.take k).length ≤ k
  split
  · simpa using hk
  · rw [List.length_take]; omega

set_option maxHeartbeats 16000000 in
theorem btells_walk (ao : Option Addr) (la ca : Nat) (l : List Ent) (ko : Option Addr) (lk ck : Nat) (key : List Int) (bo : Option Addr) (lb cb : Nat) (bs : List Int) (at_ turn : Int) (a1 : -9223372036854775808 ≤ at_) (a2 : at_ ≤ 9223372036854775807) (_u1 : 0 ≤ turn) (_u2 : turn ≤ 255) (w : World) (hl : Lx 3 RE w ao la ca l) (hk : Tx w ko lk ck key) (hx : Tx w bo lb cb bs) :
    Calls Try.prog 4 #[.slice ao la ca, .slice ko lk ck, .slice bo lb cb, .int .i64 at_, .int .u8 turn] w fun e w' => e = .returned (.bool true) ∧ Below w.heap.size w w' := by
  have hD := drawn_rise 30 l
  have hkp := keep_any ao la ca l 30 12 20 30 12 20 rfl rfl rfl (by omega) (by omega) (by omega) w hl
  have hri := fun (bo : Option Addr) (lb cb : Nat) (W : World) (h : Lx 3 RE W bo lb cb (keepL 30 12 20 l)) => rise_any bo lb cb _ W h (by have h1 := h.len_eq; simp only [keepL, List.length_map, List.length_take] at h1; omega)
  have hkp6 := fun (W : World) (hW : Below w.heap.size w W) => keep_any ao la ca l 6 12 20 6 12 20 rfl rfl rfl (by omega) (by omega) (by omega) W (hl.later RE.stable hW)
  have hkeys6 := keep_keys 6 12 20 l (by omega)
  have hb6 := fun (bo : Option Addr) (lb cb : Nat) (W : World) (h : Lx 3 RE W bo lb cb (keepL 6 12 20 l)) => builds_any bo lb cb _ W h (fun e he => by have := hkeys6 e he; omega)
  generalize riseL (keepL 30 12 20 l) = m at hD hri
  generalize keepL 30 12 20 l = kp at hkp hri
  generalize keepL 6 12 20 l = kp6 at hkp6 hb6
  clear hkeys6
  have hbm := fun (bo : Option Addr) (lb cb : Nat) (W : World) (h : Lx 3 RE W bo lb cb m) => builds_any bo lb cb _ W h hD.keys
  go_enter Try.func4, Try.ntmps4
  go_wp2_with (first
    | (go_at_call 14; with_reducible refine hkp.mono ?_; rintro e W1 ⟨o1, l1, c1, rfl, x1, b1⟩; clear hkp; have hri1 := hri o1 l1 c1 W1 x1)
    | (go_at_call 9; with_reducible refine hri1.mono ?_; rintro e W2 ⟨mo, ml, mc, rfl, x2, b2⟩; clear hri1; have B2 := below_tr2 b1 b2; have hc1 := cut_at ko lk ck 20 20 key W2 rfl (hk.later B2) (by omega); have hc2 := cut_at bo lb cb 80 80 bs W2 rfl (hx.later B2) (by omega)))
  have hml := x2.len_eq
  have hm30 := hD.len
  by_cases h0 : ml = 0
  · subst h0
    go_wp2_with (first
      | (go_at_call 15; with_reducible refine hc1.mono ?_; rintro e V1 ⟨l3, rfl, hl3, t3, rfl⟩; clear hc1)
      | (go_at_call 15; with_reducible refine hc2.mono ?_; rintro e V2 ⟨l4, rfl, hl4, t4, rfl⟩; clear hc2; have hbm2 := hbm _ _ _ W2 x2)
      | (go_at_call 12; with_reducible refine hbm2.mono ?_; rintro e W3 ⟨rfl, b3⟩; clear hbm2; have B3 := below_tr2 B2 b3; have hkp3 := hkp6 W3 B3)
      | (go_at_call 14; with_reducible refine hkp3.mono ?_; rintro e W4 ⟨o4, l4', c4, rfl, x4, b4⟩; clear hkp3; have hb64 := hb6 o4 l4' c4 W4 x4)
      | (go_at_call 12; with_reducible refine hb64.mono ?_; rintro e W5 ⟨rfl, b5⟩; clear hb64; have b25 := below_tr2 (below_tr2 b3 b4) b5; have hrd := reads_any bo l4 cb _ ko l3 ck _ W5 (t4.later b25) (t3.later b25) (by omega) (by omega))
      | (go_at_call 11; with_reducible refine hrd.mono ?_; rintro e W6 ⟨rfl, b6⟩; clear hrd; have b26 := below_tr2 b25 b6))
    have B6 := below_tr2 B2 b26
    have x6 := x2.later RE.stable b26
    have t36 := t3.later b26
    clear x2 t3 t4 b25 b26 b3 b4 b5 b6
    go_wp2_with (go_at_call 13; with_reducible refine (known_any W6).mono ?_; rintro e W7 ⟨rfl, b7⟩)
    go_ret
    exact ⟨rfl, below_tr2 B6 b7⟩
  · have h0b : ((ml : Int) == 0) = false := by simp [h0]
    go_wp2_with (first
      | (go_at_call 15; with_reducible refine hc1.mono ?_; rintro e V1 ⟨l3, rfl, hl3, t3, rfl⟩; clear hc1)
      | (go_at_call 15; with_reducible refine hc2.mono ?_; rintro e V2 ⟨l4, rfl, hl4, t4, rfl⟩; clear hc2; have hbm2 := hbm _ _ _ W2 x2)
      | (go_at_call 12; with_reducible refine hbm2.mono ?_; rintro e W3 ⟨rfl, b3⟩; clear hbm2; have B3 := below_tr2 B2 b3; have hkp3 := hkp6 W3 B3)
      | (go_at_call 14; with_reducible refine hkp3.mono ?_; rintro e W4 ⟨o4, l4', c4, rfl, x4, b4⟩; clear hkp3; have hb64 := hb6 o4 l4' c4 W4 x4)
      | (go_at_call 12; with_reducible refine hb64.mono ?_; rintro e W5 ⟨rfl, b5⟩; clear hb64; have b25 := below_tr2 (below_tr2 b3 b4) b5; have hrd := reads_any bo l4 cb _ ko l3 ck _ W5 (t4.later b25) (t3.later b25) (by omega) (by omega))
      | (go_at_call 11; with_reducible refine hrd.mono ?_; rintro e W6 ⟨rfl, b6⟩; clear hrd; have b26 := below_tr2 b25 b6))
    have B6 := below_tr2 B2 b26
    have x6 := x2.later RE.stable b26
    have t36 := t3.later b26
    clear x2 t3 t4 b25 b26 b3 b4 b5 b6
    have hrb := rbuild_any mo ml mc m W6 x6 (hD.may (by omega) (by omega))
    have hblen := hD.block (by omega)
    have hb1 : 1 ≤ (blockL m).length := by rw [blockL_length]; omega
    generalize blockL m = xs at hrb hblen hb1
    go_wp2_with fail
    with_reducible refine hrb.mono ?_
    rintro e W7 ⟨xo, xl, xc, rfl, gX, b7⟩
    clear hrb
    have tX := gX.tx
    have hxl := tX.len_eq
    have b8 : Below W7.heap.size W7 (W7.alloc (.cells #[] 5)) := (Below.refl _ _).alloc (Nat.le_refl _) _
    have g0 := own_empty2 W7
    have tX8 := tX.later b8
    go_wp2_with (with_reducible show wpList _ _ _ (⟨some 44, _, _, _, _, _⟩ :: _) _ _; refine wpList_gr rfl _ _ rfl W7.heap.size (some ⟨W7.heap.size, 0, none⟩) 0 0 [] rfl g0 xo xl xc xs rfl tX8 (by omega) ?_; intro a9 n9 c9 W9 hn9 g9 m9; have n9l : n9 = xl := (by have := hn9.out; omega); clear hn9; subst n9l; have b9 := b8.trans (m9.below g0); have g9 : Gr W7.heap.size W9 a9 n9 c9 xs := (by simpa using g9))
    obtain ⟨g, rfl, hgB, hgl, hcx, hzx, hsx⟩ := g9.at (by omega)
    obtain ⟨r1, r2⟩ := wfun_rng at_ 0 ((n9 : Int) - 1) (by omega)
    obtain ⟨R, hR⟩ : ∃ R : Nat, Hid (wfun at_ 0 ((n9 : Int) - 1) = (R : Int)) := ⟨(wfun at_ 0 ((n9 : Int) - 1)).toNat, by show _ = _; omega⟩
    have hwi := within_eq at_ 0 ((n9 : Int) - 1) a1 a2 (by omega) (by omega) (by omega) W9
    rw [hR.out] at hwi r1 r2
    have cR := hcx R (by omega)
    generalize xs.getD R 0 = xr at cR
    have zR := hzx R
    have hRl : R < n9 := by omega
    have gY := hsx R _ (xor_byte xr turn)
    have bY := b9.setCell (p := ⟨g, R, none⟩) hgB (.int .u8 (bits .xor .u8 xr turn))
    clear hcx hzx hsx
    have hRn : ((R : Nat) : Int) < (n9 : Nat) := by omega
    go_wp2_with (go_at_call 16; with_reducible refine hwi.mono ?_; rintro e v ⟨rfl, rfl⟩)
    have tY := gY.tx
    clear gY g9 hwi cR zR hR r1 r2 m9 g0 tX8
    generalize xs.set R (bits .xor .u8 xr turn) = ys at tY
    generalize W9.setCell ⟨g, R, none⟩ (.int .u8 (bits .xor .u8 xr turn)) = W at bY tY ⊢
    have bW : Below W6.heap.size W6 W := below_tr2 b7 bY
    have tXW := tX.later bY
    have xW := x6.later RE.stable bW
    have tkW := t36.later bW
    have BW := below_tr2 B6 bW
    obtain ⟨eb, eof, rfl, hc⟩ := xW.headE (by omega)
    obtain ⟨q1, q2⟩ := wfun_rng at_ 0 ((ml : Int) - 1) (by omega)
    obtain ⟨Q, hQ⟩ : ∃ Q : Nat, Hid (wfun at_ 0 ((ml : Int) - 1) = (Q : Int)) := ⟨(wfun at_ 0 ((ml : Int) - 1)).toNat, by show _ = _; omega⟩
    have hwj := fun (V : World) => within_eq at_ 0 ((ml : Int) - 1) a1 a2 (by omega) (by omega) (by omega) V
    rw [hQ.out] at hwj q1 q2
    have hy : m[Q]? = some (m[Q]'(by omega)) := by simp
    obtain ⟨jo, jl, jc, uo, ul, uc, d0, _, _, tj, _⟩ := hc Q _ hy
    have hsm := hD.small _ (List.getElem_mem (l := m) (n := Q) (by omega))
    generalize (m[Q]'(by omega)).k = jk at tj hsm
    rw [tj.len_eq] at hsm
    have hQl : Q < ml := by omega
    have hQn : ((Q : Nat) : Int) < (ml : Nat) := by omega
    have p1 := reads_any xo n9 xc xs ko l3 ck _ W tXW tkW (by omega) (by omega)
    clear hc hy
    go_wp2_with (first
      | (go_at_call 11; with_reducible refine p1.mono ?_; rintro e V1 ⟨rfl, v1⟩; clear p1; have p2 := reads_any _ n9 c9 ys ko l3 ck _ V1 (tY.later v1) (tkW.later v1) (by omega) (by omega))
      | (go_at_call 11; with_reducible refine p2.mono ?_; rintro e V2 ⟨rfl, v2⟩; clear p2; have v12 := below_tr2 v1 v2; have d02 := cell_later v12 d0; have hw2 := hwj V2; have p3 := reads_any xo n9 xc xs jo jl jc jk V2 (tXW.later v12) (tj.later v12) (by omega) (by omega))
      | (go_at_call 16; with_reducible refine hw2.mono ?_; rintro e v ⟨rfl, rfl⟩)
      | (go_at_call 11; with_reducible refine p3.mono ?_; rintro e V3 ⟨rfl, v3⟩; clear p3; have v13 := below_tr2 v12 v3; have hkn := known_any V3)
      | (go_at_call 13; with_reducible refine hkn.mono ?_; rintro e V4 ⟨rfl, v4⟩))
    go_ret
    exact ⟨rfl, below_tr2 BW (below_tr2 v13 v4)⟩

end Go.Proofs.Yteeemfohehpaeaa
