/- The walk of ManifestTells. -/
import Derived.Test.YtgleblfkcdkaeaaDoorMOwn
import Derived.Test.YtgleblfkcdkaeaaDoorMWhole
import Derived.Test.YtgleblfkcdkaeaaDoorMCrash
import Derived.Test.YtgleblfkcdkaeaaDoorFWalksH
import Derived.Lib.SmallJoins
namespace Go.Proofs.YtgleblfkcdkaeaaDoor
set_option maxRecDepth 100000
open Go.RowKit Go.Sort

def Tab (w : World) : Prop := Lib.TabIs Tryd.prog w "internal/strconv.uint64pow10" .u64 Lib.pow10Tab
theorem tabGlobal : Tryd.prog.globalNamed "internal/strconv.uint64pow10" = some 0 := by kernel_rfl
theorem Tab.below {w w' : World} (h : Tab w) (hb : Below w.heap.size w w') : Tab w' := by
  exact Joins.tab_stays tabGlobal h hb (Nat.le_refl _)

theorem Lx.ltI {w : World} {ao : Option Addr} {len cap : Nat} {ts : List Int} (h : Lx 1 RI w ao len cap ts) (ad : Addr) (ha : ao = some ad) (h0 : 0 < len) : ad.block < w.heap.size := by
  obtain ⟨u, h1, rfl, _⟩ := h.cell ad ha 0 (ts[0]'(by have := h.len_eq; omega)) (List.getElem?_eq_getElem _)
  have := World.block_lt_of_cell? _ _ (h1 0 _ rfl)
  rwa [add_block] at this
theorem Lx.offJ {S : List Nat} {w w' : World} {ao : Option Addr} {len cap : Nat} {ts : List Int} (h : Lx 1 RI w ao len cap ts) (ho : Off S w w') (hz : ∀ ad, ao = some ad → 0 < len → ad.block ∉ S) : Lx 1 RI w' ao len cap ts :=
  ⟨h.len_eq, h.le, h.top, h.bare, fun ad ha j e he => by
    obtain ⟨u, h1, h2⟩ := h.cell ad ha j e he
    have hl : 0 < len := by have := (List.getElem?_eq_some_iff.1 he).1; have := h.len_eq; omega
    exact ⟨u, fun i x hx => ho.cell (h1 i x hx) (by rw [add_block]; exact hz ad ha hl), h2⟩⟩

set_option maxHeartbeats 16000000 in
theorem tells_walk (ao : Option Addr) (la ca : Nat) (xs : List Int) (wal more : Int) (qo : Option Addr) (lq cq : Nat) (qs : List Int) (qw qn : Int) (bo : Option Addr) (lb cb : Nat) (bs : List Int) (at_ turn n_ : Int) (w1 : -9223372036854775808 ≤ wal) (w2 : wal ≤ 9223372036854775807) (m1 : -9223372036854775808 ≤ more) (m2 : more ≤ 9223372036854775807) (a1 : -9223372036854775808 ≤ at_) (a2 : at_ ≤ 9223372036854775807) (_u1 : 0 ≤ turn) (_u2 : turn ≤ 255) (n1 : -9223372036854775808 ≤ n_) (n2 : n_ ≤ 9223372036854775807) (w : World) (ht : Tab w) (ha : Lx 1 RI w ao la ca xs) (hq : Lx 1 RI w qo lq cq qs) (hqw : i64ok qw) (hqn : i64ok qn) (hb : Tx w bo lb cb bs) :
    Calls Tryd.prog 4 #[.slice ao la ca, .int .i64 wal, .int .i64 more, .agg #[.slice qo lq cq, .int .i64 qw, .int .i64 qn], .slice bo lb cb, .int .i64 at_, .int .u8 turn, .int .i64 n_] w fun e w' => e = .returned (.bool true) ∧ Below w.heap.size w w' := by
  obtain ⟨V0, hV0, mq, bV0, _⟩ : ∃ V0, V0 = w.alloc (.cells #[.slice qo lq cq, .int .i64 qw, .int .i64 qn] 24) ∧ Mb V0 w.heap.size (.slice qo lq cq) (.int .i64 qw) (.int .i64 qn) ∧ Below w.heap.size w V0 ∧ True := ⟨_, rfl, Mb.new _ _ _ _, (Below.refl _ _).alloc (Nat.le_refl _) _, trivial⟩
  have hmade := made_any ao la ca xs wal more V0 (ha.later RI.stable bV0) ⟨w1, w2⟩ ⟨m1, m2⟩
  have hqle := hq.le
  have hqtop := hq.top
  unfold maxLen at hqtop
  go_enter Tryd.func4, Tryd.ntmps4
  go_wp2_with fail
  rw [← hV0]
  clear hV0
  with_reducible refine hmade.mono ?_
  rintro e W1 ⟨⟨m, v, rfl, hm, hR, h12, _⟩, b1⟩
  obtain ⟨mo, ml, mc, rfl, lm, hmnew⟩ := hm
  obtain ⟨mw1, mn1⟩ := right_i64 hR
  obtain ⟨V1, hV1, mm, bV1, _⟩ : ∃ V1, V1 = W1.alloc (.cells #[.slice mo ml mc, .int .i64 m.wal, .int .i64 m.nxt] 24) ∧ Mb V1 W1.heap.size (.slice mo ml mc) (.int .i64 m.wal) (.int .i64 m.nxt) ∧ Below W1.heap.size W1 V1 ∧ True := ⟨_, rfl, Mb.new _ _ _ _, (Below.refl _ _).alloc (Nat.le_refl _) _, trivial⟩
  have bwV1 : Below w.heap.size w V1 := below_trans bV0 (below_trans b1 bV1)
  have mq1 := mq.later (below_trans b1 bV1)
  have lm1 := lm.later RI.stable bV1
  have hre := refenc_own mo ml mc m.ts m.wal m.nxt V1 lm1 hR
  have henc : m.enc.length = 7 + 3 * m.ts.length := m.enc_len
  have mq0lt := mq.lt
  clear hmade mq lm
  go_wp2_with fail
  rw [← hV1]
  clear hV1
  with_reducible refine hre.mono ?_
  rintro e W2 ⟨xo, xl, xc, rfl, gx, b2⟩
  have hxl : m.enc.length = xl := gx.tx.len_eq
  have hxs1 : 0 < xl := by omega
  have hxs2 : xl ≤ 43 := by omega
  clear hxl henc hre
  have mq2 := mq1.later b2
  have mm2 := mm.later b2
  have lm2 := lm1.later RI.stable b2
  have bw2 := below_trans bwV1 b2
  obtain ⟨xg, rfl, hxg, hcx, hzx, hsx⟩ := gx.head hxs1
  obtain ⟨r1, r2⟩ := wfun_rng at_ 0 ((xl : Int) - 1) (by omega)
  obtain ⟨R, hRR⟩ : ∃ R : Nat, Hid (wfun at_ 0 ((xl : Int) - 1) = (R : Int)) := ⟨(wfun at_ 0 ((xl : Int) - 1)).toNat, by show _ = _; omega⟩
  have hwi := within_eq at_ 0 ((xl : Int) - 1) a1 a2 (by omega) (by omega) (by omega) W2
  rw [hRR.out] at hwi r1 r2
  have cR := hcx R (by omega)
  generalize m.enc.getD R 0 = xr at cR
  have zR := hzx R
  have hRl : R < xl := by omega
  have hxcap := gx.tx.le
  go_wp2_with fail
  with_reducible refine hwi.mono ?_
  rintro e W2' ⟨rfl, rfl⟩
  have gx3 := hsx R _ (xor_rng xr turn)
  have hO3 : Off [xg] W2 (W2.setCell ⟨xg, R, none⟩ (.int .u8 (bits .xor .u8 xr turn))) := (Off.refl _ _).setCell (p := ⟨xg, R, none⟩) (by simp) _
  have hsV1 := bwV1.size
  have hg1 := mq1.lt
  have hg2 := mm.lt
  have mq3 := mq2.off hO3 (by simp; omega)
  have mm3 := mm2.off hO3 (by simp; omega)
  have lm3 := lm2.offJ hO3 (fun ad h h0 hi => by have := lm1.ltI ad h h0; simp at hi; omega)
  have bw3 := bw2.trans (hO3.below (by simp; omega) bw2.size)
  have tx3 := gx3.tx
  have hmB : ∀ ad, mo = some ad → V0.heap.size ≤ ad.block := hmnew
  have hV0s : w.heap.size < V0.heap.size := mq0lt
  have hW1s := b1.size
  clear hsx hzx hcx gx hwi hRR gx3 mq2 mm2 lm2 mq1 mm b1 b2 bV0 bV1 lm1 bw2 bwV1
  have hwn := fun W => within_eq n_ 0 16777216 n1 n2 (by omega) (by omega) (by omega) W
  obtain ⟨y1, y2⟩ := wfun_rng n_ 0 16777216 (by omega)
  obtain ⟨K, hK⟩ : ∃ K : Nat, Hid (wfun n_ 0 16777216 = (K : Int)) := ⟨(wfun n_ 0 16777216).toNat, by show _ = _; omega⟩
  rw [hK.out] at hwn y2
  have hK9 : K ≤ 16777216 := by omega
  by_cases hcut : 20 < lq
  · have hq20 : 20 < lq := hcut
    have mq4 := mq3.set0 (.slice qo 20 cq)
    have hO4 : Off [w.heap.size] (W2.setCell ⟨xg, R, none⟩ (.int .u8 (bits .xor .u8 xr turn))) ((W2.setCell ⟨xg, R, none⟩ (.int .u8 (bits .xor .u8 xr turn))).setCell ⟨w.heap.size, 0, none⟩ (.slice qo 20 cq)) := (Off.refl _ _).setCell (p := ⟨w.heap.size, 0, none⟩) (by simp) _
    have mm4 := mm3.off hO4 (by simp; omega)
    have lm4 := lm3.offJ hO4 (fun ad h h0 hi => by have := hmB ad h; simp at hi; omega)
    have tx4 := tx3.off hO4 (fun ad h h0 hi => by cases h; simp at hi; omega)
    have bw4 := bw3.trans (hO4.below (by simp) bw3.size)
    have q0 := mq3.c0
    have q1 := mq3.c1
    have q2 := mq3.c2
    have f0 := mq3.z 0
    have p0 := mm3.c0
    have p1 := mm3.c1
    have p2 := mm3.c2
    obtain ⟨V, hV⟩ : ∃ V, V = (W2.setCell ⟨xg, R, none⟩ (.int .u8 (bits .xor .u8 xr turn))).setCell ⟨w.heap.size, 0, none⟩ (.slice qo 20 cq) := ⟨_, rfl⟩
    rw [← hV] at mq4 mm4 lm4 tx4 bw4
    clear hO4
    have x0 := mm4.c0
    have x1 := mm4.c1
    have x2 := mm4.c2
    have z0 := mq4.c0
    have z1 := mq4.c1
    have z2 := mq4.c2
    go_wp2_with fail
    rw [← hV]
    clear hV q0 q1 q2 f0 p0 p1 p2
    with_reducible refine (hwn V).mono ?_
    rintro e V' ⟨rfl, rfl⟩
    go_wp2_with fail
    with_reducible refine (encodes_any mo ml mc m.ts m.wal m.nxt V lm4 mw1 mn1).mono ?_
    rintro e V5 ⟨rfl, b5⟩
    clear x0 x1 x2 z0 z1 z2
    have z0 := cell_later b5 mq4.c0
    have z1 := cell_later b5 mq4.c1
    have z2 := cell_later b5 mq4.c2
    go_wp2_with fail
    with_reducible refine (encodes_any qo 20 cq (qs.take 20) qw qn V5 ((hq.take 20 (by omega)).later RI.stable (bw4.trans (b5.mono bw4.size))) hqw hqn).mono ?_
    rintro e V6 ⟨rfl, b6⟩
    have b56 := below_trans b5 b6
    clear z0 z1 z2
    go_wp2_with fail
    with_reducible refine (decodes_any _ xl xc _ V6 (tx4.later b56) (by omega)).mono ?_
    rintro e V7 ⟨rfl, b7⟩
    have bw7 := bw4.trans ((below_trans b56 b7).mono bw4.size)
    go_wp2_with fail
    with_reducible refine (cut_at bo lb cb 40 40 bs V7 rfl (hb.later bw7) (by omega)).mono ?_
    rintro e V8 ⟨lc, rfl, hlc, tc, rfl⟩
    go_wp2_with fail
    with_reducible refine (decodes_any bo lc cb _ V7 tc (by omega)).mono ?_
    rintro e V9 ⟨rfl, b9⟩
    have bw9 := bw7.trans (b9.mono bw7.size)
    have hl19 := dec_len 19 K (by omega)
    have hz : ¬ 9223372036854775807 < 1 + (⟨(Lib.decDigits K).toArray⟩ : ByteArray).size := by show ¬ _ < 1 + (Lib.decDigits K).toArray.size; simp; omega
    have hta := fun W hW => table_any K hK9 W (ht.below hW)
    have hwa := fun W hW => wal_any K hK9 W (ht.below hW)
    have hre : ∀ W, Calls Tryd.prog 22 #[.int .i64 (K : Int)] W fun e w' => e = .returned (.string ⟨(Lib.decDigits K).toArray⟩) ∧ W = w' := fun W => (refwhole_any K hK9 W).mono fun e w' ⟨a, b⟩ => ⟨a, b.symm⟩
    generalize (⟨(Lib.decDigits K).toArray⟩ : ByteArray) = SK at hz hta hwa hre
    go_wp2_with fail
    with_reducible refine (hta V9 bw9).mono ?_
    rintro e Y1 ⟨rfl, c1⟩
    have cw1 := bw9.trans (c1.mono bw9.size)
    go_wp2_with fail
    with_reducible refine (hre Y1).mono ?_
    rintro e Y1' ⟨rfl, rfl⟩
    go_wp2_with fail
    with_reducible refine (hwa Y1 cw1).mono ?_
    rintro e Y2 ⟨rfl, c2⟩
    have cw2 := cw1.trans (c2.mono cw1.size)
    go_wp2_with fail
    with_reducible refine (hre Y2).mono ?_
    rintro e Y2' ⟨rfl, rfl⟩
    go_wp2_with fail
    with_reducible refine (known_any Y2).mono ?_
    rintro e Y3 ⟨rfl, c3⟩
    go_wp2
    go_ret
    exact ⟨rfl, cw2.trans (c3.mono cw2.size)⟩
  · have hq20 : ¬ 20 < lq := hcut
    have q0 := mq3.c0
    have q1 := mq3.c1
    have q2 := mq3.c2
    have f0 := mq3.z 0
    have p0 := mm3.c0
    have p1 := mm3.c1
    have p2 := mm3.c2
    obtain ⟨V, hV⟩ : ∃ V, V = (W2.setCell ⟨xg, R, none⟩ (.int .u8 (bits .xor .u8 xr turn))) := ⟨_, rfl⟩
    rw [← hV] at mq3 mm3 lm3 tx3 bw3
    have mq4 := mq3
    have mm4 := mm3
    have lm4 := lm3
    have tx4 := tx3
    have bw4 := bw3
    have x0 := mm4.c0
    have x1 := mm4.c1
    have x2 := mm4.c2
    have z0 := mq4.c0
    have z1 := mq4.c1
    have z2 := mq4.c2
    go_wp2_with fail
    rw [← hV]
    clear hV q0 q1 q2 f0 p0 p1 p2
    with_reducible refine (hwn V).mono ?_
    rintro e V' ⟨rfl, rfl⟩
    go_wp2_with fail
    with_reducible refine (encodes_any mo ml mc m.ts m.wal m.nxt V lm4 mw1 mn1).mono ?_
    rintro e V5 ⟨rfl, b5⟩
    clear x0 x1 x2 z0 z1 z2
    have z0 := cell_later b5 mq4.c0
    have z1 := cell_later b5 mq4.c1
    have z2 := cell_later b5 mq4.c2
    go_wp2_with fail
    with_reducible refine (encodes_any qo lq cq qs qw qn V5 (hq.later RI.stable (bw4.trans (b5.mono bw4.size))) hqw hqn).mono ?_
    rintro e V6 ⟨rfl, b6⟩
    have b56 := below_trans b5 b6
    clear z0 z1 z2
    go_wp2_with fail
    with_reducible refine (decodes_any _ xl xc _ V6 (tx4.later b56) (by omega)).mono ?_
    rintro e V7 ⟨rfl, b7⟩
    have bw7 := bw4.trans ((below_trans b56 b7).mono bw4.size)
    go_wp2_with fail
    with_reducible refine (cut_at bo lb cb 40 40 bs V7 rfl (hb.later bw7) (by omega)).mono ?_
    rintro e V8 ⟨lc, rfl, hlc, tc, rfl⟩
    go_wp2_with fail
    with_reducible refine (decodes_any bo lc cb _ V7 tc (by omega)).mono ?_
    rintro e V9 ⟨rfl, b9⟩
    have bw9 := bw7.trans (b9.mono bw7.size)
    have hl19 := dec_len 19 K (by omega)
    have hz : ¬ 9223372036854775807 < 1 + (⟨(Lib.decDigits K).toArray⟩ : ByteArray).size := by show ¬ _ < 1 + (Lib.decDigits K).toArray.size; simp; omega
    have hta := fun W hW => table_any K hK9 W (ht.below hW)
    have hwa := fun W hW => wal_any K hK9 W (ht.below hW)
    have hre : ∀ W, Calls Tryd.prog 22 #[.int .i64 (K : Int)] W fun e w' => e = .returned (.string ⟨(Lib.decDigits K).toArray⟩) ∧ W = w' := fun W => (refwhole_any K hK9 W).mono fun e w' ⟨a, b⟩ => ⟨a, b.symm⟩
    generalize (⟨(Lib.decDigits K).toArray⟩ : ByteArray) = SK at hz hta hwa hre
    go_wp2_with fail
    with_reducible refine (hta V9 bw9).mono ?_
    rintro e Y1 ⟨rfl, c1⟩
    have cw1 := bw9.trans (c1.mono bw9.size)
    go_wp2_with fail
    with_reducible refine (hre Y1).mono ?_
    rintro e Y1' ⟨rfl, rfl⟩
    go_wp2_with fail
    with_reducible refine (hwa Y1 cw1).mono ?_
    rintro e Y2 ⟨rfl, c2⟩
    have cw2 := cw1.trans (c2.mono cw1.size)
    go_wp2_with fail
    with_reducible refine (hre Y2).mono ?_
    rintro e Y2' ⟨rfl, rfl⟩
    go_wp2_with fail
    with_reducible refine (known_any Y2).mono ?_
    rintro e Y3 ⟨rfl, c3⟩
    go_wp2
    go_ret
    exact ⟨rfl, cw2.trans (c3.mono cw2.size)⟩
end Go.Proofs.YtgleblfkcdkaeaaDoor
