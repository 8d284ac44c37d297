/- The walk of MemCopies. -/
import Derived.Test.YtjajpnlhdbcnkaaMCopy
namespace Go.Proofs.Ytjajpnlhdbcnkaa
set_option maxRecDepth 100000
open Go.RowKit Go.Sort

theorem wpList_convs {ops : Array Oper} {rest : List Oper} {o : Oper} {a : Act} {w : World} {Q : Exit → Act → World → Prop}
    (hg : o.guard = none) (x : Operand) (hop : o.op = .convert 25 25 x) (V : World) (b : Nat) (cs : Array Value) (xs : List Int) (n : Nat) (hb : b = V.heap.size) (hx : a.eval x = .slice (some ⟨b, 0, none⟩) n n) (hw : w = V.alloc (.cells cs 5)) (hc : cs = (xs.map (Value.int .u8)).toArray) (hn : xs.length = n) (hn9 : n ≤ 1000000) (hr : ∀ x ∈ xs, 0 ≤ x ∧ x ≤ 255)
    (hK : ∀ W, Tx W (some ⟨b, 0, none⟩) n n xs → Below V.heap.size V W → wpList Try.prog ops Q rest (a.put o.dst (.slice (some ⟨b, 0, none⟩) n n)) W) :
    wpList Try.prog ops Q (o :: rest) a w := by
  subst hb hw
  refine wpList_plain hg fun K hKK => ?_
  have hrun := Lib.run_convert_bytes_const (P := Try.prog) V 25 5 cs n n Try.underlying25 Try.underlying5
  unfold Oper.wp
  simp [execOp, hop, hx, hrun, Result.andThen]
  exact hKK _ _ (hK _ (tx_mark V cs _ xs n hc hn hn9 hr) ((Below.refl _ _).alloc (Nat.le_refl _) _))
/-- Rows whose Keys' bytes may be turned. -/
def Wk (B : Nat) (w : World) (g n : Nat) : Prop := ∀ i, i < n → ∃ ko kl kc, w.cell? ⟨g, i * 3, none⟩ = some (.slice ko kl kc) ∧ kl ≤ kc ∧ kl ≤ 1000000 ∧ (0 < kl → ∃ b o, ko = some ⟨b, o, none⟩ ∧ B ≤ b ∧ b ≠ g ∧ ∀ j, j < kl → ∃ z : Int, w.cell? ⟨b, o + j, none⟩ = some (.int .u8 z) ∧ 0 ≤ z ∧ z ≤ 255 ∧ w.frozen? ⟨b, o + j, none⟩ = false)
theorem Wk.of {B n c g : Nat} {w : World} {es : List Ent} (h : Ls 27 3 (RN B) w B (.slice (some ⟨g, 0, none⟩) n c) es) (hn : n = es.length) (hk : ∀ e ∈ es, e.k.length ≤ 1000000) : Wk B w g n := by
  intro i hi
  obtain ⟨us, h1, h2, h3⟩ := h
  have hu : ∀ u ∈ us, u.length = 3 := by
    intro u hu
    obtain ⟨i, hi, rfl⟩ := List.getElem_of_mem hu
    exact (RN.pl B _ _ _ _ (h3 i us[i] (es[i]'(by omega)) (by simp) (by simp))).1
  have hju : us[i]? = some (us[i]'(by omega)) := by simp
  have hje : es[i]? = some (es[i]'(by omega)) := by simp
  obtain ⟨⟨k, v, hue, ⟨ko, kl, kc, rfl, tk, nk⟩, _⟩, hmu, _⟩ := h3 i _ _ hju hje
  have hkl := hk _ (List.getElem_mem (l := es) (n := i) (by omega))
  rcases h2.2 with ⟨h', hn'⟩ | ⟨g', c', cur, h', hb, hg, hnc, hm, hs, ht⟩
  · omega
  · simp only [Value.slice.injEq, Option.some.injEq, Addr.mk.injEq, and_true] at h'
    obtain ⟨rfl, rfl, rfl⟩ := h'
    have hfl := flat_at us i 0 _ hu hju (by omega)
    rw [hue] at hfl
    simp only [Nat.add_zero, List.getElem?_cons_zero] at hfl
    rw [← ht, List.getElem?_take, if_pos (by omega)] at hfl
    refine ⟨ko, kl, kc, ?_, tk.le, by rw [← tk.len_eq]; exact hkl, fun h0 => ?_⟩
    · rw [cell_of_row w g _ cur 27 (0, 0) hg]
      simpa using hfl
    · obtain ⟨b, o, rfl, hc⟩ := tk.head h0
      have hmk := hmu (some ⟨b, o, none⟩) kl kc (by rw [hue]; rfl) _ rfl h0
      refine ⟨b, o, rfl, hmk.1, fun e => nk _ rfl h0 (by simp [own, Value.ownBlock, e]), fun j hj => ?_⟩
      have h5 := (hmk.2 j hj).2
      rw [Addr.add_lit] at h5
      have hrg := tk.rng ((Ent.k (es[i]'(by omega))).getD j 0) (by
        have : j < (Ent.k (es[i]'(by omega))).length := by rw [tk.len_eq]; exact hj
        simp [List.getD, this])
      exact ⟨_, hc j hj, hrg.1, hrg.2, h5⟩
theorem Wk.set {B g n b p : Nat} {w : World} (h : Wk B w g n) (hb : b ≠ g) (z : Int) (hz : 0 ≤ z ∧ z ≤ 255) : Wk B (w.setCell ⟨b, p, none⟩ (.int .u8 z)) g n := by
  intro i hi
  obtain ⟨ko, kl, kc, c0, hc, hl, h1⟩ := h i hi
  refine ⟨ko, kl, kc, by rw [World.cell?_setCell_other _ _ _ _ (by simp <;> omega)]; exact c0, hc, hl, fun h0 => ?_⟩
  obtain ⟨b', o', rfl, hB, hg, h2⟩ := h1 h0
  refine ⟨b', o', rfl, hB, hg, fun j hj => ?_⟩
  obtain ⟨y, d0, r1, r2, f⟩ := h2 j hj
  by_cases he : (⟨b, p, none⟩ : Addr) = ⟨b', o' + j, none⟩
  · rw [← he] at d0 f ⊢
    exact ⟨z, World.cell?_setCell_same _ _ _ d0, hz.1, hz.2, by rw [World.frozen?_setCell]; exact f⟩
  · exact ⟨y, by rw [World.cell?_setCell_other _ _ _ _ (by simpa using he)]; exact d0, r1, r2, by rw [World.frozen?_setCell]; exact f⟩

/-- 'more than before'. -/
def mtb : List Int := [109, 111, 114, 101, 32, 116, 104, 97, 110, 32, 98, 101, 102, 111, 114, 101]

set_option maxHeartbeats 16000000 in
theorem copies_walk (ao : Option Addr) (la ca : Nat) (l : List Ent) (bo : Option Addr) (lb cb : Nat) (bs : List Int) (w : World) (hl : Lx 3 RE w ao la ca l) (hx : Tx w bo lb cb bs) :
    Calls Try.prog 5 #[.slice ao la ca, .slice bo lb cb] w fun e w' => e = .returned (.bool true) ∧ Below w.heap.size w w' := by
  obtain ⟨hks, hkn⟩ := kept_small 20 6 9 (by omega) (by omega) (by omega) l
  have hk6 : ∀ e ∈ keepL 20 6 9 l, e.k.length ≤ 6 := fun e he => by
    simp only [keepL, List.mem_map] at he
    obtain ⟨x, _, rfl⟩ := he
    exact (cut_parts2 6 9 (by omega) x).2.1
  have hkp := keep_any ao la ca l 20 6 9 20 6 9 rfl rfl rfl (by omega) (by omega) (by omega) w hl
  generalize keepL 20 6 9 l = x at hkp hks hkn hk6
  go_enter Try.func5, Try.ntmps5
  go_wp2_with fail
  with_reducible refine hkp.mono ?_
  clear hkp
  rintro e V1 ⟨xo, xl, xc, rfl, lx1, b1⟩
  go_wp2_with fail
  with_reducible refine (new_any V1).mono ?_
  rintro e W0 ⟨mb, rfl, M0, hmb, b0⟩
  have lv0 := (lx1.low [mb] (by simp; omega)).later RE.stable b0
  have B0 := below_tr2 b1 b0
  have hxl := lx1.len_eq
  have hpt := mput_any mb [mb] [] 0 xo xl xc x W0 M0 Held.nil lv0 (fun e he => (hks e he).1) (by omega) (fun e he => ⟨(hks e he).2.1, (hks e he).2.2.1⟩)
  have hH : Held 20 (putL [] x) := (Held.nil.put x (fun e he => (hks e he).1)).mono (by omega)
  have hE6 : ∀ e ∈ putL [] x, e.k.length ≤ 6 := fun e he => by
    rcases putL_mem x [] e he with h | ⟨y, hy, rfl⟩
    · simp at h
    · rw [norm_k]; exact hk6 y hy
  go_wp2_with fail
  with_reducible refine hpt.mono ?_
  clear hpt
  rintro e V2 ⟨rfl, S2, M2, of2, sub2⟩
  have hws := b1.size
  have B2 : Below w.heap.size w V2 := B0.trans (of2.below (by simp; omega) B0.size)
  have lx2 := (lv0.off RE.stable RE.plain (by omega) of2 sub2).read RE.stable
  have hrp := rput_any [] none 0 0 [] xo xl xc x V2 (Lx.nil _ _ _) lx2 (by omega) (by omega) (by simp) (fun e he => ⟨(hks e he).2.1, (hks e he).2.2.1⟩)
  generalize putL [] x = es at M2 hH hrp hE6
  have hel := hH.len
  clear M0 lv0 lx1 B0 of2 sub2 b0 b1 hk6
  go_wp2_with fail
  with_reducible refine hrp.mono ?_
  clear hrp
  rintro e V3 ⟨ro, rl, rc, rfl, q3, b3⟩
  have hrl := q3.lx.len_eq
  subst hrl
  have lr3 := (q3.lv (by simp)).read RE.stable
  have B3 := B2.trans (b3.mono B2.size)
  have M3 := M2.later b3
  clear q3 M2 lx2
  have hcp := copy_any mb S2 es 20 V3 M3 hH (by omega) (fun e he => ⟨by have := hE6 e he; omega, by have := (small_of hH e he); omega⟩)
  go_wp2_with fail
  with_reducible refine hcp.mono ?_
  clear hcp
  rintro e V4 ⟨cp, S4, rfl, C4, hS4, b4⟩
  have B4 := B3.trans (b4.mono B3.size)
  have hx4 := hx.later B4
  have hS4lt := C4.lt
  have hr16 : ∀ x ∈ mtb, 0 ≤ x ∧ x ≤ 255 := by decide
  go_wp2_with (first
    | (with_reducible show wpList _ _ _ (⟨some 28, _, _, _, _, _⟩ :: _) _ _; refine wpList_convs rfl _ rfl V4 V4.heap.size _ mtb 16 rfl rfl rfl rfl rfl (by omega) hr16 ?_; intro W5 t5 b5; have hcut := cut_at bo lb cb 9 9 bs W5 rfl (hx4.later b5) (by omega)))
  with_reducible refine hcut.mono ?_
  clear hcut
  rintro e W5' ⟨l2, rfl, hl2, t6, rfl⟩
  go_wp2_with (with_reducible show wpList _ _ _ (⟨some 31, _, _, _, _, _⟩ :: _) _ _; refine wpList_app_full rfl _ _ rfl V4.heap.size 16 mtb rfl t5 bo l2 cb (bs.take 9) rfl t6 (by omega) ?_; intro a7 n7 c7 W7 hn7 t7 f7 b7; have hn7' : n7 ≤ 25 := (by have := hn7.out; omega); clear hn7)
  have hk7 : fitsE (⟨mtb ++ bs.take 9, [], false⟩ : Ent) = true := (fitsE_iff _).2 ⟨by simp [mtb], by rw [t7.len_eq]; omega, .inr (by simp)⟩
  have hk16 : 16 ≤ (mtb ++ bs.take 9).length := by rw [List.length_append]; have : mtb.length = 16 := rfl; omega
  have hs5 := b5.size
  have hs7 := b7.size
  have h7n : ∀ ad, a7 = some ad → 0 < n7 → ad.block ∉ S4 := fun ad ha _ hk => by
    have := hS4lt _ hk
    rcases f7 ad ha with h | h <;> omega
  have hlv := lv_ent_one S4 W7 (fun q hq => by have := hS4lt q hq; omega) (e := ⟨mtb ++ bs.take 9, [], false⟩) (t7.at S4 h7n) ((Tx.nil W7).at S4 (fun _ h => by cases h)) false rfl
  have b8 : Below W7.heap.size W7 (W7.alloc (.cells #[.slice a7 n7 c7, .slice none 0 0, .bool false] 27)) := (Below.refl _ _).alloc (Nat.le_refl _) _
  have b48 := below_tr2 (below_tr2 b5 b7) b8
  have hpt := mput_any cp S4 es 20 _ 1 1 [⟨mtb ++ bs.take 9, [], false⟩] _ (C4.later b48) hH hlv (fun e he => by simp at he; subst he; exact hk7) (by omega) (fun e he => by simp at he; subst he; exact ⟨by have := ((fitsE_iff _).1 hk7).2.1; omega, by simp⟩)
  have hlen : (putL es [⟨mtb ++ bs.take 9, [], false⟩]).length = es.length + 1 := put_new hH _ (fun x hx h => by have h1 := hE6 x hx; rw [h] at h1; simp only at h1; omega)
  generalize putL es [⟨mtb ++ bs.take 9, [], false⟩] = esc at hpt hlen
  with_reducible refine hpt.mono ?_
  clear hpt
  rintro e W9 ⟨rfl, S9, C9, of9, sub9⟩
  have b38 : Below V3.heap.size V3 (W7.alloc (.cells #[.slice a7 n7 c7, .slice none 0 0, .bool false] 27)) := below_tr2 b4 b48
  have b39 : Below V3.heap.size V3 W9 := b38.trans (of9.below (B := V3.heap.size) hS4 b38.size)
  have B9 := B3.trans (b39.mono B3.size)
  have M9 := M3.later b39
  have lr9 := lr3.later RE.stable b39
  clear hlv h7n t7 f7 b7 b5 b8 b48 b38 b39 t5 t6 C4 hS4 hS4lt of9 sub9 hx4 B4 b4 hk7 hk16 hs5 hs7 M3 lr3 hx hl B3
  have hal := mall_any mb S2 es 20 W9 M9 hH (by omega)
  go_wp2_with fail
  with_reducible refine hal.mono ?_
  clear hal
  rintro e W10 ⟨yo, yc, rfl, ls10, b10⟩
  obtain ⟨g, hgy, hwk⟩ : ∃ g, (0 < es.length → yo = some ⟨g, 0, none⟩) ∧ Wk W9.heap.size W10 g es.length := by
    by_cases h0 : 0 < es.length
    · obtain ⟨g, h⟩ : ∃ g, yo = some ⟨g, 0, none⟩ := by
        obtain ⟨us, _, h2, _⟩ := ls10
        rcases h2.2 with ⟨_, hn⟩ | ⟨g, c, cur, h', _⟩
        · omega
        · simp only [Value.slice.injEq] at h'
          exact ⟨g, h'.1⟩
      subst h
      exact ⟨g, fun _ => rfl, Wk.of ls10 rfl (fun e he => by have := hE6 e he; omega)⟩
    · exact ⟨0, fun h => absurd h h0, fun i hi => by omega⟩
  generalize hn : es.length = n at *
  clear ls10
  go_wp2
  go_loopw [10, 11] (fun s10 _ wr => ∃ i : Nat, i ≤ n ∧ s10 = .int .i64 i ∧ Wk W9.heap.size wr g n ∧ Below W9.heap.size W9 wr) (fun s10 _ _ => n - (intOf s10).toNat)
  case atStart => exact ⟨0, by omega, rfl, hwk, b10⟩
  case round =>
    obtain ⟨i, hi, rfl, hw, hb⟩ := hrel
    by_cases hi2 : i < n
    · have hy := hgy (by omega)
      subst hy
      obtain ⟨ko, kl, kc, c0, hkc, hkl, _⟩ := hw i hi2
      have hiI : (i : Int) < n := by omega
      go_wp2
      go_loopw [11] (fun s11 wz => ∃ k : Nat, k ≤ kl ∧ s11 = .int .i64 k ∧ Wk W9.heap.size wz g n ∧ wz.cell? ⟨g, i * 3, none⟩ = some (.slice ko kl kc) ∧ Below W9.heap.size W9 wz) (fun s11 _ => kl - (intOf s11).toNat)
      case atStart => exact ⟨0, by omega, rfl, hw, c0, hb⟩
      case round =>
        obtain ⟨k, hk, rfl, hwz, c0z, hbz⟩ := hrel
        by_cases hk2 : k < kl
        · obtain ⟨ko2, kl2, kc2, c02, _, _, h2⟩ := hwz i hi2
          rw [c0z] at c02
          simp only [Option.some.injEq, Value.slice.injEq] at c02
          obtain ⟨rfl, rfl, rfl⟩ := c02
          obtain ⟨kb, kf, rfl, hB, hbg, h3⟩ := h2 (by omega)
          obtain ⟨z, d0, z0, z1, f0⟩ := h3 k hk2
          have hkI : (k : Int) < kl := by omega
          obtain ⟨Z, hZ⟩ : ∃ Z, IntKind.u8.wrap (z + 1) = Z := ⟨_, rfl⟩
          have hZr : 0 ≤ Z ∧ Z ≤ 255 := by rw [← hZ, IntKind.wrap_u8]; omega
          have hset := hwz.set (p := kf + k) hbg Z hZr
          have c0s : (wr.setCell ⟨kb, kf + k, none⟩ (.int .u8 Z)).cell? ⟨g, i * 3, none⟩ = some (.slice (some ⟨kb, kf, none⟩) kl kc) := by rw [World.cell?_setCell_other _ _ _ _ (by simp <;> omega)]; exact c0z
          have hbs := hbz.setCell (p := ⟨kb, kf + k, none⟩) hB (.int .u8 Z)
          have hHs : Hid (Wk W9.heap.size (wr.setCell ⟨kb, kf + k, none⟩ (.int .u8 Z)) g n ∧ (wr.setCell ⟨kb, kf + k, none⟩ (.int .u8 Z)).cell? ⟨g, i * 3, none⟩ = some (.slice (some ⟨kb, kf, none⟩) kl kc) ∧ Below W9.heap.size W9 (wr.setCell ⟨kb, kf + k, none⟩ (.int .u8 Z))) := ⟨hset, c0s, hbs⟩
          clear hset c0s hbs h3 h2
          go_wp2
          go_roundw
          case rel => exact ⟨k + 1, by omega, by go_num, hHs.out⟩
          case measure => simp [intOf]; omega
        · have hkI : ¬ (k : Int) < kl := by omega
          go_wp2
          go_roundw
          case rel => exact ⟨i + 1, by omega, by go_num, hwz, hbz⟩
          case measure => simp [intOf]; omega
    · have hiI : ¬ (i : Int) < n := by omega
      have htl := tells_any mb S2 es 20 ro rc none 0 0 [] none 0 0 [] wr (M9.later hb) hH (by omega) (by rw [hn]; exact lr9.later RE.stable hb) (Tx.nil _) (Tx.nil _) (by omega) (by omega)
      rw [hn] at htl
      go_wp2_with fail
      with_reducible refine htl.mono ?_
      clear htl
      rintro e U1 ⟨rfl, c1⟩
      have B1 := hb.trans (c1.mono hb.size)
      have hm1 := mlen_any cp S9 esc U1 (C9.later B1)
      rw [hlen] at hm1
      go_wp2_with fail
      with_reducible refine hm1.mono ?_
      clear hm1
      rintro e U1' ⟨rfl, rfl⟩
      have hm2 := mlen_any mb S2 es U1 (M9.later B1)
      rw [hn] at hm2
      have hwn : IntKind.i64.wrap ((n : Int) + 1) = (n : Int) + 1 := by rw [IntKind.wrap_i64]; omega
      go_wp2_with fail
      with_reducible refine hm2.mono ?_
      clear hm2
      rintro e U1' ⟨rfl, rfl⟩
      have d1 : Below U1.heap.size U1 (U1.alloc (.cells #[.int .i64 n] 3)) := (Below.refl _ _).alloc (Nat.le_refl _) _
      have d2 : Below (U1.alloc (.cells #[.int .i64 n] 3)).heap.size (U1.alloc (.cells #[.int .i64 n] 3)) ((U1.alloc (.cells #[.int .i64 n] 3)).alloc (.cells #[.int .i64 n] 3)) := (Below.refl _ _).alloc (Nat.le_refl _) _
      have e1 : (U1.alloc (.cells #[.int .i64 n] 3)).cell? ⟨U1.heap.size, 0, none⟩ = some (.int .i64 n) := by rw [cell_of_row _ U1.heap.size 0 _ 3 (0, 0) (heap_alloc_new U1 _)]; simp
      have e2 : ((U1.alloc (.cells #[.int .i64 n] 3)).alloc (.cells #[.int .i64 n] 3)).cell? ⟨U1.heap.size + 1, 0, none⟩ = some (.int .i64 n) := by
        have := cell_of_row ((U1.alloc (.cells #[.int .i64 n] 3)).alloc (.cells #[.int .i64 n] 3)) (U1.alloc (.cells #[.int .i64 n] 3)).heap.size 0 _ 3 (0, 0) (heap_alloc_new _ _)
        rw [show (U1.alloc (.cells #[.int .i64 n] 3)).heap.size = U1.heap.size + 1 by simp] at this
        rw [this]; simp
      have hbs := bsame_any U1.heap.size (U1.heap.size + 1) n _ (cell_later d2 e1) e2
      go_wp2_with fail
      with_reducible refine hbs.mono ?_
      clear hbs
      rintro e U2 ⟨rfl, c2⟩
      have B2' := B1.trans ((below_tr2 (below_tr2 d1 d2) c2).mono B1.size)
      go_wp2_with (go_at_call 11; with_reducible refine (known_any U2).mono ?_; rintro e U3 ⟨rfl, c3⟩)
      go_ret
      exact ⟨rfl, (B9.trans (B2'.mono B9.size)).trans (c3.mono (Nat.le_trans B9.size B2'.size))⟩
end Go.Proofs.Ytjajpnlhdbcnkaa
