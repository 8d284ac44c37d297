/- The walk of FrameBatches: batches are written and read as the document says. -/
import Derived.Test.YtondfbjldonogaaEnts
import Derived.Test.YtondfbjldonogaaBatch
namespace Go.Proofs.Ytondfbjldonogaa
open Go.RowKit

/-- A row of its own: what it holds, and what a store makes of it. -/
theorem Gr.at {B : Nat} {w : World} {ao : Option Addr} {n cap : Nat} {xs : List Int} (h : Gr B w ao n cap xs) (h0 : 0 < n) :
    ∃ g, ao = some ⟨g, 0, none⟩ ∧ B ≤ g ∧ g < w.heap.size ∧ (∀ j, j < n → w.cell? ⟨g, j, none⟩ = some (.int .u8 (xs.getD j 0))) ∧ (∀ j, w.frozen? ⟨g, j, none⟩ = false) ∧
      ∀ j v, 0 ≤ v ∧ v ≤ 255 → Gr B (w.setCell ⟨g, j, none⟩ (.int .u8 v)) (some ⟨g, 0, none⟩) n cap (xs.set j v) := by
  have t := h.tx
  rcases h.own.2 with ⟨h', _⟩ | ⟨g, cap', cur, h', hb, hg, hn, hm, hs, ht⟩
  · cases h'; omega
  · simp only [Value.slice.injEq] at h'
    obtain ⟨rfl, _, rfl⟩ := h'
    refine ⟨g, rfl, hb, (Array.getElem?_eq_some_iff.1 hg).1, fun j hj => ?_, fun j => frozen_of_row w g j _ 5 hg, fun j v hv => ⟨⟨by simp [h.len], .inr ⟨g, cap, _, rfl, hb, heap_setCell_same w g j _ 5 _ hg, hn, hm, by simpa using hs, ?_⟩⟩, fun x hx => ?_, by simpa [World.setCell] using h.hB⟩⟩
    · have := t.cell _ rfl j hj
      rwa [Addr.add_lit, Nat.zero_add] at this
    · rw [Array.toList_setIfInBounds, List.take_set, ht, List.map_set]
    · rcases List.mem_or_eq_of_mem_set hx with hx | rfl
      · exact h.rng x hx
      · exact hv
theorem xor_byte (a b : Int) : 0 ≤ bits .xor .u8 a b ∧ bits .xor .u8 a b ≤ 255 := by
  have h : bits .xor .u8 a b = IntKind.u8.wrap ((BitVec.ofInt IntKind.u8.bits a ^^^ BitVec.ofInt IntKind.u8.bits b).toNat : Int) := rfl
  rw [h, IntKind.wrap_u8]; omega

set_option maxHeartbeats 8000000 in
set_option maxRecDepth 100000 in
theorem batches_walk (ao : Option Addr) (la ca : Nat) (l : List Ent) (bo : Option Addr) (lb cb : Nat) (bs : List Int) (at_ turn : Int) (a1 : -9223372036854775808 ≤ at_) (a2 : at_ ≤ 9223372036854775807) (_u1 : 0 ≤ turn) (_u2 : turn ≤ 255) (w : World) (hl : Lx 3 RE w ao la ca l) (hx : Tx w bo lb cb bs) :
    Calls Try.prog 5 #[.slice ao la ca, .slice bo lb cb, .int .i64 at_, .int .u8 turn] w fun e w' => e = .returned (.bool true) ∧ Below w.heap.size w w' := by
  have mp := keep_may 12 60 80 l (by omega) (by omega) (by omega)
  have sp := keep_short 12 60 80 l (by omega) (by omega) (by omega)
  have s2 : 2 ≤ (batchL (keepL 12 60 80 l)).length := by simp only [batchL, List.length_append, length_low]; omega
  have k1 := keep_any ao la ca l 12 60 80 12 60 80 rfl rfl rfl (by omega) (by omega) (by omega) w hl
  generalize keepL 12 60 80 l = p at mp sp s2 k1
  have hll := hl.len_eq
  have hlc := hl.le
  have hlt := hl.top
  unfold maxLen at hlt
  go_enter Try.func5, Try.ntmps5
  go_wp2_with (first
    | (go_at_call 21; with_reducible refine k1.mono ?_; rintro e w1 ⟨po, lo, pc, rfl, x1, b1⟩)
    | (go_at_call 10; with_reducible refine (rbatch_any po lo pc p w1 x1 mp).mono ?_; rintro e w2 ⟨xo, xl, xc, rfl, gX, b2⟩; have B2 := b1.trans (b2.mono b1.size); have x12 := x1.later RE.stable b2; have hxl := gX.len; have hxl1 : xl ≤ 500000 := (by omega); have hxl2 : 2 ≤ xl := (by omega)))
  obtain ⟨xg, rfl, hxg, hxg2, hcx, hzx, hsx⟩ := gX.at (by omega)
  obtain ⟨r1, r2⟩ := wfun_rng at_ 0 ((xl : Int) - 1) (by omega)
  obtain ⟨R, hR⟩ : ∃ R : Nat, Hid (wfun at_ 0 ((xl : Int) - 1) = (R : Int)) := ⟨(wfun at_ 0 ((xl : Int) - 1)).toNat, by show _ = _; omega⟩
  have hwi := within_eq at_ 0 ((xl : Int) - 1) a1 a2 (by omega) (by omega) (by omega) w2
  rw [hR.out] at hwi r1 r2
  have cR := hcx R (by omega)
  generalize (batchL p).getD R 0 = xr at cR
  clear hcx
  have zR := hzx R
  have hRl : R < xl := by omega
  have gX2 := hsx R _ (xor_byte xr turn)
  have BX := B2.setCell (p := ⟨xg, R, none⟩) (Nat.le_trans b1.size hxg) (.int .u8 (bits .xor .u8 xr turn))
  have xp2 : Lx 3 RE (w2.setCell ⟨xg, R, none⟩ (.int .u8 (bits .xor .u8 xr turn))) po lo pc p := x1.later RE.stable (b2.setCell (p := ⟨xg, R, none⟩) hxg _)
  go_wp2_with (go_at_call 16; with_reducible refine hwi.mono ?_; rintro e v ⟨rfl, rfl⟩)
  have tX := gX2.tx
  clear gX2 hsx hzx cR zR gX hR r1 r2 hwi x12 x1
  generalize (batchL p).set R (bits .xor .u8 xr turn) = X at tX
  generalize w2.setCell ⟨xg, R, none⟩ (.int .u8 (bits .xor .u8 xr turn)) = W at BX tX xp2 ⊢
  have hl2 := hl.later RE.stable BX
  have hlw := fun (ad : Addr) (o : Option Addr) (n c : Nat) (xs : List Int) (t : Tx w o n c xs) (h : o = some ad) (h0 : 0 < n) => t.lt ad h h0
  go_loopw [11, 12] (fun o i wr => ∃ (j q : Nat) (ro : Option Addr) (rc : Nat), j ≤ la ∧ j ≤ 5 ∧ i = .int .i64 j ∧ o = .slice ro q rc ∧ Hid (q = j) ∧ Ls 28 3 RE wr W.heap.size (.slice ro q rc) (l.take j) ∧ Below W.heap.size W wr) (fun _ i _ => 5 - (intOf i).toNat)
  case atStart => exact ⟨0, 0, none, 0, by omega, by omega, rfl, rfl, rfl, Ls.nil _ _ _ _ _, Below.refl _ _⟩
  case round =>
    obtain ⟨j, q, ro, rc, hjl, hj5, rfl, rfl, hq, hls, hb⟩ := hrel
    by_cases hj : j < la ∧ j < 5
    · obtain ⟨eb, eof, rfl, hc⟩ := hl.headE (by omega)
      have hxj : l[j]? = some (l[j]'(by omega)) := by simp
      obtain ⟨ko, kl, kc, vo, vl, vc, c0, c1, c2, tk, tv⟩ := hc j _ hxj
      have hsuc : Hid (l.take (j + 1) = l.take j ++ [l[j]'(by omega)]) := List.take_succ_eq_append_getElem (by omega)
      have hlen1 : Hid ((l.take j).length + 1 = q + 1) := by show _ = _; rw [List.length_take, hq.out]; omega
      have hkl9 : Hid ((l.take j).length ≤ 1000000000) := by show _ ≤ _; rw [List.length_take]; omega
      generalize l[j]'(by omega) = e at c2 tk tv hsuc
      have BW := BX.trans (hb.mono BX.size)
      have c0 := cell_later BW c0
      have c1 := cell_later BW c1
      have c2 := cell_later BW c2
      have j1 : (j : Int) < la := by omega
      have j2 : (j : Int) < 5 := by omega
      have hWs := BX.size
      have hbs := hb.size
      obtain ⟨G, hG⟩ : ∃ G, Hid (e.g = G) := ⟨_, rfl⟩
      rw [hG.out] at c2
      have HL := ls_ent hls (Below.refl _ _) (.cells #[.slice ko kl kc, .slice vo vl vc, .bool G] 28)
      have HR := re_ent (e := e) (G := G) hls hG.out.symm (tk.later BW) (tv.later BW) (fun ad ha h0 => .inl (by have := tk.lt ad ha h0; omega)) (fun ad ha h0 => .inl (by have := tv.lt ad ha h0; omega)) (.cells #[.slice ko kl kc, .slice vo vl vc, .bool G] 28)
      have HB : W.heap.size ≤ (wr.alloc (.cells #[.slice ko kl kc, .slice vo vl vc, .bool G] 28)).heap.size := by simp; omega
      go_wp2_with (with_reducible show wpList _ _ _ (⟨some 44, _, _, _, _, _⟩ :: _) _ _; refine wpList_one RE.stable RE.plain Try.underlying29 Try.info28 rfl (by omega) (by omega) rfl _ _ rfl W.heap.size (.slice ro q rc) (l.take j) rfl HL ⟨wr.heap.size, 0, none⟩ 1 [.slice ko kl kc, .slice vo vl vc, .bool G] e rfl (cells3_new wr _ _ _) HR hkl9.out HB ?_; intro ao5 n5 c5 w5 hn5 hls5 hof5 hsub5; have hn6 := hn5.trans hlen1.out; clear hn5; subst hn6)
      go_roundw
      case rel => exact ⟨j + 1, q + 1, ao5, c5, by omega, by omega, by go_num, rfl, by show _ = _; rw [hq.out], by rw [hsuc.out]; exact hls5, below_ent hls hb (Below.refl _ _) hof5⟩
      case measure => simp [intOf]; omega
    · have hq' : (j : Int) < (la : Int) → ¬ (j : Int) < 5 := by omega
      obtain ⟨ao9, cap9, e9, hx9⟩ := hls.read RE.stable RE.plain
      simp only [Value.slice.injEq] at e9
      obtain ⟨rfl, e10, rfl⟩ := e9
      rw [← e10] at hx9
      clear e10
      have BW := BX.trans (hb.mono BX.size)
      have xp3 := xp2.later RE.stable hb
      have tX3 := tX.later hb
      have tb3 := hx.later BW
      generalize l.take j = M at hx9
      clear hls hlw hl2 hl k1
      go_wp2_with (first
        | (go_at_call 12; with_reducible refine (batch_any po lo pc p wr xp3).mono ?_; rintro e w4 ⟨rfl, b4⟩; have hx94 := hx9.later RE.stable b4; have tX4 := tX3.later b4; have tb4 := tb3.later b4; have B4 := BW.trans (b4.mono BW.size))
        | (go_at_call 12; with_reducible refine (batch_any ro q rc M w4 hx94).mono ?_; rintro e w5 ⟨rfl, b5⟩; have tX5 := tX4.later b5; have tb5 := tb4.later b5; have B5 := B4.trans (b5.mono B4.size))
        | (go_at_call 11; with_reducible refine (entries_any _ xl xc X w5 tX5 (by omega)).mono ?_; rintro e w6 ⟨rfl, b6⟩; have tb6 := tb5.later b6; have B6 := B5.trans (b6.mono B5.size))
        | (go_at_call 17; with_reducible refine (cut_at bo lb cb 100 100 bs w6 rfl tb6 (by omega)).mono ?_; rintro e w7 ⟨l7, rfl, hl7, t7, rfl⟩)
        | (go_at_call 11; with_reducible refine (entries_any bo l7 cb (bs.take 100) w6 t7 (by omega)).mono ?_; rintro e w8 ⟨rfl, b8⟩; have B8 := B6.trans (b8.mono B6.size))
        | (go_at_call 14; with_reducible refine (known_any w8).mono ?_; rintro e w9 ⟨rfl, b9⟩))
      all_goals go_ret
      all_goals exact ⟨rfl, B8.trans (b9.mono B8.size)⟩

end Go.Proofs.Ytondfbjldonogaa
